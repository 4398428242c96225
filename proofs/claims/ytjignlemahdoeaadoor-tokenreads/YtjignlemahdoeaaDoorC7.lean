/-
  Contract of the document's Same, at lists of tokens that are the same. Conditions: they lie in memory; at most 1,000,000 tokens, their texts as long as an input can be.
  The laws' live and code; tokens of a text are small. Conditions: strconv.ErrRange reads as an error.
  The walk of TokenReads. Conditions: a text as long as an input can be; strconv.ErrRange reads as an error.
  Tokens line by line: slices of slices of tokens in memory. Plain. Conditions: as in the premises.
  Contracts of the program's slices.Clone of tokens, addLine and Lines. Conditions: at most 1,000,000 tokens.
  Contract of the document's Lines. Conditions: at most 100,000 tokens.
  An argument that is a slice of tokens, with the bounds on what an input may take. No conditions.
  The walk of TokenLines. Conditions: tokens as an input can hold them; strconv.ErrRange reads as an error.
  The text of an expression is made of bytes. Plain, of no program. Conditions: as in the premises.
  The text of an expression of right shape has the tokens that it should have. Plain, of no program. Conditions: as in the premises.
-/
import Derived.Deep.RegionHeld3
import Derived.Deep.CutRange
import Derived.Lib.SmallJoins
import Derived.Deep.QuietTactic
import Derived.BigQuiet
import Derived.Test.YtjignlemahdoeaaDoorC6
namespace Go.Proofs.YtjignlemahdoeaaDoor
open Go.ChangeShapes Go.WideShapes Go.ChangeAt Go.RowKit
set_option linter.unusedVariables false
set_option maxRecDepth 20000
def SameT (l m : List Tk) : Prop := l.length = m.length ∧ ∀ (j : Nat) (t u : Tk), l[j]? = some t → m[j]? = some u → t.k = u.k ∧ str t.nm = str u.nm ∧ t.i = u.i ∧ ordV t.v u.v = 0 ∧ t.v.s.size ≤ reachBytes ∧ u.v.s.size ≤ reachBytes
/-- The six cells of the token at an index. -/
theorem tok_cells {W : World} {A : Option Addr} {c : Nat} {l : List Tk} (h : CellsG enT W A c l) (hl : 0 < l.length) :
    ∃ b o, A = some ⟨b, o, none⟩ ∧ b < W.heap.size ∧ ∀ j t, l[j]? = some t → ∀ W', Below W.heap.size W W' → W'.cell? ⟨b, o + j * 6, none⟩ = some (.int .u8 t.k) ∧ W'.cell? ⟨b, o + j * 6 + 1, none⟩ = some (.string (str t.nm)) ∧ W'.cell? ⟨b, o + j * 6 + 2, none⟩ = some (.int .u8 t.v.k) ∧ W'.cell? ⟨b, o + j * 6 + 3, none⟩ = some (.int .i64 t.v.n) ∧ W'.cell? ⟨b, o + j * 6 + 4, none⟩ = some (.string t.v.s) ∧ W'.cell? ⟨b, o + j * 6 + 5, none⟩ = some (.int .i64 t.i) := by
  obtain ⟨b, o, hA, hb, hc⟩ := h.at_ elT hl
  refine ⟨b, o, hA, hb, fun k e he W' hW => ?_⟩
  have q : ∀ j, j < 6 → W'.cell? ⟨b, o + (k * 6 + j), none⟩ = (enT e)[j]? := fun j hj => (hW.cell (p := ⟨b, o + (k * 6 + j), none⟩) hb).trans (hc k j e he hj)
  exact ⟨q 0 (by omega), by have := q 1 (by omega); rwa [← Nat.add_assoc] at this, by have := q 2 (by omega); rwa [← Nat.add_assoc] at this, by have := q 3 (by omega); rwa [← Nat.add_assoc] at this, by have := q 4 (by omega); rwa [← Nat.add_assoc] at this, by have := q 5 (by omega); rwa [← Nat.add_assoc] at this⟩
def RelSt (n : Nat) (w : World) (i : Value) (wr : World) : Prop := ∃ j : Nat, i = .int .i64 j ∧ j ≤ n ∧ Below w.heap.size w wr
set_option maxHeartbeats 4000000 in
theorem rsame_calls {w : World} {A A' : Option Addr} {c c' : Nat} {l m : List Tk} (h1 : CellsG enT w A c l) (h2 : CellsG enT w A' c' m) (hs : SameT l m) (hl : l.length ≤ 1000000) :
    Calls Tryd.prog 9 #[.slice A l.length c, .slice A' m.length c'] w fun e w' => e = .returned (.bool true) ∧ Below w.heap.size w w' := by
  obtain ⟨hlen, hall⟩ := hs
  rw [← hlen]
  obtain ⟨n, hn⟩ : ∃ n, n = l.length := ⟨_, rfl⟩
  rw [← hn] at hlen hl ⊢
  have HN := Lib.hid hn
  have HLEN := Lib.hid hlen
  have HALL := Lib.hid hall
  have H1 := Lib.hid h1
  have H2 := Lib.hid h2
  clear hn hlen hall h1 h2
  go_enter Tryd.func9, Tryd.ntmps9
  go_wp2
  go_loopw [5] (RelSt n w) (fun i _ => n + 1 - (intOf i).toNat)
  case atStart => exact ⟨0, rfl, by omega, Below.refl _ _⟩
  case round =>
    obtain ⟨j, rfl, hj, hb⟩ := hrel
    have HB := Lib.hid hb
    clear hb
    by_cases hlt : j < n
    · have hi : (j : Int) < (n : Int) := by omega
      obtain ⟨t, ht⟩ : ∃ t, l[j]? = some t := ⟨l[j]'(by rw [← HN.out]; exact hlt), by simp⟩
      obtain ⟨u, hu⟩ : ∃ u, m[j]? = some u := ⟨m[j]'(by rw [← HLEN.out]; exact hlt), by simp⟩
      obtain ⟨e1, e2, e3, e4, e5, e6⟩ := HALL.out j t u ht hu
      obtain ⟨b1, o1, rfl, _, hc1⟩ := tok_cells H1.out (by rw [← HN.out]; omega)
      obtain ⟨b2, o2, rfl, _, hc2⟩ := tok_cells H2.out (by rw [← HLEN.out]; omega)
      obtain ⟨x0, x1, x2, x3, x4, x5⟩ := hc1 j t ht wr.drew HB.out.drew
      obtain ⟨y0, y1, y2, y3, y4, y5⟩ := hc2 j u hu wr.drew HB.out.drew
      have HC1 := Lib.hid (hc1 j t ht)
      have HC2 := Lib.hid (hc2 j u hu)
      have HS := Lib.hid (same_calls t.v u.v wr.drew e5 e6)
      rw [e4] at HS
      clear e4 e5 e6 ht hu hc1 hc2
      obtain ⟨tk, tn, ⟨tvk, tvn, tvs⟩, ti⟩ := t
      obtain ⟨uk, un, ⟨uvk, uvn, uvs⟩, ui⟩ := u
      unfold Vl.v at HS
      dsimp only at *
      subst e1 e3
      rw [← e2] at y1 HC2
      generalize str tn = q at *
      clear e2
      go_upto_region 6 with fail
      go_cut [67] from 11 to 67 (fun s67 wx => s67 = .bool false ∧ Below wr.heap.size wr wx)
      case first =>
        go_region_held3 (fun W => W.cell? ⟨b1, o1 + j * 6, none⟩ = some (.int .u8 tk) ∧ W.cell? ⟨b1, o1 + j * 6 + 1, none⟩ = some (.string q) ∧ W.cell? ⟨b1, o1 + j * 6 + 2, none⟩ = some (.int .u8 tvk) ∧ W.cell? ⟨b1, o1 + j * 6 + 3, none⟩ = some (.int .i64 tvn) ∧ W.cell? ⟨b1, o1 + j * 6 + 4, none⟩ = some (.string tvs) ∧ W.cell? ⟨b1, o1 + j * 6 + 5, none⟩ = some (.int .i64 ti) ∧ W.cell? ⟨b2, o2 + j * 6, none⟩ = some (.int .u8 tk) ∧ W.cell? ⟨b2, o2 + j * 6 + 1, none⟩ = some (.string q) ∧ W.cell? ⟨b2, o2 + j * 6 + 2, none⟩ = some (.int .u8 uvk) ∧ W.cell? ⟨b2, o2 + j * 6 + 3, none⟩ = some (.int .i64 uvn) ∧ W.cell? ⟨b2, o2 + j * 6 + 4, none⟩ = some (.string uvs) ∧ W.cell? ⟨b2, o2 + j * 6 + 5, none⟩ = some (.int .i64 ti)) (first | with_reducible exact ⟨x0, x1, x2, x3, x4, x5, y0, y1, y2, y3, y4, y5⟩ | with_reducible exact KK.out) (first | (go_at_call 25; refine HS.out.mono ?_; rintro e' w5 ⟨rfl, hb5⟩; have hb5' : Below wr.heap.size wr w5 := ⟨hb5.os, hb5.tape, hb5.output, hb5.size, hb5.block⟩; have hb5w := HB.out.trans (hb5'.mono HB.out.size); have HB5 := Lib.hid hb5'; have k1 := HC1.out w5 hb5w; have k2 := HC2.out w5 hb5w; have KK := Lib.hid (show w5.cell? ⟨b1, o1 + j * 6, none⟩ = some (.int .u8 tk) ∧ w5.cell? ⟨b1, o1 + j * 6 + 1, none⟩ = some (.string q) ∧ w5.cell? ⟨b1, o1 + j * 6 + 2, none⟩ = some (.int .u8 tvk) ∧ w5.cell? ⟨b1, o1 + j * 6 + 3, none⟩ = some (.int .i64 tvn) ∧ w5.cell? ⟨b1, o1 + j * 6 + 4, none⟩ = some (.string tvs) ∧ w5.cell? ⟨b1, o1 + j * 6 + 5, none⟩ = some (.int .i64 ti) ∧ w5.cell? ⟨b2, o2 + j * 6, none⟩ = some (.int .u8 tk) ∧ w5.cell? ⟨b2, o2 + j * 6 + 1, none⟩ = some (.string q) ∧ w5.cell? ⟨b2, o2 + j * 6 + 2, none⟩ = some (.int .u8 uvk) ∧ w5.cell? ⟨b2, o2 + j * 6 + 3, none⟩ = some (.int .i64 uvn) ∧ w5.cell? ⟨b2, o2 + j * 6 + 4, none⟩ = some (.string uvs) ∧ w5.cell? ⟨b2, o2 + j * 6 + 5, none⟩ = some (.int .i64 ti) from ⟨k1.1, k1.2.1, k1.2.2.1, k1.2.2.2.1, k1.2.2.2.2.1, k1.2.2.2.2.2, k2.1, k2.2.1, k2.2.2.1, k2.2.2.2.1, k2.2.2.2.2.1, k2.2.2.2.2.2⟩); clear hb5 hb5' hb5w k1 k2))
        all_goals
          go_wp2_with fail
          go_meet
          exact ⟨rfl, HB5.out⟩
      case rest =>
        obtain ⟨rfl, hbc⟩ := hcut
        have HBC := Lib.hid hbc
        clear hbc
        go_wp2
        go_roundw
        case rel => exact ⟨j + 1, by go_num, by omega, HB.out.trans (HBC.out.mono HB.out.size)⟩
        case measure => simp [intOf]; omega
    · have hd : decide ((j : Int) < (n : Int)) = false := decide_eq_false (by omega)
      go_wp2
      go_ret
      exact ⟨rfl, HB.out⟩
end Go.Proofs.YtjignlemahdoeaaDoor
namespace Go.Proofs.YtjignlemahdoeaaDoor
open Go.ChangeShapes Go.WideShapes Go.ChangeAt Go.RowKit
set_option linter.unusedVariables false
set_option maxRecDepth 20000
theorem code_calls (e : Int) (w : World) : Calls Tryd.prog 10 #[.int .i64 e] w fun q w' => q = .returned (.int .i64 e) ∧ w' = w := by
  go_enter Tryd.func10, Tryd.ntmps10
  go_wp2
  go_ret
  exact ⟨rfl, rfl⟩
theorem ordV_self (a : Vl) : ordV a a = 0 := by have := ordV_neg a a; omega
/-- The tokens' texts are small. -/
def SmallT (l : List Tk) : Prop := ∀ t ∈ l, t.v.s.size ≤ 65536
theorem SameT.refl {l : List Tk} (h : SmallT l) : SameT l l := ⟨rfl, fun j t u ht hu => by
  rw [ht] at hu
  injection hu with hu
  subst hu
  have := h t (List.mem_of_getElem? ht)
  exact ⟨rfl, rfl, rfl, ordV_self _, by unfold reachBytes; omega, by unfold reachBytes; omega⟩⟩
theorem textG_small : ∀ (f : Nat) (l : List Int) (k : Nat) (T q : List Int) (x e : Int), textG f l k T = (q, x, e) → q.length ≤ 65536
  | 0, l, k, T, q, x, e, h => by unfold textG at h; simp only [Prod.mk.injEq] at h; rw [← h.1]; simp
  | f + 1, l, k, T, q, x, e, h => by
    rcases Nat.lt_or_ge k l.length with hk | hk
    · have hc : l[k]? = some l[k] := List.getElem?_eq_getElem hk
      generalize l[k] = c at hc
      by_cases c34 : c = 34
      · rw [tg1 (by rw [hc, c34])] at h
        by_cases hT : 65536 < T.length
        · rw [if_pos hT] at h; simp only [Prod.mk.injEq] at h; rw [← h.1]; simp
        · rw [if_neg hT] at h
          simp only [Prod.mk.injEq] at h
          rw [← h.1]; omega
      · by_cases c32 : c < 32
        · rw [tg2 hc c32] at h; simp only [Prod.mk.injEq] at h; rw [← h.1]; simp
        · by_cases c92 : c = 92
          · rw [c92] at hc
            by_cases hd : l[k + 1]? = some 34 ∨ l[k + 1]? = some 92
            · have ⟨d, hd1, hd2⟩ : ∃ d, l[k + 1]? = some d ∧ (d = 34 ∨ d = 92) := by rcases hd with h1 | h1 <;> exact ⟨_, h1, by omega⟩
              rw [tg4 hc hd1 hd2] at h
              exact textG_small f l _ _ q x e h
            · by_cases hx : l[k + 1]? ≠ some 120 ∨ half l (k + 2) < 0 ∨ half l (k + 3) < 0
              · rw [tg5 hc (fun e => hd (.inl e)) (fun e => hd (.inr e)) hx] at h; simp only [Prod.mk.injEq] at h; rw [← h.1]; simp
              · have h1 : l[k + 1]? = some 120 := by
                  rcases Classical.em (l[k + 1]? = some 120) with e | e
                  · exact e
                  · exact absurd (.inl e) hx
                rw [tg6 hc h1 (fun e => hx (.inr (.inl e))) (fun e => hx (.inr (.inr e)))] at h
                exact textG_small f l _ _ q x e h
          · rw [tg3 hc c32 c34 c92] at h
            exact textG_small f l _ _ q x e h
    · rw [tg_end (List.getElem?_eq_none hk)] at h; simp only [Prod.mk.injEq] at h; rw [← h.1]; simp
theorem empty_size : (⟨#[]⟩ : ByteArray).size = 0 := rfl
theorem tokStep_small {l : List Int} {i n : Nat} {t : Tk} (h : tokStep l i = .tok t n) : t.v.s.size ≤ 65536 := by
  have hT := textG_small (l.length + 1) l (i + 1) [] _ _ _ rfl
  unfold tokStep at h
  simp only at h
  split at h
  · cases h
  · split at h
    · cases h
    · split at h
      · injection h with h; rw [← h]; exact Nat.zero_le _
      · split at h
        · injection h with h; rw [← h]; exact Nat.zero_le _
        · split at h
          · injection h with h; rw [← h]; exact Nat.zero_le _
          · split at h
            · injection h with h; rw [← h]; exact Nat.zero_le _
            · split at h
              · split at h
                · injection h with h; rw [← h]; exact Nat.zero_le _
                · cases h
              · split at h
                · split at h
                  · injection h with h; rw [← h]; show (str _).size ≤ _; rw [str_size]; exact hT
                  · cases h
                · cases h
theorem tokRun_small : ∀ (f : Nat) (l : List Int) (i : Nat) (acc : List Tk), SmallT acc → SmallT (tokRun f l i acc).1
  | 0, l, i, acc, h => by unfold tokRun; exact h
  | f + 1, l, i, acc, h => by
    by_cases hi : i < l.length
    · cases hs : tokStep l i with
      | skip n => rw [kr_skip hi hs]; exact tokRun_small f l n acc h
      | err e => rw [kr_err hi hs]; exact fun t ht => by simp at ht
      | tok t n =>
        by_cases ha : acc.length < 65536
        · rw [kr_tok hi hs ha]
          exact tokRun_small f l n _ fun u hu => by
            rcases List.mem_append.1 hu with hu | hu
            · exact h u hu
            · simp at hu; subst hu; exact tokStep_small hs
        · rw [kr_many hi hs (by omega)]; exact fun t ht => by simp at ht
    · rw [kr_end hi]; exact h
theorem tokensP_small (l : List Int) : SmallT (tokensP l).1 := tokRun_small _ l 0 [] (fun t ht => by simp at ht)
theorem tokRun_len : ∀ (f : Nat) (l : List Int) (i : Nat) (acc : List Tk), acc.length ≤ 65536 → (tokRun f l i acc).1.length ≤ 65536
  | 0, l, i, acc, h => by unfold tokRun; exact h
  | f + 1, l, i, acc, h => by
    by_cases hi : i < l.length
    · cases hs : tokStep l i with
      | skip n => rw [kr_skip hi hs]; exact tokRun_len f l n acc h
      | err e => rw [kr_err hi hs]; simp
      | tok t n =>
        by_cases ha : acc.length < 65536
        · rw [kr_tok hi hs ha]
          exact tokRun_len f l n _ (by simp; omega)
        · rw [kr_many hi hs (by omega)]; simp
    · rw [kr_end hi]; exact h
theorem tokensP_len (l : List Int) : (tokensP l).1.length ≤ 65536 := tokRun_len _ l 0 [] (by simp)
theorem live_toks : (tokensP (sl ⟨#[40, 97, 100, 100, 32, 53, 41]⟩)).1.length = 4 ∧ (tokensP (sl ⟨#[40, 97, 100, 100, 32, 53, 41]⟩)).2 = (7, 0) := by
  decide +kernel
theorem live_calls (w : World) (hv : ErrV w) : Calls Tryd.prog 6 #[] w fun q w' => q = .returned (.bool true) ∧ Below w.heap.size w w' := by
  have HT := Lib.hid (tokens_calls ⟨#[40, 97, 100, 100, 32, 53, 41]⟩ (by decide) w hv)
  obtain ⟨e1, e2⟩ := live_toks
  generalize tokensP (sl ⟨#[40, 97, 100, 100, 32, 53, 41]⟩) = X at *
  obtain ⟨l, x, e⟩ := X
  simp only [Prod.mk.injEq] at e2
  obtain ⟨rfl, rfl⟩ := e2
  dsimp only at HT e1
  rw [e1] at HT
  have HCD := Lib.hid (code_calls 0)
  clear hv
  go_enter Tryd.func6, Tryd.ntmps6
  go_wp2_with fail
  refine HT.out.mono ?_
  rintro q w1 ⟨A, c, rfl, _, hb⟩
  have HB := Lib.hid hb
  clear hb
  dsimp only
  go_wp2_with (go_at_call 10; refine (HCD.out _).mono ?_; rintro e' w2 ⟨rfl, h9⟩; obtain rfl := h9.symm)
  go_ret
  exact ⟨rfl, HB.out⟩
end Go.Proofs.YtjignlemahdoeaaDoor
namespace Go.Proofs.YtjignlemahdoeaaDoor
open Go.ChangeShapes Go.WideShapes Go.ChangeAt Go.RowKit
set_option linter.unusedVariables false
set_option maxRecDepth 20000
set_option maxHeartbeats 2000000 in
theorem reads_walk (s : ByteArray) (w : World) (hs : s.size ≤ reachBytes) (hv : ErrV w) : Calls Tryd.prog 3 #[.string s] w fun q w' => q = .returned (.bool true) ∧ Below w.heap.size w w' := by
  have HL := Lib.hid (fun W (hW : Below w.heap.size w W) => live_calls W (hv.below hW))
  by_cases h3 : 3000 < s.size
  · have d3 : decide ((3000 : Int) < (s.size : Int)) = true := by simp; omega
    clear hs hv
    go_enter Tryd.func3, Tryd.ntmps3
    go_wp2_with fail
    refine (HL.out _ (Below.refl _ _)).mono ?_
    rintro q w1 ⟨rfl, hb⟩
    have HB := Lib.hid hb
    clear hb
    go_wp2
    go_ret
    exact ⟨rfl, HB.out⟩
  · have d3 : decide ((3000 : Int) < (s.size : Int)) = false := by simp; omega
    have HT := Lib.hid (tokens_calls s (by omega) w hv)
    have HR := Lib.hid (fun W => rtokens_calls s (by omega) W)
    have hsm := tokensP_small (sl s)
    have hln := tokensP_len (sl s)
    generalize tokensP (sl s) = X at *
    obtain ⟨l, x, e⟩ := X
    dsimp only at HT HR hsm hln
    have HCD := Lib.hid (code_calls e)
    obtain ⟨n, hn⟩ : ∃ n, n = l.length := ⟨_, rfl⟩
    have HSM := Lib.hid (fun W A c A' c' (h1 : CellsG enT W A c l) (h2 : CellsG enT W A' c' l) => rsame_calls h1 h2 (SameT.refl hsm) (by omega))
    rw [← hn] at HT HR HSM
    clear hsm hln hn hs hv
    go_enter Tryd.func3, Tryd.ntmps3
    go_wp2_with fail
    refine HT.out.mono ?_
    rintro q w1 ⟨A, c, rfl, ho1, hb1⟩
    have HO1 := Lib.hid ho1
    have HB1 := Lib.hid hb1
    clear ho1 hb1
    dsimp only
    go_wp2_with fail
    refine (HR.out _).mono ?_
    rintro q w2 ⟨A', c', rfl, ho2, hb2⟩
    have HO2 := Lib.hid ho2
    have HC1 := Lib.hid (HO1.out.below hb2).cells
    have HB2 := Lib.hid (HB1.out.trans (hb2.mono HB1.out.size))
    clear ho2 hb2
    dsimp only
    go_wp2_with fail
    refine (HSM.out _ A c A' c' HC1.out HO2.out.cells).mono ?_
    rintro q w3 ⟨rfl, hb3⟩
    have HB3 := Lib.hid (HB2.out.trans (hb3.mono HB2.out.size))
    clear hb3
    dsimp only
    go_wp2_with (go_at_call 10; refine (HCD.out _).mono ?_; rintro e' w4 ⟨rfl, h9⟩; obtain rfl := h9.symm)
    refine (HL.out _ HB3.out).mono ?_
    rintro q w4 ⟨rfl, hb4⟩
    have HB4 := Lib.hid (HB3.out.trans (hb4.mono HB3.out.size))
    clear hb4
    go_wp2
    go_ret
    exact ⟨rfl, HB4.out⟩
end Go.Proofs.YtjignlemahdoeaaDoor
namespace Go.Proofs.YtjignlemahdoeaaDoor
open Go.ChangeShapes Go.WideShapes Go.ChangeAt Go.RowKit
set_option linter.unusedVariables false
set_option maxRecDepth 20000
/-- A line in memory: its address, its capacity, its tokens. -/
abbrev Ln := Option Addr × Nat × List Tk
def enLn (r : Ln) : List Value := [.slice r.1 r.2.2.length r.2.1]
theorem elLn : El 23 1 24 (.slice none 0 0) enLn where
  info := by kernel_rfl
  zero := rfl
  pos := by decide
  len := fun _ => rfl
  one := fun x u hu => by simp only [enLn, List.mem_cons, List.not_mem_nil, or_false] at hu; subst hu; rfl
/-- Each line reads as its tokens. -/
def EachT (w : World) (rs : List Ln) : Prop := ∀ r ∈ rs, CellsG enT w r.1 r.2.1 r.2.2
theorem EachT.nil (w : World) : EachT w [] := fun r hr => by simp at hr
theorem EachT.below {w w' : World} {rs : List Ln} (h : EachT w rs) (hb : Below w.heap.size w w') : EachT w' rs := fun r hr => (h r hr).below hb
theorem EachT.snoc {w : World} {rs : List Ln} {r : Ln} (h : EachT w rs) (h1 : CellsG enT w r.1 r.2.1 r.2.2) : EachT w (rs ++ [r]) := fun x hx => by
  rcases List.mem_append.1 hx with hx | hx
  · exact h x hx
  · simp at hx; subst hx; exact h1
section
variable {α : Type} {e : TypeId} {sz bt : Nat} {z : Value} {en : α → List Value}
theorem cellsG_cut (E : El e sz bt z en) (xs : List α) (f m j : Nat) (u : Value) (hf : f ≤ xs.length) (h : (cellsG en ((xs.drop f).take m))[j]? = some u) : (cellsG en xs)[f * sz + j]? = some u := by
  have h1 : cellsG en xs = cellsG en (xs.take f) ++ (cellsG en ((xs.drop f).take m) ++ cellsG en ((xs.drop f).drop m)) := by
    rw [← cellsG_append, List.take_append_drop, ← cellsG_append, List.take_append_drop]
  have h2 : (cellsG en (xs.take f)).length = f * sz := by rw [cellsG_length E, List.length_take, Nat.min_eq_left hf]
  rw [h1, List.getElem?_append_right (by omega), h2, show f * sz + j - f * sz = j by omega, List.getElem?_append_left (List.getElem?_eq_some_iff.1 h).1, h]
theorem add_add (a : Addr) (m j : Nat) : (a.add m).add j = a.add (m + j) := by
  obtain ⟨b, o, s⟩ := a
  unfold Addr.add
  by_cases hm : m = 0
  · subst hm; simp
  · by_cases hj : j = 0
    · subst hj; simp
    · simp [hm, hj, Nat.add_assoc]
theorem CellsG.cut (E : El e sz bt z en) {w : World} {A : Option Addr} {c : Nat} {xs : List α} (h : CellsG en w A c xs) (f m : Nat) (hf : f ≤ xs.length) (A' : Option Addr) (C' : Nat) (hA : A' = if c = f then A else A.map (·.add (f * sz))) (hx : c = f → (xs.drop f).take m = []) (hC : A = none → C' = 0) : CellsG en w A' C' ((xs.drop f).take m) := by
  rcases h with ⟨rfl, rfl, rfl⟩ | ⟨a, rfl, h⟩
  · exact .inl ⟨by rw [hA]; simp, hC rfl, by simp⟩
  · by_cases hc : c = f
    · rw [if_pos hc] at hA
      refine .inr ⟨a, hA, fun j u hu => ?_⟩
      rw [hx hc] at hu; simp [cellsG] at hu
    · rw [if_neg hc] at hA
      refine .inr ⟨_, hA, fun j u hu => ?_⟩
      rw [add_add]
      exact h _ _ (cellsG_cut E xs f m j u hf hu)
end
theorem el23 : Tryd.prog.elem 23 = 35 := by simp [Program.elem, Tryd.underlying23]
theorem un23 : Tryd.prog.underlying 23 = some (.slice (Tryd.prog.elem 23)) := by rw [el23]; exact Tryd.underlying23
theorem size35 (w : World) : (Go.sizeOf 35).run Tryd.prog w = .ok 6 w := by kernel_rfl
/-- l[f:j]. -/
theorem cut_toks {w : World} {A : Option Addr} {c : Nat} {l : List Tk} (h : CellsG enT w A c l) (hc : l.length ≤ c) (f j : Nat) (h1 : f ≤ j) (h2 : j ≤ l.length) :
    ∃ A' C', (∀ W, (Instr.slice 23 (.slice A l.length c) (some (.int .i64 (f : Int))) (some (.int .i64 (j : Int))) none).run Tryd.prog W = .ok (.slice A' (j - f) C') W) ∧ CellsG enT w A' C' ((l.drop f).take (j - f)) ∧ j - f ≤ C' := by
  refine ⟨if c = f then A else A.map (·.add (f * 6)), c - f, fun W => ?_, ?_, by omega⟩
  · rw [run_slice_lh W 23 _ _ _ un23 .i64 .i64 _ _ (by omega) (by omega) (by omega), el23, size35]
    simp only [Result.andThen, Go.sliced, Int.toNat_natCast]
  · exact h.cut elT f (j - f) (by omega) _ _ rfl (fun e => by rw [show j - f = 0 by omega, List.take_zero]) (fun e => by
      rcases h with ⟨_, rfl, _⟩ | ⟨a, ha, _⟩
      · omega
      · rw [e] at ha; cases ha)
/-- l[f:]. -/
theorem cut_toks_l {w : World} {A : Option Addr} {c : Nat} {l : List Tk} (h : CellsG enT w A c l) (hc : l.length ≤ c) (f : Nat) (h2 : f ≤ l.length) :
    ∃ A' C', (∀ W, (Instr.slice 23 (.slice A l.length c) (some (.int .i64 (f : Int))) none none).run Tryd.prog W = .ok (.slice A' (l.length - f) C') W) ∧ CellsG enT w A' C' (l.drop f) ∧ l.length - f ≤ C' := by
  refine ⟨if c = f then A else A.map (·.add (f * 6)), c - f, fun W => ?_, ?_, by omega⟩
  · rw [run_slice_l W 23 _ _ _ un23 .i64 _ (by omega) (by omega), el23, size35]
    simp only [Result.andThen, Go.sliced, Int.toNat_natCast]
  · have := h.cut elT f (l.length - f) (by omega) (if c = f then A else A.map (·.add (f * 6))) (c - f) rfl (fun e => by rw [show l.length - f = 0 by omega, List.take_zero]) (fun e => by
      rcases h with ⟨_, rfl, _⟩ | ⟨a, ha, _⟩
      · omega
      · rw [e] at ha; cases ha)
    rwa [List.take_of_length_le (by simp)] at this
/-- A line is added, unless it is empty. -/
def addL (ls : List (List Tk)) (x : List Tk) : List (List Tk) := if x = [] then ls else ls ++ [x]
/-- The lines, and where the next one begins, behind the first tokens. -/
def runL (l : List Tk) : Nat → List (List Tk) × Nat
  | 0 => ([], 0)
  | i + 1 => match l[i]? with
    | none => runL l i
    | some t => if t.k = 5 then (addL (runL l i).1 ((l.drop (runL l i).2).take (i - (runL l i).2)), i + 1) else runL l i
theorem runL_le (l : List Tk) : ∀ i, (runL l i).2 ≤ i
  | 0 => Nat.le_refl _
  | i + 1 => by
    have := runL_le l i
    unfold runL
    split
    · omega
    · split
      · exact Nat.le_refl _
      · omega
theorem runL_end {l : List Tk} {i : Nat} {t : Tk} (h : l[i]? = some t) (h5 : t.k = 5) : runL l (i + 1) = (addL (runL l i).1 ((l.drop (runL l i).2).take (i - (runL l i).2)), i + 1) := by
  rw [runL, h]; show (if t.k = 5 then _ else _) = _; rw [if_pos h5]
theorem runL_on {l : List Tk} {i : Nat} {t : Tk} (h : l[i]? = some t) (h5 : t.k ≠ 5) : runL l (i + 1) = runL l i := by
  rw [runL, h]; show (if t.k = 5 then _ else _) = _; rw [if_neg h5]
/-- The lines of tokens, by the document. -/
def linesP (l : List Tk) : List (List Tk) := addL (runL l l.length).1 (l.drop (runL l l.length).2)
theorem addL_len (ls : List (List Tk)) (x : List Tk) : (addL ls x).length ≤ ls.length + 1 := by unfold addL; split <;> simp
theorem runL_len (l : List Tk) : ∀ i, (runL l i).1.length ≤ i
  | 0 => Nat.le_refl _
  | i + 1 => by
    have := runL_len l i
    unfold runL
    split
    · omega
    · split
      · have := addL_len (runL l i).1 ((l.drop (runL l i).2).take (i - (runL l i).2))
        show (addL _ _).length ≤ _
        omega
      · omega
/-- The tokens of each line. -/
def listsT (rs : List Ln) : List (List Tk) := rs.map (·.2.2)
theorem listsT_snoc (rs : List Ln) (r : Ln) : listsT (rs ++ [r]) = listsT rs ++ [r.2.2] := by simp [listsT]
theorem listsT_len (rs : List Ln) : (listsT rs).length = rs.length := by simp [listsT]
/-- Each line is the call's own. -/
def EachO (B : Nat) (w : World) (rs : List Ln) : Prop := ∀ r ∈ rs, OwnG 35 6 enT B w r.1 r.2.1 r.2.2
theorem EachO.nil (B : Nat) (w : World) : EachO B w [] := fun r hr => by simp at hr
theorem EachO.below {B : Nat} {w w' : World} {rs : List Ln} (h : EachO B w rs) (hb : Below w.heap.size w w') : EachO B w' rs := fun r hr => (h r hr).below hb
theorem EachO.kept {B : Nat} {w w' : World} {rs : List Ln} (h : EachO B w rs) (hk : Lib.OthersKept 23 none w w') : EachO B w' rs := fun r hr => (h r hr).kept hk (by decide)
theorem EachO.snoc {B : Nat} {w : World} {rs : List Ln} {r : Ln} (h : EachO B w rs) (h1 : OwnG 35 6 enT B w r.1 r.2.1 r.2.2) : EachO B w (rs ++ [r]) := fun x hx => by
  rcases List.mem_append.1 hx with hx | hx
  · exact h x hx
  · simp at hx; subst hx; exact h1
theorem EachO.each {B : Nat} {w : World} {rs : List Ln} (h : EachO B w rs) : EachT w rs := fun r hr => (h r hr).cells
end Go.Proofs.YtjignlemahdoeaaDoor
namespace Go.Proofs.YtjignlemahdoeaaDoor
open Go.ChangeShapes Go.WideShapes Go.ChangeAt Go.RowKit
set_option linter.unusedVariables false
set_option maxRecDepth 20000
set_option maxHeartbeats 2000000 in
theorem tclone_calls (A : Option Addr) (c : Nat) (l : List Tk) (w : World) (h : CellsG enT w A c l) (hl : l.length ≤ 1000000) :
    Calls Tryd.prog 41 #[.slice A l.length c] w fun e w' => ∃ A' c', e = .returned (.slice A' l.length c') ∧ OwnG 35 6 enT w.heap.size w' A' c' l ∧ Below w.heap.size w w' := by
  have hnil : ∀ (w : World) (a : Option Addr) (n c n' c' : Nat), (binOp .eql 23 (.slice a n c) (.slice none n' c')).run Tryd.prog w = .ok (.bool a.isNone) w := fun w a n c n' c' => Lib.run_eql_slice_nil w 23 35 a n c n' c' Tryd.underlying23
  rcases h with ⟨rfl, rfl, rfl⟩ | ⟨a, rfl, h⟩
  · simp only [List.length_nil]
    go_enter Tryd.func41, Tryd.ntmps41
    go_wp2
    go_ret
    exact ⟨none, 0, rfl, OwnG.nil _ _, Below.refl _ _⟩
  · have H := Lib.hid (show CellsG enT w (some a) c l from .inr ⟨a, rfl, h⟩)
    have hb1 : Below w.heap.size w (w.alloc (.cells #[] 35)) := (Below.refl _ _).alloc (Nat.le_refl _) _
    have hown1 : OwnG 35 6 enT w.heap.size (w.alloc (.cells #[] 35)) (some ⟨w.heap.size, 0, none⟩) 0 [] := World.ownsRow_lit (size := 6) w #[] 0 (Nat.le_refl _) (by unfold maxLen; omega) rfl
    clear h
    go_enter Tryd.func41, Tryd.ntmps41
    go_wp2_with (at_builtin; go_must (refine wpList_append_vals elT rfl _ _ 23 Tryd.underlying23 rfl w.heap.size (some ⟨w.heap.size, 0, none⟩) 0 [] rfl hown1 (some a) c l rfl (H.out.below hb1) (by simp; omega) (by decide) hb1.size ?_); intro A2 c2 w2 L2 hL2 hown2 hgrow2)
    go_ret
    have hb2 := OwnG.grow hown1 hb1 hgrow2 hb1.size
    obtain rfl : L2 = l := by rw [hL2.out]; rfl
    exact ⟨A2, c2, rfl, hown2, hb2⟩
/-- The lines so far, all of the call's own. -/
def LinesAt (B : Nat) (w : World) (A : Option Addr) (c : Nat) (rs : List Ln) : Prop := OwnG 23 1 enLn B w A c rs ∧ EachO B w rs
theorem LinesAt.below {B : Nat} {w w' : World} {A : Option Addr} {c : Nat} {rs : List Ln} (h : LinesAt B w A c rs) (hb : Below w.heap.size w w') : LinesAt B w' A c rs := ⟨h.1.below hb, h.2.below hb⟩
set_option maxHeartbeats 2000000 in
theorem addline_calls (B : Nat) (A : Option Addr) (c : Nat) (rs : List Ln) (A1 : Option Addr) (c1 : Nat) (x : List Tk) (w : World) (hB : B ≤ w.heap.size) (h : LinesAt B w A c rs) (hx : CellsG enT w A1 c1 x) (hl : x.length ≤ 1000000) (hr : rs.length ≤ 1000000) :
    Calls Tryd.prog 26 #[.slice A rs.length c, .slice A1 x.length c1] w fun e w' => ∃ A' c' R, e = .returned (.slice A' R.length c') ∧ listsT R = addL (listsT rs) x ∧ LinesAt B w' A' c' R ∧ Below B w w' := by
  by_cases h0 : x = []
  · have HR := Lib.hid (show listsT rs = addL (listsT rs) x by unfold addL; rw [if_pos h0])
    have HL := Lib.hid h
    have d0 : ((x.length : Int) == 0) = true := by rw [h0]; rfl
    obtain ⟨n, hn⟩ : ∃ n, n = x.length := ⟨_, rfl⟩
    rw [← hn] at d0 ⊢
    clear h hx hl hn h0
    go_enter Tryd.func26, Tryd.ntmps26
    go_wp2
    go_ret
    exact ⟨A, c, rs, rfl, HR.out, HL.out, Below.refl _ _⟩
  · have HR := Lib.hid (show addL (listsT rs) x = listsT rs ++ [x] by unfold addL; rw [if_neg h0])
    have hxl : x.length ≠ 0 := fun e => h0 (List.eq_nil_of_length_eq_zero e)
    have d0 : ((x.length : Int) == 0) = false := by simp; omega
    have HC := Lib.hid (tclone_calls A1 c1 x w hx hl)
    obtain ⟨n, hn⟩ : ∃ n, n = x.length := ⟨_, rfl⟩
    have HN := Lib.hid hn
    have HL := Lib.hid h
    rw [← hn] at d0 HC ⊢
    clear h hx hl hn h0 hxl
    go_enter Tryd.func26, Tryd.ntmps26
    go_wp2_with fail
    refine HC.out.mono ?_
    rintro e' w1 ⟨A2, c2, rfl, ho, hb⟩
    have hOx : OwnG 35 6 enT w.heap.size w1 A2 c2 x := ho
    have HO := Lib.hid hOx
    have HB := Lib.hid hb
    have HL1 := Lib.hid (HL.out.below hb)
    have HO4 := Lib.hid (HL1.out.1.alloc (.cells #[.slice A2 n c2] 23))
    have HB4 := Lib.hid ((hb.mono hB).trans ((below_one w1 (.cells #[.slice A2 n c2] 23)).mono (Nat.le_trans hB hb.size)))
    have HC4 := Lib.hid (cells_one_val elLn w1 (A2, c2, x) #[.slice A2 n c2] (by rw [HN.out]; rfl))
    have hsz := hb.size
    clear ho hb hOx
    go_wp2_with (at_builtin; refine wpList_append_vals elLn rfl _ _ 36 Tryd.underlying36 rfl B A c rs rfl HO4.out (some ⟨w1.heap.size, 0, none⟩) 1 [(A2, c2, x)] rfl HC4.out (by simp; omega) (by decide) (by simp; omega) ?_; intro A5 c5 w5 R hR' ho5 hg5)
    have hb5 := HO4.out.grow HB4.out hg5 (by simp; omega)
    have hk5 : Lib.OthersKept 23 none (w1.alloc (.cells #[.slice A2 n c2] 23)) w5 := kept_grown hg5 fun g hg => by obtain ⟨_, q⟩ := HO4.out.row g hg; exact q
    have he := (HL1.out.2.snoc (r := (A2, c2, x)) (HO.out.mono hB)).below (below_one w1 (.cells #[.slice A2 n c2] 23))
    have hek := he.kept hk5
    obtain rfl := hR'.out
    go_ret
    exact ⟨A5, c5, _, rfl, by rw [HR.out, listsT_snoc], ⟨ho5, hek⟩, hb5⟩
/-- The loop of Lines. -/
def RelLn (l : List Tk) (w : World) (ls from' idx : Value) (wr : World) : Prop :=
  ∃ (k f : Nat) (A : Option Addr) (c : Nat) (rs : List Ln), ls = .slice A rs.length c ∧ from' = .int .i64 f ∧ idx = .int .i64 k ∧ k ≤ l.length ∧ Hid (runL l k = (listsT rs, f)) ∧ LinesAt w.heap.size wr A c rs ∧ Below w.heap.size w wr
set_option maxHeartbeats 4000000 in
theorem lines_calls (A : Option Addr) (c : Nat) (l : List Tk) (w : World) (h : CellsG enT w A c l) (hc : l.length ≤ c) (hl : l.length ≤ 100000) :
    Calls Tryd.prog 11 #[.slice A l.length c] w fun e w' => ∃ A' c' rs, e = .returned (.slice A' rs.length c') ∧ listsT rs = linesP l ∧ LinesAt w.heap.size w' A' c' rs ∧ Below w.heap.size w w' := by
  have HCUT := Lib.hid (fun W (hb : Below w.heap.size w W) f j h1 h2 => cut_toks (h.below hb) hc f j h1 h2)
  have HCUTL := Lib.hid (fun W (hb : Below w.heap.size w W) f h2 => cut_toks_l (h.below hb) hc f h2)
  have H := Lib.hid h
  obtain ⟨n, hn⟩ : ∃ n, n = l.length := ⟨_, rfl⟩
  have HN := Lib.hid hn
  rw [← hn] at hl ⊢
  rw [← hn] at HCUT HCUTL
  clear h hc hn
  go_enter Tryd.func11, Tryd.ntmps11
  go_wp2
  go_loopw [3, 4, 9] (RelLn l w) (fun _ _ i _ => n + 1 - (intOf i).toNat)
  case atStart => exact ⟨0, 0, none, 0, [], rfl, rfl, rfl, by omega, Lib.hid rfl, ⟨OwnG.nil _ _, EachO.nil _ _⟩, Below.refl _ _⟩
  case round =>
    obtain ⟨k, f, A1, c1, rs, rfl, rfl, rfl, hk, hrun, hls, hb⟩ := hrel
    rw [← HN.out] at hk
    have HB := Lib.hid hb
    have HLS := Lib.hid hls
    have HRUN := Lib.hid hrun.out
    have hfk : f ≤ k := by have := runL_le l k; rw [hrun.out] at this; exact this
    have hrl : rs.length ≤ 100000 := by
      have h9 := runL_len l k
      rw [hrun.out, listsT_len] at h9; omega
    clear hb hls hrun
    by_cases hlt : k < n
    · have hi : (k : Int) < (n : Int) := by omega
      obtain ⟨t, ht⟩ : ∃ t, l[k]? = some t := ⟨l[k]'(by rw [← HN.out]; exact hlt), by simp⟩
      obtain ⟨b1, o1, rfl, _, hc1⟩ := tok_cells H.out (by rw [← HN.out]; omega)
      obtain ⟨x0, x1, x2, x3, x4, x5⟩ := hc1 k t ht wr HB.out
      have HEND := Lib.hid (fun h5 => runL_end (i := k) ht h5)
      have HON := Lib.hid (fun h5 => runL_on (i := k) ht h5)
      rw [HRUN.out] at HEND HON
      obtain ⟨tk, nm, ⟨vk, vn, vs⟩, ti⟩ := t
      dsimp only at x0 x1 x2 x3 x4 x5 HEND HON
      generalize str nm = q at *
      have HW1 := Lib.hid (HB.out.trans ((below_one wr (.cells #[.int .u8 tk, .string q, .int .u8 vk, .int .i64 vn, .string vs, .int .i64 ti] 35)).mono HB.out.size))
      have HL1 := Lib.hid (HLS.out.below (below_one wr (.cells #[.int .u8 tk, .string q, .int .u8 vk, .int .i64 vn, .string vs, .int .i64 ti] 35)))
      clear hc1 ht
      by_cases h5 : tk = 5
      · have d5 : (tk == 5) = true := by simpa using h5
        obtain ⟨A2, c2, hcut, hcc, _⟩ := HCUT.out _ HW1.out f k hfk hk
        have hxl : ((l.drop f).take (k - f)).length = k - f := by rw [List.length_take, List.length_drop]; have := HN.out; omega
        have HAL := Lib.hid (addline_calls w.heap.size A1 c1 rs A2 c2 _ _ HW1.out.size HL1.out hcc (by omega) (by omega))
        rw [hxl] at HAL
        have HE := Lib.hid (HEND.out h5)
        have HCU := Lib.hid hcut
        generalize k - f = d at *
        clear hcc hcut hxl h5
        have K := HCU.out
        go_wp2_with fail
        refine HAL.out.mono ?_
        rintro e' w5 ⟨A3, c3, R, rfl, hR, hL3, hb3⟩
        have HL3 := Lib.hid hL3
        have HB3 := Lib.hid (HW1.out.trans hb3)
        have HR := Lib.hid hR
        clear hL3 hb3 hR K
        go_wp2
        go_roundw
        case rel => exact ⟨k + 1, k + 1, A3, c3, R, rfl, by go_num, by go_num, by rw [← HN.out]; omega, Lib.hid (by rw [HE.out, HR.out]), HL3.out, HB3.out⟩
        case measure => simp [intOf]; omega
      · have d5 : (tk == 5) = false := by simpa using h5
        have HE := Lib.hid (HON.out h5)
        go_wp2
        go_roundw
        case rel => exact ⟨k + 1, f, A1, c1, rs, rfl, rfl, by go_num, by rw [← HN.out]; omega, Lib.hid HE.out, HL1.out, HW1.out⟩
        case measure => simp [intOf]; omega
    · have hd : decide ((k : Int) < (n : Int)) = false := decide_eq_false (by omega)
      obtain rfl : k = n := by omega
      obtain ⟨A2, c2, hcut, hcc, _⟩ := HCUTL.out wr HB.out f hfk
      have hxl : (l.drop f).length = k - f := by rw [List.length_drop, ← HN.out]
      have HAL := Lib.hid (addline_calls w.heap.size A1 c1 rs A2 c2 _ wr HB.out.size HLS.out hcc (by omega) (by omega))
      rw [hxl] at HAL
      have HRES := Lib.hid (show linesP l = addL (listsT rs) (l.drop f) by unfold linesP; rw [← HN.out, HRUN.out])
      have HCU := Lib.hid hcut
      generalize k - f = d at *
      clear hcc hcut hxl
      have K := HCU.out
      go_wp2_with fail
      refine HAL.out.mono ?_
      rintro e' w5 ⟨A3, c3, R, rfl, hR, hL3, hb3⟩
      have HL3 := Lib.hid hL3
      have HB3 := Lib.hid (HB.out.trans hb3)
      have HR := Lib.hid hR
      clear hL3 hb3 hR K
      go_wp2
      go_ret
      exact ⟨A3, c3, R, rfl, by rw [HR.out, HRES.out], HL3.out, HB3.out⟩
end Go.Proofs.YtjignlemahdoeaaDoor
namespace Go.Proofs.YtjignlemahdoeaaDoor
open Go.ChangeShapes Go.WideShapes Go.ChangeAt Go.RowKit
set_option linter.unusedVariables false
set_option maxRecDepth 20000
/-- The loop of the document's Lines. -/
def RelRl (l : List Tk) (w : World) (ls from' idx : Value) (wr : World) : Prop :=
  ∃ (k f : Nat) (A : Option Addr) (c : Nat) (rs : List Ln), ls = .slice A rs.length c ∧ from' = .int .i64 f ∧ idx = .int .i64 k ∧ k ≤ l.length + 1 ∧ rs.length ≤ k ∧ Hid ((k ≤ l.length ∧ runL l k = (listsT rs, f)) ∨ (k = l.length + 1 ∧ listsT rs = linesP l)) ∧ OwnG 23 1 enLn w.heap.size wr A c rs ∧ EachT w rs ∧ Below w.heap.size w wr
set_option maxHeartbeats 4000000 in
theorem rlines_calls (A : Option Addr) (c : Nat) (l : List Tk) (w : World) (h : CellsG enT w A c l) (hc : l.length ≤ c) (hl : l.length ≤ 100000) :
    Calls Tryd.prog 12 #[.slice A l.length c] w fun e w' => ∃ A' c' rs, e = .returned (.slice A' rs.length c') ∧ listsT rs = linesP l ∧ OwnG 23 1 enLn w.heap.size w' A' c' rs ∧ EachT w rs ∧ Below w.heap.size w w' := by
  have HCUT := Lib.hid (fun f j h1 h2 => cut_toks h hc f j h1 h2)
  have H := Lib.hid h
  obtain ⟨n, hn⟩ : ∃ n, n = l.length := ⟨_, rfl⟩
  have HN := Lib.hid hn
  rw [← hn] at hl ⊢
  rw [← hn] at HCUT
  clear h hc hn
  go_enter Tryd.func12, Tryd.ntmps12
  go_wp2
  go_loopw [3, 4, 5] (RelRl l w) (fun _ _ i _ => n + 2 - (intOf i).toNat)
  case atStart => exact ⟨0, 0, none, 0, [], rfl, rfl, rfl, by omega, by simp, Lib.hid (.inl ⟨by omega, rfl⟩), OwnG.nil _ _, EachT.nil _, Below.refl _ _⟩
  case round =>
    obtain ⟨k, f, A1, c1, rs, rfl, rfl, rfl, hk, hrl, hrun, ho, he, hb⟩ := hrel
    rw [← HN.out] at hk
    have HB := Lib.hid hb
    have HO := Lib.hid ho
    have HEA := Lib.hid he
    have HRU := Lib.hid hrun.out
    clear hb ho he hrun
    by_cases hle : k ≤ n
    · have hi : (k : Int) ≤ (n : Int) := by omega
      have HRUN := Lib.hid (show runL l k = (listsT rs, f) by rcases HRU.out with h1 | h1; exact h1.2; exact absurd h1.1 (by rw [← HN.out]; omega))
      have hfk : f ≤ k := by have := runL_le l k; rw [HRUN.out] at this; exact this
      clear HRU
      by_cases hlt : k < n
      · have hi2 : (k : Int) < (n : Int) := by omega
        obtain ⟨t, ht⟩ : ∃ t, l[k]? = some t := ⟨l[k]'(by rw [← HN.out]; exact hlt), by simp⟩
        obtain ⟨b1, o1, rfl, _, hc1⟩ := tok_cells H.out (by rw [← HN.out]; omega)
        obtain ⟨x0, _, _, _, _, _⟩ := hc1 k t ht wr HB.out
        have HEND := Lib.hid (fun h5 => runL_end (i := k) ht h5)
        have HON := Lib.hid (fun h5 => runL_on (i := k) ht h5)
        rw [HRUN.out] at HEND HON
        generalize t.k = tk at *
        clear hc1 ht
        by_cases h5 : tk = 5
        · have d5 : (tk != 5) = false := by simpa using h5
          have HE := Lib.hid (HEND.out h5)
          dsimp only at HE
          by_cases hfi : f < k
          · have hfi2 : (f : Int) < (k : Int) := by omega
            obtain ⟨A2, c2, hcut, hcc, _⟩ := HCUT.out f k hfk hle
            have hxl : ((l.drop f).take (k - f)).length = k - f := by rw [List.length_take, List.length_drop]; have := HN.out; omega
            have hxne : (l.drop f).take (k - f) ≠ [] := fun e => by rw [e] at hxl; simp at hxl; omega
            have HAD := Lib.hid (show addL (listsT rs) ((l.drop f).take (k - f)) = listsT rs ++ [(l.drop f).take (k - f)] by unfold addL; rw [if_neg hxne])
            have HX := Lib.hid hxl
            have HCU := Lib.hid hcut
            have HCC := Lib.hid hcc
            generalize (l.drop f).take (k - f) = x at *
            generalize k - f = d at *
            have HO4 := Lib.hid (HO.out.alloc (.cells #[.slice A2 d c2] 23))
            have HB4 := Lib.hid (HB.out.trans ((below_one wr (.cells #[.slice A2 d c2] 23)).mono HB.out.size))
            have HC4 := Lib.hid (cells_one_val elLn wr (A2, c2, x) #[.slice A2 d c2] (by rw [← HX.out]; rfl))
            clear hcut hcc hxl hxne h5
            have K := HCU.out
            go_wp2_with (at_builtin; refine wpList_append_vals elLn rfl _ _ 36 Tryd.underlying36 rfl w.heap.size A1 c1 rs rfl HO4.out (some ⟨wr.heap.size, 0, none⟩) 1 [(A2, c2, x)] rfl HC4.out (by simp; omega) (by decide) HB4.out.size ?_; intro A5 c5 w5 R hR' ho5 hg5; have HB5 := Lib.hid (HO4.out.grow HB4.out hg5 HB4.out.size); have HO5 := Lib.hid ho5; clear hg5 ho5)
            go_roundw
            case rel => exact ⟨k + 1, k + 1, A5, c5, R, rfl, by go_num, by go_num, by rw [← HN.out]; omega, by rw [hR'.out]; simp; omega, Lib.hid (.inl ⟨by rw [← HN.out]; omega, by rw [HE.out, HAD.out, hR'.out, listsT_snoc]⟩), HO5.out, by rw [hR'.out]; exact HEA.out.snoc HCC.out, HB5.out⟩
            case measure => simp [intOf]; omega
          · have hfi2 : decide ((f : Int) < (k : Int)) = false := decide_eq_false (by omega)
            have HE2 := Lib.hid (show runL l (k + 1) = (listsT rs, k + 1) by rw [HE.out, show k - f = 0 by omega, List.take_zero]; rfl)
            go_wp2
            go_roundw
            case rel => exact ⟨k + 1, k + 1, A1, c1, rs, rfl, by go_num, by go_num, by rw [← HN.out]; omega, by omega, Lib.hid (.inl ⟨by rw [← HN.out]; omega, HE2.out⟩), HO.out, HEA.out, HB.out⟩
            case measure => simp [intOf]; omega
        · have d5 : (tk != 5) = true := by simpa using h5
          have HE := Lib.hid (HON.out h5)
          go_wp2
          go_roundw
          case rel => exact ⟨k + 1, f, A1, c1, rs, rfl, rfl, by go_num, by rw [← HN.out]; omega, by omega, Lib.hid (.inl ⟨by rw [← HN.out]; omega, HE.out⟩), HO.out, HEA.out, HB.out⟩
          case measure => simp [intOf]; omega
      · have hi2 : decide ((k : Int) < (n : Int)) = false := decide_eq_false (by omega)
        obtain rfl : k = n := by omega
        have HRES := Lib.hid (show linesP l = addL (listsT rs) (l.drop f) by unfold linesP; rw [← HN.out, HRUN.out])
        have htake : (l.drop f).take (k - f) = l.drop f := List.take_of_length_le (by rw [List.length_drop, ← HN.out]; omega)
        by_cases hfi : f < k
        · have hfi2 : (f : Int) < (k : Int) := by omega
          obtain ⟨A2, c2, hcut, hcc, _⟩ := HCUT.out f k hfk hle
          rw [htake] at hcc
          have hxl : (l.drop f).length = k - f := by rw [List.length_drop, ← HN.out]
          have hxne : l.drop f ≠ [] := fun e => by rw [e] at hxl; simp at hxl; omega
          have HAD := Lib.hid (show addL (listsT rs) (l.drop f) = listsT rs ++ [l.drop f] by unfold addL; rw [if_neg hxne])
          have HX := Lib.hid hxl
          have HCU := Lib.hid hcut
          have HCC := Lib.hid hcc
          clear htake
          generalize l.drop f = x at *
          generalize k - f = d at *
          have HO4 := Lib.hid (HO.out.alloc (.cells #[.slice A2 d c2] 23))
          have HB4 := Lib.hid (HB.out.trans ((below_one wr (.cells #[.slice A2 d c2] 23)).mono HB.out.size))
          have HC4 := Lib.hid (cells_one_val elLn wr (A2, c2, x) #[.slice A2 d c2] (by rw [← HX.out]; rfl))
          clear hcut hcc hxl hxne
          have K := HCU.out
          go_wp2_with (at_builtin; refine wpList_append_vals elLn rfl _ _ 36 Tryd.underlying36 rfl w.heap.size A1 c1 rs rfl HO4.out (some ⟨wr.heap.size, 0, none⟩) 1 [(A2, c2, x)] rfl HC4.out (by simp; omega) (by decide) HB4.out.size ?_; intro A5 c5 w5 R hR' ho5 hg5; have HB5 := Lib.hid (HO4.out.grow HB4.out hg5 HB4.out.size); have HO5 := Lib.hid ho5; clear hg5 ho5)
          go_roundw
          case rel => exact ⟨k + 1, k + 1, A5, c5, R, rfl, by go_num, by go_num, by rw [← HN.out]; omega, by rw [hR'.out]; simp; omega, Lib.hid (.inr ⟨by rw [← HN.out], by rw [HRES.out, HAD.out, hR'.out, listsT_snoc]⟩), HO5.out, by rw [hR'.out]; exact HEA.out.snoc HCC.out, HB5.out⟩
          case measure => simp [intOf] <;> omega
        · have hfi2 : decide ((f : Int) < (k : Int)) = false := decide_eq_false (by omega)
          have HE2 := Lib.hid (show listsT rs = linesP l by rw [HRES.out, List.drop_of_length_le (by rw [← HN.out]; omega)]; rfl)
          go_wp2
          go_roundw
          case rel => exact ⟨k + 1, k + 1, A1, c1, rs, rfl, by go_num, by go_num, by rw [← HN.out]; omega, by omega, Lib.hid (.inr ⟨by rw [← HN.out], HE2.out⟩), HO.out, HEA.out, HB.out⟩
          case measure => simp [intOf] <;> omega
    · have hd : decide ((k : Int) ≤ (n : Int)) = false := decide_eq_false (by omega)
      have HE2 := Lib.hid (show listsT rs = linesP l by rcases HRU.out with h1 | h1; exact absurd h1.1 (by rw [← HN.out]; omega); exact h1.2)
      go_wp2
      go_ret
      exact ⟨A1, c1, rs, rfl, HE2.out, HO.out, HEA.out, HB.out⟩
end Go.Proofs.YtjignlemahdoeaaDoor
namespace Go.Proofs.YtjignlemahdoeaaDoor
open Go.ChangeShapes Go.WideShapes Go.ChangeAt Go.RowKit Go.Joins
set_option linter.unusedVariables false
/-- What an input's token may take. -/
def GoodTk (t : Tk) : Prop := (str t.nm).size ≤ reachBytes ∧ t.v.s.size ≤ reachBytes
set_option maxRecDepth 20000 in
theorem tok_read {H : Type} {encH : TypeId × Value → H} {W : World} {base : Nat} {held : Bool} (n : Nat) (cs : List Value) (x : DataW H × List MemPlace) (h : DataW.trod encH Tryd.prog W base (fun _ => true) held n 35 cs = some x) (hw : ∀ m ∈ x.1.weights Tryd.prog 35, m ≤ reachBytes) (hl : cs.length = 6) : ∃ t : Tk, cs = enT t ∧ GoodTk t := by
  obtain ⟨xs, m, hfu, hy, _, hlen, hf⟩ := DataW.trod_struct Tryd.underlying35 h
  match xs, hlen, cs, hl with
  | [y0, y1, y2, y3], _, [u0, u1, u2, u3, u4, u5], _ =>
    have g0 : DataW.trod encH Tryd.prog W base (fun _ => true) held m 5 ((([u0, u1, u2, u3, u4, u5] : List Value).drop 0).take (Tryd.prog.cellsOf 5)) = some y0 := hf 0 _ rfl
    have g1 : DataW.trod encH Tryd.prog W base (fun _ => true) held m 9 ((([u0, u1, u2, u3, u4, u5] : List Value).drop 1).take (Tryd.prog.cellsOf 9)) = some y1 := hf 1 _ rfl
    have g2 : DataW.trod encH Tryd.prog W base (fun _ => true) held m 33 ((([u0, u1, u2, u3, u4, u5] : List Value).drop 2).take (Tryd.prog.cellsOf 33)) = some y2 := hf 2 _ rfl
    have g3 : DataW.trod encH Tryd.prog W base (fun _ => true) held m 3 ((([u0, u1, u2, u3, u4, u5] : List Value).drop 5).take (Tryd.prog.cellsOf 3)) = some y3 := hf 3 _ rfl
    have c3 : Tryd.prog.cellsOf 3 = 1 := by kernel_rfl
    have c33 : Tryd.prog.cellsOf 33 = 3 := by kernel_rfl
    have c5 : Tryd.prog.cellsOf 5 = 1 := by kernel_rfl
    have c9 : Tryd.prog.cellsOf 9 = 1 := by kernel_rfl
    rw [c5] at g0
    rw [c9] at g1
    rw [c33] at g2
    rw [c3] at g3
    obtain ⟨z0, e0, _, hz0⟩ := DataW.trod_int Tryd.underlying5 g0
    obtain ⟨s1, e1, ey1, hs1⟩ := DataW.trod_string Tryd.underlying9 g1
    obtain ⟨z3, e3, _, hz3⟩ := DataW.trod_int Tryd.underlying3 g3
    simp only [List.drop_succ_cons, List.drop_zero, List.take_succ_cons, List.take_zero] at g2
    obtain ⟨zs, m1, _, hy1, _, hlen1, hf1⟩ := DataW.trod_struct Tryd.underlying33 g2
    match zs, hlen1 with
    | [v0, v1, v2], _ =>
      have k0 : DataW.trod encH Tryd.prog W base (fun _ => true) held m1 5 ((([u2, u3, u4] : List Value).drop 0).take (Tryd.prog.cellsOf 5)) = some v0 := hf1 0 _ rfl
      have k1 : DataW.trod encH Tryd.prog W base (fun _ => true) held m1 3 ((([u2, u3, u4] : List Value).drop 1).take (Tryd.prog.cellsOf 3)) = some v1 := hf1 1 _ rfl
      have k2 : DataW.trod encH Tryd.prog W base (fun _ => true) held m1 9 ((([u2, u3, u4] : List Value).drop 2).take (Tryd.prog.cellsOf 9)) = some v2 := hf1 2 _ rfl
      rw [c5] at k0
      rw [c3] at k1
      rw [c9] at k2
      obtain ⟨a0, b0, _, ha0⟩ := DataW.trod_int Tryd.underlying5 k0
      obtain ⟨a1, b1, _, ha1⟩ := DataW.trod_int Tryd.underlying3 k1
      obtain ⟨s2, b2, ey2, hs2⟩ := DataW.trod_string Tryd.underlying9 k2
      have hyd : x.1 = _ := congrArg Prod.fst hy
      have hyd1 : y2.1 = _ := congrArg Prod.fst hy1
      have q2 := hw s2.data.toList.length (by rw [hyd]; simp only [List.map_cons, List.map_nil]; rw [hyd1]; simp [DataW.weights, Tryd.underlying35, Tryd.underlying33, DataW.weightsEach, ey2])
      have q1 := hw s1.data.toList.length (by rw [hyd]; simp only [List.map_cons, List.map_nil]; simp [DataW.weights, Tryd.underlying35, DataW.weightsEach, ey1])
      simp at e0 e1 e3 b0 b1 b2
      subst e0 e1 e3 b0 b1 b2
      refine ⟨⟨z0, sl s1, ⟨a0, a1, s2⟩, z3⟩, ?_, ?_, by simpa using q2⟩
      · unfold enT; rw [str_sl]
      · rw [str_sl]; simpa using q1
theorem toks_of_arg {H : Type} {encH : TypeId × Value → H} {W : World} {base : Nat} {held : Bool} {fuel : Nat} {a : Option Addr} {len cap : Nat} {x : DataW H × List MemPlace} (h : DataW.trod encH Tryd.prog W base (fun _ => true) held fuel 23 [.slice a len cap] = some x) (hW : ∀ m ∈ x.1.weights Tryd.prog 23, m ≤ reachBytes) :
    ∃ l : List Tk, l.length = len ∧ l.length ≤ cap ∧ l.length ≤ maxLen ∧ CellsG enT W a cap l ∧ ∀ t ∈ l, GoodTk t :=
  vals_of_arg_sized 23 35 Tryd.underlying23 6 (by kernel_rfl) (by omega) enT (fun _ => rfl) GoodTk tok_read h hW
end Go.Proofs.YtjignlemahdoeaaDoor
namespace Go.Proofs.YtjignlemahdoeaaDoor
open Go.ChangeShapes Go.WideShapes Go.ChangeAt Go.RowKit
set_option linter.unusedVariables false
set_option maxRecDepth 20000
theorem addL_mem {ls : List (List Tk)} {x y : List Tk} (h : y ∈ addL ls x) : y ∈ ls ∨ y = x := by
  unfold addL at h
  split at h
  · exact .inl h
  · rcases List.mem_append.1 h with h | h
    · exact .inl h
    · simp at h; exact .inr h
theorem runL_mem (l : List Tk) : ∀ i, ∀ x ∈ (runL l i).1, ∀ t ∈ x, t ∈ l
  | 0, x, hx, t, ht => by simp [runL] at hx
  | i + 1, x, hx, t, ht => by
    have ih := runL_mem l i
    unfold runL at hx
    split at hx
    · exact ih x hx t ht
    · split at hx
      · rcases addL_mem hx with h | h
        · exact ih x h t ht
        · subst h; exact List.mem_of_mem_drop (List.mem_of_mem_take ht)
      · exact ih x hx t ht
theorem linesP_mem (l : List Tk) : ∀ x ∈ linesP l, ∀ t ∈ x, t ∈ l := fun x hx t ht => by
  rcases addL_mem hx with h | h
  · exact runL_mem l _ x h t ht
  · subst h; exact List.mem_of_mem_drop ht
theorem runL_short (l : List Tk) : ∀ i, ∀ x ∈ (runL l i).1, x.length ≤ l.length
  | 0, x, hx => by simp [runL] at hx
  | i + 1, x, hx => by
    have ih := runL_short l i
    unfold runL at hx
    split at hx
    · exact ih x hx
    · split at hx
      · rcases addL_mem hx with h | h
        · exact ih x h
        · subst h; rw [List.length_take, List.length_drop]; omega
      · exact ih x hx
theorem linesP_short (l : List Tk) : ∀ x ∈ linesP l, x.length ≤ l.length := fun x hx => by
  rcases addL_mem hx with h | h
  · exact runL_short l _ x h
  · subst h; rw [List.length_drop]; omega
theorem linesP_len (l : List Tk) : (linesP l).length ≤ l.length + 1 := by
  have h1 := addL_len (runL l l.length).1 (l.drop (runL l l.length).2)
  have h2 := runL_len l l.length
  unfold linesP; omega
theorem ln_cells {W : World} {A : Option Addr} {c : Nat} {rs : List Ln} (h : CellsG enLn W A c rs) (hl : 0 < rs.length) :
    ∃ b o, A = some ⟨b, o, none⟩ ∧ b < W.heap.size ∧ ∀ j r, rs[j]? = some r → ∀ W', Below W.heap.size W W' → W'.cell? ⟨b, o + j, none⟩ = some (.slice r.1 r.2.2.length r.2.1) := by
  obtain ⟨b, o, hA, hb, hc⟩ := h.at_ elLn hl
  refine ⟨b, o, hA, hb, fun j r hr W' hW => ?_⟩
  have := (hW.cell (p := ⟨b, o + (j * 1 + 0), none⟩) hb).trans (hc j 0 r hr (by omega))
  simpa [enLn] using this
def RelA1 (l : List Tk) (w : World) (i : Value) (wr : World) : Prop := ∃ (k q : Nat), i = .int .i64 k ∧ k ≤ l.length ∧ Hid (∀ j t, j < k → l[j]? = some t → t.v.s.size ≤ 65536) ∧ wr = w.drewN q
def RelA2 (n : Nat) (w : World) (i : Value) (wr : World) : Prop := ∃ k : Nat, i = .int .i64 k ∧ k ≤ n ∧ Below w.heap.size w wr
set_option maxHeartbeats 4000000 in
theorem lines_walk (A : Option Addr) (c : Nat) (l : List Tk) (w : World) (hc : l.length ≤ c) (hm : l.length ≤ maxLen) (h : CellsG enT w A c l) (hg : ∀ t ∈ l, GoodTk t) (hv : ErrV w) : Calls Tryd.prog 4 #[.slice A l.length c] w fun q w' => q = .returned (.bool true) ∧ Below w.heap.size w w' := by
  have HL := Lib.hid (fun W (hW : Below w.heap.size w W) => live_calls W (hv.below hW))
  obtain ⟨n, hn⟩ : ∃ n, n = l.length := ⟨_, rfl⟩
  have HN := Lib.hid hn
  have H := Lib.hid h
  have HG := Lib.hid hg
  have HCC := Lib.hid hc
  rw [← hn] at hm ⊢
  clear h hg hv hc hn
  by_cases h5 : 500 < n
  · have d5 : decide ((500 : Int) < (n : Int)) = true := by simp; omega
    clear hm
    go_enter Tryd.func4, Tryd.ntmps4
    go_wp2_with fail
    refine (HL.out _ (Below.refl _ _)).mono ?_
    rintro q w1 ⟨rfl, hb⟩
    have HB := Lib.hid hb
    clear hb
    go_wp2
    go_ret
    exact ⟨rfl, HB.out⟩
  · have d5 : decide ((500 : Int) < (n : Int)) = false := by simp; omega
    go_enter Tryd.func4, Tryd.ntmps4
    go_wp2
    go_loopw [3] (RelA1 l w) (fun i _ => n + 1 - (intOf i).toNat)
    case atStart => exact ⟨0, 0, rfl, by omega, Lib.hid (fun j t h _ => by omega), rfl⟩
    case round =>
      obtain ⟨k, q, rfl, hk, hsm, rfl⟩ := hrel
      rw [← HN.out] at hk
      have HSM := Lib.hid hsm.out
      clear hsm
      have hbw : Below w.heap.size w (w.drewN q) := below_drewN (Below.refl _ _) q
      have HBW := Lib.hid hbw
      clear hbw
      by_cases hlt : k < n
      · have hi : (k : Int) < (n : Int) := by omega
        obtain ⟨t, ht⟩ : ∃ t, l[k]? = some t := ⟨l[k]'(by rw [← HN.out]; exact hlt), by simp⟩
        obtain ⟨b1, o1, rfl, _, hc1⟩ := tok_cells H.out (by rw [← HN.out]; omega)
        obtain ⟨_, x1, _, _, x4, _⟩ := hc1 k t ht w (Below.refl _ _)
        obtain ⟨s1, s2⟩ := HG.out t (List.mem_of_getElem? ht)
        have HT := Lib.hid ht
        have HTS := Lib.hid (show t.v.s.size = t.v.s.size from rfl)
        obtain ⟨tk, nm, ⟨vk, vn, vs⟩, ti⟩ := t
        dsimp only at x1 x4 s1 s2
        generalize str nm = nb at *
        unfold reachBytes at s1 s2
        clear hc1 ht
        by_cases hbig : 200 < nb.size + vs.size
        · have db : decide ((200 : Int) < (nb.size : Int) + (vs.size : Int)) = true := by simp; omega
          go_upto_region 6 with fail
          go_quiet (fail)
          go_wp2_with fail
          refine (HL.out _ ?_).mono ?_
          · exact below_drewN (Below.refl _ _) _
          rintro q w1 ⟨rfl, hb⟩
          have HB := Lib.hid hb
          clear hb
          go_wp2
          go_ret
          exact ⟨rfl, (below_drewN (Below.refl _ _) _).trans (HB.out.mono (Nat.le_refl _))⟩
        · have db : decide ((200 : Int) < (nb.size : Int) + (vs.size : Int)) = false := by simp; omega
          go_upto_region 6 with fail
          go_quiet (fail)
          go_wp2
          go_roundw
          case rel => exact ⟨k + 1, _, by go_num, by rw [← HN.out]; omega, Lib.hid (fun j t hj htj => by
            rcases Nat.lt_or_ge j k with h1 | h1
            · exact HSM.out j t h1 htj
            · obtain rfl : j = k := by omega
              rw [HT.out] at htj
              injection htj with htj
              subst htj
              show vs.size ≤ 65536; omega), rfl⟩
          case measure => simp [intOf]; omega
      · have hd : decide ((k : Int) < (n : Int)) = false := decide_eq_false (by omega)
        have hsmall : SmallT l := fun t ht => by
          obtain ⟨j, hj⟩ := List.getElem?_of_mem ht
          have hjl := (List.getElem?_eq_some_iff.1 hj).1
          exact HSM.out j t (by have := HN.out; omega) hj
        have HPL := Lib.hid (lines_calls A c l (w.drewN q) H.out HCC.out (by rw [← HN.out]; omega))
        have HRL := Lib.hid (fun W (hW : Below w.heap.size w W) => rlines_calls A c l W (H.out.below hW) HCC.out (by rw [← HN.out]; omega))
        have HRF := Lib.hid (fun x (hx : x ∈ linesP l) => SameT.refl (l := x) (fun t ht => hsmall t (linesP_mem l x hx t ht)))
        have HSH := Lib.hid (fun x (hx : x ∈ linesP l) => linesP_short l x hx)
        have HLL := Lib.hid (linesP_len l)
        rw [← HN.out] at HPL HRL HSH HLL
        clear hsmall hk
        go_wp2_with fail
        refine HPL.out.mono ?_
        rintro e' w1 ⟨A1, c1, rs1, rfl, hl1, ⟨ho1, he1⟩, hb1⟩
        have HO1 := Lib.hid ho1
        have HE1 := Lib.hid he1
        have HB1 := Lib.hid (show Below w.heap.size w w1 from HBW.out.trans hb1)
        have HL1 := Lib.hid hl1
        clear ho1 he1 hb1 hl1
        go_wp2_with fail
        refine (HRL.out _ HB1.out).mono ?_
        rintro e' w2 ⟨A2, c2, rs2, rfl, hl2, ho2, he2, hb2⟩
        have HR1 := Lib.hid (HO1.out.below hb2).cells
        have HT1 := Lib.hid (HE1.out.below hb2).each
        have HR2 := Lib.hid ho2.cells
        have HT2 := Lib.hid (he2.below hb2)
        have HB2 := Lib.hid (HB1.out.trans (hb2.mono HB1.out.size))
        have HL2 := Lib.hid hl2
        have hlen : rs2.length = rs1.length := by rw [← listsT_len rs1, ← listsT_len rs2, HL1.out, HL2.out]
        rw [hlen]
        have hm1 : rs1.length ≤ n + 1 := by rw [← listsT_len rs1, HL1.out]; exact HLL.out
        obtain ⟨m, hm'⟩ : ∃ m, m = rs1.length := ⟨_, rfl⟩
        have HM := Lib.hid hm'
        have HM2 := Lib.hid (hm'.trans hlen.symm)
        rw [← hm'] at hm1 ⊢
        clear ho2 he2 hb2 hl2 hlen hm' HO1 HE1
        go_wp2
        go_loopw [6] (RelA2 m w2) (fun i _ => m + 1 - (intOf i).toNat)
        case atStart => exact ⟨0, rfl, by omega, Below.refl _ _⟩
        case round =>
          obtain ⟨j, rfl, hj, hb⟩ := hrel
          have HB := Lib.hid hb
          clear hb
          by_cases hlt : j < m
          · have hi : (j : Int) < (m : Int) := by omega
            obtain ⟨r1, hr1⟩ : ∃ r, rs1[j]? = some r := ⟨rs1[j]'(by rw [← HM.out]; exact hlt), by simp⟩
            obtain ⟨r2, hr2⟩ : ∃ r, rs2[j]? = some r := ⟨rs2[j]'(by rw [← HM2.out]; exact hlt), by simp⟩
            obtain ⟨b1, o1, rfl, _, hc1⟩ := ln_cells HR1.out (by rw [← HM.out]; omega)
            obtain ⟨b2, o2, rfl, _, hc2⟩ := ln_cells HR2.out (by rw [← HM2.out]; omega)
            have hx1 : (linesP l)[j]? = some r1.2.2 := by rw [← HL1.out]; unfold listsT; rw [List.getElem?_map, hr1]; rfl
            have hx2 : (linesP l)[j]? = some r2.2.2 := by rw [← HL2.out]; unfold listsT; rw [List.getElem?_map, hr2]; rfl
            have hxe : r2.2.2 = r1.2.2 := by rw [hx1] at hx2; injection hx2 with hx2; exact hx2.symm
            have hmem := List.mem_of_getElem? hx1
            have hS := HRF.out _ hmem
            have hsh := HSH.out _ hmem
            have g1 := (HT1.out r1 (List.mem_of_getElem? hr1)).below HB.out.drew
            have g2 := (HT2.out r2 (List.mem_of_getElem? hr2)).below HB.out.drew
            rw [hxe] at g2
            have y1 := hc1 j r1 hr1 wr.drew HB.out.drew
            have y2 := hc2 j r2 hr2 wr.drew HB.out.drew
            have HC1 := Lib.hid (hc1 j r1 hr1)
            have HC2 := Lib.hid (hc2 j r2 hr2)
            rw [hxe] at y2 HC2
            have HS := Lib.hid (rsame_calls g1 g2 hS (by omega))
            obtain ⟨A3, c3, x⟩ := r1
            obtain ⟨A4, c4, x'⟩ := r2
            dsimp only at y1 y2 HC1 HC2 HS
            generalize x.length = d at *
            clear hxe hmem hS hsh g1 g2 hc1 hc2 hr1 hr2 hx1 hx2
            go_upto_region 14 with fail
            go_cut [57] from 42 to 57 (fun s57 wx => s57 = .bool false ∧ Below wr.heap.size wr wx)
            case first =>
              go_region_held3 (fun W => W.cell? ⟨b1, o1 + j, none⟩ = some (.slice A3 d c3) ∧ W.cell? ⟨b2, o2 + j, none⟩ = some (.slice A4 d c4)) (first | with_reducible exact ⟨y1, y2⟩ | with_reducible exact KK.out) (first | (go_at_call 9; refine HS.out.mono ?_; rintro e' w5 ⟨rfl, hb5⟩; have hb5' : Below wr.heap.size wr w5 := ⟨hb5.os, hb5.tape, hb5.output, hb5.size, hb5.block⟩; have hb5w := HB.out.trans (hb5'.mono HB.out.size); have HB5 := Lib.hid hb5'; have KK := Lib.hid (show w5.cell? ⟨b1, o1 + j, none⟩ = some (.slice A3 d c3) ∧ w5.cell? ⟨b2, o2 + j, none⟩ = some (.slice A4 d c4) from ⟨HC1.out w5 hb5w, HC2.out w5 hb5w⟩); clear hb5 hb5' hb5w))
              all_goals
                go_wp2_with fail
                go_meet
                exact ⟨rfl, HB5.out⟩
            case rest =>
              obtain ⟨rfl, hbc⟩ := hcut
              have HBC := Lib.hid hbc
              clear hbc
              go_wp2
              go_roundw
              case rel => exact ⟨j + 1, by go_num, by omega, HB.out.trans (HBC.out.mono HB.out.size)⟩
              case measure => simp [intOf]; omega
          · have hd2 : decide ((j : Int) < (m : Int)) = false := decide_eq_false (by omega)
            have HBF := Lib.hid (HB2.out.trans (HB.out.mono HB2.out.size))
            go_wp2_with fail
            refine (HL.out _ HBF.out).mono ?_
            rintro q' w6 ⟨rfl, hb6⟩
            have HB6 := Lib.hid (HBF.out.trans (hb6.mono HBF.out.size))
            clear hb6
            go_wp2
            go_ret
            exact ⟨rfl, HB6.out⟩
end Go.Proofs.YtjignlemahdoeaaDoor
namespace Go.Proofs.YtjignlemahdoeaaDoor
open Go.ChangeShapes Go.WideShapes Go.ChangeAt Go.RowKit
set_option linter.unusedVariables false
set_option maxRecDepth 20000
theorem nameOf_isB (op : Int) : IsB (nameOf op) := by
  have h : ∀ k : Fin 28, ∀ x ∈ names.getD k.val [], 0 ≤ x ∧ x ≤ 255 := by decide +kernel
  intro x hx
  unfold nameOf at hx
  split at hx
  · by_cases hk : op.toNat < 28
    · exact h ⟨op.toNat, hk⟩ x hx
    · rw [List.getD, List.getElem?_eq_none (by show 28 ≤ op.toNat; omega)] at hx; cases hx
  · cases hx
theorem qch_isB {c : Int} (h0 : 0 ≤ c ∧ c ≤ 255) : IsB (qch c) := by
  intro x hx
  unfold qch hexd at hx
  split at hx
  · simp only [List.mem_cons, List.not_mem_nil, or_false] at hx
    rcases hx with rfl | rfl | rfl | rfl
    · omega
    · omega
    · split <;> omega
    · split <;> omega
  · split at hx
    · simp only [List.mem_cons, List.not_mem_nil, or_false] at hx
      rcases hx with rfl | rfl <;> omega
    · simp only [List.mem_cons, List.not_mem_nil, or_false] at hx
      subst hx; omega
theorem quote_isB {s : List Int} (h : IsB s) : IsB (quote s) := by
  intro x hx
  simp only [quote, List.mem_append, List.mem_cons, List.not_mem_nil, or_false, List.mem_flatMap] at hx
  rcases hx with rfl | ⟨c, hc, hx⟩ | rfl
  · omega
  · exact qch_isB (h c hc) x hx
  · omega
theorem text_isB : ∀ e : Ex, e.Good → IsB e.text := by
  intro e
  induction e using Ex.ind with
  | h op v A c l ih =>
    intro hg
    simp only [Ex.Good] at hg
    have key : ∀ l : List Ex, (∀ e ∈ l, IsB e.text) → IsB (textL l) := by
      intro l
      induction l with
      | nil => intro _ x hx; simp [textL] at hx
      | cons e l ihl =>
        intro h
        simp only [textL]
        exact IsB.append (IsB.append (show IsB [32] from fun x hx => by simp at hx; omega) (h e (by simp))) (ihl fun y hy => h y (by simp [hy]))
    have hk := key l fun e he => ih e he (goodL_mem hg.2.2 e he)
    simp only [Ex.text]
    split
    · split
      · exact num10_isB _
      · exact quote_isB (sl_bytes _)
    · split
      · exact nameOf_isB _
      · exact IsB.append (IsB.append (IsB.append (show IsB [40] from fun x hx => by simp at hx; omega) (nameOf_isB _)) hk) (show IsB [41] from fun x hx => by simp at hx; omega)
theorem sl_str {s : List Int} (h : IsB s) : sl (str s) = s := str_inj (sl_bytes _) h (str_sl (str s))
end Go.Proofs.YtjignlemahdoeaaDoor
namespace Go.Proofs.YtjignlemahdoeaaDoor
open Go.ChangeShapes Go.WideShapes Go.ChangeAt Go.RowKit
set_option linter.unusedVariables false
section
variable {s : List Int} {i : Nat} {c : Int} {y r : List Int}
theorem at_of (h : s.drop i = c :: y) : i < s.length ∧ s.getD i 0 = c ∧ s[i]? = some c ∧ s.drop (i + 1) = y := by
  have hl : i < s.length := by
    rcases Nat.lt_or_ge i s.length with h1 | h1
    · exact h1
    · rw [List.drop_of_length_le h1] at h; cases h
  have h2 := List.drop_eq_getElem_cons hl
  rw [h2] at h
  injection h with h3 h4
  refine ⟨hl, ?_, ?_, h4⟩
  · rw [List.getD, List.getElem?_eq_getElem hl, h3]; rfl
  · rw [List.getElem?_eq_getElem hl, h3]
theorem drop_app {a : List Int} (h : s.drop i = a ++ r) : s.drop (i + a.length) = r := by
  rw [← List.drop_drop, h, List.drop_left]
theorem tw_all {p : Int → Bool} {a r : List Int} (ha : ∀ x ∈ a, p x = true) (hr : ∀ x q, r = x :: q → p x = false) : (a ++ r).takeWhile p = a := by
  induction a with
  | nil =>
    cases r with
    | nil => rfl
    | cons x q => rw [List.nil_append, List.takeWhile_cons, hr x q rfl]; rfl
  | cons x a ih =>
    rw [List.cons_append, List.takeWhile_cons, ha x (by simp)]
    simp only [if_true]
    rw [ih fun z hz => ha z (by simp [hz])]
theorem past_of {p : Int → Bool} {a : List Int} (h : s.drop i = a ++ r) (ha : ∀ x ∈ a, p x = true) (hr : ∀ x q, r = x :: q → p x = false) : past p s i = i + a.length := by
  unfold past; rw [h, tw_all ha hr]
theorem lex_space (h : s.drop i = 32 :: y) : Lexes s i [] (i + 1) := by
  obtain ⟨h1, h2, _, _⟩ := at_of h
  refine .skip h1 ?_ (by omega) (.nil _)
  unfold tokStep; rw [h2]; rfl
theorem lex_open (h : s.drop i = 40 :: y) : Lexes s i [⟨1, [], zV, i⟩] (i + 1) := by
  obtain ⟨h1, h2, _, _⟩ := at_of h
  refine .tok h1 ?_ (by omega) (.nil _)
  unfold tokStep; rw [h2]; rfl
theorem lex_close (h : s.drop i = 41 :: y) : Lexes s i [⟨2, [], zV, i⟩] (i + 1) := by
  obtain ⟨h1, h2, _, _⟩ := at_of h
  refine .tok h1 ?_ (by omega) (.nil _)
  unfold tokStep; rw [h2]; rfl
theorem lex_name {nm : List Int} (h : s.drop i = nm ++ r) (hn : nm ≠ []) (ha : ∀ x ∈ nm, letI' x = true) (hr : ∀ x q, r = x :: q → letI' x = false) : Lexes s i [⟨3, nm, zV, i⟩] (i + nm.length) := by
  cases nm with
  | nil => exact absurd rfl hn
  | cons c nm =>
    obtain ⟨h1, h2, _, h4⟩ := at_of (h : s.drop i = c :: (nm ++ r))
    have hc := ha c (by simp)
    have hp := past_of (p := letI') (i := i + 1) h4 (fun x hx => ha x (by simp [hx])) hr
    have hl : (c :: nm).length = nm.length + 1 := rfl
    refine .tok h1 ?_ (by omega) (.nil _)
    have hc2 : 97 ≤ c ∧ c ≤ 122 := by unfold letI' at hc; simpa using hc
    have e1 : (s.drop i).take (past letI' s (i + 1) - i) = c :: nm := by
      rw [hp, h, show i + 1 + nm.length - i = (c :: nm).length by rw [hl]; omega, List.take_left]
    unfold tokStep
    simp only [h2]
    rw [if_neg (by omega), if_neg (by omega), if_neg (by omega), if_neg (by omega), if_neg (by omega), hc, if_pos rfl, e1, hp, hl, show i + 1 + nm.length = i + (nm.length + 1) by omega]
theorem numI_num10 (n : Int) (h0 : -9223372036854775808 ≤ n) (h1 : n ≤ 9223372036854775807) : numI (num10 n) = (n, 0) := by
  unfold numI num10
  rw [List.map_map]
  have : (Lib.itoa n).map ((fun n => UInt8.ofNat n.toNat) ∘ fun b => (b.toNat : Int)) = Lib.itoa n := by
    conv => rhs; rw [← List.map_id (Lib.itoa n)]
    apply List.map_congr_left
    intro x _
    simp
  rw [this]
  exact numD_itoa n h0 h1
theorem num10_shape (n : Int) : (∃ d q, num10 n = d :: q ∧ digI d = true ∧ ∀ x ∈ q, digI x = true) ∨ (∃ d q, num10 n = 45 :: d :: q ∧ digI d = true ∧ ∀ x ∈ q, digI x = true) := by
  obtain ⟨i1, i2, i3, i4⟩ := decDigits_dval n.natAbs
  have hd : ∀ x ∈ dgs n.natAbs, digI x = true := by
    intro x hx
    simp only [dgs, List.mem_map] at hx
    obtain ⟨b, hb, rfl⟩ := hx
    have := List.all_eq_true.1 i2 b hb
    unfold isDig at this
    unfold digI
    simp only [Bool.and_eq_true, decide_eq_true_eq] at this ⊢
    omega
  have hne : dgs n.natAbs ≠ [] := by unfold dgs; simpa using i3
  cases hq : dgs n.natAbs with
  | nil => exact absurd hq hne
  | cons d q =>
    rw [hq] at hd
    by_cases h : n < 0
    · exact .inr ⟨d, q, by rw [num10_neg h, hq], hd d (by simp), fun x hx => hd x (by simp [hx])⟩
    · exact .inl ⟨d, q, by rw [num10_pos h, hq], hd d (by simp), fun x hx => hd x (by simp [hx])⟩
theorem lex_num {n : Int} (h : s.drop i = num10 n ++ r) (h0 : -9223372036854775808 ≤ n) (h1 : n ≤ 9223372036854775807) (hr : ∀ x q, r = x :: q → digI x = false) : Lexes s i [⟨4, [], ⟨0, n, ⟨#[]⟩⟩, i⟩] (i + (num10 n).length) := by
  have hn := numI_num10 n h0 h1
  have fin : ∀ c q, num10 n = c :: q → (∀ x ∈ q, digI x = true) → (digI c || (decide (c = 45) && digAt s (i + 1))) = true → (45 ≤ c ∧ c ≤ 57 ∧ c ≠ 46 ∧ c ≠ 47) → Lexes s i [⟨4, [], ⟨0, n, ⟨#[]⟩⟩, i⟩] (i + (num10 n).length) := by
    intro c q hq ha hc hb
    rw [hq] at h hn ⊢
    obtain ⟨a1, a2, _, a4⟩ := at_of (h : s.drop i = c :: (q ++ r))
    have hp := past_of (p := digI) (i := i + 1) a4 ha hr
    have hl : (c :: q).length = q.length + 1 := rfl
    have e1 : (s.drop i).take (past digI s (i + 1) - i) = c :: q := by
      rw [hp, h, show i + 1 + q.length - i = (c :: q).length by rw [hl]; omega, List.take_left]
    have hlet : letI' c = false := by unfold letI'; simp; omega
    refine .tok a1 ?_ (by omega) (.nil _)
    unfold tokStep
    simp only [a2]
    rw [if_neg (by omega), if_neg (by omega), if_neg (by omega), if_neg (by omega), if_neg (by omega), hlet, if_neg (by decide), hc, if_pos rfl, e1, hn, if_pos rfl, hp, hl, show i + 1 + q.length = i + (q.length + 1) by omega]
  rcases num10_shape n with ⟨d, q, hq, hd, ha⟩ | ⟨d, q, hq, hd, ha⟩
  · refine fin d q hq ha (by rw [hd]; rfl) ?_
    unfold digI at hd
    simp only [Bool.and_eq_true, decide_eq_true_eq] at hd
    omega
  · refine fin 45 (d :: q) hq (fun x hx => by rcases List.mem_cons.1 hx with rfl | hx; exact hd; exact ha x hx) ?_ (by omega)
    have h9 : s.drop i = 45 :: (d :: (q ++ r)) := by rw [h, hq]; rfl
    obtain ⟨_, _, _, a4⟩ := at_of h9
    obtain ⟨_, _, b3, _⟩ := at_of a4
    have : digAt s (i + 1) = true := by unfold digAt; rw [b3]; exact hd
    rw [this]; rfl
theorem half_at {d : Int} (h0 : 0 ≤ d) (h1 : d < 16) (h : s.drop i = hexd d :: y) : half s i = d := by
  obtain ⟨_, _, h3, _⟩ := at_of h
  unfold half
  rw [h3]
  unfold hexd
  by_cases hd : d < 10
  · simp only [hd, if_true]
    have : digI (48 + d) = true := by unfold digI; simp; omega
    simp only [this, if_true]; omega
  · simp only [hd, if_false]
    have e1 : digI (87 + d) = false := by unfold digI; simp; omega
    have e2 : (letI' (87 + d) && decide (87 + d ≤ 102)) = true := by unfold letI'; simp; omega
    simp only [e1, e2, if_true]; simp; omega
theorem textG_quote : ∀ (q : List Int) (f i : Nat) (t : List Int), IsB q → s.drop i = q.flatMap qch ++ (34 :: r) → t.length + q.length ≤ 65536 → (q.flatMap qch).length < f → textG f s i t = (t ++ q, (i : Int) + ((q.flatMap qch).length : Int) + 1, 0)
  | [], f, i, t, _, h, hl, hf => by
    obtain ⟨h1, h2, h3, _⟩ := at_of (h : s.drop i = 34 :: r)
    cases f with
    | zero => omega
    | succ f =>
      unfold textG
      rw [h3]
      simp only [if_true]
      rw [if_neg (by simp at hl; omega)]
      simp
  | c :: q, f, i, t, hb, h, hl, hf => by
    have hc := hb c (by simp)
    have hbq : IsB q := fun x hx => hb x (by simp [hx])
    have ih := fun f i t => textG_quote q f i t hbq
    rw [List.flatMap_cons, List.append_assoc] at h
    rw [List.flatMap_cons, List.length_append] at hf ⊢
    simp only [List.length_cons] at hl
    generalize q.flatMap qch = Q at h hf ih ⊢
    have hl' : ∀ x : Int, (t ++ [x]).length + q.length ≤ 65536 := fun x => by rw [List.length_append, List.length_cons, List.length_nil]; omega
    cases f with
    | zero => omega
    | succ f =>
      by_cases hh : c < 32 ∨ 126 < c
      · have hq : qch c = [92, 120, hexd (c / 16), hexd (c % 16)] := by unfold qch; rw [if_pos hh]
        rw [hq] at h hf ⊢
        simp only [List.length_cons, List.length_nil] at hf ⊢
        obtain ⟨_, _, a3, a4⟩ := at_of (h : s.drop i = 92 :: (120 :: (hexd (c / 16) :: (hexd (c % 16) :: (Q ++ (34 :: r))))))
        obtain ⟨_, _, b3, b4⟩ := at_of a4
        obtain ⟨_, _, _, c4⟩ := at_of b4
        obtain ⟨_, _, _, d4⟩ := at_of c4
        have x1 := half_at (by omega) (by omega) b4
        have x2 := half_at (by omega) (by omega) c4
        have e2 : i + 2 = i + 1 + 1 := by omega
        have e3 : i + 3 = i + 1 + 1 + 1 := by omega
        have e4 : i + 4 = i + 1 + 1 + 1 + 1 := by omega
        unfold textG
        rw [a3]
        simp only [show (92 : Int) ≠ 34 by omega, show ¬ (92 : Int) < 32 by omega, if_false, ne_eq, not_true_eq_false]
        rw [e2, e3, e4, x1, x2, b3, if_neg (by simp), if_neg (by simp; omega)]
        rw [ih f (i + 1 + 1 + 1 + 1) _ d4 (hl' _) (by omega)]
        refine Prod.ext ?_ (Prod.ext ?_ rfl)
        · show t ++ [16 * (c / 16) + c % 16] ++ q = t ++ c :: q
          rw [show 16 * (c / 16) + c % 16 = c by omega]; simp
        · show ((i + 1 + 1 + 1 + 1 : Nat) : Int) + (Q.length : Int) + 1 = _
          show _ = (i : Int) + ((0 + 1 + 1 + 1 + 1 + Q.length : Nat) : Int) + 1
          omega
      · by_cases he : c = 34 ∨ c = 92
        · have hq : qch c = [92, c] := by unfold qch; rw [if_neg hh, if_pos he]
          rw [hq] at h hf ⊢
          simp only [List.length_cons, List.length_nil] at hf ⊢
          obtain ⟨_, _, a3, a4⟩ := at_of (h : s.drop i = 92 :: (c :: (Q ++ (34 :: r))))
          obtain ⟨_, b2, b3, b4⟩ := at_of a4
          have e2 : i + 2 = i + 1 + 1 := by omega
          unfold textG
          rw [a3]
          simp only [show (92 : Int) ≠ 34 by omega, show ¬ (92 : Int) < 32 by omega, if_false, ne_eq, not_true_eq_false]
          rw [if_pos (by rw [b3]; rcases he with rfl | rfl <;> simp), b2, e2]
          rw [ih f (i + 1 + 1) _ b4 (hl' _) (by omega)]
          refine Prod.ext ?_ (Prod.ext ?_ rfl)
          · show t ++ [c] ++ q = t ++ c :: q
            simp
          · show ((i + 1 + 1 : Nat) : Int) + (Q.length : Int) + 1 = (i : Int) + ((0 + 1 + 1 + Q.length : Nat) : Int) + 1
            omega
        · have hq : qch c = [c] := by unfold qch; rw [if_neg hh, if_neg he]
          rw [hq] at h hf ⊢
          simp only [List.length_cons, List.length_nil] at hf ⊢
          obtain ⟨_, _, a3, a4⟩ := at_of (h : s.drop i = c :: (Q ++ (34 :: r)))
          unfold textG
          rw [a3]
          simp only [show c ≠ 34 by omega, show ¬ c < 32 by omega, show c ≠ 92 by omega, if_false, ne_eq, not_false_eq_true, if_true]
          rw [ih f (i + 1) _ a4 (hl' _) (by omega)]
          refine Prod.ext ?_ (Prod.ext ?_ rfl)
          · show t ++ [c] ++ q = t ++ c :: q
            simp
          · show ((i + 1 : Nat) : Int) + (Q.length : Int) + 1 = (i : Int) + ((0 + 1 + Q.length : Nat) : Int) + 1
            omega
theorem lex_str {q : List Int} (h : s.drop i = quote q ++ r) (hb : IsB q) (hl : q.length ≤ 65536) : Lexes s i [⟨4, [], ⟨1, 0, str q⟩, i⟩] (i + (quote q).length) := by
  have h9 : s.drop i = 34 :: (q.flatMap qch ++ (34 :: r)) := by rw [h]; unfold quote; simp
  obtain ⟨a1, a2, _, a4⟩ := at_of h9
  have hlen : (s.drop (i + 1)).length = (q.flatMap qch).length + (r.length + 1) := by rw [a4, List.length_append, List.length_cons]
  rw [List.length_drop] at hlen
  have hg := textG_quote q (s.length + 1) (i + 1) [] hb a4 (by simpa using hl) (by omega)
  have hql : (quote q).length = (q.flatMap qch).length + 2 := by
    unfold quote
    rw [List.length_append, List.length_append]; simp only [List.length_cons, List.length_nil]; omega
  refine .tok a1 ?_ (by omega) (.nil _)
  unfold tokStep
  simp only [a2]
  rw [if_neg (by omega), if_neg (by omega), if_neg (by omega), if_neg (by omega), if_neg (by omega), if_neg (by decide), hg]
  rw [if_neg (by simp [digI]), if_pos rfl]
  simp only [List.nil_append, if_true]
  rw [hql, show (((i + 1 : Nat) : Int) + ((q.flatMap qch).length : Int) + 1).toNat = i + ((q.flatMap qch).length + 2) by omega]
/-- The tokens of the text of an expression. -/
theorem lex_text : ∀ (e : Ex) (i : Nat) (r : List Int), e.shaped = true → e.wide = false → e.Good → Delim r → s.drop i = e.text ++ r → Lexes s i (e.toks i) (i + e.text.length) := by
  intro e
  induction e using Ex.ind with
  | h op v A c l ih =>
    intro i r hs hw hg hd h
    have hcase := text_cases op v A c l hs
    simp only [Ex.shaped, Bool.and_eq_true] at hs
    simp only [Ex.wide, Bool.or_eq_false_iff] at hw
    simp only [Ex.Good] at hg
    obtain ⟨⟨_, hvg⟩, _, hgl⟩ := hg
    rcases hcase with ⟨h0, hl, hk, ht⟩ | ⟨h0, hl, hk, ht⟩ | ⟨h0, h1, h2, hl, ht⟩ | ⟨h0, h1, h2, hl, ht⟩
    · rw [ht] at h ⊢
      have : (Ex.node op v A c l).toks i = [⟨4, [], ⟨0, v.n, ⟨#[]⟩⟩, i⟩] := by
        simp only [Ex.toks]; rw [if_pos h0]; unfold plainV; rw [if_pos hk]
      rw [this]
      refine lex_num h hvg.n0 hvg.n1 fun x q hx => ?_
      have := hd.not (P := fun x => digI x = true) (by decide) (by decide) x q hx
      simpa using this
    · rw [ht] at h ⊢
      have : (Ex.node op v A c l).toks i = [⟨4, [], ⟨1, 0, str (sl v.s)⟩, i⟩] := by
        simp only [Ex.toks]; rw [if_pos h0, str_sl]; unfold plainV; rw [if_neg hk]
      rw [this]
      refine lex_str h (sl_bytes _) ?_
      have h3 := hw.1
      rw [h0] at h3
      simp only [decide_true, Bool.true_and, decide_eq_true hk, decide_eq_false_iff_not] at h3
      rw [sl_length]; omega
    · rw [ht] at h ⊢
      have : (Ex.node op v A c l).toks i = [⟨3, nameOf op, zV, i⟩] := by
        simp only [Ex.toks]; rw [if_neg h0, if_pos (by rw [hl]; rfl)]
      rw [this]
      have hn := nameOf_ok h1 h2
      refine lex_name h hn.2 (fun x hx => by have := hn.1 x hx; unfold LetC at this; unfold letI'; simp; omega) fun x q hx => ?_
      have := hd.not (P := fun x => letI' x = true) (by decide) (by decide) x q hx
      simpa using this
    · rw [ht] at h ⊢
      have hne : l.length ≠ 0 := fun e => hl (List.eq_nil_of_length_eq_zero e)
      have : (Ex.node op v A c l).toks i = ⟨1, [], zV, i⟩ :: ⟨3, nameOf op, zV, ((i + 1 : Nat) : Int)⟩ :: (toksL l (i + 1 + (nameOf op).length) ++ [⟨2, [], zV, ((i + 1 + (nameOf op).length + (textL l).length : Nat) : Int)⟩]) := by
        simp only [Ex.toks]; rw [if_neg h0, if_neg hne]
      rw [this]
      have hn := nameOf_ok h1 h2
      have h9 : s.drop i = 40 :: (nameOf op ++ (textL l ++ (41 :: r))) := by rw [h]; simp
      obtain ⟨_, _, _, a4⟩ := at_of h9
      obtain ⟨q0, hq0⟩ := textL_head hl (41 :: r)
      have n1 := lex_name a4 hn.2 (fun x hx => by have := hn.1 x hx; unfold LetC at this; unfold letI'; simp; omega) (fun x q hx => by
        rw [hq0] at hx; injection hx with hx _; rw [← hx]; rfl)
      have b4 := drop_app a4
      have key : ∀ (l : List Ex), (∀ e ∈ l, ∀ (i : Nat) (r : List Int), e.shaped = true → e.wide = false → e.Good → Delim r → s.drop i = e.text ++ r → Lexes s i (e.toks i) (i + e.text.length)) → shapedL l = true → wideL l = false → goodL l → ∀ j, s.drop j = textL l ++ (41 :: r) → Lexes s j (toksL l j) (j + (textL l).length) := by
        intro l
        induction l with
        | nil => intro _ _ _ _ j _; exact .nil j
        | cons e l ihl =>
          intro hh s1 w1 g1 j hj
          simp only [shapedL, Bool.and_eq_true] at s1
          simp only [wideL, Bool.or_eq_false_iff] at w1
          simp only [goodL] at g1
          have hj9 : s.drop j = 32 :: (e.text ++ (textL l ++ (41 :: r))) := by rw [hj]; simp [textL]
          have k1 := lex_space hj9
          obtain ⟨_, _, _, c4⟩ := at_of hj9
          have k2 := hh e (by simp) (j + 1) _ s1.1 w1.1 g1.1 (textL_delim l r) c4
          have k3 := ihl (fun x hx => hh x (by simp [hx])) s1.2 w1.2 g1.2 (j + 1 + e.text.length) (drop_app c4)
          have := (k1.trans k2).trans k3
          simp only [toksL, textL, List.length_append, List.length_cons, List.length_nil, List.nil_append] at this ⊢
          rw [show j + (0 + 1 + e.text.length + (textL l).length) = j + 1 + e.text.length + (textL l).length by omega]
          exact this
      have n2 := key l ih hs.2 hw.2 hgl _ b4
      have n3 := lex_close (drop_app b4)
      have := (((lex_open h9).trans n1).trans n2).trans n3
      simp only [List.length_cons, List.length_append, List.length_nil, List.cons_append, List.nil_append] at this ⊢
      rw [show i + ((nameOf op).length + ((textL l).length + (0 + 1)) + 1) = i + 1 + (nameOf op).length + (textL l).length + 1 by omega]
      exact this
/-- P10.3, plain. -/
theorem tokens_text (e : Ex) (hs : e.shaped = true) (hw : e.wide = false) (hg : e.Good) (h3 : 3 * e.size ≤ 65536) : tokensP e.text = (e.toks 0, (e.text.length : Int), 0) := by
  have h1 := lex_text (s := e.text) e 0 [] hs hw hg (.inl rfl) (by simp)
  rw [Nat.zero_add] at h1
  have h2 := toks_len e 0
  exact tokensP_of h1 (by omega)
end
end Go.Proofs.YtjignlemahdoeaaDoor
