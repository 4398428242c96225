/-
  Contracts of rec.readPair, getItems over pairs and GetPairs. Conditions: slices of at most a million bytes, each from 0 to 255.
  TYPES BY NUMBER: 22 23 48
-/
import Derived.Test.YtimcolanmbklpaaRRGet
import Derived.Test.YtimcolanmbklpaaRPutP
namespace Go.Proofs.Ytimcolanmbklpaa
open Go.ChangeShapes Go.WideShapes Go.ChangeAt Go.RowKit
set_option linter.unusedVariables false

/-- One pair: two texts. -/
def rdP (b : List Int) (i : Int) : (ByteArray × ByteArray) × Int × Int :=
  if (rdS b i).2.2 = 0 then if (rdS b (rdS b i).2.1).2.2 = 0 then (((rdS b i).1, (rdS b (rdS b i).2.1).1), (rdS b (rdS b i).2.1).2.1, 0) else ((ByteArray.empty, ByteArray.empty), 0, (rdS b (rdS b i).2.1).2.2) else ((ByteArray.empty, ByteArray.empty), 0, (rdS b i).2.2)
def triP (r : (ByteArray × ByteArray) × Int × Int) : Value := .tuple #[vP r.1, .int .i64 r.2.1, .int .i64 r.2.2]

/-- A block that holds a pair. -/
def Two (W : World) (n : Nat) (a b : Value) : Prop := W.heap[n]? = some (.cells #[a, b] 48 (0, 0))
theorem Two.new (w : World) (a b : Value) : Two (w.alloc (.cells #[a, b] 48)) w.heap.size a b := heap_alloc_new w _
theorem Two.below {W W' : World} {n : Nat} {a b : Value} (h : Two W n a b) (hb : Below W.heap.size W W') : Two W' n a b := by
  unfold Two at *
  rw [hb.block n (lt_of_block h)]; exact h
theorem Two.c0 {W : World} {n : Nat} {a b : Value} (h : Two W n a b) : W.cell? ⟨n, 0, none⟩ = some a := by unfold Two at h; simp [World.cell?, h]
theorem Two.c1 {W : World} {n : Nat} {a b : Value} (h : Two W n a b) : W.cell? ⟨n, 1, none⟩ = some b := by unfold Two at h; simp [World.cell?, h]
theorem Two.f0 {W : World} {n : Nat} {a b : Value} (h : Two W n a b) : W.frozen? ⟨n, 0, none⟩ = false := by unfold Two at h; simp [World.frozen?, h]
theorem Two.f1 {W : World} {n : Nat} {a b : Value} (h : Two W n a b) : W.frozen? ⟨n, 1, none⟩ = false := by unfold Two at h; simp [World.frozen?, h]
theorem Two.set0 {W : World} {n : Nat} {a b : Value} (h : Two W n a b) (u : Value) : Two (W.setCell ⟨n, 0, none⟩ u) n u b := by
  unfold Two at *
  have hlt := lt_of_block h
  have h' : W.heap[n] = .cells #[a, b] 48 (0, 0) := by simpa [Array.getElem?_eq_getElem hlt] using h
  show (W.heap.modify n _)[n]? = _
  rw [Array.getElem?_eq_getElem (by simpa using hlt), Array.getElem_modify_self, h']
  rfl
theorem Two.set1 {W : World} {n : Nat} {a b : Value} (h : Two W n a b) (u : Value) : Two (W.setCell ⟨n, 1, none⟩ u) n a u := by
  unfold Two at *
  have hlt := lt_of_block h
  have h' : W.heap[n] = .cells #[a, b] 48 (0, 0) := by simpa [Array.getElem?_eq_getElem hlt] using h
  show (W.heap.modify n _)[n]? = _
  rw [Array.getElem?_eq_getElem (by simpa using hlt), Array.getElem_modify_self, h']
  rfl
theorem lv48 {W : World} {n : Nat} {a b : Value} (h : Two W n a b) : (loadVar 48 ⟨n, 0, none⟩).run Try.prog W = .ok (.agg #[a, b]) W := by
  have h0 := h.c0
  have h1 := h.c1
  go_simp
theorem results_cell_tmp2 {fn : Func} {p u v : Tmp} {ty : TypeId} (h : fn.results = #[.cell p ty, .tmp u, .tmp v]) (tmps : Array Value) (P : Program) (w : World) (a1 : Addr) (x : Value)
    (hp : tmps.getD p undef = .pointer (some a1)) (l1 : (loadVar ty a1).run P w = .ok x w) :
    (results fn tmps).run P w = .ok (.tuple #[x, tmps.getD u undef, tmps.getD v undef]) w := by
  rw [Array.getD_eq_getD_getElem?] at hp
  simp only [results, h]
  simp [Result.andThen, hp, asAddr, l1]
/-- Storing a pair into such a block. -/
theorem Two.set {W : World} {n : Nat} {a b : Value} (h : Two W n a b) (u v : Value) : Two ((W.setCell ⟨n, 0, none⟩ u).setCell ⟨n, 1, none⟩ v) n u v := (h.set0 u).set1 v

set_option maxHeartbeats 2000000 in
theorem readPair_calls (A : Option Addr) (c : Nat) (l : List Int) (i : Int) (w : World) (h : Lies w A c l) (hb : IsB l) (hc : l.length ≤ c) (hl : l.length ≤ 1000000) :
    Calls Try.prog 34 #[.slice A l.length c, .int .i64 i] w fun e w' => e = .returned (triP (rdP l i)) ∧ Below w.heap.size w w' := by
  have HT := Lib.hid (fun (j : Int) (W : World) (hW : Below w.heap.size w W) => readText_calls A c l j W (h.below hW) hb hc hl)
  obtain ⟨s, x, e, h1⟩ : ∃ s x e, rdS l i = (s, x, e) := ⟨_, _, _, rfl⟩
  obtain ⟨t, y, f, h2⟩ : ∃ t y f, rdS l x = (t, y, f) := ⟨_, _, _, rfl⟩
  have H1 := Lib.hid (fun (W : World) (hW : Below w.heap.size w W) => HT.out i W hW)
  have H2 := Lib.hid (fun (W : World) (hW : Below w.heap.size w W) => HT.out x W hW)
  rw [h1] at H1
  rw [h2] at H2
  have HR := Lib.hid (show rdP l i = if e = 0 then if f = 0 then ((s, t), y, 0) else ((ByteArray.empty, ByteArray.empty), 0, f) else ((ByteArray.empty, ByteArray.empty), 0, e) by unfold rdP; simp only [h1, h2])
  have hb0 : Below w.heap.size w (w.alloc (.cells #[.string ByteArray.empty, .string ByteArray.empty] 48)) := (Below.refl _ _).alloc (Nat.le_refl _) _
  have hT0 := Two.new w (.string ByteArray.empty) (.string ByteArray.empty)
  clear HT h hb h1 h2
  unfold triS at H1 H2
  by_cases he : e = 0
  · subst he
    by_cases hf : f = 0
    · subst hf
      have HR1 := Lib.hid (show rdP l i = ((s, t), y, 0) by rw [HR.out]; simp)
      clear HR
      go_enter Try.func34, Try.ntmps34
      go_wp2_with fail
      refine (H1.out _ hb0).mono ?_
      rintro e w3 ⟨rfl, hb3⟩
      dsimp only
      have hb4 := Below.on hb0 hb3
      go_wp2_with fail
      refine (H2.out _ hb4).mono ?_
      rintro e w5 ⟨rfl, hb5⟩
      dsimp only
      have T5 := Lib.hid ((hT0.below hb3).below hb5)
      have c0 := T5.out.c0
      have f0 := T5.out.f0
      have c1 := (T5.out.set0 (.string s)).c1
      have f1 := (T5.out.set0 (.string s)).f1
      go_wp2_with fail
      exact bodyPost_ret (results_cell_tmp2 rfl _ _ _ _ _ rfl (lv48 (T5.out.set _ _))) rfl ⟨by rw [HR1.out]; rfl, ((Below.on hb4 hb5).setCell (p := ⟨w.heap.size, 0, none⟩) (Nat.le_refl _) _).setCell (p := ⟨w.heap.size, 1, none⟩) (Nat.le_refl _) _⟩
    · have hne : (f == 0) = false := by simpa using hf
      have HR1 := Lib.hid (show rdP l i = ((ByteArray.empty, ByteArray.empty), 0, f) by rw [HR.out]; simp [hf])
      clear HR hf
      go_enter Try.func34, Try.ntmps34
      go_wp2_with fail
      refine (H1.out _ hb0).mono ?_
      rintro e w3 ⟨rfl, hb3⟩
      dsimp only
      have hb4 := Below.on hb0 hb3
      go_wp2_with fail
      refine (H2.out _ hb4).mono ?_
      rintro e w5 ⟨rfl, hb5⟩
      dsimp only
      have T5 := Lib.hid ((hT0.below hb3).below hb5)
      have c0 := T5.out.c0
      have f0 := T5.out.f0
      have c1 := (T5.out.set0 (.string ⟨#[]⟩)).c1
      have f1 := (T5.out.set0 (.string ⟨#[]⟩)).f1
      go_wp2_with fail
      exact bodyPost_ret (results_cell_tmp2 rfl _ _ _ _ _ rfl (lv48 (T5.out.set (.string ⟨#[]⟩) (.string ⟨#[]⟩)))) rfl ⟨by rw [HR1.out]; rfl, ((Below.on hb4 hb5).setCell (p := ⟨w.heap.size, 0, none⟩) (Nat.le_refl _) _).setCell (p := ⟨w.heap.size, 1, none⟩) (Nat.le_refl _) _⟩
  · have hne : (e == 0) = false := by simpa using he
    have HR1 := Lib.hid (show rdP l i = ((ByteArray.empty, ByteArray.empty), 0, e) by rw [HR.out]; simp [he])
    clear HR he
    go_enter Try.func34, Try.ntmps34
    go_wp2_with fail
    refine (H1.out _ hb0).mono ?_
    rintro e w3 ⟨rfl, hb3⟩
    dsimp only
    have hb4 := Below.on hb0 hb3
    have T5 := Lib.hid (hT0.below hb3)
    have c0 := T5.out.c0
    have f0 := T5.out.f0
    have c1 := (T5.out.set0 (.string ⟨#[]⟩)).c1
    have f1 := (T5.out.set0 (.string ⟨#[]⟩)).f1
    go_wp2_with fail
    exact bodyPost_ret (results_cell_tmp2 rfl _ _ _ _ _ rfl (lv48 (T5.out.set (.string ⟨#[]⟩) (.string ⟨#[]⟩)))) rfl ⟨by rw [HR1.out]; rfl, (hb4.setCell (p := ⟨w.heap.size, 0, none⟩) (Nat.le_refl _) _).setCell (p := ⟨w.heap.size, 1, none⟩) (Nat.le_refl _) _⟩

set_option maxRecDepth 20000 in
set_option maxHeartbeats 2000000 in
theorem getItemsP_calls (A : Option Addr) (c : Nat) (l : List Int) (i : Int) (w : World) (h : Lies w A c l) (hb : IsB l) (hc : l.length ≤ c) (hl : l.length ≤ 1000000) :
    Calls Try.prog 33 #[.slice A l.length c, .int .i64 i, .func (.func 34) #[] #[]] w (GotG 48 2 enP w (getAll (rdP l) 1 (getS l i))) := by
  obtain ⟨n0, n1, x0, x1⟩ := getS_range l hb i
  obtain ⟨n, x, e, hg⟩ : ∃ n x e, getS l i = (n, x, e) := ⟨_, _, _, rfl⟩
  have HC := Lib.hid (get_calls A c l i w h hb hc hl)
  rw [hg] at HC n0 n1 x0 x1
  simp only at n0 n1 x0 x1
  have HG := Lib.hid hg
  have HT := Lib.hid (fun (j : Int) (W : World) (hW : Below w.heap.size w W) => readPair_calls A c l j W (h.below hW) hb hc hl)
  have HR := Lib.hid (show getAll (rdP l) 1 (getS l i) = if e = 0 then if 65536 < n then ([], 0, 9) else getFrom (rdP l) [] n.toNat x else ([], 0, e) by unfold getAll; rw [hg, Nat.mul_one])
  obtain ⟨R, hR⟩ : ∃ R, R = getAll (rdP l) 1 (getS l i) := ⟨_, rfl⟩
  rw [← hR] at HR ⊢
  clear h hb hg hR
  by_cases he : e = 0
  · subst he
    by_cases hn : 65536 < n
    · have HR1 := Lib.hid (show R = ([], 0, 9) by rw [HR.out]; simp [hn])
      clear HR
      go_enter Try.func33, Try.ntmps33
      go_wp2_with (go_at_call 42; refine HC.out.mono ?_; unfold tri; rintro e' w1 ⟨rfl, hb1⟩)
      go_ret3
      rw [HR1.out]
      exact ⟨none, 0, rfl, OwnG.nil _ _, hb1⟩
    · have HR1 := Lib.hid (show R = getFrom (rdP l) [] n.toNat x by rw [HR.out]; simp [hn])
      clear HR
      have hn2 : n ≤ 65536 := by omega
      obtain ⟨q, hq⟩ : ∃ q : Nat, n = q := Int.eq_ofNat_of_zero_le n0
      rw [hq, Int.toNat_natCast] at HR1
      have hq2 : q ≤ 65536 := by omega
      have HQ := Lib.hid hq
      clear hq
      go_enter Try.func33, Try.ntmps33
      go_wp2_with (go_at_call 42; refine HC.out.mono ?_; unfold tri; rintro e' w1 ⟨rfl, hb1⟩)
      go_loopw [6, 7, 27] (RelG 48 2 enP (rdP l) w q R) (fun _ _ i _ => q - (intOf i).toNat)
      case atStart => exact ⟨0, none, 0, [], x, rfl, rfl, rfl, by omega, rfl, OwnG.nil _ _, hb1, HR1.out⟩
      case round =>
        obtain ⟨k, A2, c2, xs, y, rfl, rfl, rfl, hk, hxl, hown2, hb2, hres⟩ := hrel
        have HO2 := Lib.hid hown2
        have HRes := Lib.hid hres
        have HXL := Lib.hid hxl
        have hx5 : xs.length ≤ 65536 := by omega
        clear hown2 hres hxl
        by_cases hlt : k < q
        · have hkn : (k : Int) < n := by rw [HQ.out]; omega
          obtain ⟨⟨s, t⟩, z, e, hrd⟩ : ∃ s z e, rdP l y = (s, z, e) := ⟨_, _, _, rfl⟩
          have HW := Lib.hid (HT.out y wr hb2)
          rw [hrd] at HW
          have hf : q - k = q - (k + 1) + 1 := by omega
          by_cases he : e = 0
          · subst he
            have HN := Lib.hid (show R = getFrom (rdP l) (xs ++ [(s, t)]) (q - (k + 1)) z by rw [HRes.out, hf, getFrom_step hrd])
            clear hrd hf
            unfold triP vP at HW
            go_wp2_with fail
            refine HW.out.mono ?_
            rintro e w3 ⟨rfl, hb3⟩
            have hb4 := Below.on hb2 hb3
            have hb5 : Below w.heap.size w (w3.alloc (.cells #[.string s, .string t] 48)) := hb4.alloc hb4.size _
            have hb6 : Below w.heap.size w ((w3.alloc (.cells #[.string s, .string t] 48)).alloc (.cells #[.string s, .string t] 48)) := hb5.alloc hb5.size _
            have hO3 := Lib.hid (((HO2.out.below hb3).alloc (.cells #[.string s, .string t] 48)).alloc (.cells #[.string s, .string t] 48))
            have hcv : CellsG enP ((w3.alloc (.cells #[.string s, .string t] 48)).alloc (.cells #[.string s, .string t] 48)) (some ⟨w3.heap.size + 1, 0, none⟩) 1 [(s, t)] := by
              have := cells_one_val elP (w3.alloc (.cells #[.string s, .string t] 48)) (s, t) #[.string s, .string t] rfl
              rw [World.size_alloc] at this
              exact this
            have HCV := Lib.hid hcv
            clear hcv
            dsimp only
            go_wp2_with (at_builtin; go_must (refine wpList_append_vals elP rfl _ _ 23 Try.underlying23 rfl w.heap.size A2 c2 xs rfl hO3.out (some ⟨w3.heap.size + 1, 0, none⟩) 1 [(s, t)] rfl HCV.out (by simp; omega) (by omega) hb6.size ?_); intro A7 c7 w7 R7 hR7 hown7 hgrow7; have hb7 := OwnG.grow hO3.out hb6 hgrow7 hb6.size)
            go_roundw
            case rel =>
              refine ⟨k + 1, A7, c7, R7, z, by go_num, rfl, rfl, by omega, ?_, hown7, hb7, ?_⟩
              · rw [hR7.out, List.length_append, HXL.out]; rfl
              · rw [HN.out, hR7.out]
            case measure => simp [intOf]; omega
          · have hne : (e == 0) = false := by simpa using he
            have HN := Lib.hid (show R = ([], 0, e) by rw [HRes.out, hf, getFrom_stop hrd he])
            clear hrd he hf
            unfold triP vP at HW
            go_wp2_with fail
            refine HW.out.mono ?_
            rintro e w3 ⟨rfl, hb3⟩
            dsimp only
            have hb4 := Below.on hb2 hb3
            have hb5 : Below w.heap.size w (w3.alloc (.cells #[.string s, .string t] 48)) := hb4.alloc hb4.size _
            go_wp2
            go_ret3
            rw [HN.out]
            exact ⟨none, 0, rfl, OwnG.nil _ _, hb5⟩
        · have hkn : ¬ (k : Int) < n := by rw [HQ.out]; omega
          have HN := Lib.hid (show R = (xs, y, 0) by rw [HRes.out, show q - k = 0 by omega]; rfl)
          go_wp2
          go_ret3
          rw [HN.out]
          exact ⟨A2, c2, rfl, HO2.out, hb2⟩
  · have hne : (e == 0) = false := by simpa using he
    have HR1 := Lib.hid (show R = ([], 0, e) by rw [HR.out]; simp [he])
    clear HR he
    go_enter Try.func33, Try.ntmps33
    go_wp2_with (go_at_call 42; refine HC.out.mono ?_; unfold tri; rintro e' w1 ⟨rfl, hb1⟩)
    go_ret3
    rw [HR1.out]
    exact ⟨none, 0, rfl, OwnG.nil _ _, hb1⟩

theorem getPairs_calls (A : Option Addr) (c : Nat) (l : List Int) (i : Int) (w : World) (h : Lies w A c l) (hb : IsB l) (hc : l.length ≤ c) (hl : l.length ≤ 1000000) :
    Calls Try.prog 16 #[.slice A l.length c, .int .i64 i] w (GotG 48 2 enP w (getAll (rdP l) 1 (getS l i))) := by
  have HP := Lib.hid (getItemsP_calls A c l i w h hb hc hl)
  clear h hb
  generalize getAll (rdP l) 1 (getS l i) = R at *
  go_enter Try.func16, Try.ntmps16
  go_wp2_with (go_at_call 33; refine HP.out.mono ?_; rintro e w1 ⟨A1, c1, rfl, hown1, hb1⟩)
  go_ret3
  exact ⟨A1, c1, rfl, hown1, hb1⟩
end Go.Proofs.Ytimcolanmbklpaa
