/-
  The contract of the law's made: what acts make, by the program and by the document. Conditions: numbers of 64 bits.
-/
import Derived.Test.YtgpaedknonkioaaDoorFD
namespace Go.Proofs.YtgpaedknonkioaaDoor
open Go.ChangeShapes Go.WideShapes Go.ChangeAt Go.RowKit
set_option linter.unusedVariables false

/-- An act: what is done, a stage, its number, a number. -/
abbrev Ac := Int × ByteArray × Int × Int
def enA (a : Ac) : List Value := [.int .i64 a.1, .string a.2.1, .int .i64 a.2.2.1, .int .i64 a.2.2.2]
theorem elA : El 56 4 40 (.agg #[.int .i64 0, .string ⟨#[]⟩, .int .i64 0, .int .i64 0]) enA := { info := by kernel_rfl, zero := rfl, pos := by decide, len := fun _ => rfl, one := fun x u hu => by simp [enA] at hu; rcases hu with rfl | rfl | rfl | rfl <;> rfl }
def doA (t : Option Er) (a : Ac) : Option Er := doO t a.1 a.2.1 a.2.2.1 a.2.2.2
def resO (l : List Ac) : Option Er := (l.take 40).foldl doA none
def wtO : Option Er → Nat
  | none => 0
  | some t => t.wt
def okO : Option Er → Prop
  | none => True
  | some t => t.ok
theorem wt_fresh (n : Int) : wtO (freshO n) ≤ 30 := by
  unfold freshO
  split
  · exact Nat.zero_le _
  · exact Nat.le_refl _
theorem wt_both (a b : Option Er) : wtO (bothO a b) ≤ wtO a + wtO b + 10 := by
  cases a <;> cases b <;> simp [bothO, wtO, Er.wt] <;> omega
theorem wt_do (t : Option Er) (a : Ac) : wtO (doA t a) ≤ wtO t + a.2.1.size + 40 := by
  unfold doA doO
  have h1 := wt_fresh a.2.2.2
  have h2 := wt_both t (freshO a.2.2.2)
  have h3 := wt_both (freshO a.2.2.2) t
  repeat' split
  · omega
  · cases t <;> simp [inO, wtO, Er.wt] <;> omega
  · omega
  · omega
  · omega
theorem ok_fresh {n : Int} (h : I64 n) : okO (freshO n) := by
  unfold freshO
  split
  · trivial
  · rename_i hn; exact ⟨h, hn⟩
theorem ok_both {a b : Option Er} (ha : okO a) (hb : okO b) : okO (bothO a b) := by
  cases a <;> cases b <;> simp_all [bothO, okO, Er.ok]
theorem ok_do {t : Option Er} {a : Ac} (ht : okO t) (ha : I64 a.2.2.1 ∧ I64 a.2.2.2) : okO (doA t a) := by
  unfold doA doO
  repeat' split
  · exact ok_fresh ha.2
  · cases t
    · trivial
    · exact ⟨ha.1, ht⟩
  · exact ok_both ht (ok_fresh ha.2)
  · exact ok_both (ok_fresh ha.2) ht
  · exact ht
def total (l : List Ac) : Nat := l.foldr (fun a n => a.2.1.size + n) 0
theorem fold_wt : ∀ (l : List Ac) (t : Option Er), wtO (l.foldl doA t) ≤ wtO t + total l + 40 * l.length
  | [], t => by simp [total]
  | a :: l, t => by
    have h1 := fold_wt l (doA t a)
    have h2 := wt_do t a
    simp only [List.foldl_cons, List.length_cons, total, List.foldr_cons] at *
    omega
theorem fold_ok : ∀ (l : List Ac) (t : Option Er), okO t → (∀ a ∈ l, I64 a.2.2.1 ∧ I64 a.2.2.2) → okO (l.foldl doA t)
  | [], t, ht, _ => ht
  | a :: l, t, ht, hl => fold_ok l (doA t a) (ok_do ht (hl a (by simp))) (fun b hb => hl b (by simp [hb]))
theorem resO_wt (l : List Ac) (h : total (l.take 40) ≤ 2000) : wtO (resO l) ≤ 3600 := by
  have h1 := fold_wt (l.take 40) none
  have h2 : (l.take 40).length ≤ 40 := by rw [List.length_take]; omega
  have h0 : wtO none = 0 := rfl
  rw [h0] at h1
  unfold resO
  omega
theorem resO_ok (l : List Ac) (h : ∀ a ∈ l, I64 a.2.2.1 ∧ I64 a.2.2.2) : okO (resO l) := fold_ok _ _ trivial (fun a ha => h a (List.mem_of_mem_take ha))
theorem take_fold (l : List Ac) (k : Nat) (a : Ac) (h : l[k]? = some a) : (l.take (k + 1)).foldl doA none = doA ((l.take k).foldl doA none) a := by
  have hk := (List.getElem?_eq_some_iff.1 h).1
  have he := (List.getElem?_eq_some_iff.1 h).2
  rw [List.take_succ_eq_append_getElem hk, he, List.foldl_append]
  rfl

/-- Two blocks side by side that are written again and again. -/
def hid2 (a : Nat) (w : World) : World := hide a (hide (a + 1) w)
theorem hid2_size (a : Nat) (w : World) : (hid2 a w).heap.size = w.heap.size := by unfold hid2; rw [hide_size, hide_size]
theorem hid2_other {a k : Nat} (w : World) (h : k ≠ a) (h' : k ≠ a + 1) : (hid2 a w).heap[k]? = w.heap[k]? := by unfold hid2; rw [hide_other _ h, hide_other _ h']
theorem hid2_agree {a : Nat} {w w' : World} (h : ∀ k, k < w.heap.size → k ≠ a → k ≠ a + 1 → w'.heap[k]? = w.heap[k]?) (hg : a + 1 < w.heap.size) (hg' : a + 1 < w'.heap.size) : ∀ k, k < (hid2 a w).heap.size → (hid2 a w').heap[k]? = (hid2 a w).heap[k]? := fun k hk => by
  rw [hid2_size] at hk
  unfold hid2
  by_cases e : k = a
  · subst e; rw [hide_at (by rw [hide_size]; omega), hide_at (by rw [hide_size]; omega)]
  · rw [hide_other _ e, hide_other _ e]
    by_cases e' : k = a + 1
    · subst e'; rw [hide_at hg, hide_at hg']
    · rw [hide_other _ e', hide_other _ e']; exact h k hk e e'
theorem Mk.hid2 {a : Nat} {w w' W : World} {P : World → Prop} (h : Mk (hid2 a w) w w' P) (hg : a + 1 < w.heap.size) (hW : a + 1 < W.heap.size) (h1 : ∀ k, k < w.heap.size → k ≠ a → k ≠ a + 1 → W.heap[k]? = w.heap[k]?) (h2 : ∀ k, w.heap.size ≤ k → k < w'.heap.size → W.heap[k]? = w'.heap[k]?) : P (hid2 a W) :=
  h _ (hid2_agree h1 hg hW) (fun k hk hk' => by rw [hid2_other W (by omega) (by omega)]; exact h2 k hk hk')

/-- The loop of made: k acts are done; r lies in the block behind the first new one. -/
def RelM (w : World) (l : List Ac) (e i : Value) (wr : World) : Prop :=
  ∃ (k : Nat) (u : List Value), i = .int .i64 k ∧ k ≤ l.length ∧ k ≤ 40 ∧ IsO (hid2 w.heap.size wr) ((l.take k).foldl doA none) e ∧ IsRO (hid2 w.heap.size wr) ((l.take k).foldl doA none) u ∧
    Blk wr (w.heap.size + 1) u.toArray 29 ∧ Blk wr w.heap.size #[.int .i64 0, .int .i64 0, .string ⟨#[]⟩, .int .i64 0, .slice none 0 0] 29 ∧ Below w.heap.size w wr

theorem four {W : World} {g : Nat} {a b c d : Value} {t : TypeId} (h : Blk W g #[a, b, c, d] t) : W.cell? ⟨g, 0, none⟩ = some a ∧ W.cell? ⟨g, 1, none⟩ = some b ∧ W.cell? ⟨g, 2, none⟩ = some c ∧ W.cell? ⟨g, 3, none⟩ = some d := ⟨h.cell 0, h.cell 1, h.cell 2, h.cell 3⟩

theorem made_end {w wr W1 W2 w3 : World} {l : List Ac} {k : Nat} {t : Option Er} {a : Ac} {v' : Value} {u : Array Value} (o : Obj) (hW1 : W1 = wr.alloc o) (ha : l[k]? = some a) (ht : t = (l.take k).foldl doA none) (hk : k < 40)
    {z0 z1 z2 z3 z4 : Value} (hu : u = #[z0, z1, z2, z3, z4]) (hbr : Blk wr (w.heap.size + 1) u 29) (hb0 : Blk wr w.heap.size #[.int .i64 0, .int .i64 0, .string ⟨#[]⟩, .int .i64 0, .slice none 0 0] 29) (hbw : Below w.heap.size w wr) (h12 : Below W1.heap.size W1 W2) (he : Mk (hid2 w.heap.size W1) W1 W2 (fun W => IsO W (doA t a) v'))
    (h23 : Below W2.heap.size W2 w3) (k3 n3 m3 : Int) (s3 : ByteArray) (A3 : Option Addr) (l3 c3 : Nat) (hr : Mk (hid2 w.heap.size W2) W2 w3 (fun W => IsRO W (doA t a) [.int .i64 k3, .int .i64 n3, .string s3, .int .i64 m3, .slice A3 l3 c3])) (i : Value) (hi : i = .int .i64 ((k + 1 : Nat) : Int)) :
    RelM w l v' i (((((w3.setCell ⟨w.heap.size + 1, 0, none⟩ (.int .i64 k3)).setCell ⟨w.heap.size + 1, 1, none⟩ (.int .i64 n3)).setCell ⟨w.heap.size + 1, 2, none⟩ (.string s3)).setCell ⟨w.heap.size + 1, 3, none⟩ (.int .i64 m3)).setCell ⟨w.heap.size + 1, 4, none⟩ (.slice A3 l3 c3)) := by
  subst hu
  have hg := hbr.lt
  have e1 : Below wr.heap.size wr W1 := by subst hW1; exact (Below.refl _ _).alloc (Nat.le_refl _) _
  have b1 := hbr.belowAll e1
  have b2 := b1.belowAll h12
  have b3 := b2.belowAll h23
  have z1 := ((hb0.belowAll e1).belowAll h12).belowAll h23
  have e2 := h12.size
  have e3 := h23.size
  have hf := fun k (h : k ≠ w.heap.size + 1) => set5_other w3 h (.int .i64 k3) (.int .i64 n3) (.string s3) (.int .i64 m3) (.slice A3 l3 c3)
  have hsz := set5_size w3 (w.heap.size + 1) (.int .i64 k3) (.int .i64 n3) (.string s3) (.int .i64 m3) (.slice A3 l3 c3)
  have hbl := b3.set5 (.int .i64 k3) (.int .i64 n3) (.string s3) (.int .i64 m3) (.slice A3 l3 c3)
  have hB : Below w.heap.size w w3 := Below.on (Below.on (Below.on hbw e1) h12) h23
  have hBf := below_set5 hB (g := w.heap.size + 1) (by omega) (.int .i64 k3) (.int .i64 n3) (.string s3) (.int .i64 m3) (.slice A3 l3 c3)
  generalize ((((w3.setCell ⟨w.heap.size + 1, 0, none⟩ (.int .i64 k3)).setCell ⟨w.heap.size + 1, 1, none⟩ (.int .i64 n3)).setCell ⟨w.heap.size + 1, 2, none⟩ (.string s3)).setCell ⟨w.heap.size + 1, 3, none⟩ (.int .i64 m3)).setCell ⟨w.heap.size + 1, 4, none⟩ (.slice A3 l3 c3) = Wf at *
  have hkl := (List.getElem?_eq_some_iff.1 ha).1
  refine ⟨k + 1, [.int .i64 k3, .int .i64 n3, .string s3, .int .i64 m3, .slice A3 l3 c3], hi, hkl, hk, ?_, ?_, hbl, (hf _ (by omega)).trans z1, hBf⟩
  · rw [take_fold l k a ha, ← ht]
    refine Mk.hid2 he b1.lt hbl.lt (fun j hj _ hne => ?_) (fun j hj hj2 => ?_)
    · rw [hf j hne, h23.block j (by omega), h12.block j hj]
    · rw [hf j (by have := b1.lt; omega), h23.block j (by omega)]
  · rw [take_fold l k a ha, ← ht]
    refine Mk.hid2 hr b2.lt hbl.lt (fun j hj _ hne => ?_) (fun j hj hj2 => ?_)
    · rw [hf j hne, h23.block j (by omega)]
    · rw [hf j (by have := b2.lt; omega)]

theorem results_tmp_cell {fn : Func} {u p : Tmp} {ty : TypeId} (h : fn.results = #[.tmp u, .cell p ty]) (tmps : Array Value) (P : Program) (w : World) (a1 : Addr) (x : Value)
    (hp : tmps.getD p undef = .pointer (some a1)) (l1 : (loadVar ty a1).run P w = .ok x w) :
    (results fn tmps).run P w = .ok (.tuple #[tmps.getD u undef, x]) w := by
  rw [Array.getD_eq_getD_getElem?] at hp
  simp only [results, h]
  simp [Result.andThen, hp, asAddr, l1]

set_option maxRecDepth 100000 in
set_option maxHeartbeats 8000000 in
theorem made_calls (A : Option Addr) (c : Nat) (l : List Ac) (w : World) (h : CellsG enA w A c l) (hl : l.length ≤ maxLen) :
    Calls Tryd.prog 8 #[.slice A l.length c] w fun e w' => ∃ v u, e = .returned (.tuple #[v, .agg (List.toArray u)]) ∧ IsO w' (resO l) v ∧ IsRO w' (resO l) u ∧ Below w.heap.size w w' := by
  have H := Lib.hid h
  have HL := Lib.hid hl
  clear h hl
  go_enter Tryd.func8, Tryd.ntmps8
  go_wp2
  go_loopw [4, 6] (RelM w l) (fun _ i _ => 40 - (intOf i).toNat)
  case atStart =>
    refine ⟨0, [.int .i64 0, .int .i64 0, .string ⟨#[]⟩, .int .i64 0, .slice none 0 0], rfl, Nat.zero_le _, by omega, rfl, rfl, Blk.newAt _ _ _ (by simp), (Blk.newAt _ _ _ rfl).alloc _, ((Below.refl _ _).alloc (Nat.le_refl _) _).alloc (by simp) _⟩
  case round =>
    obtain ⟨k, u, rfl, hk1, hk2, he, hr, hbr, hb0, hbw⟩ := hrel
    obtain ⟨t, ht⟩ : ∃ t, t = (l.take k).foldl doA none := ⟨_, rfl⟩
    rw [← ht] at he hr
    have HT := Lib.hid ht
    clear ht
    obtain ⟨n1, s1, m1, A1, l1, c1, rfl⟩ := hr.form
    by_cases hlt : k < l.length ∧ k < 40
    · obtain ⟨hlt1, hlt2⟩ := hlt
      have i1 : (k : Int) < (l.length : Int) := by omega
      have i2 : (k : Int) < 40 := by omega
      obtain ⟨b, o, rfl, hbs, hcell⟩ := H.out.at_ elA (by omega)
      obtain ⟨⟨d, st, no, n⟩, ha⟩ : ∃ a, l[k]? = some a := ⟨l[k], by simp [hlt1]⟩
      have q0 : wr.cell? ⟨b, o + k * 4, none⟩ = some (.int .i64 d) := (hbw.cell (p := ⟨b, o + (k * 4 + 0), none⟩) hbs).trans (hcell k 0 _ ha (by omega))
      have q1 : wr.cell? ⟨b, o + k * 4 + 1, none⟩ = some (.string st) := (hbw.cell (p := ⟨b, o + (k * 4 + 1), none⟩) hbs).trans (hcell k 1 _ ha (by omega))
      have q2 : wr.cell? ⟨b, o + k * 4 + 2, none⟩ = some (.int .i64 no) := (hbw.cell (p := ⟨b, o + (k * 4 + 2), none⟩) hbs).trans (hcell k 2 _ ha (by omega))
      have q3 : wr.cell? ⟨b, o + k * 4 + 3, none⟩ = some (.int .i64 n) := (hbw.cell (p := ⟨b, o + (k * 4 + 3), none⟩) hbs).trans (hcell k 3 _ ha (by omega))
      clear hcell
      have e1 : Below wr.heap.size wr (wr.alloc (.cells #[.int .i64 d, .string st, .int .i64 no, .int .i64 n] 56)) := (Below.refl _ _).alloc (Nat.le_refl _) _
      have HEnd := Lib.hid (fun (W2 w3 : World) (v' : Value) => made_end (w := w) (wr := wr) (W2 := W2) (w3 := w3) (v' := v') (.cells #[.int .i64 d, .string st, .int .i64 no, .int .i64 n] 56) rfl ha HT.out hlt2 rfl hbr hb0 hbw)
      have br1 := hbr.belowAll e1
      have HE := Lib.hid (show IsO (hid2 w.heap.size (wr.alloc (.cells #[.int .i64 d, .string st, .int .i64 no, .int .i64 n] 56))) t _ from he.agree (hid2_agree (fun j hj _ _ => e1.block j hj) hbr.lt br1.lt))
      have HD := Lib.hid (fun (W2 : World) (h12 : Below (wr.alloc (.cells #[.int .i64 d, .string st, .int .i64 no, .int .i64 n] 56)).heap.size (wr.alloc (.cells #[.int .i64 d, .string st, .int .i64 no, .int .i64 n] 56)) W2) => do_calls n no st W2 (hid2 w.heap.size W2) t _ d (hr.agree (hid2_agree (fun j hj _ _ => (Below.on e1 h12).block j hj) hbr.lt (br1.belowAll h12).lt)))
      have HF := Lib.hid (fun (W2 : World) (h12 : Below (wr.alloc (.cells #[.int .i64 d, .string st, .int .i64 no, .int .i64 n] 56)).heap.size (wr.alloc (.cells #[.int .i64 d, .string st, .int .i64 no, .int .i64 n] 56)) W2) => (show Blk W2 (w.heap.size + 1) _ 29 ∧ Blk W2 wr.heap.size #[.int .i64 d, .string st, .int .i64 no, .int .i64 n] 56 from ⟨br1.belowAll h12, (Blk.new wr _ 56).belowAll h12⟩))
      clear he hr hbr hb0 br1 e1 H HL
      by_cases h0 : d = 0
      · subst h0
        have h11 : Below (wr.alloc (.cells #[.int .i64 0, .string st, .int .i64 no, .int .i64 n] 56)).heap.size (wr.alloc (.cells #[.int .i64 0, .string st, .int .i64 no, .int .i64 n] 56)) (wr.alloc (.cells #[.int .i64 0, .string st, .int .i64 no, .int .i64 n] 56)) := Below.refl _ _
        go_wp2_with (first
          | (go_at_call 19; refine (new_calls n _).mono ?_; rintro e w2 ⟨v2, rfl, hv2, rfl⟩; have h12 := h11; obtain ⟨f1, f2⟩ := HF.out _ h12; obtain ⟨⟨x0, x1, x2, x3, x4⟩, _⟩ := five f1; obtain ⟨y0, y1, y2, y3⟩ := four f2)
          | (go_at_call 22; refine (HD.out _ h12).mono ?_; rintro e w3 ⟨r, rfl, ⟨k3, n3, s3, m3, A3, l3, c3, rfl⟩, hr3, h23⟩; have g1 := f1.belowAll h23; obtain ⟨⟨x5, x6, x7, x8, x9⟩, z5, z6, z7, z8, z9⟩ := five g1))
        go_roundw
        case rel => exact HEnd.out _ w3 _ h12 (fun W _ _ => hv2 W) h23 k3 n3 m3 s3 A3 l3 c3 hr3 _ (by go_num)
        case measure => simp [intOf]; omega
      have e0 : (d == 0) = false := by simpa using h0
      by_cases h1 : d = 1
      · subst h1
        have h11 : Below (wr.alloc (.cells #[.int .i64 1, .string st, .int .i64 no, .int .i64 n] 56)).heap.size (wr.alloc (.cells #[.int .i64 1, .string st, .int .i64 no, .int .i64 n] 56)) (wr.alloc (.cells #[.int .i64 1, .string st, .int .i64 no, .int .i64 n] 56)) := Below.refl _ _
        go_wp2_with (first
          | (go_at_call 17; refine (in_calls st no t _ _ _ HE.out).mono ?_; rintro e w2 ⟨v2, rfl, hm2, rfl⟩; have h12 := h11; obtain ⟨f1, f2⟩ := HF.out _ h12; obtain ⟨⟨x0, x1, x2, x3, x4⟩, _⟩ := five f1; obtain ⟨y0, y1, y2, y3⟩ := four f2)
          | (go_at_call 22; refine (HD.out _ h12).mono ?_; rintro e w3 ⟨r, rfl, ⟨k3, n3, s3, m3, A3, l3, c3, rfl⟩, hr3, h23⟩; have g1 := f1.belowAll h23; obtain ⟨⟨x5, x6, x7, x8, x9⟩, z5, z6, z7, z8, z9⟩ := five g1))
        go_roundw
        case rel => exact HEnd.out _ w3 _ h12 hm2 h23 k3 n3 m3 s3 A3 l3 c3 hr3 _ (by go_num)
        case measure => simp [intOf]; omega
      have e1 : (d == 1) = false := by simpa using h1
      by_cases h2 : d = 2
      · subst h2
        have h11 : Below (wr.alloc (.cells #[.int .i64 2, .string st, .int .i64 no, .int .i64 n] 56)).heap.size (wr.alloc (.cells #[.int .i64 2, .string st, .int .i64 no, .int .i64 n] 56)) (wr.alloc (.cells #[.int .i64 2, .string st, .int .i64 no, .int .i64 n] 56)) := Below.refl _ _
        go_wp2_with (first
          | (go_at_call 19; refine (new_calls n _).mono ?_; rintro e w2 ⟨v2, rfl, hv2, rfl⟩)
          | (go_at_call 18; refine (both_all t (freshO n) _ _ _ _ HE.out (hv2 _)).mono ?_; rintro e w2 ⟨v3, rfl, hm2, h12⟩; obtain ⟨f1, f2⟩ := HF.out _ h12; obtain ⟨⟨x0, x1, x2, x3, x4⟩, _⟩ := five f1; obtain ⟨y0, y1, y2, y3⟩ := four f2)
          | (go_at_call 22; refine (HD.out _ h12).mono ?_; rintro e w3 ⟨r, rfl, ⟨k3, n3, s3, m3, A3, l3, c3, rfl⟩, hr3, h23⟩; have g1 := f1.belowAll h23; obtain ⟨⟨x5, x6, x7, x8, x9⟩, z5, z6, z7, z8, z9⟩ := five g1))
        go_roundw
        case rel => exact HEnd.out _ w3 _ h12 hm2 h23 k3 n3 m3 s3 A3 l3 c3 hr3 _ (by go_num)
        case measure => simp [intOf]; omega
      have e2 : (d == 2) = false := by simpa using h2
      by_cases h3 : d = 3
      · subst h3
        have h11 : Below (wr.alloc (.cells #[.int .i64 3, .string st, .int .i64 no, .int .i64 n] 56)).heap.size (wr.alloc (.cells #[.int .i64 3, .string st, .int .i64 no, .int .i64 n] 56)) (wr.alloc (.cells #[.int .i64 3, .string st, .int .i64 no, .int .i64 n] 56)) := Below.refl _ _
        go_wp2_with (first
          | (go_at_call 19; refine (new_calls n _).mono ?_; rintro e w2 ⟨v2, rfl, hv2, rfl⟩)
          | (go_at_call 18; refine (both_all (freshO n) t _ _ _ _ (hv2 _) HE.out).mono ?_; rintro e w2 ⟨v3, rfl, hm2, h12⟩; obtain ⟨f1, f2⟩ := HF.out _ h12; obtain ⟨⟨x0, x1, x2, x3, x4⟩, _⟩ := five f1; obtain ⟨y0, y1, y2, y3⟩ := four f2)
          | (go_at_call 22; refine (HD.out _ h12).mono ?_; rintro e w3 ⟨r, rfl, ⟨k3, n3, s3, m3, A3, l3, c3, rfl⟩, hr3, h23⟩; have g1 := f1.belowAll h23; obtain ⟨⟨x5, x6, x7, x8, x9⟩, z5, z6, z7, z8, z9⟩ := five g1))
        go_roundw
        case rel => exact HEnd.out _ w3 _ h12 hm2 h23 k3 n3 m3 s3 A3 l3 c3 hr3 _ (by go_num)
        case measure => simp [intOf]; omega
      have e3 : (d == 3) = false := by simpa using h3
      have hsame : doA t (d, st, no, n) = t := by simp [doA, doO, h0, h1, h2, h3]
      have HS := Lib.hid hsame
      clear hsame
      have h12 : Below (wr.alloc (.cells #[.int .i64 d, .string st, .int .i64 no, .int .i64 n] 56)).heap.size (wr.alloc (.cells #[.int .i64 d, .string st, .int .i64 no, .int .i64 n] 56)) (wr.alloc (.cells #[.int .i64 d, .string st, .int .i64 no, .int .i64 n] 56)) := Below.refl _ _
      obtain ⟨f1, f2⟩ := HF.out _ h12
      obtain ⟨⟨x0, x1, x2, x3, x4⟩, _⟩ := five f1
      go_wp2_with (first
        | (go_at_call 22; refine (HD.out _ h12).mono ?_; rintro e w3 ⟨r, rfl, ⟨k3, n3, s3, m3, A3, l3, c3, rfl⟩, hr3, h23⟩; have g1 := f1.belowAll h23; obtain ⟨⟨x5, x6, x7, x8, x9⟩, z5, z6, z7, z8, z9⟩ := five g1))
      go_roundw
      case rel => exact HEnd.out _ w3 _ h12 (fun W g1 _ => by show IsO W (doA t (d, st, no, n)) _; rw [HS.out]; exact HE.out.agree g1) h23 k3 n3 m3 s3 A3 l3 c3 hr3 _ (by go_num)
      case measure => simp [intOf]; omega
    · have hr2 : resO l = t := by
        rw [HT.out, resO]
        rcases Nat.lt_or_ge k l.length with h5 | h5
        · have h6 : k = 40 := by omega
          rw [h6]
        · have h6 : k = l.length := by omega
          rw [h6, List.take_of_length_le (Nat.le_refl _), List.take_of_length_le (by omega)]
      have hfive := five hbr
      have hag := hid2_agree (w := wr) (w' := (((((wr.setCell ⟨w.heap.size, 0, none⟩ (.int .i64 (kindO t))).setCell ⟨w.heap.size, 1, none⟩ (.int .i64 n1)).setCell ⟨w.heap.size, 2, none⟩ (.string s1)).setCell ⟨w.heap.size, 3, none⟩ (.int .i64 m1)).setCell ⟨w.heap.size, 4, none⟩ (.slice A1 l1 c1)).drew) (fun j hj hj1 _ => set5_other wr hj1 (.int .i64 (kindO t)) (.int .i64 n1) (.string s1) (.int .i64 m1) (.slice A1 l1 c1)) hbr.lt (by have := set5_size wr w.heap.size (.int .i64 (kindO t)) (.int .i64 n1) (.string s1) (.int .i64 m1) (.slice A1 l1 c1); show _ < (((((wr.setCell ⟨w.heap.size, 0, none⟩ (.int .i64 (kindO t))).setCell ⟨w.heap.size, 1, none⟩ (.int .i64 n1)).setCell ⟨w.heap.size, 2, none⟩ (.string s1)).setCell ⟨w.heap.size, 3, none⟩ (.int .i64 m1)).setCell ⟨w.heap.size, 4, none⟩ (.slice A1 l1 c1)).heap.size; rw [this]; exact hbr.lt)
      have HBF := Lib.hid (show Blk (((((wr.setCell ⟨w.heap.size, 0, none⟩ (.int .i64 (kindO t))).setCell ⟨w.heap.size, 1, none⟩ (.int .i64 n1)).setCell ⟨w.heap.size, 2, none⟩ (.string s1)).setCell ⟨w.heap.size, 3, none⟩ (.int .i64 m1)).setCell ⟨w.heap.size, 4, none⟩ (.slice A1 l1 c1)).drew w.heap.size _ 29 from hb0.set5 (.int .i64 (kindO t)) (.int .i64 n1) (.string s1) (.int .i64 m1) (.slice A1 l1 c1))
      have HOF := Lib.hid (show IsO (((((wr.setCell ⟨w.heap.size, 0, none⟩ (.int .i64 (kindO t))).setCell ⟨w.heap.size, 1, none⟩ (.int .i64 n1)).setCell ⟨w.heap.size, 2, none⟩ (.string s1)).setCell ⟨w.heap.size, 3, none⟩ (.int .i64 m1)).setCell ⟨w.heap.size, 4, none⟩ (.slice A1 l1 c1)).drew (resO l) _ by rw [hr2]; exact (he.agree hag).show.show)
      have HRF := Lib.hid (show IsRO (((((wr.setCell ⟨w.heap.size, 0, none⟩ (.int .i64 (kindO t))).setCell ⟨w.heap.size, 1, none⟩ (.int .i64 n1)).setCell ⟨w.heap.size, 2, none⟩ (.string s1)).setCell ⟨w.heap.size, 3, none⟩ (.int .i64 m1)).setCell ⟨w.heap.size, 4, none⟩ (.slice A1 l1 c1)).drew (resO l) _ by rw [hr2]; exact (hr.agree hag).show.show)
      have HWF := Lib.hid (show Below w.heap.size w (((((wr.setCell ⟨w.heap.size, 0, none⟩ (.int .i64 (kindO t))).setCell ⟨w.heap.size, 1, none⟩ (.int .i64 n1)).setCell ⟨w.heap.size, 2, none⟩ (.string s1)).setCell ⟨w.heap.size, 3, none⟩ (.int .i64 m1)).setCell ⟨w.heap.size, 4, none⟩ (.slice A1 l1 c1)).drew from (below_set5 hbw (Nat.le_refl _) (.int .i64 (kindO t)) (.int .i64 n1) (.string s1) (.int .i64 m1) (.slice A1 l1 c1)).drew)
      obtain ⟨⟨x0, x1, x2, x3, x4⟩, _⟩ := hfive
      obtain ⟨⟨y0, y1, y2, y3, y4⟩, y5, y6, y7, y8, y9⟩ := five hb0
      by_cases h5 : k < l.length
      · have i1 : (k : Int) < (l.length : Int) := by omega
        have i2 : ¬ (k : Int) < 40 := by omega
        clear hr2 he hr hb0 hbw hlt hag
        go_wp2
        go_region
        all_goals
          go_wp2
          exact bodyPost_ret (results_tmp_cell (u := 2) (p := 3) (ty := 29) rfl _ _ _ _ _ rfl (lv29 HBF.out)) rfl ⟨_, _, rfl, by exact HOF.out, HRF.out, HWF.out⟩
      · have i1 : ¬ (k : Int) < (l.length : Int) := by omega
        clear hr2 he hr hb0 hbw hlt hag
        go_wp2
        go_region
        all_goals
          go_wp2
          exact bodyPost_ret (results_tmp_cell (u := 2) (p := 3) (ty := 29) rfl _ _ _ _ _ rfl (lv29 HBF.out)) rfl ⟨_, _, rfl, by exact HOF.out, HRF.out, HWF.out⟩
end Go.Proofs.YtgpaedknonkioaaDoor
