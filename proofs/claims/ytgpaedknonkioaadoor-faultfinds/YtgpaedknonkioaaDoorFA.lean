/-
  The contract of the document's All. Conditions: an error of at most a million bytes of text, or none.
-/
import Derived.Test.YtgpaedknonkioaaDoorFR
namespace Go.Proofs.YtgpaedknonkioaaDoor
open Go.ChangeShapes Go.WideShapes Go.ChangeAt Go.RowKit
set_option linter.unusedVariables false

def enI (n : Int) : List Value := [.int .i64 n]
theorem elI : El 3 1 8 (.int .i64 0) enI := { info := by kernel_rfl, zero := rfl, pos := by decide, len := fun _ => rfl, one := fun x u hu => by simp [enI] at hu; subst hu; rfl }

def Ints (w : World) (r : List Int) (e : Ending) (w' : World) : Prop := ∃ A c, e = .returned (.slice A r.length c) ∧ OwnG 3 1 enI w.heap.size w' A c r ∧ Below w.heap.size w w'

theorem rall_none (n m : Int) (s : ByteArray) (w : World) : Calls Tryd.prog 9 #[.agg #[.int .i64 0, .int .i64 n, .string s, .int .i64 m, .slice none 0 0]] w (Ints w []) := by
  go_enter Tryd.func9, Tryd.ntmps9
  go_wp2
  refine wp_loop_rounds 1 ?_
  rw [rounds_succ]
  go_wp2
  go_ret
  exact ⟨none, 0, rfl, OwnG.nil _ _, (Below.refl _ _).alloc (Nat.le_refl _) _⟩
theorem rall_num (n m : Int) (s : ByteArray) (A : Option Addr) (l c : Nat) (w : World) : Calls Tryd.prog 9 #[.agg #[.int .i64 1, .int .i64 n, .string s, .int .i64 m, .slice A l c]] w (Ints w [n]) := by
  go_enter Tryd.func9, Tryd.ntmps9
  go_wp2
  go_ret
  have hb : Below w.heap.size w ((w.alloc (.cells #[.int .i64 1, .int .i64 n, .string s, .int .i64 m, .slice A l c] 29)).alloc (.cells #[.int .i64 n] 3)) := ((Below.refl _ _).alloc (Nat.le_refl _) _).alloc (by simp) _
  refine ⟨_, 1, rfl, ?_, hb⟩
  have := World.ownsRow_lit (base := w.heap.size) (size := 1) (e := 3) (w.alloc (.cells #[.int .i64 1, .int .i64 n, .string s, .int .i64 m, .slice A l c] 29)) #[.int .i64 n] 1 (by simp) (by unfold maxLen; omega) rfl
  simpa [OwnG, cellsG, enI] using this

/-- Cells from j on. -/
def At (w : World) (q j : Nat) (a b c d f : Value) : Prop := w.cell? ⟨q, j, none⟩ = some a ∧ w.cell? ⟨q, j + 1, none⟩ = some b ∧ w.cell? ⟨q, j + 2, none⟩ = some c ∧ w.cell? ⟨q, j + 3, none⟩ = some d ∧ w.cell? ⟨q, j + 4, none⟩ = some f
theorem At.below {w w' : World} {q j : Nat} {a b c d f : Value} (h : At w q j a b c d f) (hb : Below w.heap.size w w') : At w' q j a b c d f := by
  obtain ⟨h0, h1, h2, h3, h4⟩ := h
  exact ⟨(hb.cell (block_lt_of_cell h0)).trans h0, (hb.cell (block_lt_of_cell h1)).trans h1, (hb.cell (block_lt_of_cell h2)).trans h2, (hb.cell (block_lt_of_cell h3)).trans h3, (hb.cell (block_lt_of_cell h4)).trans h4⟩

set_option maxRecDepth 100000 in
set_option maxHeartbeats 2000000 in
theorem rall_stage (k n m k' n' m' : Int) (s s' : ByteArray) (A' : Option Addr) (q c l' c' : Nat) (R : List Int) (w : World) (hk : (k == 1) = false) (hR : R.length ≤ 10000000)
    (hat : At w q 0 (.int .i64 k') (.int .i64 n') (.string s') (.int .i64 m') (.slice A' l' c'))
    (HC : Hid (∀ W, Below w.heap.size w W → Calls Tryd.prog 9 #[.agg #[.int .i64 k', .int .i64 n', .string s', .int .i64 m', .slice A' l' c']] W (Ints W R))) :
    Calls Tryd.prog 9 #[.agg #[.int .i64 k, .int .i64 n, .string s, .int .i64 m, .slice (some ⟨q, 0, none⟩) 1 c]] w (Ints w R) := by
  have hd : Below w.heap.size w (w.alloc (.cells #[.int .i64 k, .int .i64 n, .string s, .int .i64 m, .slice (some ⟨q, 0, none⟩) 1 c] 29)) := (Below.refl _ _).alloc (Nat.le_refl _) _
  obtain ⟨x0, x1, x2, x3, x4⟩ := hat.below hd
  have b0 := Blk.new w #[.int .i64 k, .int .i64 n, .string s, .int .i64 m, .slice (some ⟨q, 0, none⟩) 1 c] 29
  have HC1 := Lib.hid (HC.out _ hd)
  have HB := Lib.hid b0
  clear HC hat b0
  go_enter Tryd.func9, Tryd.ntmps9
  go_wp2
  refine wp_loop_rounds 2 ?_
  rw [rounds_succ]
  go_wp2_with (first
    | (go_at_call 9; refine HC1.out.mono ?_; rintro e w1 ⟨A1, c1, rfl, ho1, hb1⟩; refine Hid.out ?_))
  refine Lib.hid ?_
  have hb2 := Below.on hd hb1
  have b1 := HB.out.belowAll hb1
  have y4 := b1.cell 4
  simp only [List.getElem?_toArray, List.getElem?_cons_succ, List.getElem?_cons_zero] at y4
  have HCS := Lib.hid ho1.cells
  go_wp2_with (at_builtin; go_must (refine wpList_append_vals elI rfl _ _ 32 Tryd.underlying32 rfl w.heap.size none 0 [] rfl (OwnG.nil _ _) A1 c1 R rfl HCS.out (by simp; omega) (by omega) hb2.size ?_); intro A3 c3 w3 R3 hR3 hown3 hgrow3; refine Hid.out ?_)
  refine Lib.hid ?_
  have b3 := b1.grown hgrow3 (by simp [Value.ownBlock])
  have z4 := b3.cell 4
  simp only [List.getElem?_toArray, List.getElem?_cons_succ, List.getElem?_cons_zero] at z4
  obtain rfl : R3 = R := by rw [hR3.out]; simp
  go_wp2
  rw [rounds_succ]
  go_wp2
  go_ret
  exact ⟨A3, c3, rfl, hown3, OwnG.grow (OwnG.nil (e := 3) (sz := 1) (en := enI) _ _) hb2 hgrow3 hb2.size⟩

set_option maxRecDepth 100000 in
set_option maxHeartbeats 4000000 in
theorem rall_two (k n m k1 n1 m1 k2 n2 m2 : Int) (s s1 s2 : ByteArray) (B1 B2 : Option Addr) (q c l1 d1 l2 d2 : Nat) (R1 R2 : List Int) (w : World) (hk : (k == 1) = false) (hR1 : R1.length ≤ 10000000) (hR2 : R2.length ≤ 10000000)
    (hat1 : At w q 0 (.int .i64 k1) (.int .i64 n1) (.string s1) (.int .i64 m1) (.slice B1 l1 d1)) (hat2 : At w q 5 (.int .i64 k2) (.int .i64 n2) (.string s2) (.int .i64 m2) (.slice B2 l2 d2))
    (HC : Hid (∀ W, Below w.heap.size w W → Calls Tryd.prog 9 #[.agg #[.int .i64 k1, .int .i64 n1, .string s1, .int .i64 m1, .slice B1 l1 d1]] W (Ints W R1)))
    (HD : Hid (∀ W, Below w.heap.size w W → Calls Tryd.prog 9 #[.agg #[.int .i64 k2, .int .i64 n2, .string s2, .int .i64 m2, .slice B2 l2 d2]] W (Ints W R2))) :
    Calls Tryd.prog 9 #[.agg #[.int .i64 k, .int .i64 n, .string s, .int .i64 m, .slice (some ⟨q, 0, none⟩) 2 c]] w (Ints w (R1 ++ R2)) := by
  have hd : Below w.heap.size w (w.alloc (.cells #[.int .i64 k, .int .i64 n, .string s, .int .i64 m, .slice (some ⟨q, 0, none⟩) 2 c] 29)) := (Below.refl _ _).alloc (Nat.le_refl _) _
  obtain ⟨x0, x1, x2, x3, x4⟩ := hat1.below hd
  have b0 := Blk.new w #[.int .i64 k, .int .i64 n, .string s, .int .i64 m, .slice (some ⟨q, 0, none⟩) 2 c] 29
  have HC1 := Lib.hid (HC.out _ hd)
  have HB := Lib.hid b0
  have HAT := Lib.hid hat2
  obtain ⟨R, hRR⟩ : ∃ R, R = R1 ++ R2 := ⟨_, rfl⟩
  rw [← hRR]
  have HR := Lib.hid hRR
  clear HC hat1 hat2 b0 hRR
  go_enter Tryd.func9, Tryd.ntmps9
  go_wp2
  refine wp_loop_rounds 3 ?_
  rw [rounds_succ]
  go_wp2_with (first
    | (go_at_call 9; refine HC1.out.mono ?_; rintro e w1 ⟨A1, c1, rfl, ho1, hb1⟩; refine Hid.out ?_))
  refine Lib.hid ?_
  have hb2 := Below.on hd hb1
  have b1 := HB.out.belowAll hb1
  have y4 := b1.cell 4
  simp only [List.getElem?_toArray, List.getElem?_cons_succ, List.getElem?_cons_zero] at y4
  have HCS := Lib.hid ho1.cells
  go_wp2_with (at_builtin; go_must (refine wpList_append_vals elI rfl _ _ 32 Tryd.underlying32 rfl w.heap.size none 0 [] rfl (OwnG.nil _ _) A1 c1 R1 rfl HCS.out (by simp; omega) (by omega) hb2.size ?_); intro A3 c3 w3 R3 hR3 hown3 hgrow3; refine Hid.out ?_)
  refine Lib.hid ?_
  have b3 := b1.grown hgrow3 (by simp [Value.ownBlock])
  have z4 := b3.cell 4
  simp only [List.getElem?_toArray, List.getElem?_cons_succ, List.getElem?_cons_zero] at z4
  obtain rfl : R3 = R1 := by rw [hR3.out]; simp
  have hb3 : Below w.heap.size w w3 := OwnG.grow (OwnG.nil (e := 3) (sz := 1) (en := enI) _ _) hb2 hgrow3 hb2.size
  obtain ⟨v0, v1, v2, v3, v4⟩ := HAT.out.below hb3
  have HD1 := Lib.hid (HD.out w3 hb3)
  clear x0 x1 x2 x3 x4 y4
  go_wp2_with (go_at_call 9; fail)
  rw [rounds_succ]
  go_wp2_with (first
    | (go_at_call 9; refine HD1.out.mono ?_; rintro e w4 ⟨A4, c4, rfl, ho4, hb4⟩; refine Hid.out ?_))
  refine Lib.hid ?_
  have hb5 := Below.on hb3 hb4
  have b5 := b3.belowAll hb4
  have HO3 := Lib.hid (hown3.below hb4)
  have HCS4 := Lib.hid ho4.cells
  go_wp2_with (at_builtin; go_must (refine wpList_append_vals elI rfl _ _ 32 Tryd.underlying32 rfl w.heap.size A3 c3 R3 rfl HO3.out A4 c4 R2 rfl HCS4.out (by omega) (by omega) hb5.size ?_); intro A6 c6 w6 R6 hR6 hown6 hgrow6; refine Hid.out ?_)
  refine Lib.hid ?_
  have hrow6 : (Value.slice A3 R3.length c3).ownBlock ≠ some w.heap.size := fun he => by
    obtain ⟨_, cur, q', hh⟩ := HO3.out.row _ he
    rw [show w4.heap[w.heap.size]? = _ from b5] at hh
    injection hh with hh
    injection hh with _ h3
    exact absurd h3 (by decide)
  have b6 := b5.grown hgrow6 hrow6
  have t4 := b6.cell 4
  simp only [List.getElem?_toArray, List.getElem?_cons_succ, List.getElem?_cons_zero] at t4
  go_wp2
  rw [rounds_succ]
  go_wp2
  go_ret
  have he : R = R6 := by rw [HR.out, hR6.out]
  rw [he]
  exact ⟨A6, c6, rfl, hown6, HO3.out.grow hb5 hgrow6 hb5.size⟩

theorem at0 {w : World} {q : Nat} {a b c d f : Value} (h : ∀ j x, [a, b, c, d, f][j]? = some x → w.cell? ⟨q, j, none⟩ = some x) : At w q 0 a b c d f := ⟨h 0 _ rfl, h 1 _ rfl, h 2 _ rfl, h 3 _ rfl, h 4 _ rfl⟩
theorem at5 {w : World} {q : Nat} {a b c d f : Value} (h : ∀ j x, [a, b, c, d, f][j]? = some x → w.cell? ⟨q, 5 + j, none⟩ = some x) : At w q 5 a b c d f := ⟨h 0 _ rfl, h 1 _ rfl, h 2 _ rfl, h 3 _ rfl, h 4 _ rfl⟩

theorem rall_calls : ∀ (t : Er) (v : List Value) (w : World), IsR w t v → t.wt ≤ 10000000 → Calls Tryd.prog 9 #[.agg v.toArray] w (Ints w t.all)
  | .num n, v, w, h, hw => by
    obtain rfl := h
    exact rall_num n 0 _ none 0 0 w
  | .stage s no t, v, w, ⟨q, c, hv, u, hu, hc⟩, hw => by
    subst hv
    simp only [Er.wt] at hw
    obtain ⟨n1, s1, m1, A1, l1, c1, rfl⟩ := hu.form
    exact rall_stage 2 0 no t.kind n1 m1 s s1 A1 q c l1 c1 t.all w rfl (by have := t.all_le; omega) (at0 hc) (Lib.hid fun W hW => rall_calls t _ W (hu.below hW) (by omega))
  | .two a b, v, w, ⟨q, c, hv, u, u', hu, hu', hc, hc'⟩, hw => by
    subst hv
    simp only [Er.wt] at hw
    obtain ⟨n1, s1, m1, A1, l1, c1, rfl⟩ := hu.form
    obtain ⟨n2, s2, m2, A2, l2, c2, rfl⟩ := hu'.form
    exact rall_two 3 0 0 a.kind n1 m1 b.kind n2 m2 _ s1 s2 A1 A2 q c l1 c1 l2 c2 a.all b.all w rfl (by have := a.all_le; omega) (by have := b.all_le; omega) (at0 hc) (at5 hc') (Lib.hid fun W hW => rall_calls a _ W (hu.below hW) (by omega)) (Lib.hid fun W hW => rall_calls b _ W (hu'.below hW) (by omega))
  termination_by t => t
end Go.Proofs.YtgpaedknonkioaaDoor
