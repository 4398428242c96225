/-
  Contracts of the program's Order, of the document's Order and Same. Conditions: values of 64 bits and texts as long as an input can be.
-/
import Derived.Test.YtdgdkkapikopnaaDoorNOr
import Derived.Deep.RegionLaw
import Derived.Deep.Cut
import Derived.Deep.CutBlock
import Derived.Deep.CutRange
namespace Go.Proofs.YtdgdkkapikopnaaDoor
open Go.ChangeShapes Go.WideShapes Go.ChangeAt Go.RowKit
set_option linter.unusedVariables false
set_option maxRecDepth 20000
theorem or3_ord (a b : Vl) : or3 (cmpI (plainV a).k (plainV b).k) (cmpI (plainV a).n (plainV b).n) (cmpT (sl (plainV a).s) (sl (plainV b).s)) = ordV a b := by
  unfold plainV ordV
  by_cases h1 : a.k = 0
  · by_cases h2 : b.k = 0
    · rw [if_pos h1, if_pos h2, if_pos h1, if_pos h2]
      show or3 (cmpI 0 0) (cmpI a.n b.n) (cmpT (sl ⟨#[]⟩) (sl ⟨#[]⟩)) = _
      rw [cmpT_same]
      unfold or3
      rw [if_pos (by rfl)]
      split
      · rename_i h; exact h.symm
      · rfl
    · rw [if_pos h1, if_neg h2, if_pos h1, if_neg h2]; rfl
  · by_cases h2 : b.k = 0
    · rw [if_neg h1, if_pos h2, if_neg h1, if_pos h2]; rfl
    · rw [if_neg h1, if_neg h2, if_neg h1, if_neg h2]; rfl
set_option maxHeartbeats 2000000 in
theorem order_calls (a b : Vl) (w : World) : Calls Tryd.prog 13 #[a.v, b.v] w fun e w' => e = .returned (.int .i64 (ordV a b)) ∧ Below w.heap.size w w' := by
  obtain ⟨r, hr⟩ : ∃ r, r = ordV a b := ⟨_, rfl⟩
  rw [← hr]
  rw [← or3_ord] at hr
  have HP := Lib.hid (show ∀ (k n : Int) (s : ByteArray) (W : World), Calls Tryd.prog 21 #[.agg #[.int .u8 k, .int .i64 n, .string s]] W fun e w' => e = .returned (.agg #[.int .u8 (plainV ⟨k, n, s⟩).k, .int .i64 (plainV ⟨k, n, s⟩).n, .string (plainV ⟨k, n, s⟩).s]) ∧ Below W.heap.size W w' from fun k n s W => plain_calls ⟨k, n, s⟩ W)
  obtain ⟨k, n, s⟩ := a
  obtain ⟨k', n', s'⟩ := b
  have HRR := Lib.hid hr
  clear hr
  unfold Vl.v
  dsimp only
  have b4 := Blk.new w #[.int .u8 k, .int .i64 n, .string s] 23
  have b5 := Blk.newAt (w.alloc (.cells #[.int .u8 k, .int .i64 n, .string s] 23)) #[.int .u8 k', .int .i64 n', .string s'] 23 (g := w.heap.size + 1) (by simp)
  have b6 := b4.alloc (.cells #[.int .u8 k', .int .i64 n', .string s'] 23)
  have HB5 := Lib.hid b5
  have HB6 := Lib.hid b6
  have HF := Lib.hid (show ∀ W : World, ∀ V : World, Blk W w.heap.size #[.int .u8 k, .int .i64 n, .string s] 23 → Blk W (w.heap.size + 1) #[.int .u8 k', .int .i64 n', .string s'] 23 → Below W.heap.size W V → Blk V w.heap.size #[.int .u8 k, .int .i64 n, .string s] 23 ∧ Blk V (w.heap.size + 1) #[.int .u8 k', .int .i64 n', .string s'] 23 from fun W V h1 h2 hb => ⟨h1.belowAll hb, h2.belowAll hb⟩)
  have HF0 := Lib.hid (show ∀ V : World, Below ((w.alloc (.cells #[.int .u8 k, .int .i64 n, .string s] 23)).alloc (.cells #[.int .u8 k', .int .i64 n', .string s'] 23)).drew.heap.size ((w.alloc (.cells #[.int .u8 k, .int .i64 n, .string s] 23)).alloc (.cells #[.int .u8 k', .int .i64 n', .string s'] 23)).drew V → Blk V w.heap.size #[.int .u8 k, .int .i64 n, .string s] 23 ∧ Blk V (w.heap.size + 1) #[.int .u8 k', .int .i64 n', .string s'] 23 from fun V hb => ⟨HB6.out.drew.belowAll hb, HB5.out.drew.belowAll hb⟩)
  obtain ⟨x0, x1, x2⟩ := b6.cells3
  obtain ⟨y0, y1, y2⟩ := b5.cells3
  clear b4 b5 b6
  go_enter Tryd.func13, Tryd.ntmps13
  go_wp2_with fail
  go_region_law (go_simp; refine (HP.out _ _ _ _).mono ?_; rintro e w1 ⟨rfl, hb1⟩; first | (have hf := HF.out _ _ HX1.out HY1.out hb1; have HX2 := Lib.hid hf.1; have HY2 := Lib.hid hf.2; obtain ⟨u0, u1, u2⟩ := hf.1.cells3; obtain ⟨v0, v1, v2⟩ := hf.2.cells3; obtain ⟨g0, g1, g2⟩ := hf.1.free3; obtain ⟨h0, h1, h2⟩ := hf.2.free3; have HBB2 := Lib.hid hb1; clear hf hb1) | (have hf := HF0.out _ hb1; have HX1 := Lib.hid hf.1; have HY1 := Lib.hid hf.2; obtain ⟨p0, p1, p2⟩ := hf.1.cells3; obtain ⟨q0, q1, q2⟩ := hf.2.cells3; have HBB1 := Lib.hid hb1; clear hf hb1))
  all_goals
    have hne : w.heap.size ≠ w.heap.size + 1 := by omega
    have bX := (((HX2.out.set3 (.int .u8 (plainV ⟨k, n, s⟩).k) (.int .i64 (plainV ⟨k, n, s⟩).n) (.string (plainV ⟨k, n, s⟩).s)).other (a := ⟨w.heap.size + 1, 0, none⟩) hne (.int .u8 (plainV ⟨k', n', s'⟩).k)).other (a := ⟨w.heap.size + 1, 1, none⟩) hne (.int .i64 (plainV ⟨k', n', s'⟩).n)).other (a := ⟨w.heap.size + 1, 2, none⟩) hne (.string (plainV ⟨k', n', s'⟩).s)
    have bY := (((HY2.out.other (a := ⟨w.heap.size, 0, none⟩) hne.symm (.int .u8 (plainV ⟨k, n, s⟩).k)).other (a := ⟨w.heap.size, 1, none⟩) hne.symm (.int .i64 (plainV ⟨k, n, s⟩).n)).other (a := ⟨w.heap.size, 2, none⟩) hne.symm (.string (plainV ⟨k, n, s⟩).s)).set3 (.int .u8 (plainV ⟨k', n', s'⟩).k) (.int .i64 (plainV ⟨k', n', s'⟩).n) (.string (plainV ⟨k', n', s'⟩).s)
    have hB : Below w.heap.size w ((((((w1.setCell ⟨w.heap.size, 0, none⟩ (.int .u8 (plainV ⟨k, n, s⟩).k)).setCell ⟨w.heap.size, 1, none⟩ (.int .i64 (plainV ⟨k, n, s⟩).n)).setCell ⟨w.heap.size, 2, none⟩ (.string (plainV ⟨k, n, s⟩).s)).setCell ⟨w.heap.size + 1, 0, none⟩ (.int .u8 (plainV ⟨k', n', s'⟩).k)).setCell ⟨w.heap.size + 1, 1, none⟩ (.int .i64 (plainV ⟨k', n', s'⟩).n)).setCell ⟨w.heap.size + 1, 2, none⟩ (.string (plainV ⟨k', n', s'⟩).s)) := below_set3 (below_set3 (((below_two w _ _).trans ((below_drew _).mono (below_two w _ _).size)).trans ((HBB1.out.mono (below_two w _ _).size).trans (HBB2.out.mono (Nat.le_trans (below_two w _ _).size HBB1.out.size)))) (Nat.le_refl _) _ _ _) (by omega) _ _ _
    obtain ⟨W6, hW6⟩ : ∃ W6, W6 = ((((((w1.setCell ⟨w.heap.size, 0, none⟩ (.int .u8 (plainV ⟨k, n, s⟩).k)).setCell ⟨w.heap.size, 1, none⟩ (.int .i64 (plainV ⟨k, n, s⟩).n)).setCell ⟨w.heap.size, 2, none⟩ (.string (plainV ⟨k, n, s⟩).s)).setCell ⟨w.heap.size + 1, 0, none⟩ (.int .u8 (plainV ⟨k', n', s'⟩).k)).setCell ⟨w.heap.size + 1, 1, none⟩ (.int .i64 (plainV ⟨k', n', s'⟩).n)).setCell ⟨w.heap.size + 1, 2, none⟩ (.string (plainV ⟨k', n', s'⟩).s)) := ⟨_, rfl⟩
    rw [← hW6] at bX bY hB ⊢
    generalize (plainV ⟨k, n, s⟩).k = ka at *
    generalize (plainV ⟨k, n, s⟩).n = na at *
    generalize (plainV ⟨k, n, s⟩).s = sa at *
    generalize (plainV ⟨k', n', s'⟩).k = kb at *
    generalize (plainV ⟨k', n', s'⟩).n = nb at *
    generalize (plainV ⟨k', n', s'⟩).s = sb at *
    have HRF := Lib.hid (show r = or3 (cmpI ka kb) (cmpI na nb) (cmpT (sl sa) (sl sb)) from HRR.out)
    have HW6 := Lib.hid hB
    have HBX := Lib.hid bX
    have HBY := Lib.hid bY
    clear HP HF HF0 HB5 HB6 HX1 HX2 HY1 HY2 HBB1 HBB2 hW6 hB hne HRR
    clear x0 x1 x2 y0 y1 y2 p0 p1 p2 q0 q1 q2 u0 u1 u2 v0 v1 v2 g0 g1 g2 h0 h1 h2
    obtain ⟨c0, c1, c2⟩ := bX.cells3
    obtain ⟨d0, d1, d2⟩ := bY.cells3
    clear bX bY
    generalize hN : w.heap.size = N at *
    have HN := Lib.hid hN
    clear hN
    go_wp2_with fail
    refine wp_region_still_tail 15 (by kernel_rfl) (by kernel_rfl) ?_
    change wpStill _ _ W6.drew (fun a' => wpList _ _ _ _ a' W6.drew) _ _
    simp only [List.take_succ_cons, List.take_zero, List.drop_succ_cons, List.drop_zero]
    repeat still_step
    still_call ((cmp8_calls _ _ _).mono (fun e w' ⟨he, hw⟩ => ⟨he, hw.symm⟩))
    repeat still_step
    still_call ((cmp_calls _ _ _).mono (fun e w' ⟨he, hw⟩ => ⟨he, hw.symm⟩))
    repeat still_step
    still_call ((compare_calls _ _ _).mono (fun e w' ⟨he, hw⟩ => ⟨he, hw.symm⟩))
    repeat still_step
    refine wpStill_nil ?_
    have HO := Lib.hid (or_calls W6.heap.size (cmpI ka kb) (cmpI na nb) (cmpT (sl sa) (sl sb)) (W6.drew.alloc (.cells #[.int .i64 (cmpI ka kb), .int .i64 (cmpI na nb), .int .i64 (cmpT (sl sa) (sl sb))] 3)) (Blk.newAt _ _ _ rfl))
    rw [← HRF.out] at HO
    go_wp2_with fail
    refine HO.out.mono ?_
    rintro e w9 ⟨rfl, rfl⟩
    dsimp only
    go_wp2
    go_ret
    refine ⟨rfl, ?_⟩
    rw [HN.out]
    have hs : N ≤ W6.heap.size := by have := HW6.out.size; exact Nat.le_trans (Nat.le_of_eq HN.out.symm) this
    exact HW6.out.drew.alloc hs _
end Go.Proofs.YtdgdkkapikopnaaDoor
