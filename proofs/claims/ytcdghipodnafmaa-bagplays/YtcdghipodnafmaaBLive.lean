/-
  Contract of the law's live: it answers true. No conditions.
-/
import Derived.Test.YtcdghipodnafmaaBNew
namespace Go.Proofs.Ytcdghipodnafmaa
open Go.ChangeShapes Go.WideShapes Go.ChangeAt Go.RowKit
set_option linter.unusedVariables false
def g1 : Bg := (sendS (newG 2 9) 0 1 [5]).1
def g2 : Bg := (twiceS g1 0).1
theorem g1_eq : sendS (newG 2 9) 0 1 [5] = (g1, 0) := by kernel_rfl
theorem g2_eq : twiceS g1 0 = (g2, true) := by kernel_rfl
theorem g2_len : g2.ms.length = 2 := by decide +kernel
theorem g2_take : (takeS g2 1).2 = (⟨0, 1, [5]⟩, true) := by kernel_rfl
theorem low_n : Low (newG 2 9) := ⟨by decide, by decide, by decide⟩
theorem low1 : Low g1 := ⟨by decide +kernel, by decide +kernel, by decide +kernel⟩
theorem low2 : Low g2 := ⟨by decide +kernel, by decide +kernel, by decide +kernel⟩
set_option maxRecDepth 20000 in
set_option maxHeartbeats 4000000 in
theorem live_calls (w : World) : Calls Try.prog 7 #[] w fun e w' => e = .returned (.bool true) ∧ Below w.heap.size w w' := by
  have HN := Lib.hid (new_calls 2 9 w (by omega) (by omega) (by omega) (by omega))
  have hs5 : (str [5]).toList = [5] := by decide +kernel
  unfold at_ at HN
  go_enter Try.func7, Try.ntmps7
  go_wp2_with fail
  refine HN.out.mono ?_
  rintro e w1 ⟨rfl, hB1, hb1⟩
  have HC0 := Lib.hid (code_calls 0 w1)
  have HB1 := Lib.hid hB1
  have HBW1 := Lib.hid hb1
  clear hB1 hb1
  go_wp2_with fail
  refine HC0.out.mono ?_
  rintro e w1' ⟨rfl, h1⟩
  subst w1'
  have hbx := below_one w1 (.cells #[.int .u8 5] 5)
  have HS := Lib.hid (send_calls (HB1.out.below hbx) low_n 0 1 (some ⟨w1.heap.size, 0, none⟩) 1 [5] (lies_one w1 5) (by intro x hx; simp at hx; subst hx; decide) (by decide))
  rw [g1_eq] at HS
  unfold at_ at HS
  have HBX := Lib.hid hbx
  clear hbx
  go_wp2_with fail
  refine HS.out.mono ?_
  rintro e w2 ⟨rfl, S2, hB2, ht2, hsub2⟩
  dsimp only
  have hbw2 : Touch (fun k => k = w.heap.size) w w2 := (Touch.of_below (HBW1.out.trans (HBX.out.mono HBW1.out.size))).more ht2
  have hs2 : ∀ k, S2 k → w.heap.size ≤ k := fun k hk => by
    rcases hsub2 k hk with h | h
    · rw [show k = w.heap.size from h]; exact Nat.le_refl _
    · have h1 := HBW1.out.size; have h2 := HBX.out.size; omega
  have HT2 := Lib.hid (hbw2.below (fun k hk => (Nat.le_of_eq (show k = w.heap.size from hk).symm)) (Nat.le_refl _))
  have HS2 := Lib.hid hs2
  have HTW := Lib.hid (twice_calls hB2 low1 0)
  rw [g2_eq] at HTW
  unfold at_ at HTW
  clear hB2 ht2 hsub2 hbw2 hs2
  go_wp2_with fail
  refine HTW.out.mono ?_
  rintro e w3 ⟨rfl, S3, hB3, ht3, hsub3⟩
  dsimp only
  have HS3 := Lib.hid (show ∀ k, S3 k → w.heap.size ≤ k from fun k hk => by
    rcases hsub3 k hk with h | h
    · exact HS2.out k h
    · have := HT2.out.size; omega)
  have HT3 := Lib.hid (HT2.out.trans (ht3.below HS2.out HT2.out.size))
  have HL := Lib.hid (len_calls hB3)
  rw [g2_len] at HL
  have HTK := Lib.hid (take_calls hB3 low2 1)
  unfold at_ at HL HTK
  clear hB3 ht3 hsub3
  go_wp2_with fail
  refine HL.out.mono ?_
  rintro e w3' ⟨rfl, h1⟩
  subst w3'
  dsimp only
  go_wp2_with fail
  refine HTK.out.mono ?_
  rintro e w4 ⟨S4, A4, c4, rfl, hB4, ht4, hsub4, hout⟩
  rw [g2_take] at hout ⊢
  dsimp only
  have HT4 := Lib.hid (HT3.out.trans (ht4.below HS3.out HT3.out.size))
  have b6 := Blk.new w4 #[.int .i64 0, .int .i64 1, .slice A4 1 c4] 48
  obtain ⟨x0, x1, x2⟩ := b6.cells3
  have hcv := run_str (hout.1.below (below_one w4 (.cells #[.int .i64 0, .int .i64 1, .slice A4 1 c4] 48)))
  have HC4 := Lib.hid (code_calls 0 (w4.alloc (.cells #[.int .i64 0, .int .i64 1, .slice A4 1 c4] 48)))
  clear hB4 ht4 hsub4 hout b6
  simp only [List.length_cons, List.length_nil] at hcv ⊢
  go_wp2_with fail
  refine HC4.out.mono ?_
  rintro e w5 ⟨rfl, h1⟩
  subst w5
  go_wp2
  go_ret
  exact ⟨rfl, HT4.out.trans ((below_one w4 _).mono HT4.out.size)⟩
end Go.Proofs.Ytcdghipodnafmaa
