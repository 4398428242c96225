/-
  Contracts of code and of the laws' example. Condition: strconv.ErrRange reads as an error.
-/
import Derived.Test.YtdgdkkapikopnaaDoorNNumber
namespace Go.Proofs.YtdgdkkapikopnaaDoor
open Go.ChangeShapes Go.WideShapes Go.ChangeAt Go.RowKit
set_option linter.unusedVariables false
set_option maxRecDepth 20000
theorem code_calls (n : Int) (w : World) : Calls Tryd.prog 12 #[.int .i64 n] w fun e w' => e = .returned (.int .i64 n) ∧ w = w' := by
  go_enter Tryd.func12, Tryd.ntmps12
  go_wp2
  go_ret
  exact ⟨rfl, rfl⟩
theorem ErrV.below {w w' : World} (h : ErrV w) (hb : Below w.heap.size w w') : ErrV w' := by
  obtain ⟨tp, p, hv⟩ := h
  exact ⟨tp, p, fun V hV => hv V (hb.trans (hV.mono hb.size))⟩
theorem live1 : numD [45, 48, 48, 55] = (-7, 0) := by decide +kernel
theorem live2 : numD [57, 50, 50, 51, 51, 55, 50, 48, 51, 54, 56, 53, 52, 55, 55, 53, 56, 48, 56] = (0, 8) := by decide +kernel
set_option maxHeartbeats 2000000 in
theorem live_calls (w : World) (hv : ErrV w) : Calls Tryd.prog 6 #[] w fun e w' => e = .returned (.bool true) ∧ Below w.heap.size w w' := by
  have H1 := Lib.hid (show Calls Tryd.prog 15 #[.string ⟨#[45, 48, 48, 55]⟩] w fun e w' => e = .returned (.tuple #[.int .i64 (-7), .int .i64 0]) ∧ Below w.heap.size w w' from by
    have h9 := number_calls ⟨#[45, 48, 48, 55]⟩ (by decide) w hv
    rw [show (⟨#[45, 48, 48, 55]⟩ : ByteArray).data.toList = [45, 48, 48, 55] from rfl, live1] at h9
    exact h9)
  have H2 := Lib.hid (show ∀ V, Below w.heap.size w V → Calls Tryd.prog 15 #[.string ⟨#[57, 50, 50, 51, 51, 55, 50, 48, 51, 54, 56, 53, 52, 55, 55, 53, 56, 48, 56]⟩] V fun e w' => e = .returned (.tuple #[.int .i64 0, .int .i64 8]) ∧ Below V.heap.size V w' from fun V hV => by
    have h9 := number_calls ⟨#[57, 50, 50, 51, 51, 55, 50, 48, 51, 54, 56, 53, 52, 55, 55, 53, 56, 48, 56]⟩ (by decide) V (hv.below hV)
    rw [show (⟨#[57, 50, 50, 51, 51, 55, 50, 48, 51, 54, 56, 53, 52, 55, 55, 53, 56, 48, 56]⟩ : ByteArray).data.toList = [57, 50, 50, 51, 51, 55, 50, 48, 51, 54, 56, 53, 52, 55, 55, 53, 56, 48, 56] from rfl, live2] at h9
    exact h9)
  clear hv
  go_enter Tryd.func6, Tryd.ntmps6
  go_wp2_with fail
  refine H1.out.mono ?_
  rintro e w1 ⟨rfl, hb1⟩
  have HB1 := Lib.hid hb1
  clear hb1
  dsimp only
  go_wp2_with fail
  refine (H2.out _ HB1.out).mono ?_
  rintro e w2 ⟨rfl, hb2⟩
  have HB2 := Lib.hid hb2
  clear hb2
  dsimp only
  go_wp2_with (go_at_call 12; refine (code_calls _ _).mono ?_; rintro e w' ⟨rfl, rfl⟩)
  go_ret
  exact ⟨rfl, HB1.out.trans (HB2.out.mono HB1.out.size)⟩
end Go.Proofs.YtdgdkkapikopnaaDoor
