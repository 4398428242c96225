/-
  The contract of the law file's example: it holds. No conditions.
  TYPES BY NUMBER: 22 23 48
-/
import Derived.Test.YtimcolanmbklpaaRPutP
namespace Go.Proofs.Ytimcolanmbklpaa
open Go.ChangeShapes Go.WideShapes Go.ChangeAt Go.RowKit
set_option linter.unusedVariables false

/-- Two elements, laid by a literal. -/
theorem cells_two_strs (w : World) (s t : ByteArray) : CellsG enS (w.alloc (.cells #[.string s, .string t] 9)) (some ⟨w.heap.size, 0, none⟩) 2 [s, t] := by
  refine .inr ⟨_, rfl, fun j u hu => ?_⟩
  have hj : j < 2 := by
    rcases Nat.lt_or_ge j 2 with h | h
    · exact h
    · rw [List.getElem?_eq_none (by simp [cellsG, enS]; omega)] at hu; cases hu
  have hb := heap_alloc_new w (.cells #[.string s, .string t] 9)
  have : j = 0 ∨ j = 1 := by omega
  rcases this with rfl | rfl <;> simp [cellsG, enS] at hu <;> subst hu <;> (unfold World.cell?; simp only [Addr.add]; first | (rw [if_pos trivial]; simp only [hb]; rfl) | (rw [if_neg (by decide)]; simp only [hb]; rfl))

theorem live_put : putAll (fun s => wrT (sl s)) [] [⟨#[97]⟩, ⟨#[]⟩] = ([2, 1, 97, 0], 0) := by decide +kernel
theorem live_str : str [2, 1, 97, 0] = ⟨#[2, 1, 97, 0]⟩ := by decide +kernel

set_option maxRecDepth 20000 in
set_option maxHeartbeats 2000000 in
theorem live_calls (w : World) : Calls Try.prog 9 #[] w fun e w' => e = .returned (.bool true) ∧ Below w.heap.size w w' := by
  have hb0 : Below w.heap.size w (w.alloc (.cells #[.string ⟨#[97]⟩, .string ⟨#[]⟩] 9)) := (Below.refl _ _).alloc (Nat.le_refl _) _
  have HP := Lib.hid (putList_calls none 0 [] (some ⟨w.heap.size, 0, none⟩) 2 [⟨#[97]⟩, ⟨#[]⟩] (w.alloc (.cells #[.string ⟨#[97]⟩, .string ⟨#[]⟩] 9)) (Lies.nil _) (cells_two_strs w _ _) (by simp) (by intro s hs; simp at hs; rcases hs with rfl | rfl <;> decide) (by decide))
  rw [live_put] at HP
  go_enter Try.func9, Try.ntmps9
  go_wp2_with fail
  refine HP.out.mono ?_
  rintro e w1 ⟨A1, c1, rfl, hown1, hb1⟩
  dsimp only at hown1
  dsimp only
  have hs : (convert 24 9 (.slice A1 4 c1)).run Try.prog w1 = .ok (.string ⟨#[2, 1, 97, 0]⟩) w1 := by
    have := run_str (Lies.of_own hown1)
    rw [live_str] at this
    exact this
  have HO := Lib.hid hown1
  clear hown1
  go_wp2_with (go_at_call 12; refine (code_calls _ _).mono ?_; rintro e w7 ⟨rfl, rfl⟩)
  go_ret
  exact ⟨rfl, Below.on hb0 hb1⟩
end Go.Proofs.Ytimcolanmbklpaa
