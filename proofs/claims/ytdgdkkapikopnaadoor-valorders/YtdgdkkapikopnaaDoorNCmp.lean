/-
  Contracts of cmp.Compare at uint8 and int, and of cmp.Or at int. No conditions.
-/
import Derived.Test.YtdgdkkapikopnaaDoorNPlain
import Derived.Test.YtdgdkkapikopnaaDoorII
namespace Go.Proofs.YtdgdkkapikopnaaDoor
open Go.ChangeShapes Go.WideShapes Go.ChangeAt Go.RowKit
set_option linter.unusedVariables false
set_option maxRecDepth 20000
theorem nan8_calls (n : Int) (w : World) : Calls Tryd.prog 52 #[.int .u8 n] w fun e w' => e = .returned (.bool false) ∧ w = w' := by
  have h : (n != n) = false := by simp
  go_enter Tryd.func52, Tryd.ntmps52
  go_wp2
  go_ret
  exact ⟨rfl, rfl⟩
theorem nan_calls (n : Int) (w : World) : Calls Tryd.prog 53 #[.int .i64 n] w fun e w' => e = .returned (.bool false) ∧ w = w' := by
  have h : (n != n) = false := by simp
  go_enter Tryd.func53, Tryd.ntmps53
  go_wp2
  go_ret
  exact ⟨rfl, rfl⟩
theorem cmp8_calls (m n : Int) (w : World) : Calls Tryd.prog 33 #[.int .u8 m, .int .u8 n] w fun e w' => e = .returned (.int .i64 (cmpI m n)) ∧ w = w' := by
  have H := nan8_calls
  unfold cmpI
  by_cases h1 : m < n
  · rw [if_pos h1]
    go_enter Tryd.func33, Tryd.ntmps33
    go_wp2_with (go_at_call 52; refine (H _ _).mono ?_; rintro e w' ⟨rfl, rfl⟩)
    go_ret
    exact ⟨rfl, rfl⟩
  · rw [if_neg h1]
    have d1 : decide (m < n) = false := by simpa using h1
    by_cases h2 : n < m
    · rw [if_pos h2]
      have d2 : decide (n < m) = true := by simpa using h2
      go_enter Tryd.func33, Tryd.ntmps33
      go_wp2_with (go_at_call 52; refine (H _ _).mono ?_; rintro e w' ⟨rfl, rfl⟩)
      go_ret
      exact ⟨rfl, rfl⟩
    · rw [if_neg h2]
      have d2 : decide (n < m) = false := by simpa using h2
      go_enter Tryd.func33, Tryd.ntmps33
      go_wp2_with (go_at_call 52; refine (H _ _).mono ?_; rintro e w' ⟨rfl, rfl⟩)
      go_ret
      exact ⟨rfl, rfl⟩
theorem cmp_calls (m n : Int) (w : World) : Calls Tryd.prog 34 #[.int .i64 m, .int .i64 n] w fun e w' => e = .returned (.int .i64 (cmpI m n)) ∧ w = w' := by
  have H := nan_calls
  unfold cmpI
  by_cases h1 : m < n
  · rw [if_pos h1]
    go_enter Tryd.func34, Tryd.ntmps34
    go_wp2_with (go_at_call 53; refine (H _ _).mono ?_; rintro e w' ⟨rfl, rfl⟩)
    go_ret
    exact ⟨rfl, rfl⟩
  · rw [if_neg h1]
    have d1 : decide (m < n) = false := by simpa using h1
    by_cases h2 : n < m
    · rw [if_pos h2]
      have d2 : decide (n < m) = true := by simpa using h2
      go_enter Tryd.func34, Tryd.ntmps34
      go_wp2_with (go_at_call 53; refine (H _ _).mono ?_; rintro e w' ⟨rfl, rfl⟩)
      go_ret
      exact ⟨rfl, rfl⟩
    · rw [if_neg h2]
      have d2 : decide (n < m) = false := by simpa using h2
      go_enter Tryd.func34, Tryd.ntmps34
      go_wp2_with (go_at_call 53; refine (H _ _).mono ?_; rintro e w' ⟨rfl, rfl⟩)
      go_ret
      exact ⟨rfl, rfl⟩
end Go.Proofs.YtdgdkkapikopnaaDoor
