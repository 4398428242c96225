/-
  Contracts of fault.New, In and of Both where one of the two is nil. No conditions.
-/
import Derived.Test.YtgpaedknonkioaaDoorEF
import Derived.Test.YtgpaedknonkioaaDoorEB
namespace Go.Proofs.YtgpaedknonkioaaDoor
open Go.ChangeShapes Go.WideShapes Go.ChangeAt Go.RowKit
set_option linter.unusedVariables false

theorem new_zero (w : World) : Calls Tryd.prog 19 #[.int .i64 0] w fun e w' => e = .returned .nilIface ∧ w' = w := by
  go_enter Tryd.func19, Tryd.ntmps19
  go_wp2
  go_ret
  exact ⟨rfl, rfl⟩
theorem new_some (n : Int) (h : n ≠ 0) (w : World) : Calls Tryd.prog 19 #[.int .i64 n] w fun e w' => e = .returned (.iface 39 (.int .i64 n)) ∧ w' = w := by
  have h1 : (n == 0) = false := by simpa using h
  go_enter Tryd.func19, Tryd.ntmps19
  go_wp2
  go_ret
  exact ⟨rfl, rfl⟩
theorem in_nil (s : ByteArray) (no : Int) (w : World) : Calls Tryd.prog 17 #[.string s, .int .i64 no, .nilIface] w fun e w' => e = .returned .nilIface ∧ w' = w := by
  go_enter Tryd.func17, Tryd.ntmps17
  go_wp2
  go_ret
  exact ⟨rfl, rfl⟩
theorem in_some (s : ByteArray) (no : Int) (t : TypeId) (x : Value) (w : World) : Calls Tryd.prog 17 #[.string s, .int .i64 no, .iface t x] w fun e w' => e = .returned (.iface 45 (.agg #[.string s, .int .i64 no, .iface t x])) ∧ w' = w := by
  have hn := nil_no t x
  go_enter Tryd.func17, Tryd.ntmps17
  go_wp2
  go_ret
  exact ⟨rfl, rfl⟩
theorem both_left (v : Value) (w : World) : Calls Tryd.prog 18 #[.nilIface, v] w fun e w' => e = .returned v ∧ w' = w := by
  go_enter Tryd.func18, Tryd.ntmps18
  go_wp2
  go_ret
  exact ⟨rfl, rfl⟩
theorem both_right (t : TypeId) (x : Value) (w : World) : Calls Tryd.prog 18 #[.iface t x, .nilIface] w fun e w' => e = .returned (.iface t x) ∧ w' = w := by
  have hn := nil_no t x
  go_enter Tryd.func18, Tryd.ntmps18
  go_wp2
  go_ret
  exact ⟨rfl, rfl⟩
end Go.Proofs.YtgpaedknonkioaaDoor
