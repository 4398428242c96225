/-
  The function without a body that Insert asks whether two slices overlap. No conditions.
-/
import Derived.Test.YtcdghipodnafmaaBase
import Derived.Lib.Overlaps
import Derived.Laws.Externs
namespace Go.Proofs.Ytcdghipodnafmaa
theorem ov_name : (Try.f34.name == "runtime.NumGoroutine") = false := by kernel_rfl
theorem ov_body : Try.f34.body.isNone = true := by kernel_rfl
theorem ov_next : Extern.findNext Try.f34 = none := by kernel_rfl
theorem ov_find : Extern.find Try.f34 = some (Extern.SlicesOverlaps.overlaps #[31, 31] #[4]) := by kernel_rfl
theorem run_ov (args : Array Value) (w : World) : (callFunc 34 args).run Try.prog w = ((Extern.SlicesOverlaps.overlaps #[31, 31] #[4] args).run Try.prog w).andThen fun v w' => .ok (.value v) w' :=
  run_callFunc_extern Try.func34 ov_name ov_body ov_next ov_find args w
end Go.Proofs.Ytcdghipodnafmaa
