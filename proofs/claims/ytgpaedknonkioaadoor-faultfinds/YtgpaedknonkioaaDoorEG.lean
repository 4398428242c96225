/-
  Closed facts on type assertions to the concrete types of errors. No conditions.
-/
import Derived.Test.YtgpaedknonkioaaDoorEF
namespace Go.Proofs.YtgpaedknonkioaaDoor
open Go.ChangeShapes Go.WideShapes Go.ChangeAt Go.RowKit
set_option linter.unusedVariables false
theorem n39 (v : Value) (x : TypeId) (w : World) : (Instr.typeAssert (.iface 39 v) x 39 true).run Tryd.prog w = .ok (.tuple #[v, .bool true]) w := by kernel_rfl
theorem n45 (v : Value) (x : TypeId) (w : World) : (Instr.typeAssert (.iface 45 v) x 39 true).run Tryd.prog w = .ok (.tuple #[.int .i64 0, .bool false]) w := by kernel_rfl
theorem n86 (v : Value) (x : TypeId) (w : World) : (Instr.typeAssert (.iface 86 v) x 39 true).run Tryd.prog w = .ok (.tuple #[.int .i64 0, .bool false]) w := by kernel_rfl
theorem n0 (x : TypeId) (w : World) : (Instr.typeAssert .nilIface x 39 true).run Tryd.prog w = .ok (.tuple #[.int .i64 0, .bool false]) w := by kernel_rfl
theorem s39 (v : Value) (x : TypeId) (w : World) : (Instr.typeAssert (.iface 39 v) x 45 true).run Tryd.prog w = .ok (.tuple #[.agg #[.string ⟨#[]⟩, .int .i64 0, .nilIface], .bool false]) w := by kernel_rfl
theorem s45 (v : Value) (x : TypeId) (w : World) : (Instr.typeAssert (.iface 45 v) x 45 true).run Tryd.prog w = .ok (.tuple #[v, .bool true]) w := by kernel_rfl
theorem s86 (v : Value) (x : TypeId) (w : World) : (Instr.typeAssert (.iface 86 v) x 45 true).run Tryd.prog w = .ok (.tuple #[.agg #[.string ⟨#[]⟩, .int .i64 0, .nilIface], .bool false]) w := by kernel_rfl
theorem s0 (x : TypeId) (w : World) : (Instr.typeAssert .nilIface x 45 true).run Tryd.prog w = .ok (.tuple #[.agg #[.string ⟨#[]⟩, .int .i64 0, .nilIface], .bool false]) w := by kernel_rfl
theorem sev0 (x : TypeId) (w : World) : (Instr.typeAssert .nilIface x 81 true).run Tryd.prog w = .ok (.tuple #[.nilIface, .bool false]) w := by kernel_rfl
end Go.Proofs.YtgpaedknonkioaaDoor
