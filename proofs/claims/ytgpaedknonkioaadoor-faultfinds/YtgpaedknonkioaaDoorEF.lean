/-
  Closed facts on type assertions, methods and comparisons at the three kinds of errors. No conditions.
-/
import Derived.Test.YtgpaedknonkioaaDoorET
import Derived.LaidEql
import Derived.Stop.Asserts
import Derived.RowKitTokens
namespace Go.Proofs.YtgpaedknonkioaaDoor
open Go.ChangeShapes Go.WideShapes Go.ChangeAt Go.RowKit
set_option linter.unusedVariables false

theorem sev39 (v : Value) (x : TypeId) (w : World) : (Instr.typeAssert (.iface 39 v) x 81 true).run Tryd.prog w = .ok (.tuple #[.nilIface, .bool false]) w := run_typeAssert_lacksB Tryd.underlying81 (by kernel_rfl) (by kernel_rfl) v x w
theorem sev45 (v : Value) (x : TypeId) (w : World) : (Instr.typeAssert (.iface 45 v) x 81 true).run Tryd.prog w = .ok (.tuple #[.nilIface, .bool false]) w := run_typeAssert_lacksB Tryd.underlying81 (by kernel_rfl) (by kernel_rfl) v x w
theorem sev86 (v : Value) (x : TypeId) (w : World) : (Instr.typeAssert (.iface 86 v) x 81 true).run Tryd.prog w = .ok (.tuple #[.iface 86 v, .bool true]) w := run_typeAssert_hasB Tryd.underlying81 (by kernel_rfl) v x w
theorem is39 (v : Value) (x : TypeId) (w : World) : (Instr.typeAssert (.iface 39 v) x 92 true).run Tryd.prog w = .ok (.tuple #[.nilIface, .bool false]) w := run_typeAssert_lacksB Tryd.underlying92 (by kernel_rfl) (by kernel_rfl) v x w
theorem is45 (v : Value) (x : TypeId) (w : World) : (Instr.typeAssert (.iface 45 v) x 92 true).run Tryd.prog w = .ok (.tuple #[.nilIface, .bool false]) w := run_typeAssert_lacksB Tryd.underlying92 (by kernel_rfl) (by kernel_rfl) v x w
theorem is86 (v : Value) (x : TypeId) (w : World) : (Instr.typeAssert (.iface 86 v) x 92 true).run Tryd.prog w = .ok (.tuple #[.nilIface, .bool false]) w := run_typeAssert_lacksB Tryd.underlying92 (by kernel_rfl) (by kernel_rfl) v x w
theorem as39 (v : Value) (x : TypeId) (w : World) : (Instr.typeAssert (.iface 39 v) x 99 true).run Tryd.prog w = .ok (.tuple #[.nilIface, .bool false]) w := run_typeAssert_lacksB Tryd.underlying99 (by kernel_rfl) (by kernel_rfl) v x w
theorem as45 (v : Value) (x : TypeId) (w : World) : (Instr.typeAssert (.iface 45 v) x 99 true).run Tryd.prog w = .ok (.tuple #[.nilIface, .bool false]) w := run_typeAssert_lacksB Tryd.underlying99 (by kernel_rfl) (by kernel_rfl) v x w
theorem as86 (v : Value) (x : TypeId) (w : World) : (Instr.typeAssert (.iface 86 v) x 99 true).run Tryd.prog w = .ok (.tuple #[.nilIface, .bool false]) w := run_typeAssert_lacksB Tryd.underlying99 (by kernel_rfl) (by kernel_rfl) v x w
theorem un39 (v : Value) (x : TypeId) (w : World) : (Instr.typeAssert (.iface 39 v) x 95 true).run Tryd.prog w = .ok (.tuple #[.nilIface, .bool false]) w := run_typeAssert_lacksB Tryd.underlying95 (by kernel_rfl) (by kernel_rfl) v x w
theorem un45 (v : Value) (x : TypeId) (w : World) : (Instr.typeAssert (.iface 45 v) x 95 true).run Tryd.prog w = .ok (.tuple #[.iface 45 v, .bool true]) w := run_typeAssert_hasB Tryd.underlying95 (by kernel_rfl) v x w
theorem un86 (v : Value) (x : TypeId) (w : World) : (Instr.typeAssert (.iface 86 v) x 95 true).run Tryd.prog w = .ok (.tuple #[.nilIface, .bool false]) w := run_typeAssert_lacksB Tryd.underlying95 (by kernel_rfl) (by kernel_rfl) v x w
theorem us39 (v : Value) (x : TypeId) (w : World) : (Instr.typeAssert (.iface 39 v) x 80 true).run Tryd.prog w = .ok (.tuple #[.nilIface, .bool false]) w := run_typeAssert_lacksB Tryd.underlying80 (by kernel_rfl) (by kernel_rfl) v x w
theorem us86 (v : Value) (x : TypeId) (w : World) : (Instr.typeAssert (.iface 86 v) x 80 true).run Tryd.prog w = .ok (.tuple #[.iface 86 v, .bool true]) w := run_typeAssert_hasB Tryd.underlying80 (by kernel_rfl) v x w

theorem eq45 (x n : Value) (w : World) : (binOp .eql 26 (.iface 45 x) (.iface 39 n)).run Tryd.prog w = .ok (.bool false) w := run_eql_iface_types 45 39 x n Tryd.underlying26 (by decide) w
theorem eq86 (x n : Value) (w : World) : (binOp .eql 26 (.iface 86 x) (.iface 39 n)).run Tryd.prog w = .ok (.bool false) w := run_eql_iface_types 86 39 x n Tryd.underlying26 (by decide) w
theorem eq39 (a b : Int) (w : World) : (binOp .eql 26 (.iface 39 (.int .i64 a)) (.iface 39 (.int .i64 b))).run Tryd.prog w = .ok (.bool (a == b)) w := by
  have hc : (Tryd.prog.info? 39).map (·.comparable) = some true := by kernel_rfl
  obtain ⟨i, hi, hci⟩ := Option.map_eq_some_iff.1 hc
  have h : ∀ d : Nat, (Op.equalIn (d + 2) 26 (.iface 39 (.int .i64 a)) (.iface 39 (.int .i64 b))).run Tryd.prog w = .ok (a == b) w := fun d => by simp [Op.equalIn, run_underlying Tryd.underlying26, typeInfo, hi, hci]
  simp only [binOp]
  simp [Op.equal, Op.maxDepth, h 9998]
theorem nil_no (t : TypeId) (x : Value) (w : World) : (binOp .eql 26 (.iface t x) .nilIface).run Tryd.prog w = .ok (.bool false) w := by
  have h : ∀ d : Nat, (Op.equalIn (d + 1) 26 (.iface t x) .nilIface).run Tryd.prog w = .ok false w := fun d => by simp [Op.equalIn, run_underlying Tryd.underlying26]
  simp only [binOp]
  simp [Op.equal, Op.maxDepth, h 9999]
theorem nil_yes (w : World) : (binOp .eql 26 .nilIface .nilIface).run Tryd.prog w = .ok (.bool true) w := by
  have h : ∀ d : Nat, (Op.equalIn (d + 1) 26 .nilIface .nilIface).run Tryd.prog w = .ok true w := fun d => by simp [Op.equalIn, run_underlying Tryd.underlying26]
  simp only [binOp]
  simp [Op.equal, Op.maxDepth, h 9999]
theorem nil_not (t : TypeId) (x : Value) (w : World) : (binOp .neq 26 (.iface t x) .nilIface).run Tryd.prog w = .ok (.bool true) w := by
  have h : ∀ d : Nat, (Op.equalIn (d + 1) 26 (.iface t x) .nilIface).run Tryd.prog w = .ok false w := fun d => by simp [Op.equalIn, run_underlying Tryd.underlying26]
  simp only [binOp]
  simp [Op.equal, Op.maxDepth, h 9999]

/-- What a method of an error is. -/
theorem slipUn (v : Value) (w : World) : (Go.method 249 45 v "Unwrap").run Tryd.prog w = .ok (78, v) w := by kernel_rfl
theorem joinUn (v : Value) (w : World) : (Go.method 249 86 v "Unwrap").run Tryd.prog w = .ok (83, v) w := by kernel_rfl
end Go.Proofs.YtgpaedknonkioaaDoor
