/-
  Closed facts and small laws on the model's entries for internal/reflectlite, at the targets that are met here: a number, a stage. Conditions: as in the premises.
-/
import Derived.Test.YtgpaedknonkioaaDoorEH
namespace Go.Proofs.YtgpaedknonkioaaDoor
open Go.ChangeShapes Go.WideShapes Go.ChangeAt Go.RowKit Go.Extern.Stop Go.Stop Go.Extern
set_option linter.unusedVariables false

/-- The Value of a pointer: the type's handle, where its own copy lies, its flags. -/
def refV (T : Nat) (a : Addr) (fl : Int) : Value := .agg #[.pointer (some ⟨4, T, none⟩), .pointer (some a), .int .u64 fl]
def rty (T : Nat) : Value := .iface 90 (.agg #[.pointer (some ⟨4, T, none⟩)])

theorem valueOf53 (t : Addr) (w : World) : (callFunc 35 #[.iface 53 (.pointer (some t))]).run Tryd.prog w = .ok (.value (.agg #[.pointer (some ⟨4, 53, none⟩), .pointer (some ⟨w.heap.size, 0, none⟩), .int .u64 150])) (w.alloc (.cells #[.pointer (some t)] 53)) := by kernel_rfl
theorem valueOf52 (t : Addr) (w : World) : (callFunc 35 #[.iface 52 (.pointer (some t))]).run Tryd.prog w = .ok (.value (.agg #[.pointer (some ⟨4, 52, none⟩), .pointer (some ⟨w.heap.size, 0, none⟩), .int .u64 150])) (w.alloc (.cells #[.pointer (some t)] 52)) := by kernel_rfl
theorem type53 (a : Addr) (w : World) : (callFunc 36 #[.agg #[.pointer (some ⟨4, 53, none⟩), .pointer (some a), .int .u64 150]]).run Tryd.prog w = .ok (.value (.iface 90 (.agg #[.pointer (some ⟨4, 53, none⟩)]))) w := by kernel_rfl
theorem type52 (a : Addr) (w : World) : (callFunc 36 #[.agg #[.pointer (some ⟨4, 52, none⟩), .pointer (some a), .int .u64 150]]).run Tryd.prog w = .ok (.value (.iface 90 (.agg #[.pointer (some ⟨4, 52, none⟩)]))) w := by kernel_rfl
theorem methodKind (h : Value) (w : World) : (Go.method 249 90 (.agg #[h]) "Kind").run Tryd.prog w = .ok (73, h) w := by kernel_rfl
theorem methodElem (h : Value) (w : World) : (Go.method 249 90 (.agg #[h]) "Elem").run Tryd.prog w = .ok (87, .agg #[h]) w := by kernel_rfl
theorem methodImplements (h : Value) (w : World) : (Go.method 249 90 (.agg #[h]) "Implements").run Tryd.prog w = .ok (88, .agg #[h]) w := by kernel_rfl
theorem methodAssignable (h : Value) (w : World) : (Go.method 249 90 (.agg #[h]) "AssignableTo").run Tryd.prog w = .ok (85, .agg #[h]) w := by kernel_rfl
theorem kind53 (w : World) : (callFunc 73 #[.pointer (some ⟨4, 53, none⟩)]).run Tryd.prog w = .ok (.value (.int .u8 22)) w := by kernel_rfl
theorem kind52 (w : World) : (callFunc 73 #[.pointer (some ⟨4, 52, none⟩)]).run Tryd.prog w = .ok (.value (.int .u8 22)) w := by kernel_rfl
theorem kind39 (w : World) : (callFunc 73 #[.pointer (some ⟨4, 39, none⟩)]).run Tryd.prog w = .ok (.value (.int .u8 2)) w := by kernel_rfl
theorem kind45 (w : World) : (callFunc 73 #[.pointer (some ⟨4, 45, none⟩)]).run Tryd.prog w = .ok (.value (.int .u8 25)) w := by kernel_rfl
theorem elem53 (w : World) : (callFunc 87 #[.agg #[.pointer (some ⟨4, 53, none⟩)]]).run Tryd.prog w = .ok (.value (.iface 90 (.agg #[.pointer (some ⟨4, 39, none⟩)]))) w := by kernel_rfl
theorem elem52 (w : World) : (callFunc 87 #[.agg #[.pointer (some ⟨4, 52, none⟩)]]).run Tryd.prog w = .ok (.value (.iface 90 (.agg #[.pointer (some ⟨4, 45, none⟩)]))) w := by kernel_rfl
theorem impl39 (w : World) : (callFunc 88 #[.agg #[.pointer (some ⟨4, 39, none⟩)], .iface 90 (.agg #[.pointer (some ⟨4, 26, none⟩)])]).run Tryd.prog w = .ok (.value (.bool true)) w := by kernel_rfl
theorem impl45 (w : World) : (callFunc 88 #[.agg #[.pointer (some ⟨4, 45, none⟩)], .iface 90 (.agg #[.pointer (some ⟨4, 26, none⟩)])]).run Tryd.prog w = .ok (.value (.bool true)) w := by kernel_rfl
theorem call33_45 (v : Value) (w : World) : (callFunc 33 #[.iface 45 v]).run Tryd.prog w = .ok (.value (.iface 90 (.agg #[.pointer (some ⟨4, 45, none⟩)]))) w := by kernel_rfl
theorem call33_86 (v : Value) (w : World) : (callFunc 33 #[.iface 86 v]).run Tryd.prog w = .ok (.value (.iface 90 (.agg #[.pointer (some ⟨4, 86, none⟩)]))) w := by kernel_rfl
theorem asg39 (w : World) : (callFunc 85 #[.agg #[.pointer (some ⟨4, 39, none⟩)], .iface 90 (.agg #[.pointer (some ⟨4, 39, none⟩)])]).run Tryd.prog w = .ok (.value (.bool true)) w := by kernel_rfl
theorem asg45 (w : World) : (callFunc 85 #[.agg #[.pointer (some ⟨4, 45, none⟩)], .iface 90 (.agg #[.pointer (some ⟨4, 39, none⟩)])]).run Tryd.prog w = .ok (.value (.bool false)) w := by kernel_rfl
theorem asg86 (w : World) : (callFunc 85 #[.agg #[.pointer (some ⟨4, 86, none⟩)], .iface 90 (.agg #[.pointer (some ⟨4, 39, none⟩)])]).run Tryd.prog w = .ok (.value (.bool false)) w := by kernel_rfl
theorem asg45s (w : World) : (callFunc 85 #[.agg #[.pointer (some ⟨4, 45, none⟩)], .iface 90 (.agg #[.pointer (some ⟨4, 45, none⟩)])]).run Tryd.prog w = .ok (.value (.bool true)) w := by kernel_rfl
theorem valueOf39 (n : Int) (w : World) : (callFunc 35 #[.iface 39 (.int .i64 n)]).run Tryd.prog w = .ok (.value (.agg #[.pointer (some ⟨4, 39, none⟩), .pointer (some ⟨w.heap.size, 0, none⟩), .int .u64 130])) (w.alloc (.cells #[.int .i64 n] 39)) := by kernel_rfl
theorem valueOf45 (s : ByteArray) (no : Int) (t : TypeId) (x : Value) (w : World) : (callFunc 35 #[.iface 45 (.agg #[.string s, .int .i64 no, .iface t x])]).run Tryd.prog w = .ok (.value (.agg #[.pointer (some ⟨4, 45, none⟩), .pointer (some ⟨w.heap.size, 0, none⟩), .int .u64 153])) (w.alloc (.cells #[.string s, .int .i64 no, .iface t x] 45)) := by kernel_rfl
end Go.Proofs.YtgpaedknonkioaaDoor
