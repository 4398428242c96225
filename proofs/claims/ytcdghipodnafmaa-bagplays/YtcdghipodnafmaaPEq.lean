/-
  Equality of arrays of three ints. No condition.
-/
import Derived.Test.YtcdghipodnafmaaPStep
namespace Go.Proofs.Ytcdghipodnafmaa
open Go.ChangeShapes Go.WideShapes Go.ChangeAt Go.RowKit
set_option linter.unusedVariables false
theorem run_equalIn_array (d : Nat) (t e : TypeId) (len : Nat) (xs ys : Array Value) (w : World) (ht : Try.prog.underlying t = some (.array len e)) :
    (Op.equalIn (d + 1) t (.agg xs) (.agg ys)).run Try.prog w = (do
      let n ← sizeOf e
      for i in [0:len] do
        if !(← Op.equalIn d e (← part e xs (i * n)) (← part e ys (i * n))) then return false
      pure true : Sem Bool).run Try.prog w := by
  simp only [Op.equalIn, Sem.run_bind, run_underlying ht, Result.andThen_ok]
theorem eq_arr3 (a b c : Int) (w : World) : (Op.equalIn 10000 32 (.agg #[.int .i64 a, .int .i64 b, .int .i64 c]) (.agg #[.int .i64 a, .int .i64 b, .int .i64 c])).run Try.prog w = .ok true w := by
  have he : ∀ (x : Int) (w : World), (Op.equalIn 9999 3 (.int .i64 x) (.int .i64 x)).run Try.prog w = .ok true w := fun x w => by
    rw [run_equalIn_int w 9998 3 .i64 .i64 x x Try.underlying3]
    simp
  rw [run_equalIn_array 9999 32 3 3 _ _ w Try.underlying32]
  have hs : Try.t3.size = 1 := rfl
  simp [List.range', he, part, sizeOf, isAgg, hs]
end Go.Proofs.Ytcdghipodnafmaa
