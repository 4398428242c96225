/-
  The law's step, of whatever call. Conditions: both bags lie in memory and are the same; the counts are low.
-/
import Derived.Test.YtcdghipodnafmaaPSend
import Derived.Test.YtcdghipodnafmaaPSet
import Derived.Test.YtcdghipodnafmaaPDo
namespace Go.Proofs.Ytcdghipodnafmaa
open Go.ChangeShapes Go.WideShapes Go.ChangeAt Go.RowKit
set_option linter.unusedVariables false
theorem step_calls {w : World} {p : Nat} {n : Int} {k : Nat} {S : Nat → Prop} {g : Bg} {b : Rb} {A : Option Addr} {c : Nat} {rs : List Mr} {W : World} (B : Both w p n k S g b A c rs W) (hk : k ≤ 150) (d x y : Int) (u : Bool) (D : Option Addr) (dc : Nat) (l : List Int) (hl : GoodB w D dc l) :
    Calls Try.prog 10 #[at_ p, rv b A rs.length c, .agg #[.int .i64 d, .int .i64 x, .int .i64 y, .bool u, .slice D l.length dc]] W (StepR w p n k S W) := by
  by_cases h4 : d = 4
  · subst h4; exact step_send B hk x y u D dc l hl
  · by_cases h5 : d = 5
    · subst h5; exact step_set B hk x y u D dc l hl
    · exact step_do B hk x y u D dc l hl d h4 h5
theorem rel_new {n m : Int} (h8 : n ≤ 8) : Rel (newG n m) ⟨n, m, fun _ => false, 0, 0, 0⟩ := ⟨rfl, rfl, fun k hk => by
  have hk2 : (k : Int) < n := hk
  show false = !(((List.range 8).map (fun i : Nat => decide ((i : Int) < n))).getD k false)
  have hk8 : k < 8 := by omega
  rw [List.getD_eq_getElem?_getD, List.getElem?_map, List.getElem?_range hk8]
  simp
  omega, rfl, rfl, rfl⟩
end Go.Proofs.Ytcdghipodnafmaa
