/-
  The argument of a law that is a list of acts, with the bounds on what an input may take. No conditions.
-/
import Derived.Test.YtgpaedknonkioaaDoorFM
import Derived.Test.YtgpaedknonkioaaDoorGS
import Derived.Lib.SmallJoins
namespace Go.Proofs.YtgpaedknonkioaaDoor
open Go.ChangeShapes Go.WideShapes Go.ChangeAt Go.RowKit Go.Joins
set_option linter.unusedVariables false

theorem i64_of_wf {n : Int} (h : (Lit.int .i64 n).wf = true) : I64 n := by
  have := bounds_i64 h
  exact ⟨by omega, by omega⟩
theorem acts_of_arg {H : Type} {encH : TypeId × Value → H} {W : World} {base : Nat} {held : Bool}
    {fuel : Nat} {a : Option Addr} {len cap : Nat} {x : DataW H × List MemPlace} (h : DataW.trod encH Tryd.prog W base (fun _ => true) held fuel 22 [.slice a len cap] = some x) (hW : ∀ m ∈ x.1.weights Tryd.prog 22, m ≤ reachBytes) :
    ∃ l : List Ac, l.length = len ∧ l.length ≤ cap ∧ l.length ≤ maxLen ∧ CellsG enA W a cap l ∧ ∀ a ∈ l, a.2.1.size ≤ reachBytes ∧ I64 a.2.2.1 ∧ I64 a.2.2.2 :=
  vals_of_arg_sized 22 56 Tryd.underlying22 4 (by kernel_rfl) (by omega) enA (fun _ => rfl) (fun a => a.2.1.size ≤ reachBytes ∧ I64 a.2.2.1 ∧ I64 a.2.2.2) (fun n cs y hy hw hl => by
    obtain ⟨y0, y1, y2, y3, m, hy1, _, g0, g1, g2, g3⟩ := trod_struct4 Tryd.underlying56 hy
    rw [show Tryd.prog.cellsOf _ = 1 by kernel_rfl] at g0 g1 g2 g3
    obtain ⟨z0, e0, _, hz0⟩ := DataW.trod_int Tryd.underlying3 g0
    obtain ⟨s1, e1, ey1, hs1⟩ := DataW.trod_string Tryd.underlying9 g1
    obtain ⟨z2, e2, _, hz2⟩ := DataW.trod_int Tryd.underlying3 g2
    obtain ⟨z3, e3, _, hz3⟩ := DataW.trod_int Tryd.underlying3 g3
    have q1 := hw s1.data.toList.length (by rw [hy1, ey1]; simp [DataW.weights, Tryd.underlying56, DataW.weightsEach])
    match cs, hl with
    | [u0, u1, u2, u3], _ =>
      simp at e0 e1 e2 e3
      subst e0 e1 e2 e3
      exact ⟨(z0, s1, z2, z3), rfl, by simpa using q1, i64_of_wf hz2, i64_of_wf hz3⟩) h hW
end Go.Proofs.YtgpaedknonkioaaDoor
