/-
  An argument that is a struct of two strings, with the bounds on what an input may take. No conditions.
-/
import Derived.Test.YtimcolanmbklpaaGS
import Derived.Lib.SmallJoins
namespace Go.Proofs.Ytimcolanmbklpaa
open Go.ChangeShapes Go.WideShapes Go.ChangeAt Go.RowKit Go.Joins Go.Deep
set_option linter.unusedVariables false

theorem pair_of_arg {H : Type} {encH : TypeId × Value → H} {W : World} {base : Nat} {spare : Nat → Bool} {held : Bool} {r : Reach} {b0 : Nat} {t : TypeId} {f0 f1 : Field} {v : Value} {d : DataW H} {p : List MemPlace} (hs : Try.prog.underlying t = some (.struct #[f0, f1])) (hone : oneCellFields Try.prog #[f0, f1] = true) (hC : Try.prog.cellsOf t = 2)
    (h0 : Try.prog.underlying f0.type = some .string) (h1 : Try.prog.underlying f1.type = some .string) (hv : Value.okWide Try.prog W r b0 t v) (h : DataW.Trod encH Try.prog W base spare held t v d p) (hw : ∀ m ∈ d.weights Try.prog t, m ≤ reachBytes) :
    ∃ s t : ByteArray, v = .agg #[.string s, .string t] ∧ s.size ≤ reachBytes ∧ t.size ≤ reachBytes := by
  obtain ⟨v0, v1, y0, y1, n, rfl, hd, _, g0, g1⟩ := open_agg2 hs hone hC hv h
  obtain ⟨s0, e0, ey0, _⟩ := DataW.trod_string h0 g0
  obtain ⟨s1, e1, ey1, _⟩ := DataW.trod_string h1 g1
  have q0 := hw s0.data.toList.length (by rw [hd, ey0]; simp [DataW.weights, hs, DataW.weightsEach])
  have q1 := hw s1.data.toList.length (by rw [hd, ey1]; simp [DataW.weights, hs, DataW.weightsEach])
  simp at e0 e1
  subst e0 e1
  exact ⟨s0, s1, rfl, by simpa using q0, by simpa using q1⟩
end Go.Proofs.Ytimcolanmbklpaa
