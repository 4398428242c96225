/-
  An argument that is a value (kind, number, text), with the bounds on what an input may take. No conditions.
-/
import Derived.Test.YtdgdkkapikopnaaDoorNOrdV
import Derived.Test.YtdgdkkapikopnaaDoorGS
import Derived.Lib.SmallJoins
namespace Go.Proofs.YtdgdkkapikopnaaDoor
open Go.ChangeShapes Go.WideShapes Go.ChangeAt Go.RowKit Go.Joins
set_option linter.unusedVariables false
set_option maxRecDepth 20000 in
theorem val_of_arg {H : Type} {encH : TypeId × Value → H} {W : World} {base : Nat} {held : Bool} {r : Reach} {b0 : Nat} {v : Value} {d : DataW H} {p : List MemPlace} (hv : Value.okWide Tryd.prog W r b0 23 v) (h : DataW.Trod encH Tryd.prog W base (fun _ => true) held 23 v d p) (hw : ∀ m ∈ d.weights Tryd.prog 23, m ≤ reachBytes) : ∃ a : Vl, v = a.v ∧ a.Good := by
  obtain ⟨cs, rfl, hsz⟩ := okWide_struct Tryd.underlying23 hv
  obtain ⟨fuel, hf⟩ := h
  have h3 : Tryd.prog.cellsOf 23 = 3 := by kernel_rfl
  have hl : (Value.agg cs).cells.toList.length = 3 := by simp [Value.cells]; omega
  have hcs : cs = (Value.agg cs).cells := rfl
  obtain ⟨xs, m, _, hy, _, hlen, hfl⟩ := DataW.trod_struct Tryd.underlying23 hf
  obtain ⟨l, hl2⟩ : ∃ l, l = (Value.agg cs).cells.toList := ⟨_, rfl⟩
  rw [← hl2] at hl hfl
  match xs, hlen, l, hl with
  | [y0, y1, y2], _, [u0, u1, u2], _ =>
    have g0 := hfl 0 _ rfl
    have g1 := hfl 1 _ rfl
    have g2 := hfl 2 _ rfl
    rw [show Tryd.prog.cellsOf _ = 1 by kernel_rfl] at g0 g1 g2
    obtain ⟨z0, e0, _, hz0⟩ := DataW.trod_int Tryd.underlying5 g0
    obtain ⟨z1, e1, _, hz1⟩ := DataW.trod_int Tryd.underlying3 g1
    obtain ⟨s2, e2, ey2, hs2⟩ := DataW.trod_string Tryd.underlying9 g2
    have hy2 : d = _ := congrArg Prod.fst hy
    have q2 := hw s2.data.toList.length (by rw [hy2, ey2]; simp [DataW.weights, Tryd.underlying23, DataW.weightsEach])
    simp at e0 e1 e2
    subst e0 e1 e2
    have hb := bounds_u8 hz0
    have hi := bounds_i64 hz1
    refine ⟨⟨z0, z1, s2⟩, ?_, ⟨by show 0 ≤ z0; omega, by show z0 ≤ 255; omega, by show -9223372036854775808 ≤ z1; omega, by show z1 ≤ 9223372036854775807; omega, by simpa using q2⟩⟩
    have : cs = #[.int .u8 z0, .int .i64 z1, .string s2] := by
      apply Array.toList_inj.1
      have e9 : (Value.agg cs).cells.toList = cs.toList := by simp [Value.cells]
      rw [← e9, ← hl2]
    rw [this]; rfl
end Go.Proofs.YtdgdkkapikopnaaDoor
