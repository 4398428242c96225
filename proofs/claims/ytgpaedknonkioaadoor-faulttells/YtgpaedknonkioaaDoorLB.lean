/-
  What the package-level variables that the rows list read as when the call begins, and a world in which they do. Conditions: the row's own.
-/
import Derived.Test.YtgpaedknonkioaaDoorRows
import Derived.Test.YtgpaedknonkioaaDoorEX
import Derived.Test.YtgpaedknonkioaaDoorER
import Derived.ChangeSame
import Derived.ChangeVars
import Derived.JoinedOf
import Derived.RowKit
import Derived.RowKitTokens
import Derived.LaidLaws
import Derived.LaidHandle
import Derived.Stop.Joined
import Derived.Lib.LaidTab
namespace Go.Proofs.YtgpaedknonkioaaDoor
open Go.ChangeShapes Go.WideShapes Go.RowKit

theorem laid_et : Tryd.prog.globalNamed "errors.errorType" = some 0 := by kernel_rfl
theorem laid_rt : (Tryd.prog.cutTypes.find? (·.1 == "internal/reflectlite.rtype")).map (·.2) = some 90 := by kernel_rfl
theorem laid_size : Tryd.prog.types.size = 149 := by kernel_rfl
theorem laid_oneRow : ((List.range 149).filter fun t => Tryd.prog.rowNamed t [101, 114, 114, 111, 114]) = [26] := by kernel_rfl

/-- The table of powers of ten. -/
theorem tab_of_laid {W : World} (h : laidMet Tryd.prog Rows.faultStagesRow.laid W) : Tab W.heap.size W := by
  refine Lib.tabBelow_of_tabIs ?_
  obtain ⟨ps, ⟨_, _, _, _, _, _, _, _, _, _, ⟨_, _, _, _, _, _, _, _, _, _, ⟨g', t', cs, fuel, p, q, hg', ht', hvar, hd, _, _⟩, _⟩, _⟩, _⟩ := h
  have hg : Tryd.prog.globalNamed "internal/strconv.uint64pow10" = some 1 := by kernel_rfl
  obtain rfl := Option.some.inj (hg.symm.trans hg')
  have hty : (Tryd.prog.globals[1]?).map (·.type) = some 111 := by kernel_rfl
  obtain rfl := Option.some.inj (hty.symm.trans ht')
  unfold Lib.TabIs
  rw [hvar, ← Lib.cells_of_tab (zs := Lib.pow10Tab) Tryd.underlying111 Tryd.underlying102 (by kernel_rfl) (by kernel_rfl) hd]

/-- The variable errors.errorType. -/
theorem handle_of_laid {W : World} (h : laidMetH Tryd.prog Rows.faultTellsRow.laid W) : EType W := by
  have h' : laidMet Tryd.prog Rows.faultStagesRow.laid W ∧ handlesMet Tryd.prog [("errors.errorType", Rows.laid_errors_errorType)] W := h
  obtain ⟨name, u, ty, e1, e2, e3, e4, e5⟩ := h'.2 _ (List.mem_singleton.2 rfl)
  have en : name = [101, 114, 114, 111, 114] := (Option.some.inj e1).symm
  subst en
  obtain rfl := Option.some.inj (laid_rt.symm.trans e2)
  have hm : ty ∈ (List.range 149).filter fun t => Tryd.prog.rowNamed t [101, 114, 114, 111, 114] := List.mem_filter.2 ⟨List.mem_range.2 (by rw [← laid_size]; exact e3), e4⟩
  rw [laid_oneRow] at hm
  obtain rfl := List.mem_singleton.1 hm
  have hh : typeHandle Tryd.prog 26 = .pointer (some ⟨4, 26, none⟩) := by kernel_rfl
  rw [hh] at e5
  unfold EType
  simpa using World.var?_cell laid_et e5 0
theorem tab_of_laidH {W : World} (h : laidMetH Tryd.prog Rows.faultTellsRow.laid W) : Tab W.heap.size W := by
  have h' : laidMet Tryd.prog Rows.faultStagesRow.laid W ∧ handlesMet Tryd.prog [("errors.errorType", Rows.laid_errors_errorType)] W := h
  exact tab_of_laid h'.1

/-- The numbers of a laid table. -/
def laidCells : DataW Unit → Array Value
  | .agg l => (l.map fun | .lit (.int k z) => Value.int k z | _ => .nilIface).toArray
  | _ => #[]
/-- A world in which the variables read so. -/
noncomputable def laidWorld (os : Os) : World :=
  let w0 := World.holding Tryd.prog os ⟨#[], #[], []⟩
  let put (g : Nat) (cs : Array Value) (h : Array Obj) : Array Obj := h.modify g fun
      | .cells _ t frozen => .cells cs t frozen
      | o => o
  { w0 with heap := put 3 (laidCells Rows.laid_math_bits_deBruijn64tab) (put 2 (laidCells Rows.laid_math_bits_deBruijn32tab) (put 1 (laidCells Rows.laid_internal_strconv_uint64pow10) (put 0 #[.iface 90 (.agg #[.pointer (some ⟨4, 26, none⟩)])] w0.heap))) }
theorem laidWorld_met (os : Os) (args : Array Value) : laidMet Tryd.prog Rows.faultStagesRow.laid ((laidWorld os).forCall (fun _ _ => 0) ⟨#[], args, []⟩).memory :=
  laidMet_of_run' 8 (by kernel_rfl) (by kernel_rfl)
theorem laidWorld_metH (os : Os) (args : Array Value) : laidMetH Tryd.prog Rows.faultTellsRow.laid ((laidWorld os).forCall (fun _ _ => 0) ⟨#[], args, []⟩).memory :=
  laidMetH_of_parts (laidWorld_met os args) (by kernel_rfl)
end Go.Proofs.YtgpaedknonkioaaDoor
