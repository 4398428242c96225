/-
  What the package-level variables that the rows list read as when the call begins, and a world in which they do. Conditions: the row's own.
-/
import Derived.Test.YtdgdkkapikopnaaDoorRows
import Derived.Test.YtdgdkkapikopnaaDoorNLive
import Derived.Lay
import Derived.Lib.SmallJoins
import Derived.LaidMore
import Derived.LaidLaws
import Derived.LaidHandle
import Derived.ChangeSame
import Derived.ChangeVars
import Derived.JoinedOf
import Derived.RowKit
import Derived.RowKitTokens
import Derived.Stop.Joined
import Derived.Lib.LaidTab
namespace Go.Proofs.YtdgdkkapikopnaaDoor
open Go.ChangeShapes Go.WideShapes Go.RowKit
set_option linter.unusedVariables false
def Laid (W : World) : Prop := laidMetH Tryd.prog Rows.valOrdersRow.laid W
theorem Laid.plain {W : World} (h : Laid W) : laidMet Tryd.prog Rows.valOrdersRow.laid W := by
  unfold Laid at h
  rw [MakeChecks.laidMetH_plain _ _ _ (by kernel_rfl)] at h
  exact h
theorem g_range : Tryd.prog.globalNamed "strconv.ErrRange" = some 2 := by kernel_rfl
theorem errV_of_laid {W : World} (h : Laid W) : ErrV W := by
  obtain ⟨ps, ⟨_, _, _, _, _, _, _, _, _, _, ⟨_, _, _, _, _, _, _, _, _, _, ⟨_, _, _, _, _, _, _, _, _, _, ⟨_, _, _, _, _, _, _, _, _, _, ⟨g, t, cs, fuel, p, q, hg, ht, hvar, hd, _, _⟩, _⟩, _⟩, _⟩, _⟩, _⟩ := h.plain
  obtain rfl := Option.some.inj (g_range.symm.trans hg)
  have hty : (Tryd.prog.globals[2]?).map (·.type) = some 65 := by kernel_rfl
  obtain rfl := Option.some.inj (hty.symm.trans ht)
  obtain ⟨f, u, v, hcs, _, _⟩ := iface_of_trod Tryd.underlying65 hd
  have he : cs = #[.iface u v] := by apply Array.toList_inj.1; simpa using hcs
  subst he
  exact ⟨u, v, fun V hV => Go.Joins.var_stays g_range hvar hV (Nat.le_refl _)⟩
theorem g_tab : Tryd.prog.globalNamed "internal/strconv.uint64pow10" = some 5 := by kernel_rfl
/-- The table of powers of ten. -/
theorem tab_of_laid {W : World} (h : Laid W) : Lib.TabIs Tryd.prog W "internal/strconv.uint64pow10" .u64 Lib.pow10Tab := by
  obtain ⟨ps, ⟨_, _, _, _, _, _, _, _, _, _, ⟨_, _, _, _, _, _, _, _, _, _, ⟨g', t', cs, fuel, p, q, hg', ht', hvar, hd, _, _⟩, _⟩, _⟩, _⟩ := h.plain
  have hg : Tryd.prog.globalNamed "internal/strconv.uint64pow10" = some 5 := by kernel_rfl
  obtain rfl := Option.some.inj (hg.symm.trans hg')
  have hty : (Tryd.prog.globals[5]?).map (·.type) = some 129 := by kernel_rfl
  obtain rfl := Option.some.inj (hty.symm.trans ht')
  unfold Lib.TabIs
  rw [hvar, ← Lib.cells_of_tab (zs := Lib.pow10Tab) Tryd.underlying129 Tryd.underlying55 (by kernel_rfl) (by kernel_rfl) hd]
/-- A world in which the variables read so. -/
noncomputable def laidW (os : Os) : World := World.laidAll Tryd.prog os Rows.valOrdersRow.laid
theorem laidW_met (os : Os) (args : Array Value) : laidMetH Tryd.prog Rows.valOrdersRow.laid ((laidW os).forCall (fun _ _ => 0) ⟨#[], args, []⟩).memory := by
  rw [MakeChecks.laidMetH_plain _ _ _ (by kernel_rfl)]
  exact laidMet_laidAll _ (by kernel_rfl) (by kernel_rfl)
end Go.Proofs.YtdgdkkapikopnaaDoor
