/-
  Contract of the program's plain: a value with its meaningful fields alone. No conditions.
-/
import Derived.Test.YtdgdkkapikopnaaDoorNOrdV
import Derived.Test.YtdgdkkapikopnaaDoorB3
namespace Go.Proofs.YtdgdkkapikopnaaDoor
open Go.ChangeShapes Go.WideShapes Go.ChangeAt Go.RowKit
set_option linter.unusedVariables false
set_option maxRecDepth 20000
def plainV (a : Vl) : Vl := if a.k = 0 then ⟨0, a.n, ⟨#[]⟩⟩ else ⟨1, 0, a.s⟩
set_option maxHeartbeats 2000000 in
theorem plain_calls (a : Vl) (w : World) : Calls Tryd.prog 21 #[a.v] w fun e w' => e = .returned (plainV a).v ∧ Below w.heap.size w w' := by
  obtain ⟨k, n, s⟩ := a
  have b4 := Blk.new w #[.int .u8 k, .int .i64 n, .string s] 23
  have b5 := Blk.newAt (w.alloc (.cells #[.int .u8 k, .int .i64 n, .string s] 23)) #[.int .u8 0, .int .i64 0, .string ⟨#[]⟩] 23 (g := w.heap.size + 1) (by simp)
  have b6 := b4.alloc (.cells #[.int .u8 0, .int .i64 0, .string ⟨#[]⟩] 23)
  have HB5 := Lib.hid b5
  obtain ⟨x0, x1, x2⟩ := b6.cells3
  obtain ⟨y0, y1, y2⟩ := b6.free3
  obtain ⟨z0, z1, z2⟩ := b5.free3
  obtain ⟨u0, u1, u2⟩ := b5.cells3
  have HB6 := Lib.hid b6
  clear b4 b5 b6
  unfold Vl.v plainV
  dsimp only
  by_cases h0 : k = 0
  · subst h0
    rw [if_pos rfl]
    dsimp only
    go_enter Tryd.func21, Tryd.ntmps21
    go_wp2
    exact bodyPost_ret (results_cell1 rfl _ _ _ _ _ rfl (lv23 (Blk.newAt _ _ _ (by simp)))) rfl ⟨rfl, below_two w _ _⟩
  · have hk0 : (k == 0) = false := by simpa using h0
    rw [if_neg h0]
    dsimp only
    by_cases h1 : k = 1
    · subst h1
      go_enter Tryd.func21, Tryd.ntmps21
      go_wp2
      exact bodyPost_ret (results_cell1 rfl _ _ _ _ _ rfl (lv23 (Blk.newAt _ _ _ (by simp)))) rfl ⟨rfl, below_two w _ _⟩
    · have hk1 : (k == 1) = false := by simpa using h1
      go_enter Tryd.func21, Tryd.ntmps21
      go_wp2
      exact bodyPost_ret (results_cell1 rfl _ _ _ _ _ rfl (lv23 (Blk.newAt _ _ _ (by simp)))) rfl ⟨rfl, below_two w _ _⟩
end Go.Proofs.YtdgdkkapikopnaaDoor
