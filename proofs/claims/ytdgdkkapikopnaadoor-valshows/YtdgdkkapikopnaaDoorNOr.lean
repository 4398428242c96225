/-
  Contract of cmp.Or at three ints. Condition: they lie in a block of three.
-/
import Derived.Test.YtdgdkkapikopnaaDoorNCmp
namespace Go.Proofs.YtdgdkkapikopnaaDoor
open Go.ChangeShapes Go.WideShapes Go.ChangeAt Go.RowKit
set_option linter.unusedVariables false
set_option maxRecDepth 20000
def or3 (a b c : Int) : Int := if a = 0 then (if b = 0 then c else b) else a
def RelO (a b c : Int) (w : World) (v : Value) (wr : World) : Prop := ∃ k : Nat, v = .int .i64 k ∧ k ≤ 3 ∧ (0 < k → a = 0) ∧ (1 < k → b = 0) ∧ (2 < k → c = 0) ∧ wr = w
set_option maxHeartbeats 2000000 in
theorem or_calls (g : Nat) (a b c : Int) (w : World) (hb : Blk w g #[.int .i64 a, .int .i64 b, .int .i64 c] 3) : Calls Tryd.prog 32 #[.slice (some ⟨g, 0, none⟩) 3 3] w fun e w' => e = .returned (.int .i64 (or3 a b c)) ∧ w = w' := by
  obtain ⟨x0, x1, x2⟩ := hb.cells3
  obtain ⟨r, hr⟩ : ∃ r, r = or3 a b c := ⟨_, rfl⟩
  rw [← hr]
  have HR := Lib.hid hr
  clear hb hr
  go_enter Tryd.func32, Tryd.ntmps32
  go_wp2
  go_loopw [8] (RelO a b c w) (fun i _ => 3 - (intOf i).toNat)
  case atStart => exact ⟨0, rfl, by omega, by omega, by omega, by omega, rfl⟩
  case round =>
    obtain ⟨k, rfl, hk, ha, hb, hc, rfl⟩ := hrel
    have HA := Lib.hid ha
    have HB := Lib.hid hb
    have HC := Lib.hid hc
    clear ha hb hc
    have hk4 : k = 0 ∨ k = 1 ∨ k = 2 ∨ k = 3 := by omega
    rcases hk4 with rfl | rfl | rfl | rfl
    · by_cases h : a = 0
      · have hn : (a != 0) = false := by simpa using h
        have HZ := Lib.hid h
        clear h
        go_wp2
        go_roundw
        case rel => exact ⟨1, by go_num, by omega, fun _ => HZ.out, by omega, by omega, rfl⟩
        case measure => simp [intOf]
      · have hn : (a != 0) = true := by simpa using h
        have HE := Lib.hid (show r = a by rw [HR.out]; unfold or3; rw [if_neg h])
        clear h
        go_wp2
        go_ret
        exact ⟨by rw [HE.out]; rfl, rfl⟩
    · by_cases h : b = 0
      · have hn : (b != 0) = false := by simpa using h
        have HZ := Lib.hid h
        clear h
        go_wp2
        go_roundw
        case rel => exact ⟨2, by go_num, by omega, fun _ => HA.out (by omega), fun _ => HZ.out, by omega, rfl⟩
        case measure => simp [intOf]
      · have hn : (b != 0) = true := by simpa using h
        have HE := Lib.hid (show r = b by rw [HR.out]; unfold or3; rw [if_pos (HA.out (by omega)), if_neg h])
        clear h
        go_wp2
        go_ret
        exact ⟨by rw [HE.out]; rfl, rfl⟩
    · by_cases h : c = 0
      · have hn : (c != 0) = false := by simpa using h
        have HZ := Lib.hid h
        clear h
        go_wp2
        go_roundw
        case rel => exact ⟨3, by go_num, by omega, fun _ => HA.out (by omega), fun _ => HB.out (by omega), fun _ => HZ.out, rfl⟩
        case measure => simp [intOf]
      · have hn : (c != 0) = true := by simpa using h
        have HE := Lib.hid (show r = c by rw [HR.out]; unfold or3; rw [if_pos (HA.out (by omega)), if_pos (HB.out (by omega))])
        clear h
        go_wp2
        go_ret
        exact ⟨by rw [HE.out]; rfl, rfl⟩
    · have HE := Lib.hid (show r = 0 by rw [HR.out]; unfold or3; rw [if_pos (HA.out (by omega)), if_pos (HB.out (by omega))]; exact HC.out (by omega))
      go_wp2
      go_ret
      exact ⟨by rw [HE.out]; rfl, rfl⟩
end Go.Proofs.YtdgdkkapikopnaaDoor
