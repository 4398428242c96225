/-
  Contracts of the small functions of layer 1 (vint.Len, mark, announced, the two of math/bits that they call) and of the document power, Len and ones: each returns the number that the plain arithmetic names and leaves memory as it was. Conditions: each argument in the range that its theorem names.
-/
import Derived.Test.YtdgdkkapikopnaaDoorGrow
import Derived.Test.YtdgdkkapikopnaaDoorVNums
import Derived.Lib.BitFns
namespace Go.Proofs.YtdgdkkapikopnaaDoor
open Go.ChangeShapes Go.WideShapes Go.ChangeAt Go.RowKit
set_option linter.unusedVariables false
set_option maxRecDepth 20000

theorem wrap_pow7 {k : Nat} (h2 : k ≤ 8) : IntKind.u64.wrap ((2 : Int) ^ (7 * k)) = (2 : Int) ^ (7 * k) := by
  have : k = 0 ∨ k = 1 ∨ k = 2 ∨ k = 3 ∨ k = 4 ∨ k = 5 ∨ k = 6 ∨ k = 7 ∨ k = 8 := by omega
  rcases this with rfl | rfl | rfl | rfl | rfl | rfl | rfl | rfl | rfl <;> decide

set_option maxHeartbeats 400000 in
theorem len_calls (n : Int) (w : World) :
    Calls Tryd.prog 45 #[.int .u64 n] w fun e w' => e = .returned (.int .i64 (vlen n)) ∧ w = w' := by
  have hv := vlen_le n
  have hp := vlen_pos n
  go_enter Tryd.func45, Tryd.ntmps45
  go_wp2
  go_loop [3] (fun i => ∃ k : Nat, 1 ≤ k ∧ k ≤ 9 ∧ k ≤ vlen n ∧ i = .int .i64 k) (fun i => 9 - (intOf i).toNat)
  case atStart => exact ⟨1, by omega, by omega, hp, rfl⟩
  case round =>
    obtain ⟨k, hk1, hk2, hk3, rfl⟩ := hrel
    go_wp2
    · have h : n < IntKind.u64.wrap (2 ^ (7 * k)) := by assumption
      rw [wrap_pow7 (by omega)] at h
      go_ret
      exact ⟨ret_int (by rw [vlen_hit hk1 (by omega) hk3 h]), rfl⟩
    · have h : IntKind.u64.wrap (2 ^ (7 * k)) ≤ n := by assumption
      rw [wrap_pow7 (by omega)] at h
      have h4 := vlen_miss hk1 (by omega) hk3 h
      go_round
      case rel => exact ⟨k + 1, by omega, by omega, h4, by go_num⟩
      case measure => simp [intOf]; omega
    · go_ret
      exact ⟨ret_int (by rw [show vlen n = 9 by omega]; rfl), rfl⟩

theorem two_pow_succ (k : Nat) : (2 : Int) * 2 ^ k = 2 ^ (k + 1) := by rw [Int.pow_succ]; omega
theorem wrap_pow {k : Nat} (h : k ≤ 63) : IntKind.u64.wrap ((2 : Int) ^ k) = 2 ^ k := by
  have h1 : (0 : Int) < 2 ^ k := Int.pow_pos (by omega)
  have h2 : (2 : Nat) ^ k ≤ 2 ^ 63 := Nat.pow_le_pow_right (by omega) h
  have h3 : ((2 ^ k : Nat) : Int) = (2 : Int) ^ k := by simp
  exact IntWalk.u64_in _ ⟨by omega, by omega⟩

set_option maxHeartbeats 400000 in
theorem power_calls (n : Int) (w : World) (h0 : 0 ≤ n) (h1 : n ≤ 63) :
    Calls Tryd.prog 51 #[.int .i64 n] w fun e w' => e = .returned (.int .u64 (2 ^ n.toNat)) ∧ w = w' := by
  go_enter Tryd.func51, Tryd.ntmps51
  go_wp2
  go_loop [3, 4] (fun p i => ∃ k : Nat, k ≤ n.toNat ∧ i = .int .i64 k ∧ p = .int .u64 (2 ^ k)) (fun _ i => n.toNat - (intOf i).toNat)
  case atStart => exact ⟨0, by omega, rfl, rfl⟩
  case round =>
    obtain ⟨k, hk1, rfl, rfl⟩ := hrel
    by_cases hlt : (k : Int) < n
    · go_wp2
      go_round
      case rel => exact ⟨k + 1, by omega, by go_num, by rw [two_pow_succ, wrap_pow (by omega)]⟩
      case measure => simp [intOf]; omega
    · go_wp2
      go_ret
      exact ⟨ret_int (by rw [show n.toNat = k by omega]), rfl⟩

set_option maxHeartbeats 400000 in
theorem rlen_calls (n : Int) (w : World) :
    Calls Tryd.prog 50 #[.int .u64 n] w fun e w' => e = .returned (.int .i64 (vlen n)) ∧ w = w' := by
  have hv := vlen_le n
  have hp := vlen_pos n
  go_enter Tryd.func50, Tryd.ntmps50
  go_wp2
  go_loop [3] (fun i => ∃ k : Nat, 1 ≤ k ∧ k ≤ 9 ∧ k ≤ vlen n ∧ i = .int .i64 k) (fun i => 9 - (intOf i).toNat)
  case atStart => exact ⟨1, by omega, by omega, hp, rfl⟩
  case round =>
    obtain ⟨k, hk1, hk2, hk3, rfl⟩ := hrel
    by_cases hk9 : k = 9
    · subst hk9
      go_wp2
      go_ret
      exact ⟨ret_int (by rw [show vlen n = 9 by omega]; rfl), rfl⟩
    · have e7 : (7 * (k : Int)).toNat = 7 * k := by omega
      go_wp2_with (go_at_call 51; refine (power_calls _ _ (by omega) (by omega)).mono ?_; rintro e w' ⟨rfl, rfl⟩)
      · have h : n < 2 ^ (7 * k) := by assumption
        go_ret
        exact ⟨ret_int (by rw [vlen_hit hk1 (by omega) hk3 h]), rfl⟩
      · have h : 2 ^ (7 * k) ≤ n := by assumption
        have h4 := vlen_miss hk1 (by omega) hk3 h
        go_round
        case rel => exact ⟨k + 1, by omega, by omega, h4, by go_num⟩
        case measure => simp [intOf]; omega

theorem len8_ones : ∀ n : Fin 256, Lib.len8 (n.val : Int) = 8 - (onesB (255 - (n.val : Int)) : Int) := by decide +kernel

/-- The table of bits.Len8, at whatever byte. -/
theorem len8_calls (c : Int) (w : World) (h0 : 0 ≤ c) (h1 : c ≤ 255) :
    Calls Tryd.prog 104 #[.int .u8 c] w fun e w' => e = .returned (.int .i64 (8 - onesB (255 - c))) ∧ w = w' := by
  have h := len8_ones ⟨c.toNat, by omega⟩
  simp only [Int.toNat_of_nonneg h0] at h
  have hb := onesB_le (255 - c)
  have H := Lib.hid h
  clear h
  go_enter Tryd.func104, Tryd.ntmps104
  go_wp2
  go_ret
  refine ⟨ret_int ?_, rfl⟩
  rw [H.out]
  exact IntWalk.wrap64_in _ ⟨by omega, by omega⟩

theorem lz8_calls (c : Int) (w : World) (h0 : 0 ≤ c) (h1 : c ≤ 255) :
    Calls Tryd.prog 92 #[.int .u8 c] w fun e w' => e = .returned (.int .i64 (onesB (255 - c))) ∧ w = w' := by
  have hb := onesB_le (255 - c)
  go_enter Tryd.func92, Tryd.ntmps92
  go_wp2_with (go_at_call 104; refine (len8_calls _ _ (by omega) (by omega)).mono ?_; rintro e w' ⟨rfl, rfl⟩)
  go_ret
  exact ⟨ret_int (by omega), rfl⟩

theorem not_byte_fin : ∀ n : Fin 256, bits .xor .u8 IntKind.u8.max (n.val : Int) = 255 - (n.val : Int) := by decide +kernel
theorem not_byte (c : Int) (h0 : 0 ≤ c) (h1 : c ≤ 255) : bits .xor .u8 IntKind.u8.max c = 255 - c := by
  have h := not_byte_fin ⟨c.toNat, by omega⟩
  simpa only [Int.toNat_of_nonneg h0] using h

theorem announced_calls (c : Int) (w : World) (h0 : 0 ≤ c) (h1 : c ≤ 255) :
    Calls Tryd.prog 81 #[.int .u8 c] w fun e w' => e = .returned (.int .i64 (onesB c + 1)) ∧ w = w' := by
  have hb := onesB_le c
  have hx := not_byte c h0 h1
  have HX := Lib.hid hx
  clear hx
  go_enter Tryd.func81, Tryd.ntmps81
  go_wp2_with fail
  rw [HX.out]
  refine (lz8_calls _ _ (by omega) (by omega)).mono ?_
  rintro e w' ⟨rfl, rfl⟩
  rw [show (255 : Int) - (255 - c) = c by omega]
  go_wp2
  go_ret
  exact ⟨ret_int (by omega), rfl⟩

theorem ones_step_fin : ∀ n : Fin 128, onesB (128 + (n.val : Int)) = 1 + onesB ((128 + (n.val : Int)) * 2 % 256) := by decide +kernel
theorem ones_step (y : Int) (h0 : 128 ≤ y) (h1 : y ≤ 255) : onesB y = 1 + onesB (y * 2 % 256) ∧ (y * 2 % 256) < y := by
  refine ⟨?_, by omega⟩
  have h := ones_step_fin ⟨(y - 128).toNat, by omega⟩
  simp only [Int.toNat_of_nonneg (show 0 ≤ y - 128 by omega)] at h
  rwa [show 128 + (y - 128) = y by omega] at h
theorem ones_done (y : Int) (h1 : y < 128) : onesB y = 0 := by unfold onesB; rw [if_pos h1]

theorem ones_calls (c : Int) (w : World) (h0 : 0 ≤ c) (h1 : c ≤ 255) :
    Calls Tryd.prog 68 #[.int .u8 c] w fun e w' => e = .returned (.int .i64 (onesB c)) ∧ w = w' := by
  have hb := onesB_le c
  go_enter Tryd.func68, Tryd.ntmps68
  go_wp2
  go_loop [0, 3] (fun d i => ∃ k : Nat, ∃ y : Int, 0 ≤ y ∧ y ≤ 255 ∧ onesB c = k + onesB y ∧ d = .int .u8 y ∧ i = .int .i64 k) (fun d _ => (intOf d).toNat)
  case atStart => exact ⟨0, c, h0, h1, by omega, rfl, rfl⟩
  case round =>
    obtain ⟨k, y, hy0, hy1, hy, rfl, rfl⟩ := hrel
    have hk : k ≤ 8 := by omega
    have HY := Lib.hid hy
    clear hy
    by_cases hc : y < 128
    · go_wp2
      go_ret
      exact ⟨ret_int (by rw [HY.out, ones_done y hc]; omega), rfl⟩
    · obtain ⟨s1, s2⟩ := ones_step y (by omega) hy1
      have HS := Lib.hid s1
      clear s1
      go_wp2
      go_round
      case rel => exact ⟨k + 1, y * 2 % 256, by omega, by omega, by rw [HY.out, HS.out]; omega, rfl, by go_num⟩
      case measure => simp [intOf]; omega

theorem mark_calls (k : Int) (w : World) (h0 : 1 ≤ k) (h1 : k ≤ 9) :
    Calls Tryd.prog 66 #[.int .i64 k] w fun e w' => e = .returned (.int .u8 (mk k.toNat)) ∧ w = w' := by
  go_enter Tryd.func66, Tryd.ntmps66
  go_wp2
  go_ret
  refine ⟨ret_int ?_, rfl⟩
  have : k = 1 ∨ k = 2 ∨ k = 3 ∨ k = 4 ∨ k = 5 ∨ k = 6 ∨ k = 7 ∨ k = 8 ∨ k = 9 := by omega
  rcases this with rfl | rfl | rfl | rfl | rfl | rfl | rfl | rfl | rfl <;> rfl
end Go.Proofs.YtdgdkkapikopnaaDoor
