/-
  Contracts of crc.Byte and of the document Byte: each returns the state after one byte more and leaves memory as it was. Conditions: a state of 32 bits, a byte.
-/
import Derived.Test.YtikeebgclplphaaGrow
import Derived.Test.YtikeebgclplphaaCNums
namespace Go.Proofs.Ytikeebgclplphaa
open Go.ChangeShapes Go.WideShapes Go.ChangeAt Go.RowKit
set_option linter.unusedVariables false

/-- One byte, on integers. -/
def byteZ (s c : Int) : Int := ((byteT s.toNat c.toNat : Nat) : Int)
/-- All bytes, on integers. -/
def runZ (s : Int) (l : List Int) : Int := l.foldl byteZ s
/-- The checksum, on integers. -/
def sumZ (l : List Int) : Int := 4294967295 - runZ 4294967295 l

theorem byteZ_range (s c : Int) (h0 : 0 ≤ s) (h1 : s ≤ 4294967295) (h2 : 0 ≤ c) (h3 : c ≤ 255) : 0 ≤ byteZ s c ∧ byteZ s c ≤ 4294967295 := by
  unfold byteZ
  have := byteT_lt (s := s.toNat) (c := c.toNat) (by omega) (by omega)
  omega
theorem runZ_range : ∀ (l : List Int) (s : Int), 0 ≤ s → s ≤ 4294967295 → IsB l → 0 ≤ runZ s l ∧ runZ s l ≤ 4294967295
  | [], s, h0, h1, _ => ⟨h0, h1⟩
  | c :: l, s, h0, h1, hb => by
    obtain ⟨c0, c1⟩ := hb c (by simp)
    obtain ⟨b0, b1⟩ := byteZ_range s c h0 h1 c0 c1
    exact runZ_range l _ b0 b1 (fun x hx => hb x (by simp [hx]))
theorem sumZ_range (l : List Int) (hb : IsB l) : 0 ≤ sumZ l ∧ sumZ l ≤ 4294967295 := by
  have := runZ_range l 4294967295 (by omega) (by omega) hb
  unfold sumZ
  omega
theorem runZ_append (s : Int) (a b : List Int) : runZ s (a ++ b) = runZ (runZ s a) b := by simp [runZ]
theorem runZ_nat : ∀ (l : List Int) (s : Nat), runZ s l = ((run s (l.map Int.toNat) : Nat) : Int)
  | [], s => rfl
  | c :: l, s => by
    show runZ (byteZ s c) l = ((run (byteT s c.toNat) (l.map Int.toNat) : Nat) : Int)
    rw [← runZ_nat l]
    rfl
theorem sumZ_nat (l : List Int) (hb : IsB l) : sumZ l = ((sumOf (l.map Int.toNat) : Nat) : Int) := by
  have h := runZ_nat l 4294967295
  have h2 := (runZ_range l 4294967295 (by omega) (by omega) hb).2
  unfold sumZ sumOf
  rw [show ((4294967295 : Nat) : Int) = 4294967295 from rfl] at h
  omega

theorem byte_step (y : Int) (h0 : 0 ≤ y) (h1 : y ≤ 4294967295) :
    bits .xor .u32 (y / 2) (bits .and .u32 3988292384 (-bits .and .u32 y 1 % 4294967296)) = ((stepT y.toNat : Nat) : Int) := by
  obtain ⟨n, rfl⟩ := Int.eq_ofNat_of_zero_le h0
  have e1 : bits .and .u32 (n : Int) 1 = ((n % 2 : Nat) : Int) := by
    have := u32_and_nat n 1 (by omega) (by omega)
    rw [nat_mask1] at this
    exact this
  rw [e1, Int.toNat_natCast, show (n : Int) / 2 = ((n / 2 : Nat) : Int) by omega]
  unfold stepT
  by_cases h : n % 2 = 1
  · rw [if_pos h, h]
    rw [show bits .and .u32 3988292384 (-((1 : Nat) : Int) % 4294967296) = ((3988292384 : Nat) : Int) by decide +kernel]
    exact u32_xor_nat (n / 2) 3988292384 (by omega) (by omega)
  · rw [if_neg h, show n % 2 = 0 by omega]
    rw [show bits .and .u32 3988292384 (-((0 : Nat) : Int) % 4294967296) = ((0 : Nat) : Int) by decide +kernel]
    have := u32_xor_nat (n / 2) 0 (by omega) (by omega)
    rw [this, Nat.xor_zero]

theorem xor_start (s c : Int) (h0 : 0 ≤ s) (h1 : s ≤ 4294967295) (h2 : 0 ≤ c) (h3 : c ≤ 255) : bits .xor .u32 s c = ((s.toNat ^^^ c.toNat : Nat) : Int) := u32_xor s c h0 (by omega) h2 (by omega)

/-- The relation of both loops: k steps are done, those that are left lead to t. -/
def RelC (t : Nat) (v i : Value) : Prop := ∃ k : Nat, ∃ y : Int, k ≤ 8 ∧ 0 ≤ y ∧ y ≤ 4294967295 ∧ Hid (stepN (8 - k) y.toNat = t) ∧ i = .int .i64 k ∧ v = .int .u32 y

theorem relC_start (s c : Int) (h0 : 0 ≤ s) (h1 : s ≤ 4294967295) (h2 : 0 ≤ c) (h3 : c ≤ 255) : RelC (byteT s.toNat c.toNat) (.int .u32 (bits .xor .u32 s c)) (.int .i64 0) := by
  rw [xor_start s c h0 h1 h2 h3]
  have := xor_lt (a := s.toNat) (b := c.toNat) (by omega) (by omega)
  exact ⟨0, _, by omega, by omega, by omega, Lib.hid (by rw [Int.toNat_natCast]; rfl), rfl, rfl⟩
theorem relC_step {t k : Nat} {y : Int} (hk : k < 8) (h0 : 0 ≤ y) (h1 : y ≤ 4294967295) (hr : Hid (stepN (8 - k) y.toNat = t)) : RelC t (.int .u32 ((stepT y.toNat : Nat) : Int)) (.int .i64 ((k : Int) + 1)) := by
  have := stepT_lt (s := y.toNat) (by omega)
  refine ⟨k + 1, _, by omega, by omega, by omega, Lib.hid ?_, by go_num, rfl⟩
  rw [Int.toNat_natCast, ← hr.out, show 8 - k = (8 - (k + 1)) + 1 by omega]
  rfl
theorem relC_end {s c y : Int} (h0 : 0 ≤ y) (hr : Hid (stepN (8 - 8) y.toNat = byteT s.toNat c.toNat)) : y = byteZ s c := by
  have h : y.toNat = byteT s.toNat c.toNat := hr.out
  unfold byteZ
  rw [← h]
  omega

set_option maxHeartbeats 400000 in
theorem byte_calls (s c : Int) (w : World) (h0 : 0 ≤ s) (h1 : s ≤ 4294967295) (h2 : 0 ≤ c) (h3 : c ≤ 255) :
    Calls Try.prog 47 #[.int .u32 s, .int .u8 c] w fun e w' => e = .returned (.int .u32 (byteZ s c)) ∧ w = w' := by
  go_enter Try.func47, Try.ntmps47
  go_wp2
  go_loop [0, 9] (RelC (byteT s.toNat c.toNat)) (fun _ i => 8 - (intOf i).toNat)
  case atStart => exact relC_start s c h0 h1 h2 h3
  case round =>
    obtain ⟨k, y, hk, hy0, hy1, HR, rfl, rfl⟩ := hrel
    by_cases hlt : k < 8
    · go_wp2_with fail
      rw [byte_step y hy0 hy1]
      exact ⟨relC_step hlt hy0 hy1 HR, by simp [intOf]; omega⟩
    · obtain rfl : k = 8 := by omega
      go_wp2
      go_ret
      exact ⟨ret_int (relC_end hy0 HR), rfl⟩

theorem stepT_odd (y : Int) (h0 : 0 ≤ y) (h1 : y ≤ 4294967295) (h : y % 2 = 1) : bits .xor .u32 (y / 2) 3988292384 = ((stepT y.toNat : Nat) : Int) := by
  obtain ⟨n, rfl⟩ := Int.eq_ofNat_of_zero_le h0
  unfold stepT
  rw [Int.toNat_natCast, if_pos (by omega), show (n : Int) / 2 = ((n / 2 : Nat) : Int) by omega]
  exact u32_xor_nat (n / 2) 3988292384 (by omega) (by omega)
theorem stepT_even (y : Int) (h0 : 0 ≤ y) (h1 : y ≤ 4294967295) (h : ¬ y % 2 = 1) : y / 2 = ((stepT y.toNat : Nat) : Int) := by
  unfold stepT
  rw [if_neg (by omega)]
  omega

set_option maxHeartbeats 400000 in
theorem rbyte_calls (s c : Int) (w : World) (h0 : 0 ≤ s) (h1 : s ≤ 4294967295) (h2 : 0 ≤ c) (h3 : c ≤ 255) :
    Calls Try.prog 42 #[.int .u32 s, .int .u8 c] w fun e w' => e = .returned (.int .u32 (byteZ s c)) ∧ w = w' := by
  go_enter Try.func42, Try.ntmps42
  go_wp2
  go_loop [0, 5] (RelC (byteT s.toNat c.toNat)) (fun _ i => 8 - (intOf i).toNat)
  case atStart => exact relC_start s c h0 h1 h2 h3
  case round =>
    obtain ⟨k, y, hk, hy0, hy1, HR, rfl, rfl⟩ := hrel
    by_cases hlt : k < 8
    · by_cases hodd : y % 2 = 1
      · have ho : (y % 2 == 1) = true := by simpa using hodd
        have HE := Lib.hid (stepT_odd y hy0 hy1 hodd)
        clear hodd
        go_wp2_with fail
        rw [HE.out]
        exact ⟨relC_step hlt hy0 hy1 HR, by simp [intOf]; omega⟩
      · have ho : (y % 2 == 1) = false := by simpa using hodd
        have HE := Lib.hid (stepT_even y hy0 hy1 hodd)
        clear hodd
        go_wp2_with fail
        rw [HE.out]
        exact ⟨relC_step hlt hy0 hy1 HR, by simp [intOf]; omega⟩
    · obtain rfl : k = 8 := by omega
      go_wp2
      go_ret
      exact ⟨ret_int (relC_end hy0 HR), rfl⟩
end Go.Proofs.Ytikeebgclplphaa
