/-
  Decimal numbers: what the library's parse and the document's give at digits; plain, of no program.
-/
import Derived.Lib.AtoiAll
import Derived.Lib.SlTrimSet
import Derived.Lib.Strings
namespace Go.Proofs.YtdgdkkapikopnaaDoor
set_option linter.unusedVariables false

/-- A digit. -/
def isDig (c : UInt8) : Bool := decide (48 ≤ c.toNat) && decide (c.toNat ≤ 57)
/-- The number that digits spell behind a number. -/
def dval : Nat → List UInt8 → Nat
  | a, [] => a
  | a, c :: r => dval (a * 10 + (c.toNat - 48)) r
theorem dval_le : ∀ (l : List UInt8) (a : Nat), a ≤ dval a l
  | [], a => Nat.le_refl a
  | c :: r, a => Nat.le_trans (by omega) (dval_le r (a * 10 + (c.toNat - 48)))
theorem parse_digits (l : List UInt8) : ∀ (a : Nat), (∀ c ∈ l, isDig c = true) → a < 18446744073709551616 → Lib.parseUint10 a l = if dval a l < 18446744073709551616 then .ok (dval a l) else .range := by
  induction l with
  | nil =>
    intro a _ h
    show Lib.NumEnd.ok a = if a < 18446744073709551616 then .ok a else .range
    rw [if_pos h]
  | cons c r ih =>
    intro a hd h
    have hc := hd c (List.mem_cons_self)
    unfold isDig at hc
    simp only [Bool.and_eq_true, decide_eq_true_eq] at hc
    have hle := dval_le r (a * 10 + (c.toNat - 48))
    show Lib.parseUint10 a (c :: r) = if dval (a * 10 + (c.toNat - 48)) r < 18446744073709551616 then .ok (dval (a * 10 + (c.toNat - 48)) r) else .range
    have e : Lib.parseUint10 a (c :: r) = if 48 ≤ c.toNat ∧ c.toNat ≤ 57 then
      if 1844674407370955162 ≤ a then .range
      else if 18446744073709551616 ≤ a * 10 + (c.toNat - 48) then .range
      else Lib.parseUint10 (a * 10 + (c.toNat - 48)) r
    else .syntax := by rw [Lib.parseUint10]
    rw [e, if_pos hc]
    by_cases h1 : 1844674407370955162 ≤ a
    · rw [if_pos h1, if_neg (by omega)]
    · rw [if_neg h1]
      by_cases h2 : 18446744073709551616 ≤ a * 10 + (c.toNat - 48)
      · rw [if_pos h2, if_neg (by omega)]
      · rw [if_neg h2]
        exact ih _ (fun x hx => hd x (List.mem_cons_of_mem _ hx)) (by omega)
/-- The digits behind an optional minus sign. -/
def digitsOf (l : List UInt8) : List UInt8 := match l with
  | [] => []
  | c :: r => if c.toNat = 45 then r else c :: r
def minusOf (l : List UInt8) : Bool := match l with
  | [] => false
  | c :: _ => decide (c.toNat = 45)
/-- The number of a text, and the error's number: by the document. -/
def numD (l : List UInt8) : Int × Int :=
  if digitsOf l = [] ∨ (digitsOf l).all isDig = false then (0, 3)
  else if minusOf l = true then (if dval 0 (digitsOf l) ≤ 9223372036854775808 then (-(dval 0 (digitsOf l) : Int), 0) else (0, 8))
  else (if dval 0 (digitsOf l) < 9223372036854775808 then ((dval 0 (digitsOf l) : Int), 0) else (0, 8))
/-- The library's parse at a text that is a number by its form. -/
theorem atoi_num (l : List UInt8) (h0 : digitsOf l ≠ []) (h1 : (digitsOf l).all isDig = true) :
    Lib.atoiAll l = if minusOf l = true then (if dval 0 (digitsOf l) ≤ 9223372036854775808 then .ok (-(dval 0 (digitsOf l) : Int)) else .range) else (if dval 0 (digitsOf l) < 9223372036854775808 then .ok ((dval 0 (digitsOf l) : Int)) else .range) := by
  cases l with
  | nil => exact absurd rfl h0
  | cons c r =>
    have hall : ∀ x ∈ digitsOf (c :: r), isDig x = true := fun x hx => List.all_eq_true.1 h1 x hx
    unfold Lib.atoiAll
    by_cases hm : c.toNat = 45
    · have hd : digitsOf (c :: r) = r := by show (if c.toNat = 45 then r else c :: r) = r; rw [if_pos hm]
      have hmin : minusOf (c :: r) = true := by unfold minusOf; simpa using hm
      rw [hd] at h0 hall ⊢
      rw [hmin]
      simp only [hm, or_true, if_true, not_true_eq_false, false_and, if_false, true_and]
      unfold Lib.parseMag
      rw [if_neg h0, parse_digits r 0 hall (by omega)]
      by_cases h2 : dval 0 r < 18446744073709551616
      · rw [if_pos h2]
        by_cases h3 : dval 0 r ≤ 9223372036854775808
        · simp [h3, Nat.not_lt.2 h3]
        · simp [h3, Nat.not_le.1 h3]
      · rw [if_neg h2, if_neg (by omega)]
    · have hd : digitsOf (c :: r) = c :: r := by show (if c.toNat = 45 then r else c :: r) = c :: r; rw [if_neg hm]
      have hmin : minusOf (c :: r) = false := by unfold minusOf; simpa using hm
      rw [hd] at h0 hall ⊢
      rw [hmin]
      have hc := hall c (List.mem_cons_self)
      unfold isDig at hc
      simp only [Bool.and_eq_true, decide_eq_true_eq] at hc
      have hp : ¬ c.toNat = 43 := by omega
      simp only [hm, hp, or_self, if_false, Bool.false_eq_true, not_false_eq_true, true_and, false_and]
      unfold Lib.parseMag
      rw [if_neg h0, parse_digits (c :: r) 0 hall (by omega)]
      by_cases h2 : dval 0 (c :: r) < 18446744073709551616
      · rw [if_pos h2]
        by_cases h3 : dval 0 (c :: r) < 9223372036854775808
        · simp [h3, Nat.not_le.2 h3]
        · simp [h3, Nat.not_lt.1 h3]
      · rw [if_neg h2, if_neg (by omega)]
end Go.Proofs.YtdgdkkapikopnaaDoor
