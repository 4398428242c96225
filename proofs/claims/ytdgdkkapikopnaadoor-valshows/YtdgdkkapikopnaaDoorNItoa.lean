/-
  A number written in decimal is read as that number; the plain facts on digits that the document's reading wants. Plain, of no program. Conditions: numbers of 64 bits.
-/
import Derived.Test.YtdgdkkapikopnaaDoorNNum
import Derived.Lib.ItoaNum
namespace Go.Proofs.YtdgdkkapikopnaaDoor
set_option linter.unusedVariables false
theorem dval_append : ∀ (l r : List UInt8) (a : Nat), dval a (l ++ r) = dval (dval a l) r
  | [], _, _ => rfl
  | c :: l, r, a => dval_append l r (a * 10 + (c.toNat - 48))
theorem dval_snoc (l : List UInt8) (c : UInt8) (a : Nat) : dval a (l ++ [c]) = dval a l * 10 + (c.toNat - 48) := by rw [dval_append]; rfl
theorem dval_take_le (l : List UInt8) (k : Nat) : dval 0 (l.take k) ≤ dval 0 l := by
  have h := dval_append (l.take k) (l.drop k) 0
  rw [List.take_append_drop] at h
  rw [h]
  exact dval_le _ _
theorem dval_take_succ {l : List UInt8} {k : Nat} {c : UInt8} (h : l[k]? = some c) : dval 0 (l.take (k + 1)) = dval 0 (l.take k) * 10 + (c.toNat - 48) := by
  rw [List.take_add_one, h]; exact dval_snoc _ _ _
theorem digit_facts (d : Nat) (h : d < 10) : (UInt8.ofNat (48 + d)).toNat = 48 + d := by
  simp only [UInt8.toNat_ofNat']; omega
theorem decDigits_dval (u : Nat) : dval 0 (Lib.decDigits u) = u ∧ (Lib.decDigits u).all isDig = true ∧ Lib.decDigits u ≠ [] ∧ minusOf (Lib.decDigits u) = false := by
  induction u using Nat.strongRecOn with
  | _ u ih =>
    by_cases h : u < 10
    · rw [Lib.decDigits_one h]
      have e := digit_facts u h
      refine ⟨?_, ?_, by simp, ?_⟩
      · show 0 * 10 + ((UInt8.ofNat (48 + u)).toNat - 48) = u
        rw [e]; omega
      · simp only [List.all_cons, List.all_nil, Bool.and_true, isDig, e]
        simp; omega
      · show decide ((UInt8.ofNat (48 + u)).toNat = 45) = false
        rw [e]; simp; omega
    · have hlt : u / 10 < u := by omega
      obtain ⟨i1, i2, i3, i4⟩ := ih (u / 10) hlt
      have hr : u % 10 < 10 := Nat.mod_lt _ (by omega)
      have e := digit_facts (u % 10) hr
      have hd : Lib.decDigits u = Lib.decDigits (u / 10) ++ [UInt8.ofNat (48 + u % 10)] := by
        rw [Lib.decDigits, dif_neg h]
      rw [hd]
      refine ⟨?_, ?_, by simp, ?_⟩
      · rw [dval_snoc, i1, e]; omega
      · rw [List.all_append, i2]
        simp only [List.all_cons, List.all_nil, Bool.and_true, Bool.true_and, isDig, e]
        simp; omega
      · cases hc : Lib.decDigits (u / 10) with
        | nil => exact absurd hc i3
        | cons x r => rw [hc] at i4; exact i4
theorem digitsOf_plain {l : List UInt8} (h : minusOf l = false) : digitsOf l = l := by
  cases l with
  | nil => rfl
  | cons c r =>
    show (if c.toNat = 45 then r else c :: r) = c :: r
    rw [if_neg]
    intro hc
    unfold minusOf at h
    simp [hc] at h
theorem numD_itoa (n : Int) (h0 : -9223372036854775808 ≤ n) (h1 : n ≤ 9223372036854775807) : numD (Lib.itoa n) = (n, 0) := by
  obtain ⟨i1, i2, i3, i4⟩ := decDigits_dval n.natAbs
  by_cases h : n < 0
  · have e : Lib.itoa n = 45 :: Lib.decDigits n.natAbs := by unfold Lib.itoa; rw [if_pos h]
    have e1 : digitsOf (Lib.itoa n) = Lib.decDigits n.natAbs := by
      rw [e]; rfl
    have e2 : minusOf (Lib.itoa n) = true := by rw [e]; rfl
    unfold numD
    rw [e1, e2, if_neg (fun h => by rcases h with h | h; exact i3 h; rw [i2] at h; cases h), if_pos rfl, i1, if_pos (by omega)]
    exact Prod.ext (by show -(n.natAbs : Int) = n; omega) rfl
  · have e : Lib.itoa n = Lib.decDigits n.natAbs := by unfold Lib.itoa; rw [if_neg h, show n.toNat = n.natAbs by omega]
    have e1 : digitsOf (Lib.itoa n) = Lib.decDigits n.natAbs := by rw [e]; exact digitsOf_plain i4
    have e2 : minusOf (Lib.itoa n) = false := by rw [e]; exact i4
    unfold numD
    rw [e1, e2, if_neg (fun h => by rcases h with h | h; exact i3 h; rw [i2] at h; cases h), if_neg (by decide), i1, if_pos (by omega)]
    exact Prod.ext (by show (n.natAbs : Int) = n; omega) rfl
end Go.Proofs.YtdgdkkapikopnaaDoor
