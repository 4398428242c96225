/-
  The order of values, plain: by the document; it is a total order. Of no program. No conditions.
-/
import Derived.Test.YtdgdkkapikopnaaDoorVOrd
namespace Go.Proofs.YtdgdkkapikopnaaDoor
open Go.ChangeShapes Go.WideShapes Go.ChangeAt Go.RowKit
set_option linter.unusedVariables false
/-- A value: kind, number, text. -/
structure Vl where
  k : Int
  n : Int
  s : ByteArray
def Vl.v (a : Vl) : Value := .agg #[.int .u8 a.k, .int .i64 a.n, .string a.s]
structure Vl.Good (a : Vl) : Prop where
  k0 : 0 ≤ a.k
  k1 : a.k ≤ 255
  n0 : -9223372036854775808 ≤ a.n
  n1 : a.n ≤ 9223372036854775807
  s1 : a.s.size ≤ reachBytes
def cmpI (m n : Int) : Int := if m < n then -1 else if n < m then 1 else 0
def ordV (a b : Vl) : Int :=
  if a.k = 0 then (if b.k = 0 then cmpI a.n b.n else -1)
  else if b.k = 0 then 1 else cmpT (sl a.s) (sl b.s)
theorem cmpI_neg (m n : Int) : cmpI n m = - cmpI m n := by unfold cmpI; split <;> split <;> omega
theorem ordV_neg (a b : Vl) : ordV b a = - ordV a b := by
  unfold ordV
  by_cases h1 : a.k = 0
  · by_cases h2 : b.k = 0
    · rw [if_pos h2, if_pos h1, if_pos h1, if_pos h2]; exact cmpI_neg _ _
    · rw [if_neg h2, if_pos h1, if_pos h1, if_neg h2]; rfl
  · by_cases h2 : b.k = 0
    · rw [if_pos h2, if_neg h1, if_neg h1, if_pos h2]
    · rw [if_neg h2, if_neg h1, if_neg h1, if_neg h2]; exact cmpT_neg _ _
theorem ltT_trans : ∀ a b c : List Int, ltT a b = true → ltT b c = true → ltT a c = true
  | [], b, [], h1, h2 => by cases b <;> simp [ltT] at h2
  | [], _, _ :: _, _, _ => rfl
  | _ :: _, [], _, h1, _ => by simp [ltT] at h1
  | _ :: _, _ :: _, [], _, h2 => by simp [ltT] at h2
  | x :: a, y :: b, z :: c, h1, h2 => by
    have ih := ltT_trans a b c
    unfold ltT at h1 h2 ⊢
    by_cases e1 : x = y
    · by_cases e2 : y = z
      · rw [if_pos e1] at h1; rw [if_pos e2] at h2; rw [if_pos (e1.trans e2)]; exact ih h1 h2
      · rw [if_neg e2] at h2; rw [if_neg (by rw [e1]; exact e2)]; rw [e1]; exact h2
    · rw [if_neg e1] at h1
      by_cases e2 : y = z
      · rw [if_neg (by rw [← e2]; exact e1), ← e2]; exact h1
      · rw [if_neg e2] at h2
        simp only [decide_eq_true_eq] at h1 h2
        rw [if_neg (by omega)]; simp; omega
theorem cmpT_le {a b : List Int} : cmpT a b ≤ 0 ↔ ltT b a = false := by
  unfold cmpT
  by_cases h : ltT a b = true
  · rw [if_pos h, ltT_asymm a b h]; simp
  · rw [if_neg h]
    by_cases h2 : ltT b a = true
    · rw [if_pos h2, h2]; simp
    · rw [if_neg h2]; simpa using h2
theorem cmpT_trans {a b c : List Int} (h1 : cmpT a b ≤ 0) (h2 : cmpT b c ≤ 0) : cmpT a c ≤ 0 := by
  rw [cmpT_le] at *
  rcases Bool.eq_false_or_eq_true (ltT c a) with h | h
  · exfalso
    rcases Bool.eq_false_or_eq_true (ltT b c) with h3 | h3
    · rw [ltT_trans b c a h3 h] at h1; cases h1
    · have e := ltT_total _ _ h3 h2
      rw [e] at h1; rw [h1] at h; cases h
  · exact h
theorem cmpI_trans {a b c : Int} (h1 : cmpI a b ≤ 0) (h2 : cmpI b c ≤ 0) : cmpI a c ≤ 0 := by
  unfold cmpI at *
  split at h1
  · split at h2
    · rw [if_pos (by omega)]; omega
    · split at h2
      · omega
      · rw [if_pos (by omega)]; omega
  · split at h1
    · omega
    · split at h2
      · rw [if_pos (by omega)]; omega
      · split at h2
        · omega
        · rw [if_neg (by omega), if_neg (by omega)]; omega
theorem ordV_trans {a b c : Vl} (h1 : ordV a b ≤ 0) (h2 : ordV b c ≤ 0) : ordV a c ≤ 0 := by
  unfold ordV at *
  by_cases ha : a.k = 0 <;> by_cases hb : b.k = 0 <;> by_cases hc : c.k = 0 <;> simp only [ha, hb, hc, if_true, if_false] at h1 h2 ⊢ <;> try omega
  · exact cmpI_trans h1 h2
  · exact cmpT_trans h1 h2
theorem cmpI_small (m n : Int) : -1 ≤ cmpI m n ∧ cmpI m n ≤ 1 := by unfold cmpI; split <;> (try split) <;> omega
theorem cmpT_small (x y : List Int) : -1 ≤ cmpT x y ∧ cmpT x y ≤ 1 := by unfold cmpT; split <;> (try split) <;> omega
theorem ordV_small (a b : Vl) : -1 ≤ ordV a b ∧ ordV a b ≤ 1 := by
  unfold ordV
  split
  · split
    · exact cmpI_small _ _
    · omega
  · split
    · omega
    · exact cmpT_small _ _
end Go.Proofs.YtdgdkkapikopnaaDoor
