/-
  Trimming digits off both ends leaves nothing exactly where all are digits; plain, of no program.
-/
import Derived.Test.YtdgdkkapikopnaaDoorNNum
namespace Go.Proofs.YtdgdkkapikopnaaDoor
set_option linter.unusedVariables false
def digs : List UInt8 := [48, 49, 50, 51, 52, 53, 54, 55, 56, 57]
theorem digs_isDig (b : UInt8) : digs.contains b = isDig b := by
  have h : ∀ n : Fin 256, digs.contains (UInt8.ofFin n) = isDig (UInt8.ofFin n) := by decide +kernel
  exact h b.toFin
theorem dropWhile_nil {p : UInt8 → Bool} : ∀ {l : List UInt8}, l.dropWhile p = [] ↔ l.all p = true
  | [] => by simp
  | c :: r => by
    rw [List.dropWhile_cons, List.all_cons]
    cases hc : p c with
    | true => simpa using dropWhile_nil (l := r)
    | false => simp
theorem dropWhile_head {p : UInt8 → Bool} : ∀ {l r : List UInt8} {c : UInt8}, l.dropWhile p = c :: r → p c = false
  | [], _, _, h => by cases h
  | x :: l, r, c, h => by
    rw [List.dropWhile_cons] at h
    cases hx : p x with
    | true => rw [hx] at h; exact dropWhile_head (l := l) (by simpa using h)
    | false =>
      rw [hx] at h
      simp only [Bool.false_eq_true, if_false] at h
      injection h with h1 h2
      rw [← h1]; exact hx
theorem trim_empty (l : List UInt8) : Lib.trimS l digs = [] ↔ l.all isDig = true := by
  have hp : (fun b => digs.contains b) = isDig := funext digs_isDig
  unfold Lib.trimS Lib.trimLeftS Lib.trimRightS
  rw [hp, dropWhile_nil, List.all_reverse]
  constructor
  · intro h
    cases hd : l.reverse.dropWhile isDig with
    | nil =>
      have := dropWhile_nil.1 hd
      rwa [List.all_reverse] at this
    | cons c r =>
      rw [hd, List.all_cons, dropWhile_head hd] at h
      cases h
  · intro h
    have : l.reverse.dropWhile isDig = [] := dropWhile_nil.2 (by rwa [List.all_reverse])
    rw [this]; rfl
/-- What strings.TrimPrefix leaves behind a minus sign. -/
theorem trim_minus (l : List UInt8) : Lib.trimPrefix l [45] = digitsOf l := by
  cases l with
  | nil => rfl
  | cons c r =>
    unfold Lib.trimPrefix Lib.hasPrefix
    show _ = if c.toNat = 45 then r else c :: r
    have e : ([45] : List UInt8).isPrefixOf (c :: r) = (45 == c) := by simp [List.isPrefixOf]
    rw [e]
    by_cases hc : c.toNat = 45
    · have : c = 45 := UInt8.toNat_inj.1 hc
      subst this
      simp
    · have : (45 == c) = false := by
        simp only [beq_eq_false_iff_ne]
        intro h; exact hc (by rw [← h]; rfl)
      rw [this, if_neg hc]; rfl
end Go.Proofs.YtdgdkkapikopnaaDoor
