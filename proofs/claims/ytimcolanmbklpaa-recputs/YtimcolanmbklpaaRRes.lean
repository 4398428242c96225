/-
  What putting lists answers: the bytes and no error where nothing is too long or too many. No program. Conditions: as in the premises.
-/
import Derived.Test.YtimcolanmbklpaaRPutP
import Derived.Test.YtimcolanmbklpaaRRPut
namespace Go.Proofs.Ytimcolanmbklpaa
open Go.ChangeShapes Go.WideShapes Go.ChangeAt Go.RowKit
set_option linter.unusedVariables false

theorem putFrom_ok {α : Type} {f : α → List Int × Int} {g : α → List Int} : ∀ (xs : List α) (L : List Int), (∀ x ∈ xs, f x = (g x, 0)) → putFrom f L xs = (L ++ xs.flatMap g, 0)
  | [], L, _ => by simp [putFrom]
  | x :: xs, L, h => by
    have hx := h x (by simp)
    simp only [putFrom, hx, if_true]
    rw [putFrom_ok xs _ (fun y hy => h y (by simp [hy]))]
    simp
theorem putAll_ok {α : Type} {f : α → List Int × Int} {g : α → List Int} (xs : List α) (l : List Int) (hn : xs.length ≤ 65536) (h : ∀ x ∈ xs, f x = (g x, 0)) : putAll f l xs = (l ++ listB g xs, 0) := by
  unfold putAll listB
  rw [if_neg (by omega), putFrom_ok xs _ h, List.append_assoc]
theorem wrT_ok {s : List Int} (h : s.length ≤ 65536) : wrT s = (encT s, 0) := by unfold wrT; rw [if_neg (by omega)]
theorem wrT_long {s : List Int} (h : 65536 < s.length) : wrT s = ([], 5) := by unfold wrT; rw [if_pos h]
theorem wrS_ok {s : ByteArray} (h : s.size ≤ 65536) : wrT (sl s) = (encS s, 0) := wrT_ok (by rw [sl_length]; exact h)
theorem wrP_ok {p : ByteArray × ByteArray} (h1 : p.1.size ≤ 65536) (h2 : p.2.size ≤ 65536) : wrP p = (encP p, 0) := by
  unfold wrP
  rw [wrS_ok h1, wrS_ok h2]
  rfl
theorem putS_ok (ss : List ByteArray) (l : List Int) (hn : ss.length ≤ 65536) (h : ∀ s ∈ ss, s.size ≤ 65536) : putAll (fun s => wrT (sl s)) l ss = (l ++ listB encS ss, 0) := putAll_ok ss l hn (fun s hs => wrS_ok (h s hs))
theorem putP_ok (ss : List (ByteArray × ByteArray)) (l : List Int) (hn : ss.length ≤ 65536) (h : ∀ s ∈ ss, s.1.size ≤ 65536 ∧ s.2.size ≤ 65536) : putAll wrP l ss = (l ++ listB encP ss, 0) := putAll_ok ss l hn (fun s hs => wrP_ok (h s hs).1 (h s hs).2)
theorem putS_many (ss : List ByteArray) (l : List Int) (hn : 65536 < ss.length) : putAll (fun s => wrT (sl s)) l ss = ([], 9) := by unfold putAll; rw [if_pos hn]
theorem putS_long (s : ByteArray) (l : List Int) (h : 65536 < s.size) : putAll (fun s => wrT (sl s)) l [s] = ([], 5) := by
  unfold putAll
  rw [if_neg (by simp)]
  simp only [putFrom, wrT_long (show 65536 < (sl s).length by rw [sl_length]; exact h)]
  simp
theorem putP_long (s t : ByteArray) (l : List Int) (h1 : s.size ≤ 65536) (h2 : 65536 < t.size) : putAll wrP l [(s, t)] = ([], 5) := by
  unfold putAll
  rw [if_neg (by simp)]
  have : wrP (s, t) = ([], 5) := by
    unfold wrP
    rw [wrS_ok h1, wrT_long (show 65536 < (sl t).length by rw [sl_length]; exact h2)]
    simp
  simp only [putFrom, this]
  simp
theorem made_strs (q : Nat) : (madeCells (Value.string ByteArray.empty).cells (q * 1)).toList = cellsG enS (List.replicate q ByteArray.empty) := by
  rw [Nat.mul_one]
  show (madeCells #[Value.string ByteArray.empty] q).toList = _
  rw [toList_madeCells_one]
  induction q with
  | zero => rfl
  | succ q ih => simp only [List.replicate_succ, cellsG, List.flatMap_cons] at ih ⊢; rw [ih]; rfl
end Go.Proofs.Ytimcolanmbklpaa
