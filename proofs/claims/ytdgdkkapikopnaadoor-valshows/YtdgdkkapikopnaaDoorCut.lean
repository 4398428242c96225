/-
  Cuts of byte slices: b[lo:hi], b[lo:], b[:hi], as lists of bytes, nil and empty ones let in. No function of the program in sight. Conditions: the bounds that each theorem names.
-/
import Derived.Test.YtdgdkkapikopnaaDoorGrow
namespace Go.Proofs.YtdgdkkapikopnaaDoor
open Go.ChangeShapes Go.WideShapes Go.ChangeAt Go.RowKit
set_option linter.unusedVariables false

theorem Lies.sliced {w W : World} {A : Option Addr} {c : Nat} {l : List Int} (h : Lies w A c l) (hc : l.length ≤ c) (hb : Below w.heap.size w W) (lo n : Nat) (hn : lo + n ≤ l.length) :
    Lies W (if c = lo then A else A.map (·.add (lo * 1))) (c - lo) ((l.drop lo).take n) := by
  rcases A with _ | a
  · rcases h with ⟨_, rfl, rfl⟩ | ⟨a, ha, _⟩
    · have : lo = 0 := by simpa using (show lo ≤ 0 by simp at hn; omega)
      subst this
      simpa using Lies.nil W
    · cases ha
  · rcases Nat.eq_zero_or_pos n with h0 | h0
    · subst h0
      rw [List.take_zero]
      split
      · exact .inr ⟨a, rfl, fun j u hu => by simp [cellsOf] at hu⟩
      · exact .inr ⟨_, rfl, fun j u hu => by simp [cellsOf] at hu⟩
    · obtain ⟨b, o, ha, hbl, hcell⟩ := h.at_ (by omega)
      injection ha with ha
      subst ha
      rw [if_neg (by omega)]
      have e1 : (some (⟨b, o, none⟩ : Addr)).map (·.add (lo * 1)) = some ⟨b, o + lo, none⟩ := by
        rw [Nat.mul_one, Option.map_some]
        unfold Addr.add
        split
        · rename_i hz; subst hz; rfl
        · rfl
      rw [e1]
      have e : ((l.drop lo).take n).length = n := by rw [List.length_take, List.length_drop]; omega
      refine .inr ⟨_, rfl, fun j u hu => ?_⟩
      have hj : j < n := by
        rcases Nat.lt_or_ge j n with h | h
        · exact h
        · rw [List.getElem?_eq_none (by rw [cellsOf_length, e]; exact h)] at hu; cases hu
      rw [cellsOf_get (by rw [e]; exact hj)] at hu
      have e2 : ((l.drop lo).take n).getD j 0 = l.getD (lo + j) 0 := by simp [List.getD, hj]
      rw [e2] at hu
      have e3 : (⟨b, o + lo, none⟩ : Addr).add j = ⟨b, o + (lo + j), none⟩ := by
        unfold Addr.add
        split
        · rename_i hz; subst hz; rfl
        · simp [Nat.add_assoc]
      rw [e3, hb.cell hbl, hcell (lo + j) (by omega), hu]

theorem elem22 : Tryd.prog.elem 24 = 5 := by simp [Program.elem, Tryd.underlying24]
theorem under22 : Tryd.prog.underlying 24 = some (.slice (Tryd.prog.elem 24)) := by simp [Program.elem, Tryd.underlying24]

/-- b[lo:hi]. -/
theorem cut_lh {w : World} {A : Option Addr} {c : Nat} {l : List Int} (h : Lies w A c l) (hc : l.length ≤ c) (lo n : Nat) (L H : Int) (hL : L = lo) (hH : H = lo + n) (hn : lo + n ≤ l.length) :
    ∃ A' C', (∀ W, (Instr.slice 24 (.slice A l.length c) (some (.int .i64 L)) (some (.int .i64 H)) none).run Tryd.prog W = .ok (.slice A' n C') W) ∧ (∀ W, Below w.heap.size w W → Lies W A' C' ((l.drop lo).take n)) ∧ n ≤ C' := by
  subst hL hH
  refine ⟨_, c - lo, fun W => ?_, fun W hb => h.sliced hc hb lo n hn, by omega⟩
  rw [run_slice_lh W 24 _ _ _ under22 .i64 .i64 _ _ (by omega) (by omega) (by omega), elem22, size5]
  simp only [Result.andThen, Go.sliced]
  rw [show ((lo : Int) + n).toNat - (lo : Int).toNat = n by omega, show c - (lo : Int).toNat = c - lo by omega, Int.toNat_natCast]
/-- b[lo:]. -/
theorem cut_l {w : World} {A : Option Addr} {c : Nat} {l : List Int} (h : Lies w A c l) (hc : l.length ≤ c) (lo : Nat) (L : Int) (hL : L = lo) (hn : lo ≤ l.length) :
    ∃ A' C', (∀ W, (Instr.slice 24 (.slice A l.length c) (some (.int .i64 L)) none none).run Tryd.prog W = .ok (.slice A' (l.drop lo).length C') W) ∧ (∀ W, Below w.heap.size w W → Lies W A' C' (l.drop lo)) ∧ (l.drop lo).length ≤ C' := by
  subst hL
  have e : (l.drop lo).take (l.length - lo) = l.drop lo := List.take_of_length_le (by simp)
  refine ⟨_, c - lo, fun W => ?_, fun W hb => by have := h.sliced hc hb lo (l.length - lo) (by omega); rwa [e] at this, by rw [List.length_drop]; omega⟩
  rw [run_slice_l W 24 _ _ _ under22 .i64 _ (by omega) (by omega), elem22, size5]
  simp only [Result.andThen, Go.sliced]
  rw [List.length_drop, Int.toNat_natCast]
/-- b[:hi]. -/
theorem cut_h {w : World} {A : Option Addr} {c : Nat} {l : List Int} (h : Lies w A c l) (hc : l.length ≤ c) (hi : Nat) (H : Int) (hH : H = hi) (hn : hi ≤ l.length) :
    ∃ A' C', (∀ W, (Instr.slice 24 (.slice A l.length c) none (some (.int .i64 H)) none).run Tryd.prog W = .ok (.slice A' (l.take hi).length C') W) ∧ (∀ W, Below w.heap.size w W → Lies W A' C' (l.take hi)) ∧ (l.take hi).length ≤ C' := by
  subst hH
  have e : (l.take hi).length = hi := by rw [List.length_take]; omega
  refine ⟨_, c - 0, fun W => ?_, fun W hb => by have := h.sliced hc hb 0 hi (by omega); rwa [List.drop_zero] at this, by rw [e]; omega⟩
  rw [run_slice_h W 24 _ _ _ under22 .i64 _ (by omega) (by omega), elem22, size5]
  simp only [Result.andThen, Go.sliced]
  rw [e, Int.toNat_natCast, Nat.sub_zero]
end Go.Proofs.YtdgdkkapikopnaaDoor
