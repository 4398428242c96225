/-
  What all the laws of layer 1 share: an argument []byte as a list of bytes, and the small callees. Conditions: each theorem names its own.
-/
import Derived.Test.YtcahaffmelekbaaRGet
namespace Go.Proofs.Ytcahaffmelekbaa
open Go.ChangeShapes Go.WideShapes Go.ChangeAt Go.RowKit
set_option linter.unusedVariables false

theorem own : ownKnob Try.prog.godebug = none := by kernel_rfl
theorem laidOut : laidOutB Try.prog = true := by kernel_rfl

/-- An argument []byte: nil, or a row of cap cells that hold zs, the first len of them its elements. -/
def IsRow (w : World) (a : Option Addr) (len cap : Nat) (zs : List Int) : Prop :=
  (a = none ∧ len = 0 ∧ cap = 0 ∧ zs = []) ∨
  ∃ x, a = some x ∧ len ≤ cap ∧ cap ≤ maxLen ∧ zs.length = cap ∧ (∀ i, i < zs.length → w.cell? (x.add i) = some (.int .u8 (zs.getD i 0))) ∧ ∀ n ∈ zs, (Lit.int .u8 n).wf = true

/-- The same, as the contracts take it. -/
theorem bytes_of_row {w : World} {a : Option Addr} {len cap : Nat} {zs : List Int} (h : IsRow w a len cap zs) :
    ∃ l : List Int, l.length = len ∧ l.length ≤ cap ∧ l.length ≤ maxLen ∧ Lies w a cap l ∧ IsB l := by
  rcases h with ⟨rfl, rfl, rfl, rfl⟩ | ⟨x, rfl, hl, hm, hz, hc, hw⟩
  · exact ⟨[], rfl, by simp, by simp, Lies.nil w, by intro x hx; simp at hx⟩
  · refine ⟨zs.take len, by simp; omega, by simp; omega, by simp; omega, .inr ⟨x, rfl, fun j u hu => ?_⟩, fun z hz' => ?_⟩
    · have hj : j < (zs.take len).length := by
        rcases Nat.lt_or_ge j (zs.take len).length with h | h
        · exact h
        · rw [List.getElem?_eq_none (by rw [cellsOf_length]; exact h)] at hu; cases hu
      have hj2 : j < zs.length := by simp at hj; omega
      have e : (zs.take len).getD j 0 = zs.getD j 0 := by
        have : j < len := by simp at hj; omega
        simp [List.getD, this]
      rw [cellsOf_get hj, e] at hu
      rw [hc j hj2, hu]
    · have := bounds_u8 (hw z (List.mem_of_mem_take hz'))
      omega

theorem code_calls (n : Int) (w : World) (h0 : 0 ≤ n) (h1 : n ≤ 1000) : Calls Try.prog 16 #[.int .i64 n] w fun e w' => e = .returned (.int .i64 n) ∧ w = w' := by
  go_enter Try.func16, Try.ntmps16
  go_wp2
  go_ret
  exact ⟨rfl, rfl⟩

/-- The error numbers are small. -/
theorem getS_err (l : List Int) (i : Int) : 0 ≤ (getS l i).2.2 ∧ (getS l i).2.2 ≤ 1000 := by
  unfold getS
  simp only
  repeat' split
  all_goals simp

/-- Conversion to a string of a slice of a callee own, then and later. -/
theorem conv_later {w1 : World} {B c : Nat} {A : Option Addr} {l : List Int} (h : w1.ownsRow B 5 1 (.slice A l.length c) l.length (cellsOf l)) :
    ∀ W : World, Below w1.heap.size w1 W → (convert 22 9 (.slice A l.length c)).run Try.prog W = .ok (.string (str l)) W := fun W hb => run_str ((Lies.of_own h).below hb)
/-- .. of a slice that came in. -/
theorem conv_first {w : World} {c : Nat} {A : Option Addr} {l : List Int} (h : Lies w A c l) :
    ∀ W : World, Below w.heap.size w W → (convert 22 9 (.slice A l.length c)).run Try.prog W = .ok (.string (str l)) W := fun W hb => run_str (h.below hb)
/-- Two steps, the second from the first one end. -/
theorem Below.on {w w1 w2 : World} (h : Below w.heap.size w w1) (k : Below w1.heap.size w1 w2) : Below w.heap.size w w2 := h.trans (k.mono h.size)
end Go.Proofs.Ytcahaffmelekbaa
