/-
  Contract of the document's Send, at no nodes. Conditions: the messages lie in memory.
-/
import Derived.Test.YtcdghipodnafmaaPMid
namespace Go.Proofs.Ytcdghipodnafmaa
open Go.ChangeShapes Go.WideShapes Go.ChangeAt Go.RowKit
set_option linter.unusedVariables false
def RSent (b' : Rb) (code : Int) (A : Option Addr) (c : Nat) (rs rs' : List Mr) (W : World) (e : Ending) (w' : World) : Prop := ∃ A' c', e = .returned (.tuple #[rv b' A' rs'.length c', .int .i64 code]) ∧ RowTo A c rs W w' A' c' rs' ∧ Below W.heap.size W w'
/-- Two blocks of the call's own, and nothing else. -/
theorem sent_two (b b' : Rb) (code : Int) (A : Option Addr) (c : Nat) (rs : List Mr) (W : World) (X : Array Value) (n : Nat) (hn : n = rs.length) : RSent b' code A c rs rs W (.returned (.tuple #[rv b' A n c, .int .i64 code])) ((W.alloc (.cells X 34)).alloc (.cells (rc b' A n c) 34)) := ⟨A, c, by rw [hn], .inl ⟨rfl, rfl, rfl⟩, below_two W _ _⟩
theorem blk_two (b' : Rb) (A : Option Addr) (c n : Nat) (W : World) (X : Array Value) : Blk ((W.alloc (.cells X 34)).alloc (.cells (rc b' A n c) 34)) (W.heap.size + 1) (rc b' A n c) 34 := Blk.newAt (W.alloc (.cells X 34)) (rc b' A n c) 34 (by simp)
set_option maxRecDepth 20000 in
set_option maxHeartbeats 8000000 in
theorem rsend_arg (b : Rb) (A : Option Addr) (c : Nat) (rs : List Mr) (W : World) (f t : Int) (D : Option Addr) (cd ln : Nat) (hbad : (b.isN f && b.isN t) = false) :
    Calls Try.prog 22 #[rv b A rs.length c, .int .i64 f, .int .i64 t, .slice D ln cd] W (RSent b 1 A c rs rs W) := by
  obtain ⟨n, hn⟩ : ∃ n, n = rs.length := ⟨_, rfl⟩
  have HEND := Lib.hid (fun X => sent_two b b 1 A c rs W X n hn)
  have HL := Lib.hid (fun X => lv34 (blk_two b A c n W X))
  rw [← hn]
  clear hn
  unfold Rb.isN at hbad
  unfold rc at HL
  unfold rv rc
  by_cases h1 : f < 0
  · have d1 : decide (f < 0) = true := by simpa using h1
    clear hbad h1
    go_enter Try.func22, Try.ntmps22
    go_wp2
    refine bodyPost_ret (results_cell_tmp1 rfl _ _ _ _ _ rfl (HL.out _)) rfl ?_
    exact HEND.out _
  · have d1 : decide (f < 0) = false := by simpa using h1
    by_cases h2 : b.n ≤ f
    · have d2 : decide (b.n ≤ f) = true := by simpa using h2
      clear hbad h1 h2
      go_enter Try.func22, Try.ntmps22
      go_wp2
      refine bodyPost_ret (results_cell_tmp1 rfl _ _ _ _ _ rfl (HL.out _)) rfl ?_
      exact HEND.out _
    · have d2 : decide (b.n ≤ f) = false := by simpa using h2
      by_cases h3 : t < 0
      · have d3 : decide (t < 0) = true := by simpa using h3
        clear hbad h1 h2 h3
        go_enter Try.func22, Try.ntmps22
        go_wp2
        refine bodyPost_ret (results_cell_tmp1 rfl _ _ _ _ _ rfl (HL.out _)) rfl ?_
        exact HEND.out _
      · have d3 : decide (t < 0) = false := by simpa using h3
        have d4 : decide (b.n ≤ t) = true := by
          simp only [Bool.and_eq_false_iff, decide_eq_false_iff_not] at hbad
          simp only [decide_eq_true_eq]; omega
        clear hbad h1 h2 h3
        go_enter Try.func22, Try.ntmps22
        go_wp2
        refine bodyPost_ret (results_cell_tmp1 rfl _ _ _ _ _ rfl (HL.out _)) rfl ?_
        exact HEND.out _
end Go.Proofs.Ytcdghipodnafmaa
