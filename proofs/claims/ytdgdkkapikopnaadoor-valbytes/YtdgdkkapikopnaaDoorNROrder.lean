/-
  Contracts of the document's Order and Same. Conditions: texts as long as an input can be.
-/
import Derived.Test.YtdgdkkapikopnaaDoorNOrder
namespace Go.Proofs.YtdgdkkapikopnaaDoor
open Go.ChangeShapes Go.WideShapes Go.ChangeAt Go.RowKit
set_option linter.unusedVariables false
set_option maxRecDepth 20000
set_option maxHeartbeats 4000000 in
theorem rorder_calls (a b : Vl) (w : World) (ha : a.s.size ≤ reachBytes) (hb : b.s.size ≤ reachBytes) : Calls Tryd.prog 14 #[a.v, b.v] w fun e w' => e = .returned (.int .i64 (ordV a b)) ∧ Below w.heap.size w w' := by
  obtain ⟨k, n, s⟩ := a
  obtain ⟨k', n', s'⟩ := b
  unfold Vl.v ordV
  dsimp only at ha hb ⊢
  have HL := Lib.hid (fun w => less_calls s s' w ha hb)
  clear ha hb
  have b4 := Blk.new w #[.int .u8 k, .int .i64 n, .string s] 23
  have b5 := Blk.newAt (w.alloc (.cells #[.int .u8 k, .int .i64 n, .string s] 23)) #[.int .u8 k', .int .i64 n', .string s'] 23 (g := w.heap.size + 1) (by simp)
  have b6 := b4.alloc (.cells #[.int .u8 k', .int .i64 n', .string s'] 23)
  have hB := below_two w (.cells #[.int .u8 k, .int .i64 n, .string s] 23) (.cells #[.int .u8 k', .int .i64 n', .string s'] 23)
  have HBl := Lib.hid hB
  clear hB
  obtain ⟨x0, x1, x2⟩ := b6.cells3
  obtain ⟨y0, y1, y2⟩ := b5.cells3
  clear b4 b5 b6
  by_cases hk : k = 0
  · rw [if_pos hk]
    by_cases hk' : k' = 0
    · rw [if_pos hk']
      subst hk hk'
      unfold cmpI
      by_cases h1 : n < n'
      · rw [if_pos h1]
        have d1 : decide (n < n') = true := by simpa using h1
        go_enter Tryd.func14, Tryd.ntmps14
        go_wp2
        go_ret
        exact ⟨rfl, HBl.out⟩
      · rw [if_neg h1]
        have d1 : decide (n < n') = false := by simpa using h1
        by_cases h2 : n' < n
        · rw [if_pos h2]
          have d2 : decide (n' < n) = true := by simpa using h2
          go_enter Tryd.func14, Tryd.ntmps14
          go_wp2
          go_ret
          exact ⟨rfl, HBl.out⟩
        · rw [if_neg h2]
          have d2 : decide (n' < n) = false := by simpa using h2
          go_enter Tryd.func14, Tryd.ntmps14
          go_wp2
          go_ret
          exact ⟨rfl, HBl.out⟩
    · rw [if_neg hk']
      subst hk
      have e' : (k' == 0) = false := by simpa using hk'
      go_enter Tryd.func14, Tryd.ntmps14
      go_wp2
      go_ret
      exact ⟨rfl, HBl.out⟩
  · rw [if_neg hk]
    have e : (k == 0) = false := by simpa using hk
    by_cases hk' : k' = 0
    · rw [if_pos hk']
      subst hk'
      go_enter Tryd.func14, Tryd.ntmps14
      go_wp2
      go_ret
      exact ⟨rfl, HBl.out⟩
    · rw [if_neg hk']
      have e' : (k' == 0) = false := by simpa using hk'
      obtain ⟨r, hr⟩ : ∃ r, r = cmpT (sl s) (sl s') := ⟨_, rfl⟩
      rw [← hr]
      unfold cmpT at hr
      by_cases h1 : ltT (sl s) (sl s') = true
      · rw [h1] at HL
        have HR := Lib.hid (show r = -1 by rw [hr, if_pos h1])
        clear hr h1
        go_enter Tryd.func14, Tryd.ntmps14
        go_wp2_with fail
        refine (HL.out _).mono ?_
        rintro e w' ⟨rfl, q, rfl⟩
        dsimp only
        go_wp2
        go_ret
        exact ⟨by rw [HR.out]; rfl, HBl.out.trans ⟨rfl, rfl, rfl, Nat.le_refl _, fun _ _ => rfl⟩⟩
      · have h1' : ltT (sl s) (sl s') = false := by simpa using h1
        rw [h1'] at HL
        by_cases h2 : s = s'
        · subst h2
          have HR := Lib.hid (show r = 0 by rw [hr, if_neg h1, if_neg h1])
          clear hr h1 h1'
          go_enter Tryd.func14, Tryd.ntmps14
          go_wp2_with fail
          refine (HL.out _).mono ?_
          rintro e w' ⟨rfl, q, rfl⟩
          dsimp only
          go_wp2
          go_ret
          exact ⟨by rw [HR.out]; rfl, HBl.out.trans ⟨rfl, rfl, rfl, Nat.le_refl _, fun _ _ => rfl⟩⟩
        · have h5 : ltT (sl s') (sl s) = true := by
            rcases Bool.eq_false_or_eq_true (ltT (sl s') (sl s)) with h | h
            · exact h
            · exact absurd (sl_inj (ltT_total _ _ h1' h)) h2
          have HR := Lib.hid (show r = 1 by rw [hr, if_neg h1, if_pos h5])
          have hne := toList_beq_false h2
          clear hr h1 h1' h5 h2
          go_enter Tryd.func14, Tryd.ntmps14
          go_wp2_with fail
          refine (HL.out _).mono ?_
          rintro e w' ⟨rfl, q, rfl⟩
          dsimp only
          go_wp2
          go_ret
          exact ⟨by rw [HR.out]; rfl, HBl.out.trans ⟨rfl, rfl, rfl, Nat.le_refl _, fun _ _ => rfl⟩⟩
theorem same_calls (a b : Vl) (w : World) (ha : a.s.size ≤ reachBytes) (hb : b.s.size ≤ reachBytes) : Calls Tryd.prog 11 #[a.v, b.v] w fun e w' => e = .returned (.bool (decide (ordV a b = 0))) ∧ Below w.heap.size w w' := by
  have HO := Lib.hid (fun W => rorder_calls a b W ha hb)
  clear ha hb
  generalize ordV a b = r at *
  obtain ⟨k, n, s⟩ := a
  obtain ⟨k', n', s'⟩ := b
  unfold Vl.v at *
  dsimp only at *
  have b4 := Blk.new w #[.int .u8 k, .int .i64 n, .string s] 23
  have b5 := Blk.newAt (w.alloc (.cells #[.int .u8 k, .int .i64 n, .string s] 23)) #[.int .u8 k', .int .i64 n', .string s'] 23 (g := w.heap.size + 1) (by simp)
  have b6 := b4.alloc (.cells #[.int .u8 k', .int .i64 n', .string s'] 23)
  have hB := below_two w (.cells #[.int .u8 k, .int .i64 n, .string s] 23) (.cells #[.int .u8 k', .int .i64 n', .string s'] 23)
  have HBl := Lib.hid hB
  clear hB
  obtain ⟨x0, x1, x2⟩ := b6.cells3
  obtain ⟨y0, y1, y2⟩ := b5.cells3
  clear b4 b5 b6
  go_enter Tryd.func11, Tryd.ntmps11
  go_wp2_with fail
  refine (HO.out _).mono ?_
  rintro e w' ⟨rfl, hb⟩
  have HB := Lib.hid hb
  clear hb
  dsimp only
  go_wp2
  go_ret
  exact ⟨by first | rfl | (congr 2; exact Bool.eq_iff_iff.2 (by simp)), HBl.out.trans (HB.out.mono HBl.out.size)⟩
end Go.Proofs.YtdgdkkapikopnaaDoor
