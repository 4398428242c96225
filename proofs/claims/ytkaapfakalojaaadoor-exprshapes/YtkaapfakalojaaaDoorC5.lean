/-
  Contracts of the document's Order and Same. Conditions: texts as long as an input can be.
  Contract of the document's Same. Conditions: the expressions lie in memory; at most 3,000 parts.
  Contract of the document's Right. Conditions: the expression lies in memory; at most 3,000 parts.
  A region that draws its order, by an invariant: what each slot holds is told by a predicate of the world, which later steps keep; each operation is looked at once, whatever order is drawn. Conditions: the edges lead backwards (a computed check), and what each operation obligation asks.
  The walks of the laws of layer 9, out of what the program's functions answer.
-/
import Derived.Orders
import Derived.KernelRfl
import Derived.Laws.World
import Derived.Test.YtkaapfakalojaaaDoorC4
namespace Go.Proofs.YtkaapfakalojaaaDoor
open Go.ChangeShapes Go.WideShapes Go.ChangeAt Go.RowKit
set_option linter.unusedVariables false
set_option maxRecDepth 20000
set_option maxHeartbeats 4000000 in
theorem rorder_calls (a b : Vl) (w : World) (ha : a.s.size ≤ reachBytes) (hb : b.s.size ≤ reachBytes) : Calls Tryd.prog 49 #[a.v, b.v] w fun e w' => e = .returned (.int .i64 (ordV a b)) ∧ Below w.heap.size w w' := by
  obtain ⟨k, n, s⟩ := a
  obtain ⟨k', n', s'⟩ := b
  unfold Vl.v ordV
  dsimp only at ha hb ⊢
  have HL := Lib.hid (fun w => less_calls s s' w ha hb)
  clear ha hb
  have b4 := Blk.new w #[.int .u8 k, .int .i64 n, .string s] 23
  have b5 := Blk.newAt (w.alloc (.cells #[.int .u8 k, .int .i64 n, .string s] 23)) #[.int .u8 k', .int .i64 n', .string s'] 23 (g := w.heap.size + 1) (by simp)
  have b6 := b4.alloc (.cells #[.int .u8 k', .int .i64 n', .string s'] 23)
  have hB := below_two w (.cells #[.int .u8 k, .int .i64 n, .string s] 23) (.cells #[.int .u8 k', .int .i64 n', .string s'] 23)
  have HBl := Lib.hid hB
  clear hB
  obtain ⟨x0, x1, x2⟩ := b6.cells3
  obtain ⟨y0, y1, y2⟩ := b5.cells3
  clear b4 b5 b6
  by_cases hk : k = 0
  · rw [if_pos hk]
    by_cases hk' : k' = 0
    · rw [if_pos hk']
      subst hk hk'
      unfold cmpI
      by_cases h1 : n < n'
      · rw [if_pos h1]
        have d1 : decide (n < n') = true := by simpa using h1
        go_enter Tryd.func49, Tryd.ntmps49
        go_wp2
        go_ret
        exact ⟨rfl, HBl.out⟩
      · rw [if_neg h1]
        have d1 : decide (n < n') = false := by simpa using h1
        by_cases h2 : n' < n
        · rw [if_pos h2]
          have d2 : decide (n' < n) = true := by simpa using h2
          go_enter Tryd.func49, Tryd.ntmps49
          go_wp2
          go_ret
          exact ⟨rfl, HBl.out⟩
        · rw [if_neg h2]
          have d2 : decide (n' < n) = false := by simpa using h2
          go_enter Tryd.func49, Tryd.ntmps49
          go_wp2
          go_ret
          exact ⟨rfl, HBl.out⟩
    · rw [if_neg hk']
      subst hk
      have e' : (k' == 0) = false := by simpa using hk'
      go_enter Tryd.func49, Tryd.ntmps49
      go_wp2
      go_ret
      exact ⟨rfl, HBl.out⟩
  · rw [if_neg hk]
    have e : (k == 0) = false := by simpa using hk
    by_cases hk' : k' = 0
    · rw [if_pos hk']
      subst hk'
      go_enter Tryd.func49, Tryd.ntmps49
      go_wp2
      go_ret
      exact ⟨rfl, HBl.out⟩
    · rw [if_neg hk']
      have e' : (k' == 0) = false := by simpa using hk'
      obtain ⟨r, hr⟩ : ∃ r, r = cmpT (sl s) (sl s') := ⟨_, rfl⟩
      rw [← hr]
      unfold cmpT at hr
      by_cases h1 : ltT (sl s) (sl s') = true
      · rw [h1] at HL
        have HR := Lib.hid (show r = -1 by rw [hr, if_pos h1])
        clear hr h1
        go_enter Tryd.func49, Tryd.ntmps49
        go_wp2_with fail
        refine (HL.out _).mono ?_
        rintro e w' ⟨rfl, q, rfl⟩
        dsimp only
        go_wp2
        go_ret
        exact ⟨by rw [HR.out]; rfl, HBl.out.trans ⟨rfl, rfl, rfl, Nat.le_refl _, fun _ _ => rfl⟩⟩
      · have h1' : ltT (sl s) (sl s') = false := by simpa using h1
        rw [h1'] at HL
        by_cases h2 : s = s'
        · subst h2
          have HR := Lib.hid (show r = 0 by rw [hr, if_neg h1, if_neg h1])
          clear hr h1 h1'
          go_enter Tryd.func49, Tryd.ntmps49
          go_wp2_with fail
          refine (HL.out _).mono ?_
          rintro e w' ⟨rfl, q, rfl⟩
          dsimp only
          go_wp2
          go_ret
          exact ⟨by rw [HR.out]; rfl, HBl.out.trans ⟨rfl, rfl, rfl, Nat.le_refl _, fun _ _ => rfl⟩⟩
        · have h5 : ltT (sl s') (sl s) = true := by
            rcases Bool.eq_false_or_eq_true (ltT (sl s') (sl s)) with h | h
            · exact h
            · exact absurd (sl_inj (ltT_total _ _ h1' h)) h2
          have HR := Lib.hid (show r = 1 by rw [hr, if_neg h1, if_pos h5])
          have hne := toList_beq_false h2
          clear hr h1 h1' h5 h2
          go_enter Tryd.func49, Tryd.ntmps49
          go_wp2_with fail
          refine (HL.out _).mono ?_
          rintro e w' ⟨rfl, q, rfl⟩
          dsimp only
          go_wp2
          go_ret
          exact ⟨by rw [HR.out]; rfl, HBl.out.trans ⟨rfl, rfl, rfl, Nat.le_refl _, fun _ _ => rfl⟩⟩
theorem same_calls (a b : Vl) (w : World) (ha : a.s.size ≤ reachBytes) (hb : b.s.size ≤ reachBytes) : Calls Tryd.prog 36 #[a.v, b.v] w fun e w' => e = .returned (.bool (decide (ordV a b = 0))) ∧ Below w.heap.size w w' := by
  have HO := Lib.hid (fun W => rorder_calls a b W ha hb)
  clear ha hb
  generalize ordV a b = r at *
  obtain ⟨k, n, s⟩ := a
  obtain ⟨k', n', s'⟩ := b
  unfold Vl.v at *
  dsimp only at *
  have b4 := Blk.new w #[.int .u8 k, .int .i64 n, .string s] 23
  have b5 := Blk.newAt (w.alloc (.cells #[.int .u8 k, .int .i64 n, .string s] 23)) #[.int .u8 k', .int .i64 n', .string s'] 23 (g := w.heap.size + 1) (by simp)
  have b6 := b4.alloc (.cells #[.int .u8 k', .int .i64 n', .string s'] 23)
  have hB := below_two w (.cells #[.int .u8 k, .int .i64 n, .string s] 23) (.cells #[.int .u8 k', .int .i64 n', .string s'] 23)
  have HBl := Lib.hid hB
  clear hB
  obtain ⟨x0, x1, x2⟩ := b6.cells3
  obtain ⟨y0, y1, y2⟩ := b5.cells3
  clear b4 b5 b6
  go_enter Tryd.func36, Tryd.ntmps36
  go_wp2_with fail
  refine (HO.out _).mono ?_
  rintro e w' ⟨rfl, hb⟩
  have HB := Lib.hid hb
  clear hb
  dsimp only
  go_wp2
  go_ret
  exact ⟨by first | rfl | (congr 2; exact Bool.eq_iff_iff.2 (by simp)), HBl.out.trans (HB.out.mono HBl.out.size)⟩
end Go.Proofs.YtkaapfakalojaaaDoor
namespace Go.Proofs.YtkaapfakalojaaaDoor
open Go.ChangeShapes Go.WideShapes Go.ChangeAt Go.RowKit
set_option linter.unusedVariables false
set_option maxRecDepth 20000
theorem sameL_append : ∀ {a a2 b b2 : List Ex}, a.length = a2.length → sameL (a ++ b) (a2 ++ b2) = (sameL a a2 && sameL b b2)
  | [], [], b, b2, _ => by simp [sameL]
  | [], _ :: _, _, _, h => by simp at h
  | _ :: _, [], _, _, h => by simp at h
  | x :: a, y :: a2, b, b2, h => by
    simp only [List.cons_append, sameL]
    rw [sameL_append (by simpa using h), Bool.and_assoc]
def RelM (l l2 : List Ex) (w1 : World) (i : Value) (wr : World) : Prop := ∃ k : Nat, i = .int .i64 k ∧ k ≤ l.length ∧ Hid (sameL (l.take k) (l2.take k) = true) ∧ Below w1.heap.size w1 wr
set_option maxHeartbeats 8000000 in
theorem rsame_calls : ∀ (x : Ex) (y : Ex) (w : World), x.size ≤ 3000 → x.Good → y.Good → x.At w → y.At w → Calls Tryd.prog 17 #[x.v, y.v] w fun q w' => q = .returned (.bool (x.same y)) ∧ Below w.heap.size w w' := by
  intro x
  induction x using Ex.ind with
  | h op v A c l ih =>
    intro y w hsz hgx hgy hAx hAy
    obtain ⟨op2, v2, A2, c2, l2⟩ := y
    simp only [Ex.At] at hAx hAy
    simp only [Ex.Good] at hgx hgy
    simp only [Ex.same]
    obtain ⟨hcl, hal⟩ := hAx
    obtain ⟨hcl2, hal2⟩ := hAy
    have hl3' : l.length ≤ 3000 := by
      have h9 := hsz
      simp only [Ex.size] at h9
      have := sizeL_len l
      omega
    have HVS := Lib.hid (fun W => same_calls v v2 W hgx.1.2.s1 hgy.1.2.s1)
    have HIH := Lib.hid (fun e (he : e ∈ l) e2 (he2 : e2 ∈ l2) W (hW : Below w.heap.size w W) => ih e he e2 W (by have := size_arg (op := op) (v := v) (A := A) (c := c) he; omega) (goodL_mem hgx.2.2 e he) (goodL_mem hgy.2.2 e2 he2) (Ex.At.below hW e (atL_mem hal e he)) (Ex.At.below hW e2 (atL_mem hal2 e2 he2)))
    unfold Ex.v
    simp only [Ex.op, Ex.vl, Ex.adr, Ex.args, Ex.cp]
    have hm2 : l2.length ≤ 9223372036854775807 := by have := hgy.2.1; unfold maxLen at this; omega
    have HCL := Lib.hid hcl
    have HCL2 := Lib.hid hcl2
    have HEND := Lib.hid (show l.take l.length = l from List.take_length)
    have HEND2 := Lib.hid (show l2.take l2.length = l2 from List.take_length)
    obtain ⟨z, hz⟩ : ∃ z, z = decide (ordV v v2 = 0) := ⟨_, rfl⟩
    rw [← hz] at HVS ⊢
    unfold Vl.v at HVS
    obtain ⟨k, n, s⟩ := v
    obtain ⟨k2, n2, s2⟩ := v2
    dsimp only at HVS ⊢
    obtain ⟨ln, hln⟩ : ∃ ln, ln = l.length := ⟨_, rfl⟩
    obtain ⟨ln2, hln2⟩ : ∃ ln, ln = l2.length := ⟨_, rfl⟩
    have HLN := Lib.hid hln
    have HLN20 := Lib.hid hln2
    rw [← hln] at hl3' ⊢
    rw [← hln2] at hm2 ⊢
    clear ih hsz hgx hgy hcl hal hcl2 hal2 hz hln hln2
    obtain ⟨r, hr⟩ : ∃ r, r = (decide (op = op2) && (decide (ln = ln2) && (decide (op ≠ 0) || z)) && sameL l l2) := ⟨_, rfl⟩
    rw [← hr]
    have HR := Lib.hid hr
    clear hr
    have hB1 := below_two w (.cells #[.int .i64 op, .int .u8 k, .int .i64 n, .string s, .slice A ln c] 26) (.cells #[.int .i64 op2, .int .u8 k2, .int .i64 n2, .string s2, .slice A2 ln2 c2] 26)
    have bx := (Blk.new w #[.int .i64 op, .int .u8 k, .int .i64 n, .string s, .slice A ln c] 26).alloc (.cells #[.int .i64 op2, .int .u8 k2, .int .i64 n2, .string s2, .slice A2 ln2 c2] 26)
    have b_y := Blk.newAt (w.alloc (.cells #[.int .i64 op, .int .u8 k, .int .i64 n, .string s, .slice A ln c] 26)) #[.int .i64 op2, .int .u8 k2, .int .i64 n2, .string s2, .slice A2 ln2 c2] 26 (g := w.heap.size + 1) (by simp)
    obtain ⟨x0, x1, x2, x3, x4⟩ := bx.cells5
    obtain ⟨t0, t1, t2, t3, t4⟩ := b_y.cells5
    by_cases h1 : op = op2
    · have e1 : (op != op2) = false := by simpa using h1
      by_cases h2 : ln = ln2
      · subst h1 h2
        have e2 : ((ln : Int) != (ln : Int)) = false := by simp
        have HLN2 := HLN20
        obtain ⟨W1, hW1⟩ : ∃ W1, W1 = (w.alloc (.cells #[.int .i64 op, .int .u8 k, .int .i64 n, .string s, .slice A ln c] 26)).alloc (.cells #[.int .i64 op, .int .u8 k2, .int .i64 n2, .string s2, .slice A2 ln c2] 26) := ⟨_, rfl⟩
        rw [← hW1] at hB1 bx b_y
        have HB1 := Lib.hid hB1
        have HX := Lib.hid bx
        have HY := Lib.hid b_y
        have HW1 := Lib.hid hW1
        clear hB1 bx b_y hW1
        by_cases h0 : op = 0
        · have e3 : (op == 0) = true := by simpa using h0
          cases z with
          | true =>
            have HFA := Lib.hid (show sameL l l2 = false → r = false from fun h => by rw [HR.out, h]; simp)
            have HTR := Lib.hid (show sameL l l2 = true → r = true from fun h => by rw [HR.out, h]; simp)
            clear h0
            go_enter Tryd.func17, Tryd.ntmps17
            go_wp2_with fail
            rw [← HW1.out]
            refine (HVS.out _).mono ?_
            rintro q w7 ⟨rfl, hb7⟩
            obtain ⟨y0, y1, y2, y3, y4⟩ := (HX.out.belowAll hb7).cells5
            obtain ⟨v0, v1, v2, v3, v4⟩ := (HY.out.belowAll hb7).cells5
            have HSW := Lib.hid hb7
            have HB7 := Lib.hid (HB1.out.trans (hb7.mono HB1.out.size))
            clear hb7
            dsimp only
            go_wp2_with fail
            go_loopw [5] (RelM l l2 W1) (fun i _ => 3001 - (intOf i).toNat)
            case atStart => exact ⟨0, rfl, Nat.zero_le _, Lib.hid (by simp [sameL]), HSW.out⟩
            case round =>
              obtain ⟨j, rfl, hj, hx, hbr⟩ := hrel
              have HBR := Lib.hid hbr
              obtain ⟨c0, c1, c2', c3, c4⟩ := (HX.out.belowAll hbr).cells5
              obtain ⟨d0, d1, d2, d3, d4⟩ := (HY.out.belowAll hbr).cells5
              have HBW := Lib.hid (HB1.out.trans (hbr.mono HB1.out.size))
              have HJL := Lib.hid (show j ≤ ln by rw [HLN.out]; exact hj)
              clear hbr hj
              by_cases hlt : j < ln
              · obtain ⟨e, he⟩ : ∃ e, l[j]? = some e := ⟨l[j]'(by rw [← HLN.out]; exact hlt), by simp⟩
                obtain ⟨e2, he2⟩ : ∃ e, l2[j]? = some e := ⟨l2[j]'(by rw [← HLN2.out]; exact hlt), by simp⟩
                obtain ⟨b, o, hA, hb, hck⟩ := arg_cells HCL.out (by rw [← HLN.out]; omega)
                obtain ⟨b2, o2, hA2, hb2', hck2⟩ := arg_cells HCL2.out (by rw [← HLN2.out]; omega)
                subst hA hA2
                obtain ⟨a0, a1, a2, a3, a4⟩ := hck j e he wr HBW.out
                obtain ⟨g0, g1, g2, g3, g4⟩ := hck2 j e2 he2 wr HBW.out
                have hmem := List.mem_of_getElem? he
                have hmem2 := List.mem_of_getElem? he2
                have h1i : (j : Int) < (ln : Int) := by omega
                have HC := Lib.hid (HIH.out e hmem e2 hmem2 wr.drew HBW.out.drew)
                obtain ⟨y, hy⟩ : ∃ y, y = e.same e2 := ⟨_, rfl⟩
                rw [← hy] at HC
                have HNEW := Lib.hid (show sameL (l.take (j + 1)) (l2.take (j + 1)) = y by
                  rw [take_snoc he, take_snoc he2, sameL_append (by rw [List.length_take, List.length_take, ← HLN.out, ← HLN2.out]), hx.out]
                  simp only [sameL]; rw [← hy]; simp)
                have HNOT := Lib.hid (show y = false → sameL l l2 = false from fun h => by
                  have h9 := sameL_append (a := l.take (j + 1)) (a2 := l2.take (j + 1)) (b := l.drop (j + 1)) (b2 := l2.drop (j + 1)) (by rw [List.length_take, List.length_take, ← HLN.out, ← HLN2.out])
                  rw [List.take_append_drop, List.take_append_drop, HNEW.out, h] at h9
                  simpa using h9)
                unfold Ex.v at HC
                generalize e.op = p0 at *
                generalize e.vl.k = p1 at *
                generalize e.vl.n = p2 at *
                generalize e.vl.s = p3 at *
                generalize e.adr = p4 at *
                generalize e.args.length = p5 at *
                generalize e.cp = p6 at *
                generalize e2.op = q0 at *
                generalize e2.vl.k = q1 at *
                generalize e2.vl.n = q2 at *
                generalize e2.vl.s = q3 at *
                generalize e2.adr = q4 at *
                generalize e2.args.length = q5 at *
                generalize e2.cp = q6 at *
                clear hck he hmem hb hck2 he2 hmem2 hb2' hx hy
                go_wp2_with fail
                refine wp_region_still_tail 10 (by kernel_rfl) (by kernel_rfl) ?_
                change wpStill _ _ wr.drew (fun a' => wpList _ _ _ _ a' wr.drew) _ _
                simp only [List.take_succ_cons, List.take_zero, List.drop_succ_cons, List.drop_zero]
                repeat still_step
                refine wpStill_nil ?_
                go_wp2_with fail
                refine HC.out.mono ?_
                rintro q w9 ⟨rfl, hb9⟩
                have HB9 := Lib.hid (HBR.out.trans ((show Below wr.heap.size wr w9 from ⟨hb9.os, hb9.tape, hb9.output, hb9.size, hb9.block⟩).mono HBR.out.size))
                have HBW9 := Lib.hid (HBW.out.trans ((show Below wr.heap.size wr w9 from ⟨hb9.os, hb9.tape, hb9.output, hb9.size, hb9.block⟩).mono HBW.out.size))
                clear hb9
                dsimp only
                cases y with
                | true =>
                  go_wp2
                  go_roundw
                  case rel => exact ⟨j + 1, by go_num, by rw [← HLN.out]; omega, Lib.hid HNEW.out, HB9.out⟩
                  case measure => simp [intOf]; omega
                | false =>
                  go_wp2
                  go_ret
                  exact ⟨by rw [HFA.out (HNOT.out (by first | rfl | trivial))]; rfl, HBW9.out⟩
              · obtain rfl : j = ln := by have := HJL.out; omega
                have hd2 : decide ((j : Int) < (j : Int)) = false := by simp
                have hx2 : sameL l l2 = true := by
                  have h9 := hx.out
                  rw [HLN.out, HEND.out, ← HLN.out, HLN2.out, HEND2.out] at h9
                  exact h9
                have HFI := Lib.hid (HTR.out hx2)
                clear hx hx2
                go_wp2
                go_ret
                exact ⟨by rw [HFI.out]; rfl, HBW.out⟩
          | false =>
            have HFA := Lib.hid (show r = false by rw [HR.out]; simp [h0])
            clear h0
            go_enter Tryd.func17, Tryd.ntmps17
            go_wp2_with fail
            rw [← HW1.out]
            refine (HVS.out _).mono ?_
            rintro q w7 ⟨rfl, hb7⟩
            obtain ⟨y0, y1, y2, y3, y4⟩ := (HX.out.belowAll hb7).cells5
            obtain ⟨v0, v1, v2, v3, v4⟩ := (HY.out.belowAll hb7).cells5
            have HSW := Lib.hid hb7
            have HB7 := Lib.hid (HB1.out.trans (hb7.mono HB1.out.size))
            clear hb7
            dsimp only
            go_wp2
            go_ret
            exact ⟨by rw [HFA.out]; rfl, HB7.out⟩
        · have e3 : (op == 0) = false := by simpa using h0
          have HFA := Lib.hid (show sameL l l2 = false → r = false from fun h => by rw [HR.out, h]; simp)
          have HTR := Lib.hid (show sameL l l2 = true → r = true from fun h => by rw [HR.out, h]; simp [h0])
          clear h0
          go_enter Tryd.func17, Tryd.ntmps17
          go_wp2_with fail
          rw [← HW1.out]
          have HSW := Lib.hid (Below.refl W1.heap.size W1)
          clear x0 x1 x2 x3 x4 t0 t1 t2 t3 t4
          go_loopw [5] (RelM l l2 W1) (fun i _ => 3001 - (intOf i).toNat)
          case atStart => exact ⟨0, rfl, Nat.zero_le _, Lib.hid (by simp [sameL]), HSW.out⟩
          case round =>
            obtain ⟨j, rfl, hj, hx, hbr⟩ := hrel
            have HBR := Lib.hid hbr
            obtain ⟨c0, c1, c2', c3, c4⟩ := (HX.out.belowAll hbr).cells5
            obtain ⟨d0, d1, d2, d3, d4⟩ := (HY.out.belowAll hbr).cells5
            have HBW := Lib.hid (HB1.out.trans (hbr.mono HB1.out.size))
            have HJL := Lib.hid (show j ≤ ln by rw [HLN.out]; exact hj)
            clear hbr hj
            by_cases hlt : j < ln
            · obtain ⟨e, he⟩ : ∃ e, l[j]? = some e := ⟨l[j]'(by rw [← HLN.out]; exact hlt), by simp⟩
              obtain ⟨e2, he2⟩ : ∃ e, l2[j]? = some e := ⟨l2[j]'(by rw [← HLN2.out]; exact hlt), by simp⟩
              obtain ⟨b, o, hA, hb, hck⟩ := arg_cells HCL.out (by rw [← HLN.out]; omega)
              obtain ⟨b2, o2, hA2, hb2', hck2⟩ := arg_cells HCL2.out (by rw [← HLN2.out]; omega)
              subst hA hA2
              obtain ⟨a0, a1, a2, a3, a4⟩ := hck j e he wr HBW.out
              obtain ⟨g0, g1, g2, g3, g4⟩ := hck2 j e2 he2 wr HBW.out
              have hmem := List.mem_of_getElem? he
              have hmem2 := List.mem_of_getElem? he2
              have h1i : (j : Int) < (ln : Int) := by omega
              have HC := Lib.hid (HIH.out e hmem e2 hmem2 wr.drew HBW.out.drew)
              obtain ⟨y, hy⟩ : ∃ y, y = e.same e2 := ⟨_, rfl⟩
              rw [← hy] at HC
              have HNEW := Lib.hid (show sameL (l.take (j + 1)) (l2.take (j + 1)) = y by
                rw [take_snoc he, take_snoc he2, sameL_append (by rw [List.length_take, List.length_take, ← HLN.out, ← HLN2.out]), hx.out]
                simp only [sameL]; rw [← hy]; simp)
              have HNOT := Lib.hid (show y = false → sameL l l2 = false from fun h => by
                have h9 := sameL_append (a := l.take (j + 1)) (a2 := l2.take (j + 1)) (b := l.drop (j + 1)) (b2 := l2.drop (j + 1)) (by rw [List.length_take, List.length_take, ← HLN.out, ← HLN2.out])
                rw [List.take_append_drop, List.take_append_drop, HNEW.out, h] at h9
                simpa using h9)
              unfold Ex.v at HC
              generalize e.op = p0 at *
              generalize e.vl.k = p1 at *
              generalize e.vl.n = p2 at *
              generalize e.vl.s = p3 at *
              generalize e.adr = p4 at *
              generalize e.args.length = p5 at *
              generalize e.cp = p6 at *
              generalize e2.op = q0 at *
              generalize e2.vl.k = q1 at *
              generalize e2.vl.n = q2 at *
              generalize e2.vl.s = q3 at *
              generalize e2.adr = q4 at *
              generalize e2.args.length = q5 at *
              generalize e2.cp = q6 at *
              clear hck he hmem hb hck2 he2 hmem2 hb2' hx hy
              go_wp2_with fail
              refine wp_region_still_tail 10 (by kernel_rfl) (by kernel_rfl) ?_
              change wpStill _ _ wr.drew (fun a' => wpList _ _ _ _ a' wr.drew) _ _
              simp only [List.take_succ_cons, List.take_zero, List.drop_succ_cons, List.drop_zero]
              repeat still_step
              refine wpStill_nil ?_
              go_wp2_with fail
              refine HC.out.mono ?_
              rintro q w9 ⟨rfl, hb9⟩
              have HB9 := Lib.hid (HBR.out.trans ((show Below wr.heap.size wr w9 from ⟨hb9.os, hb9.tape, hb9.output, hb9.size, hb9.block⟩).mono HBR.out.size))
              have HBW9 := Lib.hid (HBW.out.trans ((show Below wr.heap.size wr w9 from ⟨hb9.os, hb9.tape, hb9.output, hb9.size, hb9.block⟩).mono HBW.out.size))
              clear hb9
              dsimp only
              cases y with
              | true =>
                go_wp2
                go_roundw
                case rel => exact ⟨j + 1, by go_num, by rw [← HLN.out]; omega, Lib.hid HNEW.out, HB9.out⟩
                case measure => simp [intOf]; omega
              | false =>
                go_wp2
                go_ret
                exact ⟨by rw [HFA.out (HNOT.out (by first | rfl | trivial))]; rfl, HBW9.out⟩
            · obtain rfl : j = ln := by have := HJL.out; omega
              have hd2 : decide ((j : Int) < (j : Int)) = false := by simp
              have hx2 : sameL l l2 = true := by
                have h9 := hx.out
                rw [HLN.out, HEND.out, ← HLN.out, HLN2.out, HEND2.out] at h9
                exact h9
              have HFI := Lib.hid (HTR.out hx2)
              clear hx hx2
              go_wp2
              go_ret
              exact ⟨by rw [HFI.out]; rfl, HBW.out⟩
      · have e2 : ((ln : Int) != (ln2 : Int)) = true := by simp; omega
        have HFA := Lib.hid (show r = false by rw [HR.out]; simp [h2])
        have HB1 := Lib.hid hB1
        clear hB1 bx b_y h2 h1
        go_enter Tryd.func17, Tryd.ntmps17
        go_wp2
        go_ret
        exact ⟨by rw [HFA.out]; rfl, HB1.out⟩
    · have e1 : (op != op2) = true := by simpa using h1
      have HFA := Lib.hid (show r = false by rw [HR.out]; simp [h1])
      have HB1 := Lib.hid hB1
      clear hB1 bx b_y h1
      go_enter Tryd.func17, Tryd.ntmps17
      go_wp2
      go_ret
      exact ⟨by rw [HFA.out]; rfl, HB1.out⟩
end Go.Proofs.YtkaapfakalojaaaDoor
namespace Go.Proofs.YtkaapfakalojaaaDoor
open Go.ChangeShapes Go.WideShapes Go.ChangeAt Go.RowKit
set_option linter.unusedVariables false
set_option maxRecDepth 20000
set_option maxHeartbeats 2000000 in
theorem rright_calls (e : Ex) (w : World) (hsz : e.size ≤ 3000) (hg : e.Good) (hA : e.At w) : Calls Tryd.prog 14 #[e.v] w fun q w' => q = .returned (.int .i64 e.right) ∧ Below w.heap.size w w' := by
  have hB1 := below_one w (.cells #[.int .i64 e.op, .int .u8 e.vl.k, .int .i64 e.vl.n, .string e.vl.s, .slice e.adr e.args.length e.cp] 26)
  have bx := Blk.new w #[.int .i64 e.op, .int .u8 e.vl.k, .int .i64 e.vl.n, .string e.vl.s, .slice e.adr e.args.length e.cp] 26
  obtain ⟨x0, x1, x2, x3, x4⟩ := bx.cells5
  have HS := Lib.hid (fun W (hW : Below w.heap.size w W) => rsize_calls e W (hA.below hW) hsz)
  have HD := Lib.hid (fun W (hW : Below w.heap.size w W) => rdeep_calls e W hsz (hA.below hW))
  have HH := Lib.hid (fun W (hW : Below w.heap.size w W) => rshaped_calls e W hsz (hA.below hW))
  have HW := Lib.hid (fun W (hW : Below w.heap.size w W) => rwide_calls e W hsz hg (hA.below hW))
  obtain ⟨r, hr⟩ : ∃ r, r = e.right := ⟨_, rfl⟩
  rw [← hr]
  unfold Ex.right at hr
  have HB0 := Lib.hid hB1
  have HX0 := Lib.hid bx
  unfold Ex.v at HS HD HH HW ⊢
  generalize e.size = sz at *
  generalize e.deep = dp at *
  generalize e.shaped = sh at *
  generalize e.wide = wi at *
  generalize e.op = p0 at *
  generalize e.vl.k = p1 at *
  generalize e.vl.n = p2 at *
  generalize e.vl.s = p3 at *
  generalize e.adr = p4 at *
  generalize e.args.length = p5 at *
  generalize e.cp = p6 at *
  clear hg hA hB1 bx
  by_cases h1 : 200 < sz
  · rw [if_pos h1] at hr
    subst hr
    have d1 : decide (200 < sz) = true := decide_eq_true h1
    go_enter Tryd.func14, Tryd.ntmps14
    go_wp2_with fail
    refine (HS.out _ HB0.out).mono ?_
    rintro q w1 ⟨rfl, hb1⟩
    obtain ⟨x0, x1, x2, x3, x4⟩ := (HX0.out.belowAll hb1).cells5
    have HX1 := Lib.hid (HX0.out.belowAll hb1)
    have HB1 := Lib.hid (HB0.out.trans (hb1.mono HB0.out.size))
    clear hb1
    dsimp only
    go_wp2
    go_ret
    exact ⟨rfl, HB1.out⟩
  · rw [if_neg h1] at hr
    have d1 : decide (200 < sz) = false := decide_eq_false h1
    by_cases h2 : 20 < dp
    · rw [if_pos h2] at hr
      subst hr
      have d2 : decide (20 < dp) = true := decide_eq_true h2
      go_enter Tryd.func14, Tryd.ntmps14
      go_wp2_with fail
      refine (HS.out _ HB0.out).mono ?_
      rintro q w1 ⟨rfl, hb1⟩
      obtain ⟨x0, x1, x2, x3, x4⟩ := (HX0.out.belowAll hb1).cells5
      have HX1 := Lib.hid (HX0.out.belowAll hb1)
      have HB1 := Lib.hid (HB0.out.trans (hb1.mono HB0.out.size))
      clear hb1
      dsimp only
      go_wp2_with fail
      refine (HD.out _ HB1.out).mono ?_
      rintro q w2 ⟨rfl, hb2⟩
      obtain ⟨x0, x1, x2, x3, x4⟩ := (HX1.out.belowAll hb2).cells5
      have HX2 := Lib.hid (HX1.out.belowAll hb2)
      have HB2 := Lib.hid (HB1.out.trans (hb2.mono HB1.out.size))
      clear hb2
      dsimp only
      go_wp2
      go_ret
      exact ⟨rfl, HB2.out⟩
    · rw [if_neg h2] at hr
      have d2 : decide (20 < dp) = false := decide_eq_false h2
      cases sh with
      | false =>
        rw [if_pos rfl] at hr
        subst hr
        go_enter Tryd.func14, Tryd.ntmps14
        go_wp2_with fail
        refine (HS.out _ HB0.out).mono ?_
        rintro q w1 ⟨rfl, hb1⟩
        obtain ⟨x0, x1, x2, x3, x4⟩ := (HX0.out.belowAll hb1).cells5
        have HX1 := Lib.hid (HX0.out.belowAll hb1)
        have HB1 := Lib.hid (HB0.out.trans (hb1.mono HB0.out.size))
        clear hb1
        dsimp only
        go_wp2_with fail
        refine (HD.out _ HB1.out).mono ?_
        rintro q w2 ⟨rfl, hb2⟩
        obtain ⟨x0, x1, x2, x3, x4⟩ := (HX1.out.belowAll hb2).cells5
        have HX2 := Lib.hid (HX1.out.belowAll hb2)
        have HB2 := Lib.hid (HB1.out.trans (hb2.mono HB1.out.size))
        clear hb2
        dsimp only
        go_wp2_with fail
        refine (HH.out _ HB2.out).mono ?_
        rintro q w3 ⟨rfl, hb3⟩
        obtain ⟨x0, x1, x2, x3, x4⟩ := (HX2.out.belowAll hb3).cells5
        have HX3 := Lib.hid (HX2.out.belowAll hb3)
        have HB3 := Lib.hid (HB2.out.trans (hb3.mono HB2.out.size))
        clear hb3
        dsimp only
        go_wp2
        go_ret
        exact ⟨rfl, HB3.out⟩
      | true =>
        rw [if_neg (by decide)] at hr
        cases wi with
        | true =>
          rw [if_pos rfl] at hr
          subst hr
          go_enter Tryd.func14, Tryd.ntmps14
          go_wp2_with fail
          refine (HS.out _ HB0.out).mono ?_
          rintro q w1 ⟨rfl, hb1⟩
          obtain ⟨x0, x1, x2, x3, x4⟩ := (HX0.out.belowAll hb1).cells5
          have HX1 := Lib.hid (HX0.out.belowAll hb1)
          have HB1 := Lib.hid (HB0.out.trans (hb1.mono HB0.out.size))
          clear hb1
          dsimp only
          go_wp2_with fail
          refine (HD.out _ HB1.out).mono ?_
          rintro q w2 ⟨rfl, hb2⟩
          obtain ⟨x0, x1, x2, x3, x4⟩ := (HX1.out.belowAll hb2).cells5
          have HX2 := Lib.hid (HX1.out.belowAll hb2)
          have HB2 := Lib.hid (HB1.out.trans (hb2.mono HB1.out.size))
          clear hb2
          dsimp only
          go_wp2_with fail
          refine (HH.out _ HB2.out).mono ?_
          rintro q w3 ⟨rfl, hb3⟩
          obtain ⟨x0, x1, x2, x3, x4⟩ := (HX2.out.belowAll hb3).cells5
          have HX3 := Lib.hid (HX2.out.belowAll hb3)
          have HB3 := Lib.hid (HB2.out.trans (hb3.mono HB2.out.size))
          clear hb3
          dsimp only
          go_wp2_with fail
          refine (HW.out _ HB3.out).mono ?_
          rintro q w4 ⟨rfl, hb4⟩
          obtain ⟨x0, x1, x2, x3, x4⟩ := (HX3.out.belowAll hb4).cells5
          have HX4 := Lib.hid (HX3.out.belowAll hb4)
          have HB4 := Lib.hid (HB3.out.trans (hb4.mono HB3.out.size))
          clear hb4
          dsimp only
          go_wp2
          go_ret
          exact ⟨rfl, HB4.out⟩
        | false =>
          rw [if_neg (by decide)] at hr
          subst hr
          go_enter Tryd.func14, Tryd.ntmps14
          go_wp2_with fail
          refine (HS.out _ HB0.out).mono ?_
          rintro q w1 ⟨rfl, hb1⟩
          obtain ⟨x0, x1, x2, x3, x4⟩ := (HX0.out.belowAll hb1).cells5
          have HX1 := Lib.hid (HX0.out.belowAll hb1)
          have HB1 := Lib.hid (HB0.out.trans (hb1.mono HB0.out.size))
          clear hb1
          dsimp only
          go_wp2_with fail
          refine (HD.out _ HB1.out).mono ?_
          rintro q w2 ⟨rfl, hb2⟩
          obtain ⟨x0, x1, x2, x3, x4⟩ := (HX1.out.belowAll hb2).cells5
          have HX2 := Lib.hid (HX1.out.belowAll hb2)
          have HB2 := Lib.hid (HB1.out.trans (hb2.mono HB1.out.size))
          clear hb2
          dsimp only
          go_wp2_with fail
          refine (HH.out _ HB2.out).mono ?_
          rintro q w3 ⟨rfl, hb3⟩
          obtain ⟨x0, x1, x2, x3, x4⟩ := (HX2.out.belowAll hb3).cells5
          have HX3 := Lib.hid (HX2.out.belowAll hb3)
          have HB3 := Lib.hid (HB2.out.trans (hb3.mono HB2.out.size))
          clear hb3
          dsimp only
          go_wp2_with fail
          refine (HW.out _ HB3.out).mono ?_
          rintro q w4 ⟨rfl, hb4⟩
          obtain ⟨x0, x1, x2, x3, x4⟩ := (HX3.out.belowAll hb4).cells5
          have HX4 := Lib.hid (HX3.out.belowAll hb4)
          have HB4 := Lib.hid (HB3.out.trans (hb4.mono HB3.out.size))
          clear hb4
          dsimp only
          go_wp2
          go_ret
          exact ⟨rfl, HB4.out⟩
end Go.Proofs.YtkaapfakalojaaaDoor
namespace Go.Proofs.YtkaapfakalojaaaDoor

/-- The slots that the region writes. -/
def dsts (ops : List Oper) : List Nat := ops.filterMap (·.dst)
/-- The slots that are written ahead of an operation, by its edges. -/
def deps (ops : List Oper) (o : Oper) : List Nat := (o.after.toList.filter (Region.binds .any)).filterMap fun e => (ops[e.on]?).bind (·.dst)

/-- The edges lead backwards; the slots lie in the frame; the slots asked for are written ahead. -/
def invB (ops : List Oper) (size : Nat) (ds : List (List Nat)) : Bool :=
  ((List.range ops.length).all fun i => ((ops[i]?).map fun o => o.after.all fun e => !Region.binds .any e || decide (e.on < i)).getD true) &&
  ((dsts ops).all fun d => decide (d < size)) && decide (ds.length = ops.length) &&
  ((ops.zip ds).all fun x => x.2.all fun d => decide (d ∈ deps ops x.1))

section
variable (P : Program) (Q : Exit → Act → World → Prop) (I : World → Prop) (S : World → World → Prop) (V : Nat → World → Value → Prop) (a0 : Act) (ops : List Oper)

/-- What holds of the slots ds. -/
def Told (ds : List Nat) (a : Act) (W : World) : Prop :=
  match ds with
  | [] => True
  | d :: r => V d W (a.tmps.getD d undef) ∧ Told r a W

/-- What an operation must come to: its value satisfies its slot predicate. -/
def Yields (dst : Option Nat) (a : Act) (W : World) (a' : Act) (W' : World) : Prop := ∃ v, a' = a.put dst v ∧ I W' ∧ S W W' ∧ ∀ d, dst = some d → V d W' v

/-- One operation, in whatever frame and world it comes up: it yields what its slot predicate says. -/
def OneOk (o : Oper) (ds : List Nat) : Prop :=
  ∀ (a : Act) (W : World), I W → (∀ t, t ∉ dsts ops → a.tmps.getD t undef = a0.tmps.getD t undef) → Told V ds a W →
    if Region.wanted o (yielded ops.toArray a.tmps) then o.wp P a W (Yields I S V o.dst a W) Q
    else ∀ d, o.dst = some d → V d W undef

def AllOk : List Oper → List (List Nat) → Prop
  | o :: r, ds :: rs => OneOk P Q I S V a0 ops o ds ∧ AllOk r rs
  | _, _ => True
end

section
variable {P : Program} {Q : Exit → Act → World → Prop} {I : World → Prop} {S : World → World → Prop} {V : Nat → World → Value → Prop} {a0 : Act} {ops : List Oper}

/-- A guard that has said yes. -/
theorem wanted_true {o : Oper} {a : Act} {j d : Nat} (hg : o.guard = some (j, true)) (hd : (ops[j]?).bind (·.dst) = some d) (hv : a.tmps.getD d undef = .bool true) :
    Region.wanted o (yielded ops.toArray a.tmps) = true := by
  have h : a.tmps[d]? = some (.bool true) := by
    rw [Array.getD_eq_getD_getElem?] at hv
    cases ht : a.tmps[d]? with
    | none => rw [ht] at hv; exact absurd hv (by simp [undef])
    | some v => rw [ht] at hv; simpa using hv
  have hy : yielded ops.toArray a.tmps j = some true := by
    unfold yielded
    rw [List.getElem?_toArray, hd]
    simp [h]
  unfold Region.wanted
  rw [hg]
  simp [hy]

theorem told_of {a : Act} {W : World} : ∀ {ds : List Nat}, (∀ d ∈ ds, V d W (a.tmps.getD d undef)) → Told V ds a W
  | [], _ => trivial
  | d :: r, h => ⟨h d (by simp), told_of fun x hx => h x (by simp [hx])⟩

theorem allOk_at : ∀ {l : List Oper} {ds : List (List Nat)}, AllOk P Q I S V a0 ops l ds → ∀ {i : Nat} {o : Oper} {d : List Nat}, l[i]? = some o → ds[i]? = some d → OneOk P Q I S V a0 ops o d
  | [], _, _, _, _, _, h, _ => by simp at h
  | _ :: _, [], _, _, _, _, _, h => by simp at h
  | x :: l, y :: ds, h, 0, o, d, h1, h2 => by
    simp at h1 h2
    subst h1 h2
    exact h.1
  | x :: l, y :: ds, h, i + 1, o, d, h1, h2 => allOk_at h.2 (by simpa using h1) (by simpa using h2)

/-- The invariant. -/
structure Inv (I : World → Prop) (V : Nat → World → Value → Prop) (a0 : Act) (ops : List Oper) (listed : Array Bool) (a : Act) (W : World) : Prop where
  here : I W
  size : listed.size = ops.length
  tmps : a.tmps.size = a0.tmps.size
  defers : a.defers = a0.defers
  same : ∀ t, t ∉ dsts ops → a.tmps.getD t undef = a0.tmps.getD t undef
  told : ∀ i o d, ops[i]? = some o → listed.getD i false = true → o.dst = some d → V d W (a.tmps.getD d undef)

theorem mem_dsts {i : Nat} {o : Oper} {d : Nat} (h : ops[i]? = some o) (hd : o.dst = some d) : d ∈ dsts ops := by
  unfold dsts
  rw [List.mem_filterMap]
  exact ⟨o, List.mem_of_getElem? h, hd⟩

theorem getD_put_same {a : Act} {d : Nat} {v : Value} (h : d < a.tmps.size) : (a.put (some d) v).tmps.getD d undef = v := by
  simp [Act.put, Array.getD, h]
theorem getD_put_other {a : Act} {d t : Nat} {v : Value} (h : d ≠ t) : (a.put (some d) v).tmps.getD t undef = a.tmps.getD t undef := by
  simp only [Act.put, Array.getD_eq_getD_getElem?, Array.getElem?_setIfInBounds_ne h]

/-- One step of the invariant. -/
theorem Inv.step (hV : ∀ d W W' v, S W W' → V d W v → V d W' v) (hsz : ∀ d ∈ dsts ops, d < a0.tmps.size) {listed : Array Bool} {a : Act} {W W' : World} {i : Nat} {o : Oper} {v : Value} (h : Inv I V a0 ops listed a W)
    (ho : ops[i]? = some o) (hI : I W') (hS : S W W') (hv : ∀ d, o.dst = some d → V d W' v) : Inv I V a0 ops (listed.setIfInBounds i true) (a.put o.dst v) W' := by
  have hi : i < ops.length := by
    rcases Nat.lt_or_ge i ops.length with h1 | h1
    · exact h1
    · rw [List.getElem?_eq_none h1] at ho; cases ho
  refine ⟨hI, by simpa using h.size, ?_, ?_, fun t ht => ?_, fun j o' d hj hl hd => ?_⟩
  · cases hd : o.dst with
    | none => simpa [Act.put] using h.tmps
    | some d => simpa [Act.put] using h.tmps
  · cases hd : o.dst with
    | none => simpa [Act.put] using h.defers
    | some d => simpa [Act.put] using h.defers
  · cases hd : o.dst with
    | none => simpa [Act.put] using h.same t ht
    | some d =>
      rw [getD_put_other (fun e => ht (by rw [← e]; exact mem_dsts ho hd))]
      exact h.same t ht
  · by_cases hdd : o.dst = some d
    · rw [hdd, getD_put_same (by rw [h.tmps]; exact hsz d (mem_dsts ho hdd))]
      exact hv d hdd
    · have hji : j ≠ i := by
        rintro rfl
        rw [ho] at hj
        injection hj with hj
        subst hj
        exact hdd hd
      have hl' : listed.getD j false = true := by
        rw [Array.getD_eq_getD_getElem?, Array.getElem?_setIfInBounds_ne (Ne.symm hji)] at hl
        rw [Array.getD_eq_getD_getElem?]
        exact hl
      have hold := hV d W W' _ hS (h.told j o' d hj hl' hd)
      cases hd0 : o.dst with
      | none => simpa [Act.put] using hold
      | some d0 =>
        rw [getD_put_other (fun e => hdd (by rw [hd0, e]))]
        exact hold

/-- How many have not come up yet. -/
def left (listed : Array Bool) : Nat := listed.toList.countP (fun b => !b)
theorem left_set {listed : Array Bool} {i : Nat} (h : listed[i]? = some false) : left (listed.setIfInBounds i true) + 1 = left listed := by
  unfold left
  have hi : i < listed.toList.length := by
    rcases Nat.lt_or_ge i listed.size with h1 | h1
    · simpa using h1
    · rw [Array.getElem?_eq_none h1] at h; cases h
  have e : listed.toList[i] = false := by
    have : listed.toList[i]? = some false := by simpa using h
    rw [List.getElem?_eq_getElem hi] at this
    injection this
  rw [Array.toList_setIfInBounds, List.countP_set hi, e]
  have hp : 0 < listed.toList.countP (fun b => !b) := List.countP_pos_iff.2 ⟨false, by rw [← e]; exact List.getElem_mem hi, rfl⟩
  simp only [Bool.not_false, Bool.not_true, if_true, Bool.false_eq_true, if_false]
  omega

theorem wpAny_inv (hR : ∀ W, S W W) (hV : ∀ d W W' v, S W W' → V d W v → V d W' v) (ds : List (List Nat)) (hB : invB ops a0.tmps.size ds = true) (hall : AllOk P Q I S V a0 ops ops ds)
    (hend : ∀ a W, I W → a.tmps.size = a0.tmps.size → a.defers = a0.defers → (∀ t, t ∉ dsts ops → a.tmps.getD t undef = a0.tmps.getD t undef) → (∀ d ∈ dsts ops, V d W (a.tmps.getD d undef)) → Q .normal a W) :
    ∀ (fuel : Nat) (listed : Array Bool) (a : Act) (W : World), Inv I V a0 ops listed a W → left listed ≤ fuel → wpAny P .any ops.toArray Q fuel listed a W := by
  simp only [invB, Bool.and_eq_true, decide_eq_true_eq, List.all_eq_true] at hB
  obtain ⟨⟨⟨hup, hsz⟩, hlen⟩, hds⟩ := hB
  -- all have come up: the end
  have fin : ∀ (listed : Array Bool) (a : Act) (W : World), Inv I V a0 ops listed a W → (∀ i, i < ops.length → listed.getD i false = true) → Q .normal a W := by
    intro listed a W h hl
    refine hend a W h.here h.tmps h.defers h.same fun d hd => ?_
    unfold dsts at hd
    rw [List.mem_filterMap] at hd
    obtain ⟨o, ho, hod⟩ := hd
    obtain ⟨i, hi, he⟩ := List.getElem_of_mem ho
    exact h.told i o d (by rw [List.getElem?_eq_getElem hi, he]) (hl i hi) hod
  -- none is ready: all have come up
  have all : ∀ (listed : Array Bool), listed.size = ops.length → Region.ready .any ops.toArray listed = [] → ∀ i, i < ops.length → listed.getD i false = true := by
    intro listed hs hr i
    induction i using Nat.strongRecOn with
    | ind i ih =>
      intro hi
      rcases Bool.eq_false_or_eq_true (listed.getD i false) with h | h
      · exact h
      · exfalso
        have hmem : i ∈ Region.ready .any ops.toArray listed := by
          unfold Region.ready
          rw [List.mem_filter, List.mem_range]
          have hli : i < listed.size := by omega
          refine ⟨by simpa using hi, ?_⟩
          have h2 : listed.getD i true = false := by
            rw [Array.getD_eq_getD_getElem?, Array.getElem?_eq_getElem hli] at h ⊢
            simpa using h
          have hu := hup i (by simpa using hi)
          rw [List.getElem?_eq_getElem hi] at hu
          simp only [Option.map_some, Option.getD_some, Array.all_eq_true'] at hu
          rw [h2]
          simp only [Bool.not_false, Bool.true_and, List.getElem?_toArray, List.getElem?_eq_getElem hi, Option.map_some, Option.getD_some, Array.all_eq_true']
          intro e he
          have := hu e he
          simp only [Bool.or_eq_true, decide_eq_true_eq] at this ⊢
          rcases this with h3 | h3
          · exact .inl h3
          · exact .inr (ih e.on h3 (by omega))
        rw [hr] at hmem
        simp at hmem
  intro fuel
  induction fuel with
  | zero =>
    intro listed a W h hl
    have hf : ∀ i, i < ops.length → listed.getD i false = true := by
      intro i hi
      rcases Bool.eq_false_or_eq_true (listed.getD i false) with h1 | h1
      · exact h1
      · exfalso
        have hli : i < listed.size := by rw [h.size]; exact hi
        have : listed[i]? = some false := by
          rw [Array.getD_eq_getD_getElem?, Array.getElem?_eq_getElem hli] at h1
          rw [Array.getElem?_eq_getElem hli]
          simpa using h1
        have := left_set this
        omega
    refine ⟨?_, fin listed a W h hf⟩
    unfold Region.ready
    rw [List.filter_eq_nil_iff]
    intro i hi
    have hi' : i < ops.length := by simpa using hi
    have h1 := hf i hi'
    have hli : i < listed.size := by rw [h.size]; exact hi'
    have h2 : listed.getD i true = true := by
      rw [Array.getD_eq_getD_getElem?, Array.getElem?_eq_getElem hli] at h1 ⊢
      simpa using h1
    simp [h2]
  | succ fuel ih =>
    intro listed a W h hl
    refine ⟨fun hr => fin listed a W h (all listed h.size hr), fun i hi => ?_⟩
    unfold Region.ready at hi
    rw [List.mem_filter, List.mem_range] at hi
    obtain ⟨hi, hrd⟩ := hi
    have hi' : i < ops.length := by simpa using hi
    have hli : i < listed.size := by rw [h.size]; exact hi'
    have ho : ops[i]? = some ops[i] := List.getElem?_eq_getElem hi'
    simp only [List.getElem?_toArray, ho, Option.map_some, Option.getD_some, Bool.and_eq_true, Bool.not_eq_true', Array.all_eq_true'] at hrd
    obtain ⟨hnl, haf⟩ := hrd
    have hfalse : listed[i]? = some false := by
      rw [Array.getD_eq_getD_getElem?, Array.getElem?_eq_getElem hli] at hnl
      rw [Array.getElem?_eq_getElem hli]
      simpa using hnl
    have hlt := left_set hfalse
    have hdi : i < ds.length := by omega
    have one := allOk_at hall ho (List.getElem?_eq_getElem hdi)
    have htold : Told V ds[i] a W := told_of fun d hd => by
      have hz : (ops[i], ds[i]) ∈ ops.zip ds := by
        have : (ops.zip ds)[i]'(by simp; omega) = (ops[i], ds[i]) := by simp
        rw [← this]
        exact List.getElem_mem _
      have := hds _ hz d hd
      unfold deps at this
      rw [List.mem_filterMap] at this
      obtain ⟨e, he, hed⟩ := this
      rw [List.mem_filter] at he
      obtain ⟨he, hbind⟩ := he
      have hl2 := haf e (by simpa using he)
      rw [hbind] at hl2
      simp only [Bool.not_true, Bool.false_or] at hl2
      cases hoe : ops[e.on]? with
      | none => rw [hoe] at hed; simp at hed
      | some o' =>
        rw [hoe] at hed
        exact h.told e.on o' d hoe hl2 (by simpa using hed)
    have hone := one a W h.here h.same htold
    unfold wpOp
    simp only [List.getElem?_toArray, ho]
    split
    · rename_i hw
      rw [if_pos hw] at hone
      refine .inl (Oper.wp_mono ?_ hone)
      rintro a' W' ⟨v, rfl, hI, hS, hv⟩
      exact ih _ _ _ (h.step hV hsz ho hI hS hv) (by omega)
    · rename_i hw
      rw [if_neg hw] at hone
      exact ih _ _ _ (h.step hV hsz ho h.here (hR W) hone) (by omega)

theorem left_none (n : Nat) : left (Array.replicate n false) = n := by
  unfold left
  simp [List.countP_replicate]

/-- THE LAW: the region, whatever order is drawn. -/
theorem wp_region_inv {id : Nat} {w : World} (hm : P.follows .mixedOrders = true) (I : World → Prop) (S : World → World → Prop) (V : Nat → World → Value → Prop) (ds : List (List Nat))
    (hB : invB ops a0.tmps.size ds = true) (hR : ∀ W, S W W) (hV : ∀ d W W' v, S W W' → V d W v → V d W' v) (hI : I w.drew) (hall : AllOk P Q I S V a0 ops ops ds)
    (hend : ∀ a W, I W → a.tmps.size = a0.tmps.size → a.defers = a0.defers → (∀ t, t ∉ dsts ops → a.tmps.getD t undef = a0.tmps.getD t undef) → (∀ d ∈ dsts ops, V d W (a.tmps.getD d undef)) → Q .normal a W) :
    (Code.region id ops.toArray true).wp P Q a0 w := by
  refine wp_region_any hm ?_
  refine wpAny_inv hR hV ds hB hall hend _ _ _ _ ⟨hI, by simp, rfl, rfl, fun _ _ => rfl, fun i o d hi hl _ => ?_⟩ (by rw [left_none]; simp)
  rw [Array.getD_eq_getD_getElem?] at hl
  simp [Array.getElem?_replicate] at hl
  split at hl <;> simp at hl
end

/-- The slots of a frame, one by one. -/
def AllAt (a : Act) : Nat → List Value → Prop
  | _, [] => True
  | k, v :: r => a.tmps.getD k undef = v ∧ AllAt a (k + 1) r
theorem allAt_get {a : Act} : ∀ {l : List Value} {k : Nat}, AllAt a k l → ∀ i, i < l.length → a.tmps.getD (k + i) undef = l.getD i undef
  | [], _, _, i, hi => by simp at hi
  | v :: r, k, h, 0, _ => by simpa using h.1
  | v :: r, k, h, i + 1, hi => by
    have := allAt_get h.2 i (by simpa using hi)
    rw [show k + (i + 1) = k + 1 + i by omega, this]
    simp
/-- A frame whose slots are known is known. -/
theorem act_of {a : Act} {l : List Value} {ds : List Deferred} (hs : a.tmps.size = l.length) (hd : a.defers = ds) (h : AllAt a 0 l) : a = { tmps := l.toArray, defers := ds } := by
  obtain ⟨t, d⟩ := a
  simp only at hs hd
  subst hd
  congr 1
  apply Array.ext
  · simpa using hs
  · intro i h1 h2
    have := allAt_get h i (by simpa using h2)
    simp only [Nat.zero_add, Array.getD_eq_getD_getElem?] at this
    rw [Array.getElem?_eq_getElem h1] at this
    simp only [Option.getD_some] at this
    rw [this]
    have h3 : i < l.length := by simpa using h2
    simp [h3]
/-- A guard that has said no, where no is asked. -/
theorem wanted_false {ops : List Oper} {o : Oper} {a : Act} {j d : Nat} (hg : o.guard = some (j, false)) (hd : (ops[j]?).bind (·.dst) = some d) (hv : a.tmps.getD d undef = .bool false) :
    Region.wanted o (yielded ops.toArray a.tmps) = true := by
  have h : a.tmps[d]? = some (.bool false) := by
    rw [Array.getD_eq_getD_getElem?] at hv
    cases ht : a.tmps[d]? with
    | none => rw [ht] at hv; exact absurd hv (by simp [undef])
    | some v => rw [ht] at hv; simpa using hv
  have hy : yielded ops.toArray a.tmps j = some false := by
    unfold yielded
    rw [List.getElem?_toArray, hd]
    simp [h]
  unfold Region.wanted
  rw [hg]
  simp [hy]

end Go.Proofs.YtkaapfakalojaaaDoor
namespace Go.Proofs.YtkaapfakalojaaaDoor
open Go.ChangeShapes Go.WideShapes Go.ChangeAt Go.RowKit
set_option linter.unusedVariables false
set_option maxRecDepth 20000
theorem code_calls (n : Int) (w : World) : Calls Tryd.prog 12 #[.int .i64 n] w fun e w' => e = .returned (.int .i64 n) ∧ w = w' := by
  go_enter Tryd.func12, Tryd.ntmps12
  go_wp2
  go_ret
  exact ⟨rfl, rfl⟩
/-- The operation of a name. -/
def findN (s : List Int) : Int × Bool := match names.idxOf? s with | some i => ((i : Int), true) | none => (0, false)
/-- What the program's functions answer, in each later world. -/
structure P9 (w : World) : Prop where
  size : ∀ (e : Ex) (W : World), Below w.heap.size w W → e.size + e.txt ≤ 3000 → e.Good → e.At W → Calls Tryd.prog 8 #[e.v] W fun q w' => q = .returned (.int .i64 e.size) ∧ Below W.heap.size W w'
  deep : ∀ (e : Ex) (W : World), Below w.heap.size w W → e.size + e.txt ≤ 3000 → e.Good → e.At W → Calls Tryd.prog 10 #[e.v] W fun q w' => q = .returned (.int .i64 e.deep) ∧ Below W.heap.size W w'
  right : ∀ (e : Ex) (W : World), Below w.heap.size w W → e.size + e.txt ≤ 3000 → e.Good → e.At W → Calls Tryd.prog 13 #[e.v] W fun q w' => q = .returned (.int .i64 e.right) ∧ Below W.heap.size W w'
  text : ∀ (e : Ex) (W : World), Below w.heap.size w W → e.size + e.txt ≤ 3000 → e.Good → e.At W → Calls Tryd.prog 15 #[e.v] W fun q w' => q = .returned (.string (str e.text)) ∧ Below W.heap.size W w'
  same : ∀ (x y : Ex) (W : World), Below w.heap.size w W → x.size + x.txt ≤ 3000 → y.size + y.txt ≤ 3000 → x.Good → y.Good → x.At W → y.At W → Calls Tryd.prog 18 #[x.v, y.v] W fun q w' => q = .returned (.bool (x.same y)) ∧ Below W.heap.size W w'
  live : ∀ (W : World), Below w.heap.size w W → Calls Tryd.prog 7 #[] W fun q w' => q = .returned (.bool true) ∧ Below W.heap.size W w'
  name : ∀ (op : Int) (W : World), Below w.heap.size w W → Calls Tryd.prog 21 #[.int .i64 op] W fun q w' => q = .returned (.string (str (nameOf op))) ∧ Below W.heap.size W w'
  find : ∀ (s : ByteArray) (W : World), Below w.heap.size w W → s.size ≤ 2000 → Calls Tryd.prog 20 #[.string s] W fun q w' => q = .returned (.tuple #[.int .i64 (findN (sl s)).1, .bool (findN (sl s)).2]) ∧ Below W.heap.size W w'
  arity : ∀ (op : Int) (W : World), Below w.heap.size w W → Calls Tryd.prog 22 #[.int .i64 op] W fun q w' => q = .returned (.int .i64 (arity op)) ∧ Below W.heap.size W w'
  quote : ∀ (s : ByteArray) (W : World), Below w.heap.size w W → s.size ≤ 2000 → Calls Tryd.prog 24 #[.string s] W fun q w' => q = .returned (.string (str (quote (sl s)))) ∧ Below W.heap.size W w'
theorem draws_below {w w' : World} (h : ∃ p, w' = w.drewN p) : Below w.heap.size w w' := by obtain ⟨p, rfl⟩ := h; exact ⟨rfl, rfl, rfl, Nat.le_refl _, fun _ _ => rfl⟩
def VSh (N : Nat) (op n sz dp rt : Int) (k : Int) (s : ByteArray) (A : Option Addr) (ln c : Nat) (tx : List Int) (d : Nat) (W : World) (v : Value) : Prop :=
  match d with
  | 6 | 8 | 12 | 14 | 19 | 22 | 27 | 29 => v = .agg #[.int .i64 op, .int .u8 k, .int .i64 n, .string s, .slice A ln c]
  | 7 | 9 => v = .int .i64 sz
  | 10 | 11 | 16 | 17 | 18 | 24 | 25 | 26 | 31 | 32 | 33 | 34 | 35 | 2 => v = .bool true
  | 13 | 15 => v = .int .i64 dp
  | 20 | 21 | 23 => v = .int .i64 rt
  | 28 | 30 => v = .string (str tx)
  | _ => True
theorem VSh.keep (N : Nat) (op n sz dp rt : Int) (k : Int) (s : ByteArray) (A : Option Addr) (ln c : Nat) (tx : List Int) (d : Nat) (W W' : World) (v : Value) (hb : Below W.heap.size W W') (h : VSh N op n sz dp rt k s A ln c tx d W v) : VSh N op n sz dp rt k s A ln c tx d W' v := by
  unfold VSh at *
  split at h
  all_goals first | exact h | (obtain ⟨A, c, rfl, h⟩ := h; exact ⟨A, c, rfl, h.below hb⟩)
set_option maxRecDepth 100000 in
set_option maxHeartbeats 4000000 in
theorem shapes_walk (x : Ex) (w : World) (hg : x.Good) (hA : x.At w) (hP : P9 w) : Calls Tryd.prog 3 #[x.v] w fun e w' => e = .returned (.bool true) ∧ Below w.heap.size w w' := by
  have hB1 := below_one w (.cells #[.int .i64 x.op, .int .u8 x.vl.k, .int .i64 x.vl.n, .string x.vl.s, .slice x.adr x.args.length x.cp] 26)
  have bx := Blk.new w #[.int .i64 x.op, .int .u8 x.vl.k, .int .i64 x.vl.n, .string x.vl.s, .slice x.adr x.args.length x.cp] 26
  have HLV := Lib.hid (fun W (hW : Below w.heap.size w W) => hP.live W hW)
  have HAt := Lib.hid (fun W (hW : Below w.heap.size w W) => hA.below hW)
  have HBG := Lib.hid (fun W (hW : Below w.heap.size w W) => rbig_calls x W hg (hA.below hW))
  by_cases hbig : x.weigh 3000 < 0
  · have hb9 : decide (x.weigh 3000 < 0) = true := decide_eq_true hbig
    rw [hb9] at HBG
    unfold Ex.v at HBG ⊢
    generalize x.op = op at *
    generalize x.vl.k = k at *
    generalize x.vl.n = n at *
    generalize x.vl.s = s at *
    generalize x.adr = A at *
    generalize x.args.length = ln at *
    generalize x.cp = c at *
    obtain ⟨x0, x1, x2, x3, x4⟩ := bx.cells5
    have HB1 := Lib.hid hB1
    clear hg hA hP hbig hb9 hB1 bx
    go_enter Tryd.func3, Tryd.ntmps3
    go_wp2_with fail
    refine (HBG.out _ HB1.out).mono ?_
    rintro e w1 ⟨rfl, hb1⟩
    have HB2 := Lib.hid (HB1.out.trans (hb1.mono HB1.out.size))
    clear hb1
    dsimp only
    go_wp2_with fail
    refine (HLV.out _ HB2.out).mono ?_
    rintro e w2 ⟨rfl, hb2⟩
    dsimp only
    go_wp2
    go_ret
    exact ⟨rfl, HB2.out.trans (hb2.mono HB2.out.size)⟩
  · have hb9 : decide (x.weigh 3000 < 0) = false := decide_eq_false hbig
    have hst := not_big hbig
    have hsz : x.size ≤ 3000 := by have := txt_nonneg x; omega
    rw [hb9] at HBG
    have HS := Lib.hid (fun W (hW : Below w.heap.size w W) => hP.size x W hW hst hg (hA.below hW))
    have HS2 := Lib.hid (fun W (hW : Below w.heap.size w W) => rsize_calls x W (hA.below hW) hsz)
    have HD := Lib.hid (fun W (hW : Below w.heap.size w W) => hP.deep x W hW hst hg (hA.below hW))
    have HD2 := Lib.hid (fun W (hW : Below w.heap.size w W) => rdeep_calls x W hsz (hA.below hW))
    have HR := Lib.hid (fun W (hW : Below w.heap.size w W) => hP.right x W hW hst hg (hA.below hW))
    have HR2 := Lib.hid (fun W (hW : Below w.heap.size w W) => rright_calls x W hsz hg (hA.below hW))
    have HT := Lib.hid (fun W (hW : Below w.heap.size w W) => hP.text x W hW hst hg (hA.below hW))
    have HT2 := Lib.hid (fun W (hW : Below w.heap.size w W) => rtext_calls x W hst hg (hA.below hW))
    unfold Ex.v at HBG HS HS2 HD HD2 HR HR2 HT HT2 ⊢
    generalize x.size = sz at *
    generalize x.deep = dp at *
    generalize x.right = rt at *
    generalize x.text = tx at *
    generalize x.op = op at *
    generalize x.vl.k = k at *
    generalize x.vl.n = n at *
    generalize x.vl.s = s at *
    generalize x.adr = A at *
    generalize x.args.length = ln at *
    generalize x.cp = c at *
    obtain ⟨x0, x1, x2, x3, x4⟩ := bx.cells5
    have HB1 := Lib.hid hB1
    have HX0 := Lib.hid bx
    clear hg hA hP hbig hb9 hst hsz hB1 bx HAt
    go_enter Tryd.func3, Tryd.ntmps3
    go_wp2_with fail
    refine (HBG.out _ HB1.out).mono ?_
    rintro e w1 ⟨rfl, hb1⟩
    have hc1 := HB1.out.trans (hb1.mono HB1.out.size)
    have hx1 := HX0.out.belowAll hb1
    have HX := Lib.hid (fun (W : World) (hW : Below w1.heap.size w1 W) => hx1.belowAll hW)
    have HBE := Lib.hid (fun (W : World) (hW : Below w1.heap.size w1 W) => hc1.trans (hW.mono hc1.size))
    have hB0 : Below w1.heap.size w1 w1.drew := below_drew _
    clear hb1 hc1 hx1
    dsimp only
    go_wp2_with fail
    generalize hN : w.heap.size = N at *
    have HNN := Lib.hid hN
    clear hN
    refine wp_region_inv (by kernel_rfl) (fun W => Below w1.heap.size w1 W) (fun W W' => Below W.heap.size W W') (VSh N op n sz dp rt k s A ln c tx) [[], [6], [], [8], [7, 9], [10], [11], [12, 11], [11], [14, 11], [13, 15, 11], [11, 16], [17], [18], [19, 18], [20, 18], [18], [22, 18], [21, 23, 18], [18, 24], [25], [26], [27, 26], [26], [29, 26], [28, 30, 26], [26, 31], [32], [33], [33, 34], [35]] (by kernel_rfl) (fun W => Below.refl _ _) (fun d W W' v => VSh.keep N op n sz dp rt k s A ln c tx d W W' v) hB0 ?_ ?_
    · refine ⟨?_, ?_, ?_, ?_, ?_, ?_, ?_, ?_, ?_, ?_, ?_, ?_, ?_, ?_, ?_, ?_, ?_, ?_, ?_, ?_, ?_, ?_, ?_, ?_, ?_, ?_, ?_, ?_, ?_, ?_, ?_, trivial⟩
      · intro a W hI hsame ht
        have h1 := hsame 1 (by decide)
        change a.tmps.getD 1 undef = .pointer (some ⟨N, 0, none⟩) at h1
        rw [if_pos (by rfl)]
        clear hsame
        obtain ⟨x0, x1, x2, x3, x4⟩ := (HX.out W hI).cells5
        unfold Oper.wp
        go_simp
        exact ⟨_, rfl, hI, Below.refl _ _, fun d hd => by cases hd; exact rfl⟩
      · intro a W hI hsame ht
        obtain ⟨h6, _⟩ := ht
        change a.tmps.getD 6 undef = .agg #[.int .i64 op, .int .u8 k, .int .i64 n, .string s, .slice A ln c] at h6
        rw [if_pos (by rfl)]
        clear hsame
        unfold Oper.wp
        go_simp
        refine (HS.out W (HBE.out W hI)).mono ?_
        rintro e' W' ⟨rfl, hb⟩
        exact ⟨_, rfl, Below.on hI hb, hb, fun d hd => by cases hd; exact rfl⟩
      · intro a W hI hsame ht
        have h1 := hsame 1 (by decide)
        change a.tmps.getD 1 undef = .pointer (some ⟨N, 0, none⟩) at h1
        rw [if_pos (by rfl)]
        clear hsame
        obtain ⟨x0, x1, x2, x3, x4⟩ := (HX.out W hI).cells5
        unfold Oper.wp
        go_simp
        exact ⟨_, rfl, hI, Below.refl _ _, fun d hd => by cases hd; exact rfl⟩
      · intro a W hI hsame ht
        obtain ⟨h8, _⟩ := ht
        change a.tmps.getD 8 undef = .agg #[.int .i64 op, .int .u8 k, .int .i64 n, .string s, .slice A ln c] at h8
        rw [if_pos (by rfl)]
        clear hsame
        unfold Oper.wp
        go_simp
        refine (HS2.out W (HBE.out W hI)).mono ?_
        rintro e' W' ⟨rfl, hb⟩
        exact ⟨_, rfl, Below.on hI hb, hb, fun d hd => by cases hd; exact rfl⟩
      · intro a W hI hsame ht
        obtain ⟨h7, h9, _⟩ := ht
        change a.tmps.getD 7 undef = .int .i64 sz at h7
        change a.tmps.getD 9 undef = .int .i64 sz at h9
        rw [if_pos (by rfl)]
        clear hsame
        unfold Oper.wp
        go_simp
        exact ⟨_, rfl, hI, Below.refl _ _, fun d hd => by cases hd; exact rfl⟩
      · intro a W hI hsame ht
        obtain ⟨h10, _⟩ := ht
        change a.tmps.getD 10 undef = .bool true at h10
        rw [if_pos (by rfl)]
        clear hsame
        unfold Oper.wp
        go_simp
        exact ⟨_, rfl, hI, Below.refl _ _, fun d hd => by cases hd; exact rfl⟩
      · intro a W hI hsame ht
        obtain ⟨h11, _⟩ := ht
        change a.tmps.getD 11 undef = .bool true at h11
        have h1 := hsame 1 (by decide)
        change a.tmps.getD 1 undef = .pointer (some ⟨N, 0, none⟩) at h1
        rw [if_pos (wanted_true (j := 5) (d := 11) rfl rfl h11)]
        clear hsame
        obtain ⟨x0, x1, x2, x3, x4⟩ := (HX.out W hI).cells5
        unfold Oper.wp
        go_simp
        exact ⟨_, rfl, hI, Below.refl _ _, fun d hd => by cases hd; exact rfl⟩
      · intro a W hI hsame ht
        obtain ⟨h12, h11, _⟩ := ht
        change a.tmps.getD 12 undef = .agg #[.int .i64 op, .int .u8 k, .int .i64 n, .string s, .slice A ln c] at h12
        change a.tmps.getD 11 undef = .bool true at h11
        rw [if_pos (wanted_true (j := 5) (d := 11) rfl rfl h11)]
        clear hsame
        unfold Oper.wp
        go_simp
        refine (HD.out W (HBE.out W hI)).mono ?_
        rintro e' W' ⟨rfl, hb⟩
        exact ⟨_, rfl, Below.on hI hb, hb, fun d hd => by cases hd; exact rfl⟩
      · intro a W hI hsame ht
        obtain ⟨h11, _⟩ := ht
        change a.tmps.getD 11 undef = .bool true at h11
        have h1 := hsame 1 (by decide)
        change a.tmps.getD 1 undef = .pointer (some ⟨N, 0, none⟩) at h1
        rw [if_pos (wanted_true (j := 5) (d := 11) rfl rfl h11)]
        clear hsame
        obtain ⟨x0, x1, x2, x3, x4⟩ := (HX.out W hI).cells5
        unfold Oper.wp
        go_simp
        exact ⟨_, rfl, hI, Below.refl _ _, fun d hd => by cases hd; exact rfl⟩
      · intro a W hI hsame ht
        obtain ⟨h14, h11, _⟩ := ht
        change a.tmps.getD 14 undef = .agg #[.int .i64 op, .int .u8 k, .int .i64 n, .string s, .slice A ln c] at h14
        change a.tmps.getD 11 undef = .bool true at h11
        rw [if_pos (wanted_true (j := 5) (d := 11) rfl rfl h11)]
        clear hsame
        unfold Oper.wp
        go_simp
        refine (HD2.out W (HBE.out W hI)).mono ?_
        rintro e' W' ⟨rfl, hb⟩
        exact ⟨_, rfl, Below.on hI hb, hb, fun d hd => by cases hd; exact rfl⟩
      · intro a W hI hsame ht
        obtain ⟨h13, h15, h11, _⟩ := ht
        change a.tmps.getD 13 undef = .int .i64 dp at h13
        change a.tmps.getD 15 undef = .int .i64 dp at h15
        change a.tmps.getD 11 undef = .bool true at h11
        rw [if_pos (wanted_true (j := 5) (d := 11) rfl rfl h11)]
        clear hsame
        unfold Oper.wp
        go_simp
        exact ⟨_, rfl, hI, Below.refl _ _, fun d hd => by cases hd; exact rfl⟩
      · intro a W hI hsame ht
        obtain ⟨h11, h16, _⟩ := ht
        change a.tmps.getD 11 undef = .bool true at h11
        change a.tmps.getD 16 undef = .bool true at h16
        rw [if_pos (by rfl)]
        clear hsame
        unfold Oper.wp
        go_simp
        exact ⟨_, rfl, hI, Below.refl _ _, fun d hd => by cases hd; exact rfl⟩
      · intro a W hI hsame ht
        obtain ⟨h17, _⟩ := ht
        change a.tmps.getD 17 undef = .bool true at h17
        rw [if_pos (by rfl)]
        clear hsame
        unfold Oper.wp
        go_simp
        exact ⟨_, rfl, hI, Below.refl _ _, fun d hd => by cases hd; exact rfl⟩
      · intro a W hI hsame ht
        obtain ⟨h18, _⟩ := ht
        change a.tmps.getD 18 undef = .bool true at h18
        have h1 := hsame 1 (by decide)
        change a.tmps.getD 1 undef = .pointer (some ⟨N, 0, none⟩) at h1
        rw [if_pos (wanted_true (j := 12) (d := 18) rfl rfl h18)]
        clear hsame
        obtain ⟨x0, x1, x2, x3, x4⟩ := (HX.out W hI).cells5
        unfold Oper.wp
        go_simp
        exact ⟨_, rfl, hI, Below.refl _ _, fun d hd => by cases hd; exact rfl⟩
      · intro a W hI hsame ht
        obtain ⟨h19, h18, _⟩ := ht
        change a.tmps.getD 19 undef = .agg #[.int .i64 op, .int .u8 k, .int .i64 n, .string s, .slice A ln c] at h19
        change a.tmps.getD 18 undef = .bool true at h18
        rw [if_pos (wanted_true (j := 12) (d := 18) rfl rfl h18)]
        clear hsame
        unfold Oper.wp
        go_simp
        refine (HR.out W (HBE.out W hI)).mono ?_
        rintro e' W' ⟨rfl, hb⟩
        exact ⟨_, rfl, Below.on hI hb, hb, fun d hd => by cases hd; exact rfl⟩
      · intro a W hI hsame ht
        obtain ⟨h20, h18, _⟩ := ht
        change a.tmps.getD 20 undef = .int .i64 rt at h20
        change a.tmps.getD 18 undef = .bool true at h18
        rw [if_pos (wanted_true (j := 12) (d := 18) rfl rfl h18)]
        clear hsame
        unfold Oper.wp
        go_simp
        refine (code_calls _ _).mono ?_
        rintro e' W' ⟨rfl, rfl⟩
        exact ⟨_, rfl, hI, Below.refl _ _, fun d hd => by cases hd; exact rfl⟩
      · intro a W hI hsame ht
        obtain ⟨h18, _⟩ := ht
        change a.tmps.getD 18 undef = .bool true at h18
        have h1 := hsame 1 (by decide)
        change a.tmps.getD 1 undef = .pointer (some ⟨N, 0, none⟩) at h1
        rw [if_pos (wanted_true (j := 12) (d := 18) rfl rfl h18)]
        clear hsame
        obtain ⟨x0, x1, x2, x3, x4⟩ := (HX.out W hI).cells5
        unfold Oper.wp
        go_simp
        exact ⟨_, rfl, hI, Below.refl _ _, fun d hd => by cases hd; exact rfl⟩
      · intro a W hI hsame ht
        obtain ⟨h22, h18, _⟩ := ht
        change a.tmps.getD 22 undef = .agg #[.int .i64 op, .int .u8 k, .int .i64 n, .string s, .slice A ln c] at h22
        change a.tmps.getD 18 undef = .bool true at h18
        rw [if_pos (wanted_true (j := 12) (d := 18) rfl rfl h18)]
        clear hsame
        unfold Oper.wp
        go_simp
        refine (HR2.out W (HBE.out W hI)).mono ?_
        rintro e' W' ⟨rfl, hb⟩
        exact ⟨_, rfl, Below.on hI hb, hb, fun d hd => by cases hd; exact rfl⟩
      · intro a W hI hsame ht
        obtain ⟨h21, h23, h18, _⟩ := ht
        change a.tmps.getD 21 undef = .int .i64 rt at h21
        change a.tmps.getD 23 undef = .int .i64 rt at h23
        change a.tmps.getD 18 undef = .bool true at h18
        rw [if_pos (wanted_true (j := 12) (d := 18) rfl rfl h18)]
        clear hsame
        unfold Oper.wp
        go_simp
        exact ⟨_, rfl, hI, Below.refl _ _, fun d hd => by cases hd; exact rfl⟩
      · intro a W hI hsame ht
        obtain ⟨h18, h24, _⟩ := ht
        change a.tmps.getD 18 undef = .bool true at h18
        change a.tmps.getD 24 undef = .bool true at h24
        rw [if_pos (by rfl)]
        clear hsame
        unfold Oper.wp
        go_simp
        exact ⟨_, rfl, hI, Below.refl _ _, fun d hd => by cases hd; exact rfl⟩
      · intro a W hI hsame ht
        obtain ⟨h25, _⟩ := ht
        change a.tmps.getD 25 undef = .bool true at h25
        rw [if_pos (by rfl)]
        clear hsame
        unfold Oper.wp
        go_simp
        exact ⟨_, rfl, hI, Below.refl _ _, fun d hd => by cases hd; exact rfl⟩
      · intro a W hI hsame ht
        obtain ⟨h26, _⟩ := ht
        change a.tmps.getD 26 undef = .bool true at h26
        have h1 := hsame 1 (by decide)
        change a.tmps.getD 1 undef = .pointer (some ⟨N, 0, none⟩) at h1
        rw [if_pos (wanted_true (j := 20) (d := 26) rfl rfl h26)]
        clear hsame
        obtain ⟨x0, x1, x2, x3, x4⟩ := (HX.out W hI).cells5
        unfold Oper.wp
        go_simp
        exact ⟨_, rfl, hI, Below.refl _ _, fun d hd => by cases hd; exact rfl⟩
      · intro a W hI hsame ht
        obtain ⟨h27, h26, _⟩ := ht
        change a.tmps.getD 27 undef = .agg #[.int .i64 op, .int .u8 k, .int .i64 n, .string s, .slice A ln c] at h27
        change a.tmps.getD 26 undef = .bool true at h26
        rw [if_pos (wanted_true (j := 20) (d := 26) rfl rfl h26)]
        clear hsame
        unfold Oper.wp
        go_simp
        refine (HT.out W (HBE.out W hI)).mono ?_
        rintro e' W' ⟨rfl, hb⟩
        exact ⟨_, rfl, Below.on hI hb, hb, fun d hd => by cases hd; exact rfl⟩
      · intro a W hI hsame ht
        obtain ⟨h26, _⟩ := ht
        change a.tmps.getD 26 undef = .bool true at h26
        have h1 := hsame 1 (by decide)
        change a.tmps.getD 1 undef = .pointer (some ⟨N, 0, none⟩) at h1
        rw [if_pos (wanted_true (j := 20) (d := 26) rfl rfl h26)]
        clear hsame
        obtain ⟨x0, x1, x2, x3, x4⟩ := (HX.out W hI).cells5
        unfold Oper.wp
        go_simp
        exact ⟨_, rfl, hI, Below.refl _ _, fun d hd => by cases hd; exact rfl⟩
      · intro a W hI hsame ht
        obtain ⟨h29, h26, _⟩ := ht
        change a.tmps.getD 29 undef = .agg #[.int .i64 op, .int .u8 k, .int .i64 n, .string s, .slice A ln c] at h29
        change a.tmps.getD 26 undef = .bool true at h26
        rw [if_pos (wanted_true (j := 20) (d := 26) rfl rfl h26)]
        clear hsame
        unfold Oper.wp
        go_simp
        refine (HT2.out W (HBE.out W hI)).mono ?_
        rintro e' W' ⟨rfl, hb⟩
        exact ⟨_, rfl, Below.on hI hb, hb, fun d hd => by cases hd; exact rfl⟩
      · intro a W hI hsame ht
        obtain ⟨h28, h30, h26, _⟩ := ht
        change a.tmps.getD 28 undef = .string (str tx) at h28
        change a.tmps.getD 30 undef = .string (str tx) at h30
        change a.tmps.getD 26 undef = .bool true at h26
        rw [if_pos (wanted_true (j := 20) (d := 26) rfl rfl h26)]
        clear hsame
        unfold Oper.wp
        go_simp
        exact ⟨_, rfl, hI, Below.refl _ _, fun d hd => by cases hd; exact rfl⟩
      · intro a W hI hsame ht
        obtain ⟨h26, h31, _⟩ := ht
        change a.tmps.getD 26 undef = .bool true at h26
        change a.tmps.getD 31 undef = .bool true at h31
        rw [if_pos (by rfl)]
        clear hsame
        unfold Oper.wp
        go_simp
        exact ⟨_, rfl, hI, Below.refl _ _, fun d hd => by cases hd; exact rfl⟩
      · intro a W hI hsame ht
        obtain ⟨h32, _⟩ := ht
        change a.tmps.getD 32 undef = .bool true at h32
        rw [if_pos (by rfl)]
        clear hsame
        unfold Oper.wp
        go_simp
        exact ⟨_, rfl, hI, Below.refl _ _, fun d hd => by cases hd; exact rfl⟩
      · intro a W hI hsame ht
        obtain ⟨h33, _⟩ := ht
        change a.tmps.getD 33 undef = .bool true at h33
        rw [if_pos (wanted_true (j := 27) (d := 33) rfl rfl h33)]
        clear hsame
        unfold Oper.wp
        go_simp
        refine (HLV.out _ (HBE.out W hI)).mono ?_
        rintro e' W' ⟨rfl, hb⟩
        exact ⟨_, rfl, Below.on hI hb, hb, fun d hd => by cases hd; exact rfl⟩
      · intro a W hI hsame ht
        obtain ⟨h33, h34, _⟩ := ht
        change a.tmps.getD 33 undef = .bool true at h33
        change a.tmps.getD 34 undef = .bool true at h34
        rw [if_pos (by rfl)]
        clear hsame
        unfold Oper.wp
        go_simp
        exact ⟨_, rfl, hI, Below.refl _ _, fun d hd => by cases hd; exact rfl⟩
      · intro a W hI hsame ht
        obtain ⟨h35, _⟩ := ht
        change a.tmps.getD 35 undef = .bool true at h35
        rw [if_pos (by rfl)]
        clear hsame
        unfold Oper.wp
        go_simp
        exact ⟨_, rfl, hI, Below.refl _ _, fun d hd => by cases hd; exact rfl⟩
    · intro a W hI hsz hdef hsame hall
      have h2 := hall 2 (by decide)
      change a.tmps.getD 2 undef = .bool true at h2
      clear hall hsame
      go_wp2
      exact bodyPost_ret (results_tmp (by rfl) _ _ _) hdef ⟨congrArg Ending.returned h2, by rw [HNN.out]; exact HBE.out _ hI⟩
end Go.Proofs.YtkaapfakalojaaaDoor
