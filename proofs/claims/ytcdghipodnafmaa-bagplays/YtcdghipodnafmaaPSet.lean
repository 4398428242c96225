/-
  The law's step: Set. Conditions: both bags lie in memory and are the same; the counts are low.
-/
import Derived.Test.YtcdghipodnafmaaPStep0
namespace Go.Proofs.Ytcdghipodnafmaa
open Go.ChangeShapes Go.WideShapes Go.ChangeAt Go.RowKit
set_option linter.unusedVariables false
theorem rc_set {b : Rb} {A : Option Addr} {l c : Nat} {q : Nat} (hq : q < 8) (u : Bool) : (rc b A l c).setIfInBounds (2 + q) (.bool u) = rc { b with dn := fun k => if k = q then u else b.dn k } A l c := by
  match q, hq with
  | 0, _ => rfl
  | 1, _ => rfl
  | 2, _ => rfl
  | 3, _ => rfl
  | 4, _ => rfl
  | 5, _ => rfl
  | 6, _ => rfl
  | 7, _ => rfl
set_option maxRecDepth 20000 in
set_option maxHeartbeats 8000000 in
theorem step_set {w : World} {p : Nat} {n : Int} {k : Nat} {S : Nat → Prop} {g : Bg} {b : Rb} {A : Option Addr} {c : Nat} {rs : List Mr} {W : World} (B : Both w p n k S g b A c rs W) (hk : k ≤ 150) (x y : Int) (u : Bool) (D : Option Addr) (dc : Nat) (l : List Int) (hl : GoodB w D dc l) :
    Calls Try.prog 10 #[at_ p, rv b A rs.length c, .agg #[.int .i64 5, .int .i64 x, .int .i64 y, .bool u, .slice D l.length dc]] W (StepR w p n k S W) := by
  obtain ⟨nr, hnr⟩ : ∃ nr, nr = rs.length := ⟨_, rfl⟩
  obtain ⟨ln, hln⟩ : ∃ ln, ln = l.length := ⟨_, rfl⟩
  have HNR := Lib.hid hnr
  have HLN := Lib.hid hln
  have HB := Lib.hid B
  have hb3 : Below W.heap.size W (((W.alloc (.cells #[.int .i64 b.n, .int .i64 b.m, .bool (b.dn 0), .bool (b.dn 1), .bool (b.dn 2), .bool (b.dn 3), .bool (b.dn 4), .bool (b.dn 5), .bool (b.dn 6), .bool (b.dn 7), .slice A nr c, .int .i64 b.x, .int .i64 b.y, .int .i64 b.z] 34)).alloc (.cells #[.int .i64 5, .int .i64 x, .int .i64 y, .bool u, .slice D ln dc] 39)).alloc (.cells #[.int .i64 0, .int .i64 0, .bool false, .bool false, .bool false, .bool false, .bool false, .bool false, .bool false, .bool false, .slice none 0 0, .int .i64 0, .int .i64 0, .int .i64 0] 34)) := below_three W _ _ _
  have HB3 := Lib.hid hb3
  have HX0 := Lib.hid (show Blk (((W.alloc (.cells #[.int .i64 b.n, .int .i64 b.m, .bool (b.dn 0), .bool (b.dn 1), .bool (b.dn 2), .bool (b.dn 3), .bool (b.dn 4), .bool (b.dn 5), .bool (b.dn 6), .bool (b.dn 7), .slice A nr c, .int .i64 b.x, .int .i64 b.y, .int .i64 b.z] 34)).alloc (.cells #[.int .i64 5, .int .i64 x, .int .i64 y, .bool u, .slice D ln dc] 39)).alloc (.cells #[.int .i64 0, .int .i64 0, .bool false, .bool false, .bool false, .bool false, .bool false, .bool false, .bool false, .bool false, .slice none 0 0, .int .i64 0, .int .i64 0, .int .i64 0] 34)) W.heap.size #[.int .i64 b.n, .int .i64 b.m, .bool (b.dn 0), .bool (b.dn 1), .bool (b.dn 2), .bool (b.dn 3), .bool (b.dn 4), .bool (b.dn 5), .bool (b.dn 6), .bool (b.dn 7), .slice A nr c, .int .i64 b.x, .int .i64 b.y, .int .i64 b.z] 34 from ((Blk.new W #[.int .i64 b.n, .int .i64 b.m, .bool (b.dn 0), .bool (b.dn 1), .bool (b.dn 2), .bool (b.dn 3), .bool (b.dn 4), .bool (b.dn 5), .bool (b.dn 6), .bool (b.dn 7), .slice A nr c, .int .i64 b.x, .int .i64 b.y, .int .i64 b.z] 34).alloc _).alloc _)
  have HX1 := Lib.hid (show Blk (((W.alloc (.cells #[.int .i64 b.n, .int .i64 b.m, .bool (b.dn 0), .bool (b.dn 1), .bool (b.dn 2), .bool (b.dn 3), .bool (b.dn 4), .bool (b.dn 5), .bool (b.dn 6), .bool (b.dn 7), .slice A nr c, .int .i64 b.x, .int .i64 b.y, .int .i64 b.z] 34)).alloc (.cells #[.int .i64 5, .int .i64 x, .int .i64 y, .bool u, .slice D ln dc] 39)).alloc (.cells #[.int .i64 0, .int .i64 0, .bool false, .bool false, .bool false, .bool false, .bool false, .bool false, .bool false, .bool false, .slice none 0 0, .int .i64 0, .int .i64 0, .int .i64 0] 34)) (W.heap.size + 1) #[.int .i64 5, .int .i64 x, .int .i64 y, .bool u, .slice D ln dc] 39 from (Blk.newAt (W.alloc (.cells #[.int .i64 b.n, .int .i64 b.m, .bool (b.dn 0), .bool (b.dn 1), .bool (b.dn 2), .bool (b.dn 3), .bool (b.dn 4), .bool (b.dn 5), .bool (b.dn 6), .bool (b.dn 7), .slice A nr c, .int .i64 b.x, .int .i64 b.y, .int .i64 b.z] 34)) #[.int .i64 5, .int .i64 x, .int .i64 y, .bool u, .slice D ln dc] 39 (g := W.heap.size + 1) (by simp)).alloc _)
  have HX2 := Lib.hid (show Blk (((W.alloc (.cells #[.int .i64 b.n, .int .i64 b.m, .bool (b.dn 0), .bool (b.dn 1), .bool (b.dn 2), .bool (b.dn 3), .bool (b.dn 4), .bool (b.dn 5), .bool (b.dn 6), .bool (b.dn 7), .slice A nr c, .int .i64 b.x, .int .i64 b.y, .int .i64 b.z] 34)).alloc (.cells #[.int .i64 5, .int .i64 x, .int .i64 y, .bool u, .slice D ln dc] 39)).alloc (.cells #[.int .i64 0, .int .i64 0, .bool false, .bool false, .bool false, .bool false, .bool false, .bool false, .bool false, .bool false, .slice none 0 0, .int .i64 0, .int .i64 0, .int .i64 0] 34)) (W.heap.size + 1 + 1) #[.int .i64 0, .int .i64 0, .bool false, .bool false, .bool false, .bool false, .bool false, .bool false, .bool false, .bool false, .slice none 0 0, .int .i64 0, .int .i64 0, .int .i64 0] 34 from Blk.newAt ((W.alloc (.cells #[.int .i64 b.n, .int .i64 b.m, .bool (b.dn 0), .bool (b.dn 1), .bool (b.dn 2), .bool (b.dn 3), .bool (b.dn 4), .bool (b.dn 5), .bool (b.dn 6), .bool (b.dn 7), .slice A nr c, .int .i64 b.x, .int .i64 b.y, .int .i64 b.z] 34)).alloc (.cells #[.int .i64 5, .int .i64 x, .int .i64 y, .bool u, .slice D ln dc] 39)) #[.int .i64 0, .int .i64 0, .bool false, .bool false, .bool false, .bool false, .bool false, .bool false, .bool false, .bool false, .slice none 0 0, .int .i64 0, .int .i64 0, .int .i64 0] 34 (by simp))
  have HSD := Lib.hid (set_calls (B.mem.bag.below hb3) x u)
  have HRL := Lib.hid (B.rel.node x)
  have HCN := Lib.hid (B.cnt.set x u)
  have HLT := Lib.hid (show ∀ q, S q → q < W.heap.size from fun q hq => B.mem.bag.lt q hq)
  have hnx : b.isN x = g.isNode x := B.rel.node x
  have hok := B.mem.bag.ok
  unfold at_ at HSD ⊢
  rw [← hln, ← hnr]
  cases hn : g.isNode x with
  | false =>
    have hs : setS g x u = (g, 1) := by unfold setS; rw [hn]; rfl
    rw [hs] at HSD
    have hor : x < 0 ∨ b.n ≤ x := by
      rw [hn] at hnx
      unfold Rb.isN at hnx
      simp only [Bool.and_eq_false_iff, decide_eq_false_iff_not] at hnx
      omega
    have hds : (decide (x < 0) = true) ∨ (decide (x < 0) = false ∧ decide (b.n ≤ x) = true) := by
      by_cases h0 : x < 0
      · exact .inl (by simpa using h0)
      · exact .inr ⟨by simpa using h0, by simp only [decide_eq_true_eq]; omega⟩
    clear B hl hnr hln hb3 hs hor hn hnx hok
    unfold rv rc
    go_enter Try.func10, Try.ntmps10
    go_wp2_with fail
    refine HSD.out.mono ?_
    rintro e w1 ⟨rfl, hD⟩
    have hbl : ∀ q, W.heap.size ≤ q → q < (((W.alloc (.cells #[.int .i64 b.n, .int .i64 b.m, .bool (b.dn 0), .bool (b.dn 1), .bool (b.dn 2), .bool (b.dn 3), .bool (b.dn 4), .bool (b.dn 5), .bool (b.dn 6), .bool (b.dn 7), .slice A nr c, .int .i64 b.x, .int .i64 b.y, .int .i64 b.z] 34)).alloc (.cells #[.int .i64 5, .int .i64 x, .int .i64 y, .bool u, .slice D ln dc] 39)).alloc (.cells #[.int .i64 0, .int .i64 0, .bool false, .bool false, .bool false, .bool false, .bool false, .bool false, .bool false, .bool false, .slice none 0 0, .int .i64 0, .int .i64 0, .int .i64 0] 34)).heap.size → w1.heap[q]? = (((W.alloc (.cells #[.int .i64 b.n, .int .i64 b.m, .bool (b.dn 0), .bool (b.dn 1), .bool (b.dn 2), .bool (b.dn 3), .bool (b.dn 4), .bool (b.dn 5), .bool (b.dn 6), .bool (b.dn 7), .slice A nr c, .int .i64 b.x, .int .i64 b.y, .int .i64 b.z] 34)).alloc (.cells #[.int .i64 5, .int .i64 x, .int .i64 y, .bool u, .slice D ln dc] 39)).alloc (.cells #[.int .i64 0, .int .i64 0, .bool false, .bool false, .bool false, .bool false, .bool false, .bool false, .bool false, .bool false, .slice none 0 0, .int .i64 0, .int .i64 0, .int .i64 0] 34)).heap[q]? := fun q hq hq2 => by
      obtain ⟨_, _, ht, _⟩ := hD
      exact ht.block q hq2 (fun hs => by have := HLT.out q hs; omega)
    have b0 : Blk w1 W.heap.size #[.int .i64 b.n, .int .i64 b.m, .bool (b.dn 0), .bool (b.dn 1), .bool (b.dn 2), .bool (b.dn 3), .bool (b.dn 4), .bool (b.dn 5), .bool (b.dn 6), .bool (b.dn 7), .slice A nr c, .int .i64 b.x, .int .i64 b.y, .int .i64 b.z] 34 := (hbl _ (Nat.le_refl _) HX0.out.lt).trans HX0.out
    have b1 : Blk w1 (W.heap.size + 1) #[.int .i64 5, .int .i64 x, .int .i64 y, .bool u, .slice D ln dc] 39 := (hbl _ (by omega) HX1.out.lt).trans HX1.out
    have b2 : Blk w1 (W.heap.size + 1 + 1) #[.int .i64 0, .int .i64 0, .bool false, .bool false, .bool false, .bool false, .bool false, .bool false, .bool false, .bool false, .slice none 0 0, .int .i64 0, .int .i64 0, .int .i64 0] 34 := (hbl _ (by omega) HX2.out.lt).trans HX2.out
    obtain ⟨S1, hsub, hto, M1⟩ := (HB.out.mem.on HB3.out).done2 hD
    have HS1 := Lib.hid (show ¬ S1 (W.heap.size + 1 + 1) from fun hs => by
      have h8 := HX2.out.lt
      rcases hsub _ hs with h9 | h9
      · have := HLT.out _ h9; omega
      · omega)
    have HTO := Lib.hid ((Touch.of_below (S := S) HB3.out).more hto)
    have HSUB := Lib.hid ((Sub.refl S W).on hsub HB3.out.size)
    have HZ2 := Lib.hid b2
    have HBO := Lib.hid (show Both w p n (k + 1) S1 g b A c rs w1 from ⟨M1, HB.out.ms, HB.out.rel, HB.out.cnt.next, HB.out.nn⟩)
    obtain ⟨u0, u1, u2, u3, u4, u5, u6, u7, u8, u9, u10, u11, u12, u13⟩ := (b0).cells14
    obtain ⟨f0, f1, f2, f3, f4⟩ := b1.cells5
    obtain ⟨v0, v1, v2, v3, v4, v5, v6, v7, v8, v9, v10, v11, v12, v13⟩ := (b2).cells14
    obtain ⟨g0, g1, g2, g3, g4, g5, g6, g7, g8, g9, ga, gbb, gc, gd⟩ := b2.free14
    have q5 : ¬ (W.heap.size + 1 + 1 = W.heap.size) := by omega
    clear hD hbl b0 b1 b2 M1 hsub hto
    dsimp only
    rcases hds with d1 | ⟨d1, d2⟩
    all_goals
      go_wp2_with fail
      go_region_law (first | (go_simp; refine (code_calls _ _).mono ?_; rintro e w' ⟨rfl, rfl⟩))
      all_goals
        go_wp2
        refine bodyPost_ret (results_cell_tmp1 rfl _ _ _ _ _ rfl (lvr (((rset_blk HZ2.out rfl b A nr c)).drew))) rfl ?_
        rw [HNR.out]
        exact ⟨S1, _, b, A, c, rs, rfl, (HBO.out.rset HZ2.out HS1.out (by have := HB.out.mem.below.size; omega) b A rs.length c).on (below_drew _), (rset_touch HTO.out (by omega) b A rs.length c).more (Touch.drewN _ _ 1), HSUB.out⟩
  | true =>
    have hs : setS g x u = ({ g with up := g.up.set x.toNat u }, 0) := by unfold setS; rw [hn]; rfl
    rw [hs] at HSD HCN
    have HRS := Lib.hid (B.rel.set hok x u hn)
    rw [hs] at HRS
    obtain ⟨q, rfl, hq⟩ := hok.node hn
    have hlt : (q : Int) < b.n := by
      rw [hn] at hnx
      unfold Rb.isN at hnx
      simp only [Bool.and_eq_true, decide_eq_true_eq] at hnx
      exact hnx.2
    have d1 : decide ((q : Int) < 0) = false := by simp
    have d2 : decide (b.n ≤ (q : Int)) = false := by simp; omega
    have HQ := Lib.hid hq
    have hbq : setQ b (q : Int) u = { b with dn := fun k => if k = q then !u else b.dn k } := by unfold setQ; rw [Int.toNat_natCast]
    rw [hbq] at HRS
    obtain ⟨b3, hb3e⟩ : ∃ b3 : Rb, b3 = { b with dn := fun k => if k = q then !u else b.dn k } := ⟨_, rfl⟩
    rw [← hb3e] at HRS
    have HB3E := Lib.hid hb3e
    clear B hl hnr hln hb3 hs hn hnx hok hlt hbq hb3e
    unfold rv rc
    go_enter Try.func10, Try.ntmps10
    go_wp2_with fail
    refine HSD.out.mono ?_
    rintro e w1 ⟨rfl, hD⟩
    have hbl : ∀ e, W.heap.size ≤ e → e < (((W.alloc (.cells #[.int .i64 b.n, .int .i64 b.m, .bool (b.dn 0), .bool (b.dn 1), .bool (b.dn 2), .bool (b.dn 3), .bool (b.dn 4), .bool (b.dn 5), .bool (b.dn 6), .bool (b.dn 7), .slice A nr c, .int .i64 b.x, .int .i64 b.y, .int .i64 b.z] 34)).alloc (.cells #[.int .i64 5, .int .i64 (q : Int), .int .i64 y, .bool u, .slice D ln dc] 39)).alloc (.cells #[.int .i64 0, .int .i64 0, .bool false, .bool false, .bool false, .bool false, .bool false, .bool false, .bool false, .bool false, .slice none 0 0, .int .i64 0, .int .i64 0, .int .i64 0] 34)).heap.size → w1.heap[e]? = (((W.alloc (.cells #[.int .i64 b.n, .int .i64 b.m, .bool (b.dn 0), .bool (b.dn 1), .bool (b.dn 2), .bool (b.dn 3), .bool (b.dn 4), .bool (b.dn 5), .bool (b.dn 6), .bool (b.dn 7), .slice A nr c, .int .i64 b.x, .int .i64 b.y, .int .i64 b.z] 34)).alloc (.cells #[.int .i64 5, .int .i64 (q : Int), .int .i64 y, .bool u, .slice D ln dc] 39)).alloc (.cells #[.int .i64 0, .int .i64 0, .bool false, .bool false, .bool false, .bool false, .bool false, .bool false, .bool false, .bool false, .slice none 0 0, .int .i64 0, .int .i64 0, .int .i64 0] 34)).heap[e]? := fun e he he2 => by
      obtain ⟨_, _, ht, _⟩ := hD
      exact ht.block e he2 (fun hs => by have := HLT.out e hs; omega)
    have b0 : Blk w1 W.heap.size #[.int .i64 b.n, .int .i64 b.m, .bool (b.dn 0), .bool (b.dn 1), .bool (b.dn 2), .bool (b.dn 3), .bool (b.dn 4), .bool (b.dn 5), .bool (b.dn 6), .bool (b.dn 7), .slice A nr c, .int .i64 b.x, .int .i64 b.y, .int .i64 b.z] 34 := (hbl _ (Nat.le_refl _) HX0.out.lt).trans HX0.out
    have b1 : Blk w1 (W.heap.size + 1) #[.int .i64 5, .int .i64 (q : Int), .int .i64 y, .bool u, .slice D ln dc] 39 := (hbl _ (by omega) HX1.out.lt).trans HX1.out
    have b2 : Blk w1 (W.heap.size + 1 + 1) #[.int .i64 0, .int .i64 0, .bool false, .bool false, .bool false, .bool false, .bool false, .bool false, .bool false, .bool false, .slice none 0 0, .int .i64 0, .int .i64 0, .int .i64 0] 34 := (hbl _ (by omega) HX2.out.lt).trans HX2.out
    obtain ⟨S1, hsub, hto, M1⟩ := (HB.out.mem.on HB3.out).done2 hD
    have HSN := Lib.hid (show ∀ e, W.heap.size ≤ e → e < W.heap.size + 3 → ¬ S1 e from fun e he he2 hs => by
      have h8 := HX2.out.lt
      rcases hsub _ hs with h9 | h9
      · have := HLT.out _ h9; omega
      · omega)
    have HTO := Lib.hid ((Touch.of_below (S := S) HB3.out).more hto)
    have HSUB := Lib.hid ((Sub.refl S W).on hsub HB3.out.size)
    have HBO := Lib.hid (show Both w p n (k + 1) S1 { g with up := g.up.set q u } b3 A c rs w1 from ⟨M1, HB.out.ms, HRS.out, HCN.out, HB.out.nn⟩)
    obtain ⟨W6, hW6⟩ : ∃ W6, W6 = w1.setCell ⟨W.heap.size, 2 + q, none⟩ (.bool !u) := ⟨_, rfl⟩
    have HW6 := Lib.hid hW6
    have ht6 : Touch (fun e => e = W.heap.size) w1 W6 := by rw [hW6]; exact Touch.set (S := fun e => e = W.heap.size) rfl w1 (2 + q) _
    have HT6 := Lib.hid ht6
    have y0 : Blk W6 W.heap.size #[.int .i64 b3.n, .int .i64 b3.m, .bool (b3.dn 0), .bool (b3.dn 1), .bool (b3.dn 2), .bool (b3.dn 3), .bool (b3.dn 4), .bool (b3.dn 5), .bool (b3.dn 6), .bool (b3.dn 7), .slice A nr c, .int .i64 b3.x, .int .i64 b3.y, .int .i64 b3.z] 34 := by
      have h9 := (show Blk w1 W.heap.size (rc b A nr c) 34 from b0).set (2 + q) (.bool !u)
      rw [rc_set HQ.out, ← HB3E.out, ← hW6] at h9
      exact h9
    have y2 : Blk W6 (W.heap.size + 1 + 1) #[.int .i64 0, .int .i64 0, .bool false, .bool false, .bool false, .bool false, .bool false, .bool false, .bool false, .bool false, .slice none 0 0, .int .i64 0, .int .i64 0, .int .i64 0] 34 := (ht6.block _ b2.lt (by omega)).trans b2
    have HB6 := Lib.hid (HBO.out.off b0 (by decide) (by decide) (HSN.out _ (Nat.le_refl _) (by omega)) HB.out.mem.below.size ht6)
    have HY2 := Lib.hid y2
    have qd := dn_cell (b := b) (A := A) (l := nr) (c := c) (show Blk w1 W.heap.size (rc b A nr c) 34 from b0) HQ.out
    have qf := b0.free (2 + q)
    have HC0 := Lib.hid y0
    obtain ⟨u0, u1, u2, u3, u4, u5, u6, u7, u8, u9, u10, u11, u12, u13⟩ := (b0).cells14
    obtain ⟨f0, f1, f2, f3, f4⟩ := b1.cells5
    clear hD hbl b0 b1 b2 M1 hsub hto hW6 ht6 y0 y2
    dsimp only
    go_upto_region 11 with fail
    rw [← HW6.out]
    clear u0 u1 u2 u3 u4 u5 u6 u7 u8 u9 u10 u11 u12 u13 f0 f1 f2 f3 f4 qd qf
    obtain ⟨u0, u1, u2, u3, u4, u5, u6, u7, u8, u9, u10, u11, u12, u13⟩ := (HC0.out).cells14
    obtain ⟨v0, v1, v2, v3, v4, v5, v6, v7, v8, v9, v10, v11, v12, v13⟩ := (HY2.out).cells14
    obtain ⟨g0, g1, g2, g3, g4, g5, g6, g7, g8, g9, ga, gbb, gc, gd⟩ := HY2.out.free14
    have q5 : ¬ (W.heap.size + 1 + 1 = W.heap.size) := by omega
    go_region_law (first | (go_simp; refine (code_calls _ _).mono ?_; rintro e w' ⟨rfl, rfl⟩))
    all_goals
      go_wp2
      refine bodyPost_ret (results_cell_tmp1 rfl _ _ _ _ _ rfl (lvr (((rset_blk HY2.out rfl b3 A nr c)).drew))) rfl ?_
      rw [HNR.out]
      exact ⟨S1, _, b3, A, c, rs, rfl, (HB6.out.rset HY2.out (HSN.out _ (by omega) (by omega)) (by have := HB.out.mem.below.size; omega) b3 A rs.length c).on (below_drew _), (rset_touch (HTO.out.on HT6.out (fun e he => .inr (by rw [he]; exact Nat.le_refl _))) (by omega) b3 A rs.length c).more (Touch.drewN _ _ 1), HSUB.out⟩
end Go.Proofs.Ytcdghipodnafmaa
