/-
  Contract of the document's Do, Take where the receiver is down. Conditions: the messages lie in memory; the counts are low.
-/
import Derived.Test.YtcdghipodnafmaaRDoA
namespace Go.Proofs.Ytcdghipodnafmaa
open Go.ChangeShapes Go.WideShapes Go.ChangeAt Go.RowKit
set_option linter.unusedVariables false
set_option maxRecDepth 20000 in
set_option maxHeartbeats 8000000 in
theorem rdo_take_down (b : Rb) (hb : LowR b) (A : Option Addr) (c : Nat) (rs : List Mr) (W : World) (h : CellsG enM W A c rs) (hcap : rs.length ≤ c) (hmany : rs.length ≤ 512) (k : Nat) (r : Mr) (hr : rs[k]? = some r) (j : Int) (q : Nat) (hq : r.m.tgt = (q : Int)) (hq8 : q < 8) (hdn : b.dn q = true) :
    Calls Try.prog 23 #[rv b A rs.length c, .int .i64 0, .int .i64 (k : Int), .int .i64 j] W (RDid ({ b with z := b.z + 1 }, wout rs k, z0, false) A c rs W) := by
  obtain ⟨n, hn⟩ : ∃ n, n = rs.length := ⟨_, rfl⟩
  have hlt : k < rs.length := (List.getElem?_eq_some_iff.1 hr).1
  obtain ⟨mn, hmn⟩ : ∃ mn, mn = r.m.b.length := ⟨_, rfl⟩
  obtain ⟨gb, o, hA, hgb, hcell⟩ := cells_msg h hr
  have d1 : decide ((k : Int) < 0) = false := by simp
  have d2 : decide ((n : Int) ≤ (k : Int)) = false := by simp; omega
  have hkn : (k : Int) < (n : Int) := by omega
  have hkn2 : k < n := by omega
  obtain ⟨z0', z1', z2'⟩ := hcell (((W.alloc (.cells #[.int .i64 b.n, .int .i64 b.m, .bool (b.dn 0), .bool (b.dn 1), .bool (b.dn 2), .bool (b.dn 3), .bool (b.dn 4), .bool (b.dn 5), .bool (b.dn 6), .bool (b.dn 7), .slice A n c, .int .i64 b.x, .int .i64 b.y, .int .i64 b.z] 34)).alloc (.cells #[.int .i64 0, .int .i64 0, .bool false, .bool false, .bool false, .bool false, .bool false, .bool false, .bool false, .bool false, .slice none 0 0, .int .i64 0, .int .i64 0, .int .i64 0] 34)).alloc (.cells #[.int .i64 0, .int .i64 0, .slice none 0 0] 48)) (below_three W _ _ _)
  rw [← hmn] at z2'
  have HWO := Lib.hid (show Calls Try.prog 31 #[.agg #[.int .i64 b.n, .int .i64 b.m, .bool (b.dn 0), .bool (b.dn 1), .bool (b.dn 2), .bool (b.dn 3), .bool (b.dn 4), .bool (b.dn 5), .bool (b.dn 6), .bool (b.dn 7), .slice A n c, .int .i64 b.x, .int .i64 b.y, .int .i64 b.z], .int .i64 (k : Int)] ((((W.alloc (.cells #[.int .i64 b.n, .int .i64 b.m, .bool (b.dn 0), .bool (b.dn 1), .bool (b.dn 2), .bool (b.dn 3), .bool (b.dn 4), .bool (b.dn 5), .bool (b.dn 6), .bool (b.dn 7), .slice A n c, .int .i64 b.x, .int .i64 b.y, .int .i64 b.z] 34)).alloc (.cells #[.int .i64 0, .int .i64 0, .bool false, .bool false, .bool false, .bool false, .bool false, .bool false, .bool false, .bool false, .slice none 0 0, .int .i64 0, .int .i64 0, .int .i64 0] 34)).alloc (.cells #[.int .i64 0, .int .i64 0, .slice none 0 0] 48)).alloc (.cells #[.int .i64 r.m.frm, .int .i64 r.m.tgt, .slice r.A mn r.c] 48)) (RefNew b (wout rs k) ((((W.alloc (.cells #[.int .i64 b.n, .int .i64 b.m, .bool (b.dn 0), .bool (b.dn 1), .bool (b.dn 2), .bool (b.dn 3), .bool (b.dn 4), .bool (b.dn 5), .bool (b.dn 6), .bool (b.dn 7), .slice A n c, .int .i64 b.x, .int .i64 b.y, .int .i64 b.z] 34)).alloc (.cells #[.int .i64 0, .int .i64 0, .bool false, .bool false, .bool false, .bool false, .bool false, .bool false, .bool false, .bool false, .slice none 0 0, .int .i64 0, .int .i64 0, .int .i64 0] 34)).alloc (.cells #[.int .i64 0, .int .i64 0, .slice none 0 0] 48)).alloc (.cells #[.int .i64 r.m.frm, .int .i64 r.m.tgt, .slice r.A mn r.c] 48))) from by
    have h9 := without_calls b A c rs ((((W.alloc (.cells #[.int .i64 b.n, .int .i64 b.m, .bool (b.dn 0), .bool (b.dn 1), .bool (b.dn 2), .bool (b.dn 3), .bool (b.dn 4), .bool (b.dn 5), .bool (b.dn 6), .bool (b.dn 7), .slice A n c, .int .i64 b.x, .int .i64 b.y, .int .i64 b.z] 34)).alloc (.cells #[.int .i64 0, .int .i64 0, .bool false, .bool false, .bool false, .bool false, .bool false, .bool false, .bool false, .bool false, .slice none 0 0, .int .i64 0, .int .i64 0, .int .i64 0] 34)).alloc (.cells #[.int .i64 0, .int .i64 0, .slice none 0 0] 48)).alloc (.cells #[.int .i64 r.m.frm, .int .i64 r.m.tgt, .slice r.A mn r.c] 48)) (h.below (below_four W _ _ _ _)) hcap hmany k hlt
    rw [← hn] at h9
    exact h9)
  have HB4 := Lib.hid (show Below W.heap.size W ((((W.alloc (.cells #[.int .i64 b.n, .int .i64 b.m, .bool (b.dn 0), .bool (b.dn 1), .bool (b.dn 2), .bool (b.dn 3), .bool (b.dn 4), .bool (b.dn 5), .bool (b.dn 6), .bool (b.dn 7), .slice A n c, .int .i64 b.x, .int .i64 b.y, .int .i64 b.z] 34)).alloc (.cells #[.int .i64 0, .int .i64 0, .bool false, .bool false, .bool false, .bool false, .bool false, .bool false, .bool false, .bool false, .slice none 0 0, .int .i64 0, .int .i64 0, .int .i64 0] 34)).alloc (.cells #[.int .i64 0, .int .i64 0, .slice none 0 0] 48)).alloc (.cells #[.int .i64 r.m.frm, .int .i64 r.m.tgt, .slice r.A mn r.c] 48)) from below_four W _ _ _ _)
  have HX0 := Lib.hid (show Blk ((((W.alloc (.cells #[.int .i64 b.n, .int .i64 b.m, .bool (b.dn 0), .bool (b.dn 1), .bool (b.dn 2), .bool (b.dn 3), .bool (b.dn 4), .bool (b.dn 5), .bool (b.dn 6), .bool (b.dn 7), .slice A n c, .int .i64 b.x, .int .i64 b.y, .int .i64 b.z] 34)).alloc (.cells #[.int .i64 0, .int .i64 0, .bool false, .bool false, .bool false, .bool false, .bool false, .bool false, .bool false, .bool false, .slice none 0 0, .int .i64 0, .int .i64 0, .int .i64 0] 34)).alloc (.cells #[.int .i64 0, .int .i64 0, .slice none 0 0] 48)).alloc (.cells #[.int .i64 r.m.frm, .int .i64 r.m.tgt, .slice r.A mn r.c] 48)) W.heap.size #[.int .i64 b.n, .int .i64 b.m, .bool (b.dn 0), .bool (b.dn 1), .bool (b.dn 2), .bool (b.dn 3), .bool (b.dn 4), .bool (b.dn 5), .bool (b.dn 6), .bool (b.dn 7), .slice A n c, .int .i64 b.x, .int .i64 b.y, .int .i64 b.z] 34 from (((Blk.new W #[.int .i64 b.n, .int .i64 b.m, .bool (b.dn 0), .bool (b.dn 1), .bool (b.dn 2), .bool (b.dn 3), .bool (b.dn 4), .bool (b.dn 5), .bool (b.dn 6), .bool (b.dn 7), .slice A n c, .int .i64 b.x, .int .i64 b.y, .int .i64 b.z] 34).alloc _).alloc _).alloc _)
  have HX1 := Lib.hid (show Blk ((((W.alloc (.cells #[.int .i64 b.n, .int .i64 b.m, .bool (b.dn 0), .bool (b.dn 1), .bool (b.dn 2), .bool (b.dn 3), .bool (b.dn 4), .bool (b.dn 5), .bool (b.dn 6), .bool (b.dn 7), .slice A n c, .int .i64 b.x, .int .i64 b.y, .int .i64 b.z] 34)).alloc (.cells #[.int .i64 0, .int .i64 0, .bool false, .bool false, .bool false, .bool false, .bool false, .bool false, .bool false, .bool false, .slice none 0 0, .int .i64 0, .int .i64 0, .int .i64 0] 34)).alloc (.cells #[.int .i64 0, .int .i64 0, .slice none 0 0] 48)).alloc (.cells #[.int .i64 r.m.frm, .int .i64 r.m.tgt, .slice r.A mn r.c] 48)) (W.heap.size + 1) #[.int .i64 0, .int .i64 0, .bool false, .bool false, .bool false, .bool false, .bool false, .bool false, .bool false, .bool false, .slice none 0 0, .int .i64 0, .int .i64 0, .int .i64 0] 34 from ((Blk.newAt (W.alloc (.cells #[.int .i64 b.n, .int .i64 b.m, .bool (b.dn 0), .bool (b.dn 1), .bool (b.dn 2), .bool (b.dn 3), .bool (b.dn 4), .bool (b.dn 5), .bool (b.dn 6), .bool (b.dn 7), .slice A n c, .int .i64 b.x, .int .i64 b.y, .int .i64 b.z] 34)) #[.int .i64 0, .int .i64 0, .bool false, .bool false, .bool false, .bool false, .bool false, .bool false, .bool false, .bool false, .slice none 0 0, .int .i64 0, .int .i64 0, .int .i64 0] 34 (g := W.heap.size + 1) (by simp)).alloc _).alloc _)
  have HX2 := Lib.hid (show Blk ((((W.alloc (.cells #[.int .i64 b.n, .int .i64 b.m, .bool (b.dn 0), .bool (b.dn 1), .bool (b.dn 2), .bool (b.dn 3), .bool (b.dn 4), .bool (b.dn 5), .bool (b.dn 6), .bool (b.dn 7), .slice A n c, .int .i64 b.x, .int .i64 b.y, .int .i64 b.z] 34)).alloc (.cells #[.int .i64 0, .int .i64 0, .bool false, .bool false, .bool false, .bool false, .bool false, .bool false, .bool false, .bool false, .slice none 0 0, .int .i64 0, .int .i64 0, .int .i64 0] 34)).alloc (.cells #[.int .i64 0, .int .i64 0, .slice none 0 0] 48)).alloc (.cells #[.int .i64 r.m.frm, .int .i64 r.m.tgt, .slice r.A mn r.c] 48)) (W.heap.size + 1 + 1) #[.int .i64 0, .int .i64 0, .slice none 0 0] 48 from (Blk.newAt ((W.alloc (.cells #[.int .i64 b.n, .int .i64 b.m, .bool (b.dn 0), .bool (b.dn 1), .bool (b.dn 2), .bool (b.dn 3), .bool (b.dn 4), .bool (b.dn 5), .bool (b.dn 6), .bool (b.dn 7), .slice A n c, .int .i64 b.x, .int .i64 b.y, .int .i64 b.z] 34)).alloc (.cells #[.int .i64 0, .int .i64 0, .bool false, .bool false, .bool false, .bool false, .bool false, .bool false, .bool false, .bool false, .slice none 0 0, .int .i64 0, .int .i64 0, .int .i64 0] 34)) #[.int .i64 0, .int .i64 0, .slice none 0 0] 48 (g := W.heap.size + 1 + 1) (by simp)).alloc _)
  have HX3 := Lib.hid (show Blk ((((W.alloc (.cells #[.int .i64 b.n, .int .i64 b.m, .bool (b.dn 0), .bool (b.dn 1), .bool (b.dn 2), .bool (b.dn 3), .bool (b.dn 4), .bool (b.dn 5), .bool (b.dn 6), .bool (b.dn 7), .slice A n c, .int .i64 b.x, .int .i64 b.y, .int .i64 b.z] 34)).alloc (.cells #[.int .i64 0, .int .i64 0, .bool false, .bool false, .bool false, .bool false, .bool false, .bool false, .bool false, .bool false, .slice none 0 0, .int .i64 0, .int .i64 0, .int .i64 0] 34)).alloc (.cells #[.int .i64 0, .int .i64 0, .slice none 0 0] 48)).alloc (.cells #[.int .i64 r.m.frm, .int .i64 r.m.tgt, .slice r.A mn r.c] 48)) (W.heap.size + 1 + 1 + 1) #[.int .i64 r.m.frm, .int .i64 r.m.tgt, .slice r.A mn r.c] 48 from Blk.newAt (((W.alloc (.cells #[.int .i64 b.n, .int .i64 b.m, .bool (b.dn 0), .bool (b.dn 1), .bool (b.dn 2), .bool (b.dn 3), .bool (b.dn 4), .bool (b.dn 5), .bool (b.dn 6), .bool (b.dn 7), .slice A n c, .int .i64 b.x, .int .i64 b.y, .int .i64 b.z] 34)).alloc (.cells #[.int .i64 0, .int .i64 0, .bool false, .bool false, .bool false, .bool false, .bool false, .bool false, .bool false, .bool false, .slice none 0 0, .int .i64 0, .int .i64 0, .int .i64 0] 34)).alloc (.cells #[.int .i64 0, .int .i64 0, .slice none 0 0] 48)) #[.int .i64 r.m.frm, .int .i64 r.m.tgt, .slice r.A mn r.c] 48 (by simp))
  have HS4 := Lib.hid (show ((((W.alloc (.cells #[.int .i64 b.n, .int .i64 b.m, .bool (b.dn 0), .bool (b.dn 1), .bool (b.dn 2), .bool (b.dn 3), .bool (b.dn 4), .bool (b.dn 5), .bool (b.dn 6), .bool (b.dn 7), .slice A n c, .int .i64 b.x, .int .i64 b.y, .int .i64 b.z] 34)).alloc (.cells #[.int .i64 0, .int .i64 0, .bool false, .bool false, .bool false, .bool false, .bool false, .bool false, .bool false, .bool false, .slice none 0 0, .int .i64 0, .int .i64 0, .int .i64 0] 34)).alloc (.cells #[.int .i64 0, .int .i64 0, .slice none 0 0] 48)).alloc (.cells #[.int .i64 r.m.frm, .int .i64 r.m.tgt, .slice r.A mn r.c] 48)).heap.size = W.heap.size + 4 by simp)
  rw [hq] at HWO HB4 HX0 HX1 HX2 HX3 HS4 z1'
  have hwz : wrap64 (b.z + 1) = b.z + 1 := by have := hb.z0; have := hb.z1; unfold wrap64; omega
  have HQ8 := Lib.hid hq8
  have HDN := Lib.hid hdn
  rw [← hn]
  subst hA
  clear h hcap hmany hr hb hn hcell hlt hmn hq hgb
  unfold rv rc
  go_enter Try.func23, Try.ntmps23
  go_wp2_with fail
  refine HWO.out.mono ?_
  rintro e w1 ⟨a1, c1, rfl, ho, hb1⟩
  obtain ⟨n1, hn1⟩ : ∃ n1, n1 = (wout rs k).length := ⟨_, rfl⟩
  have HN1 := Lib.hid hn1
  have y0 := HX0.out.belowAll hb1
  obtain ⟨W6, hW6⟩ : ∃ W6, W6 = ((((((((((((((w1.setCell ⟨W.heap.size, 0, none⟩ (.int .i64 b.n)).setCell ⟨W.heap.size, 1, none⟩ (.int .i64 b.m)).setCell ⟨W.heap.size, 2, none⟩ (.bool (b.dn 0))).setCell ⟨W.heap.size, 3, none⟩ (.bool (b.dn 1))).setCell ⟨W.heap.size, 4, none⟩ (.bool (b.dn 2))).setCell ⟨W.heap.size, 5, none⟩ (.bool (b.dn 3))).setCell ⟨W.heap.size, 6, none⟩ (.bool (b.dn 4))).setCell ⟨W.heap.size, 7, none⟩ (.bool (b.dn 5))).setCell ⟨W.heap.size, 8, none⟩ (.bool (b.dn 6))).setCell ⟨W.heap.size, 9, none⟩ (.bool (b.dn 7))).setCell ⟨W.heap.size, 10, none⟩ (.slice (some a1) n1 c1)).setCell ⟨W.heap.size, 11, none⟩ (.int .i64 b.x)).setCell ⟨W.heap.size, 12, none⟩ (.int .i64 b.y)).setCell ⟨W.heap.size, 13, none⟩ (.int .i64 b.z)) := ⟨_, rfl⟩
  have hW6' : W6 = rset w1 W.heap.size b (some a1) n1 c1 := hW6
  have HY0 := Lib.hid (show Blk W6 W.heap.size #[.int .i64 b.n, .int .i64 b.m, .bool (b.dn 0), .bool (b.dn 1), .bool (b.dn 2), .bool (b.dn 3), .bool (b.dn 4), .bool (b.dn 5), .bool (b.dn 6), .bool (b.dn 7), .slice (some a1) n1 c1, .int .i64 b.x, .int .i64 b.y, .int .i64 b.z] 34 from by rw [hW6']; exact rset_blk y0 rfl b (some a1) n1 c1)
  have HY1 := Lib.hid (show Blk W6 (W.heap.size + 1) #[.int .i64 0, .int .i64 0, .bool false, .bool false, .bool false, .bool false, .bool false, .bool false, .bool false, .bool false, .slice none 0 0, .int .i64 0, .int .i64 0, .int .i64 0] 34 from by rw [hW6']; exact (HX1.out.belowAll hb1).sets_other (g := W.heap.size) (by omega) 0 (rc b (some a1) n1 c1).toList)
  have HY2 := Lib.hid (show Blk W6 (W.heap.size + 1 + 1) #[.int .i64 0, .int .i64 0, .slice none 0 0] 48 from by rw [hW6']; exact (HX2.out.belowAll hb1).sets_other (g := W.heap.size) (by omega) 0 (rc b (some a1) n1 c1).toList)
  have HY3 := Lib.hid (show Blk W6 (W.heap.size + 1 + 1 + 1) #[.int .i64 r.m.frm, .int .i64 (q : Int), .slice r.A mn r.c] 48 from by rw [hW6']; exact (HX3.out.belowAll hb1).sets_other (g := W.heap.size) (by omega) 0 (rc b (some a1) n1 c1).toList)
  have HO := Lib.hid (show OwnG 48 3 enM (W.heap.size + 4) W6 (some a1) c1 (wout rs k) from by rw [hW6']; exact OwnG.rsetlow (by rw [← HS4.out]; exact ho) (by omega) b (some a1) n1 c1)
  have HT := Lib.hid (show Touch (fun _ => False) W W6 from by rw [hW6']; exact rset_touch (Touch.of_below (HB4.out.trans (hb1.mono HB4.out.size))) (Nat.le_refl _) b (some a1) n1 c1)
  obtain ⟨u0, u1, u2, u3, u4, u5, u6, u7, u8, u9, u10, u11, u12, u13⟩ := y0.cells14
  obtain ⟨f0, f1, f2, f3, f4, f5, f6, f7, f8, f9, fa, fb, fc, fd⟩ := y0.free14
  rw [← hn1]
  have HW6 := Lib.hid hW6
  clear ho hb1 y0 hn1 hW6 hW6'
  unfold rv rc
  go_upto_region 7 with fail
  rw [← HW6.out]
  clear u0 u1 u2 u3 u4 u5 u6 u7 u8 u9 u10 u11 u12 u13 f0 f1 f2 f3 f4 f5 f6 f7 f8 f9 fa fb fc fd
  have hdq : W6.cell? ⟨W.heap.size, 2 + q, none⟩ = some (.bool (b.dn q)) := dn_cell (b := b) (A := some a1) (l := n1) (c := c1) HY0.out HQ8.out
  rw [HDN.out] at hdq
  obtain ⟨u0, u1, u2, u3, u4, u5, u6, u7, u8, u9, u10, u11, u12, u13⟩ := HY0.out.cells14
  have fc := HY0.out.free 12
  have fd := HY0.out.free 13
  obtain ⟨v0, v1, v2, v3, v4, v5, v6, v7, v8, v9, v10, v11, v12, v13⟩ := HY1.out.cells14
  obtain ⟨g0, g1, g2, g3, g4, g5, g6, g7, g8, g9, ga, gbb, gc, gd⟩ := HY1.out.free14
  obtain ⟨x0, x1, x2⟩ := HY2.out.cells3
  obtain ⟨xx0, xx1, xx2⟩ := HY2.out.free3
  obtain ⟨t0, t1, t2⟩ := HY3.out.cells3
  have q5 : ¬ (W.heap.size + 1 = W.heap.size) := by omega
  have q6 : ¬ (W.heap.size = W.heap.size + 1) := by omega
  have q7 : ¬ (W.heap.size + 1 + 1 = W.heap.size) := by omega
  have q8 : ¬ (W.heap.size = W.heap.size + 1 + 1) := by omega
  have q9 : ¬ (W.heap.size + 1 + 1 = W.heap.size + 1) := by omega
  have q10 : ¬ (W.heap.size + 1 = W.heap.size + 1 + 1) := by omega
  go_wp2
  refine bodyPost_ret (results_cell2_tmp rfl _ _ _ _ _ _ _ rfl rfl (fin_load1 (HY1.out.other (a := ⟨W.heap.size, 13, none⟩) q5 (.int .i64 (b.z + 1))) rfl q10 { b with z := b.z + 1 } (some a1) n1 c1 _ _ _) (fin_load2 (HY2.out.other (a := ⟨W.heap.size, 13, none⟩) q7 (.int .i64 (b.z + 1))) q9 { b with z := b.z + 1 } (some a1) n1 c1 _ _ _)) rfl ?_
  exact fin_did HN1.out z0 false (HO.out.setlow (by omega) 13 (.int .i64 (b.z + 1))) (touch_new HT.out (Nat.le_refl _) 13 (.int .i64 (b.z + 1)))
end Go.Proofs.Ytcdghipodnafmaa
