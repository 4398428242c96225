/-
  Contract of the document's Do, Move. Conditions: the messages lie in memory; the counts are low.
-/
import Derived.Test.YtcdghipodnafmaaRDoA
namespace Go.Proofs.Ytcdghipodnafmaa
open Go.ChangeShapes Go.WideShapes Go.ChangeAt Go.RowKit
set_option linter.unusedVariables false
set_option maxRecDepth 20000 in
set_option maxHeartbeats 8000000 in
theorem rdo_move_ok (b : Rb) (hb : LowR b) (A : Option Addr) (c : Nat) (rs : List Mr) (W : World) (h : CellsG enM W A c rs) (hcap : rs.length ≤ c) (hmany : rs.length ≤ 512) (k : Nat) (r : Mr) (hr : rs[k]? = some r) (j : Int) (d : Int) (hd0 : d ≠ 0) (hd1 : d ≠ 1) (hd2 : d ≠ 2) (jn : Nat) (hjn : j = (jn : Int)) (hj : jn < rs.length) :
    Calls Try.prog 23 #[rv b A rs.length c, .int .i64 d, .int .i64 (k : Int), .int .i64 j] W (RDid (b, insd (wout rs k) jn r, z0, true) A c rs W) := by
  subst hjn
  obtain ⟨n, hn⟩ : ∃ n, n = rs.length := ⟨_, rfl⟩
  have hlt : k < rs.length := (List.getElem?_eq_some_iff.1 hr).1
  obtain ⟨mn, hmn⟩ : ∃ mn, mn = r.m.b.length := ⟨_, rfl⟩
  obtain ⟨gb, o, hA, hgb, hcell⟩ := cells_msg h hr
  have d1 : decide ((k : Int) < 0) = false := by simp
  have d2 : decide ((n : Int) ≤ (k : Int)) = false := by simp; omega
  have hkn : (k : Int) < (n : Int) := by omega
  have hkn2 : k < n := by omega
  obtain ⟨z0', z1', z2'⟩ := hcell (((W.alloc (.cells #[.int .i64 b.n, .int .i64 b.m, .bool (b.dn 0), .bool (b.dn 1), .bool (b.dn 2), .bool (b.dn 3), .bool (b.dn 4), .bool (b.dn 5), .bool (b.dn 6), .bool (b.dn 7), .slice A n c, .int .i64 b.x, .int .i64 b.y, .int .i64 b.z] 34)).alloc (.cells #[.int .i64 0, .int .i64 0, .bool false, .bool false, .bool false, .bool false, .bool false, .bool false, .bool false, .bool false, .slice none 0 0, .int .i64 0, .int .i64 0, .int .i64 0] 34)).alloc (.cells #[.int .i64 0, .int .i64 0, .slice none 0 0] 48)) (below_three W _ _ _)
  rw [← hmn] at z2'
  have HWO := Lib.hid (show Calls Try.prog 31 #[.agg #[.int .i64 b.n, .int .i64 b.m, .bool (b.dn 0), .bool (b.dn 1), .bool (b.dn 2), .bool (b.dn 3), .bool (b.dn 4), .bool (b.dn 5), .bool (b.dn 6), .bool (b.dn 7), .slice A n c, .int .i64 b.x, .int .i64 b.y, .int .i64 b.z], .int .i64 (k : Int)] ((((W.alloc (.cells #[.int .i64 b.n, .int .i64 b.m, .bool (b.dn 0), .bool (b.dn 1), .bool (b.dn 2), .bool (b.dn 3), .bool (b.dn 4), .bool (b.dn 5), .bool (b.dn 6), .bool (b.dn 7), .slice A n c, .int .i64 b.x, .int .i64 b.y, .int .i64 b.z] 34)).alloc (.cells #[.int .i64 0, .int .i64 0, .bool false, .bool false, .bool false, .bool false, .bool false, .bool false, .bool false, .bool false, .slice none 0 0, .int .i64 0, .int .i64 0, .int .i64 0] 34)).alloc (.cells #[.int .i64 0, .int .i64 0, .slice none 0 0] 48)).alloc (.cells #[.int .i64 r.m.frm, .int .i64 r.m.tgt, .slice r.A mn r.c] 48)) (RefNew b (wout rs k) ((((W.alloc (.cells #[.int .i64 b.n, .int .i64 b.m, .bool (b.dn 0), .bool (b.dn 1), .bool (b.dn 2), .bool (b.dn 3), .bool (b.dn 4), .bool (b.dn 5), .bool (b.dn 6), .bool (b.dn 7), .slice A n c, .int .i64 b.x, .int .i64 b.y, .int .i64 b.z] 34)).alloc (.cells #[.int .i64 0, .int .i64 0, .bool false, .bool false, .bool false, .bool false, .bool false, .bool false, .bool false, .bool false, .slice none 0 0, .int .i64 0, .int .i64 0, .int .i64 0] 34)).alloc (.cells #[.int .i64 0, .int .i64 0, .slice none 0 0] 48)).alloc (.cells #[.int .i64 r.m.frm, .int .i64 r.m.tgt, .slice r.A mn r.c] 48))) from by
    have h9 := without_calls b A c rs ((((W.alloc (.cells #[.int .i64 b.n, .int .i64 b.m, .bool (b.dn 0), .bool (b.dn 1), .bool (b.dn 2), .bool (b.dn 3), .bool (b.dn 4), .bool (b.dn 5), .bool (b.dn 6), .bool (b.dn 7), .slice A n c, .int .i64 b.x, .int .i64 b.y, .int .i64 b.z] 34)).alloc (.cells #[.int .i64 0, .int .i64 0, .bool false, .bool false, .bool false, .bool false, .bool false, .bool false, .bool false, .bool false, .slice none 0 0, .int .i64 0, .int .i64 0, .int .i64 0] 34)).alloc (.cells #[.int .i64 0, .int .i64 0, .slice none 0 0] 48)).alloc (.cells #[.int .i64 r.m.frm, .int .i64 r.m.tgt, .slice r.A mn r.c] 48)) (h.below (below_four W _ _ _ _)) hcap hmany k hlt
    rw [← hn] at h9
    exact h9)
  have HB4 := Lib.hid (show Below W.heap.size W ((((W.alloc (.cells #[.int .i64 b.n, .int .i64 b.m, .bool (b.dn 0), .bool (b.dn 1), .bool (b.dn 2), .bool (b.dn 3), .bool (b.dn 4), .bool (b.dn 5), .bool (b.dn 6), .bool (b.dn 7), .slice A n c, .int .i64 b.x, .int .i64 b.y, .int .i64 b.z] 34)).alloc (.cells #[.int .i64 0, .int .i64 0, .bool false, .bool false, .bool false, .bool false, .bool false, .bool false, .bool false, .bool false, .slice none 0 0, .int .i64 0, .int .i64 0, .int .i64 0] 34)).alloc (.cells #[.int .i64 0, .int .i64 0, .slice none 0 0] 48)).alloc (.cells #[.int .i64 r.m.frm, .int .i64 r.m.tgt, .slice r.A mn r.c] 48)) from below_four W _ _ _ _)
  have HX0 := Lib.hid (show Blk ((((W.alloc (.cells #[.int .i64 b.n, .int .i64 b.m, .bool (b.dn 0), .bool (b.dn 1), .bool (b.dn 2), .bool (b.dn 3), .bool (b.dn 4), .bool (b.dn 5), .bool (b.dn 6), .bool (b.dn 7), .slice A n c, .int .i64 b.x, .int .i64 b.y, .int .i64 b.z] 34)).alloc (.cells #[.int .i64 0, .int .i64 0, .bool false, .bool false, .bool false, .bool false, .bool false, .bool false, .bool false, .bool false, .slice none 0 0, .int .i64 0, .int .i64 0, .int .i64 0] 34)).alloc (.cells #[.int .i64 0, .int .i64 0, .slice none 0 0] 48)).alloc (.cells #[.int .i64 r.m.frm, .int .i64 r.m.tgt, .slice r.A mn r.c] 48)) W.heap.size #[.int .i64 b.n, .int .i64 b.m, .bool (b.dn 0), .bool (b.dn 1), .bool (b.dn 2), .bool (b.dn 3), .bool (b.dn 4), .bool (b.dn 5), .bool (b.dn 6), .bool (b.dn 7), .slice A n c, .int .i64 b.x, .int .i64 b.y, .int .i64 b.z] 34 from (((Blk.new W #[.int .i64 b.n, .int .i64 b.m, .bool (b.dn 0), .bool (b.dn 1), .bool (b.dn 2), .bool (b.dn 3), .bool (b.dn 4), .bool (b.dn 5), .bool (b.dn 6), .bool (b.dn 7), .slice A n c, .int .i64 b.x, .int .i64 b.y, .int .i64 b.z] 34).alloc _).alloc _).alloc _)
  have HX1 := Lib.hid (show Blk ((((W.alloc (.cells #[.int .i64 b.n, .int .i64 b.m, .bool (b.dn 0), .bool (b.dn 1), .bool (b.dn 2), .bool (b.dn 3), .bool (b.dn 4), .bool (b.dn 5), .bool (b.dn 6), .bool (b.dn 7), .slice A n c, .int .i64 b.x, .int .i64 b.y, .int .i64 b.z] 34)).alloc (.cells #[.int .i64 0, .int .i64 0, .bool false, .bool false, .bool false, .bool false, .bool false, .bool false, .bool false, .bool false, .slice none 0 0, .int .i64 0, .int .i64 0, .int .i64 0] 34)).alloc (.cells #[.int .i64 0, .int .i64 0, .slice none 0 0] 48)).alloc (.cells #[.int .i64 r.m.frm, .int .i64 r.m.tgt, .slice r.A mn r.c] 48)) (W.heap.size + 1) #[.int .i64 0, .int .i64 0, .bool false, .bool false, .bool false, .bool false, .bool false, .bool false, .bool false, .bool false, .slice none 0 0, .int .i64 0, .int .i64 0, .int .i64 0] 34 from ((Blk.newAt (W.alloc (.cells #[.int .i64 b.n, .int .i64 b.m, .bool (b.dn 0), .bool (b.dn 1), .bool (b.dn 2), .bool (b.dn 3), .bool (b.dn 4), .bool (b.dn 5), .bool (b.dn 6), .bool (b.dn 7), .slice A n c, .int .i64 b.x, .int .i64 b.y, .int .i64 b.z] 34)) #[.int .i64 0, .int .i64 0, .bool false, .bool false, .bool false, .bool false, .bool false, .bool false, .bool false, .bool false, .slice none 0 0, .int .i64 0, .int .i64 0, .int .i64 0] 34 (g := W.heap.size + 1) (by simp)).alloc _).alloc _)
  have HX2 := Lib.hid (show Blk ((((W.alloc (.cells #[.int .i64 b.n, .int .i64 b.m, .bool (b.dn 0), .bool (b.dn 1), .bool (b.dn 2), .bool (b.dn 3), .bool (b.dn 4), .bool (b.dn 5), .bool (b.dn 6), .bool (b.dn 7), .slice A n c, .int .i64 b.x, .int .i64 b.y, .int .i64 b.z] 34)).alloc (.cells #[.int .i64 0, .int .i64 0, .bool false, .bool false, .bool false, .bool false, .bool false, .bool false, .bool false, .bool false, .slice none 0 0, .int .i64 0, .int .i64 0, .int .i64 0] 34)).alloc (.cells #[.int .i64 0, .int .i64 0, .slice none 0 0] 48)).alloc (.cells #[.int .i64 r.m.frm, .int .i64 r.m.tgt, .slice r.A mn r.c] 48)) (W.heap.size + 1 + 1) #[.int .i64 0, .int .i64 0, .slice none 0 0] 48 from (Blk.newAt ((W.alloc (.cells #[.int .i64 b.n, .int .i64 b.m, .bool (b.dn 0), .bool (b.dn 1), .bool (b.dn 2), .bool (b.dn 3), .bool (b.dn 4), .bool (b.dn 5), .bool (b.dn 6), .bool (b.dn 7), .slice A n c, .int .i64 b.x, .int .i64 b.y, .int .i64 b.z] 34)).alloc (.cells #[.int .i64 0, .int .i64 0, .bool false, .bool false, .bool false, .bool false, .bool false, .bool false, .bool false, .bool false, .slice none 0 0, .int .i64 0, .int .i64 0, .int .i64 0] 34)) #[.int .i64 0, .int .i64 0, .slice none 0 0] 48 (g := W.heap.size + 1 + 1) (by simp)).alloc _)
  have HX3 := Lib.hid (show Blk ((((W.alloc (.cells #[.int .i64 b.n, .int .i64 b.m, .bool (b.dn 0), .bool (b.dn 1), .bool (b.dn 2), .bool (b.dn 3), .bool (b.dn 4), .bool (b.dn 5), .bool (b.dn 6), .bool (b.dn 7), .slice A n c, .int .i64 b.x, .int .i64 b.y, .int .i64 b.z] 34)).alloc (.cells #[.int .i64 0, .int .i64 0, .bool false, .bool false, .bool false, .bool false, .bool false, .bool false, .bool false, .bool false, .slice none 0 0, .int .i64 0, .int .i64 0, .int .i64 0] 34)).alloc (.cells #[.int .i64 0, .int .i64 0, .slice none 0 0] 48)).alloc (.cells #[.int .i64 r.m.frm, .int .i64 r.m.tgt, .slice r.A mn r.c] 48)) (W.heap.size + 1 + 1 + 1) #[.int .i64 r.m.frm, .int .i64 r.m.tgt, .slice r.A mn r.c] 48 from Blk.newAt (((W.alloc (.cells #[.int .i64 b.n, .int .i64 b.m, .bool (b.dn 0), .bool (b.dn 1), .bool (b.dn 2), .bool (b.dn 3), .bool (b.dn 4), .bool (b.dn 5), .bool (b.dn 6), .bool (b.dn 7), .slice A n c, .int .i64 b.x, .int .i64 b.y, .int .i64 b.z] 34)).alloc (.cells #[.int .i64 0, .int .i64 0, .bool false, .bool false, .bool false, .bool false, .bool false, .bool false, .bool false, .bool false, .slice none 0 0, .int .i64 0, .int .i64 0, .int .i64 0] 34)).alloc (.cells #[.int .i64 0, .int .i64 0, .slice none 0 0] 48)) #[.int .i64 r.m.frm, .int .i64 r.m.tgt, .slice r.A mn r.c] 48 (by simp))
  have HS4 := Lib.hid (show ((((W.alloc (.cells #[.int .i64 b.n, .int .i64 b.m, .bool (b.dn 0), .bool (b.dn 1), .bool (b.dn 2), .bool (b.dn 3), .bool (b.dn 4), .bool (b.dn 5), .bool (b.dn 6), .bool (b.dn 7), .slice A n c, .int .i64 b.x, .int .i64 b.y, .int .i64 b.z] 34)).alloc (.cells #[.int .i64 0, .int .i64 0, .bool false, .bool false, .bool false, .bool false, .bool false, .bool false, .bool false, .bool false, .slice none 0 0, .int .i64 0, .int .i64 0, .int .i64 0] 34)).alloc (.cells #[.int .i64 0, .int .i64 0, .slice none 0 0] 48)).alloc (.cells #[.int .i64 r.m.frm, .int .i64 r.m.tgt, .slice r.A mn r.c] 48)).heap.size = W.heap.size + 4 by simp)
  have e0 : (d == 0) = false := by simp [hd0]
  have e1 : (d == 1) = false := by simp [hd1]
  have e2 : (d == 2) = false := by simp [hd2]
  have d3 : decide ((jn : Int) < 0) = false := by simp
  have d4 : decide ((n : Int) ≤ (jn : Int)) = false := by simp; omega
  have hjn1 : (jn : Int) < (n : Int) := by omega
  have hjn2 : jn < n := by omega
  have HMANY := Lib.hid hmany
  have HN := Lib.hid hn
  have HMN := Lib.hid hmn
  have HLT := Lib.hid hlt
  have HJ := Lib.hid hj
  rw [← hn]
  subst hA
  clear h hcap hmany hr hb hn hcell hlt hmn hgb hd0 hd1 hd2 hj
  unfold rv rc
  go_enter Try.func23, Try.ntmps23
  go_wp2_with fail
  refine HWO.out.mono ?_
  rintro e w1 ⟨a1, c1, rfl, ho, hb1⟩
  obtain ⟨n1, hn1⟩ : ∃ n1, n1 = (wout rs k).length := ⟨_, rfl⟩
  have HN1 := Lib.hid hn1
  have y0 := HX0.out.belowAll hb1
  obtain ⟨W6, hW6⟩ : ∃ W6, W6 = ((((((((((((((w1.setCell ⟨W.heap.size, 0, none⟩ (.int .i64 b.n)).setCell ⟨W.heap.size, 1, none⟩ (.int .i64 b.m)).setCell ⟨W.heap.size, 2, none⟩ (.bool (b.dn 0))).setCell ⟨W.heap.size, 3, none⟩ (.bool (b.dn 1))).setCell ⟨W.heap.size, 4, none⟩ (.bool (b.dn 2))).setCell ⟨W.heap.size, 5, none⟩ (.bool (b.dn 3))).setCell ⟨W.heap.size, 6, none⟩ (.bool (b.dn 4))).setCell ⟨W.heap.size, 7, none⟩ (.bool (b.dn 5))).setCell ⟨W.heap.size, 8, none⟩ (.bool (b.dn 6))).setCell ⟨W.heap.size, 9, none⟩ (.bool (b.dn 7))).setCell ⟨W.heap.size, 10, none⟩ (.slice (some a1) n1 c1)).setCell ⟨W.heap.size, 11, none⟩ (.int .i64 b.x)).setCell ⟨W.heap.size, 12, none⟩ (.int .i64 b.y)).setCell ⟨W.heap.size, 13, none⟩ (.int .i64 b.z)) := ⟨_, rfl⟩
  have hW6' : W6 = rset w1 W.heap.size b (some a1) n1 c1 := hW6
  have HY0 := Lib.hid (show Blk W6 W.heap.size #[.int .i64 b.n, .int .i64 b.m, .bool (b.dn 0), .bool (b.dn 1), .bool (b.dn 2), .bool (b.dn 3), .bool (b.dn 4), .bool (b.dn 5), .bool (b.dn 6), .bool (b.dn 7), .slice (some a1) n1 c1, .int .i64 b.x, .int .i64 b.y, .int .i64 b.z] 34 from by rw [hW6']; exact rset_blk y0 rfl b (some a1) n1 c1)
  have HY1 := Lib.hid (show Blk W6 (W.heap.size + 1) #[.int .i64 0, .int .i64 0, .bool false, .bool false, .bool false, .bool false, .bool false, .bool false, .bool false, .bool false, .slice none 0 0, .int .i64 0, .int .i64 0, .int .i64 0] 34 from by rw [hW6']; exact (HX1.out.belowAll hb1).sets_other (g := W.heap.size) (by omega) 0 (rc b (some a1) n1 c1).toList)
  have HY2 := Lib.hid (show Blk W6 (W.heap.size + 1 + 1) #[.int .i64 0, .int .i64 0, .slice none 0 0] 48 from by rw [hW6']; exact (HX2.out.belowAll hb1).sets_other (g := W.heap.size) (by omega) 0 (rc b (some a1) n1 c1).toList)
  have HY3 := Lib.hid (show Blk W6 (W.heap.size + 1 + 1 + 1) #[.int .i64 r.m.frm, .int .i64 r.m.tgt, .slice r.A mn r.c] 48 from by rw [hW6']; exact (HX3.out.belowAll hb1).sets_other (g := W.heap.size) (by omega) 0 (rc b (some a1) n1 c1).toList)
  have HO := Lib.hid (show OwnG 48 3 enM (W.heap.size + 4) W6 (some a1) c1 (wout rs k) from by rw [hW6']; exact OwnG.rsetlow (by rw [← HS4.out]; exact ho) (by omega) b (some a1) n1 c1)
  have HT := Lib.hid (show Touch (fun _ => False) W W6 from by rw [hW6']; exact rset_touch (Touch.of_below (HB4.out.trans (hb1.mono HB4.out.size))) (Nat.le_refl _) b (some a1) n1 c1)
  obtain ⟨u0, u1, u2, u3, u4, u5, u6, u7, u8, u9, u10, u11, u12, u13⟩ := y0.cells14
  obtain ⟨f0, f1, f2, f3, f4, f5, f6, f7, f8, f9, fa, fb, fc, fd⟩ := y0.free14
  rw [← hn1]
  have HW6 := Lib.hid hW6
  clear ho hb1 y0 hn1 hW6 hW6'
  unfold rv rc
  go_upto_region 25 with fail
  rw [← HW6.out]
  clear u0 u1 u2 u3 u4 u5 u6 u7 u8 u9 u10 u11 u12 u13 f0 f1 f2 f3 f4 f5 f6 f7 f8 f9 fa fb fc fd
  have hwl := wout_len rs k HLT.out
  have hn1' : n1 + 1 = n := by have h1 := HN1.out; have h2 := HN.out; have h3 := HLT.out; omega
  have hj1 : jn ≤ n1 := by have h3 := HJ.out; have h2 := HN.out; omega
  have hc1 : n1 ≤ c1 := by rw [HN1.out]; exact HO.out.cap
  have hL6 := HO.out.cells
  obtain ⟨bb1, hA1, _, _, _⟩ : ∃ bb1, a1 = ⟨bb1, 0, none⟩ ∧ True ∧ True ∧ True := by
    rcases HO.out.2 with ⟨h1, _⟩ | ⟨g, cap, cur, h1, _⟩
    · cases h1
    · injection h1 with h1
      injection h1 with h1
      exact ⟨g, h1, trivial, trivial, trivial⟩
  subst hA1
  have hE : Below W6.heap.size W6 (W6.alloc (.cells #[] 48)) := below_one _ _
  have HE := Lib.hid hE
  have HOE := Lib.hid (show OwnG 48 3 enM W6.heap.size (W6.alloc (.cells #[] 48)) (some ⟨W6.heap.size, 0, none⟩) 0 [] from World.ownsRow_lit (size := 3) W6 #[] 0 (Nat.le_refl _) (by unfold maxLen; omega) rfl)
  have HF := Lib.hid (show CellsG enM (W6.alloc (.cells #[] 48)) (some ⟨bb1, 0, none⟩) c1 ((wout rs k).take jn) from (hL6.below hE).front jn (by rw [← HN1.out]; exact hj1))
  have HFL := Lib.hid (show ((wout rs k).take jn).length = jn from by rw [List.length_take, ← HN1.out]; omega)
  have HDL := Lib.hid (show ((wout rs k).drop jn).length = n1 - jn from by rw [List.length_drop, ← HN1.out])
  obtain ⟨D, hD, hP⟩ : ∃ D : Addr, (if c1 = jn then some (⟨bb1, 0, none⟩ : Addr) else some ⟨bb1, jn * 3, none⟩) = some D ∧ Hid (∀ V, Below W6.heap.size W6 V → CellsG enM V (some D) (c1 - jn) ((wout rs k).drop jn)) := by
    have hl1 := HN1.out
    by_cases hc : c1 = jn
    · exact ⟨⟨bb1, 0, none⟩, by simp [hc], Lib.hid fun V hV => .inr ⟨_, rfl, fun k u hu => by rw [List.drop_eq_nil_of_le (by omega)] at hu; simp [cellsG] at hu⟩⟩
    · refine ⟨⟨bb1, jn * 3, none⟩, by simp [hc], Lib.hid fun V hV => ?_⟩
      rcases Nat.lt_or_ge jn (wout rs k).length with h1 | h1
      · have h9 := (hL6.below hV).part jn (by omega) h1 (c1 - jn) bb1 0 rfl
        rw [Nat.zero_add] at h9
        exact h9
      · exact .inr ⟨_, rfl, fun k u hu => by rw [List.drop_eq_nil_of_le h1] at hu; simp [cellsG] at hu⟩
  have hx1 : (jn : Int) ≤ (n1 : Int) := by omega
  have hx2 : (jn : Int) ≤ (c1 : Int) := by omega
  have hx3 : jn ≤ c1 := by omega
  have hx4 : (n1 : Int) ≤ (c1 : Int) := by omega
  have hn512 : n1 ≤ 512 := by have h7 := HMANY.out; have h8 := HN.out; omega
  have HN512 := Lib.hid hn512
  have u10 := HY0.out.cell 10
  have u10e := (HY0.out.alloc (.cells #[] 48)).cell 10
  clear hL6 hE hwl hn1' hn512
  go_wp2_with (at_builtin; first | (refine wpList_append_vals3 elM rfl (.tmp 109) (.tmp 113) 31 Try.underlying31 rfl W6.heap.size (some ⟨W6.heap.size, 0, none⟩) 0 [] (by rfl) HOE.out (some ⟨bb1, 0, none⟩) c1 ((wout rs k).take jn) (by rw [HFL.out]; rfl) HF.out (by have h7 := HN512.out; rw [HFL.out]; simp; omega) (by decide) HE.out.size ?_; intro A7 c7 w7 R7 hR7 ho7 hg7 hq7; have hb7 := HOE.out.grow HE.out hg7 HE.out.size; have HB7 := Lib.hid hb7; have HP7 := Lib.hid (HY0.out.belowAll hb7); have HV7 := Lib.hid (HY1.out.belowAll hb7); have HK7 := Lib.hid (HY2.out.belowAll hb7); have HM7 := Lib.hid (HY3.out.belowAll hb7); have HO7 := Lib.hid ho7; have HR7 := Lib.hid hR7.out; have HQ7 := Lib.hid hq7; obtain ⟨s0, s1, s2⟩ := HM7.out.cells3; clear ho7 hg7 hq7 hb7 hR7) | (have HCO := Lib.hid (cells_blk (Blk.new w7 #[.int .i64 r.m.frm, .int .i64 r.m.tgt, .slice r.A mn r.c] 48) r (one_mm r HMN.out)); have HOA := Lib.hid (show OwnG 48 3 enM W6.heap.size (w7.alloc (.cells #[.int .i64 r.m.frm, .int .i64 r.m.tgt, .slice r.A mn r.c] 48)) A7 c7 R7 from HO7.out.alloc _); have HBA := Lib.hid (show Below W6.heap.size W6 (w7.alloc (.cells #[.int .i64 r.m.frm, .int .i64 r.m.tgt, .slice r.A mn r.c] 48)) from HB7.out.alloc HB7.out.size _); have HRL := Lib.hid (show R7.length + 1 ≤ 1000000000 from by have h7 := HN512.out; have h8 := HR7.out; rw [List.nil_append] at h8; rw [h8, HFL.out]; omega); refine wpList_append_vals3 elM rfl (.tmp 115) (.tmp 117) 31 Try.underlying31 rfl W6.heap.size A7 c7 R7 (by rfl) HOA.out (some ⟨w7.heap.size, 0, none⟩) 1 [r] (by rfl) HCO.out HRL.out (by decide) HBA.out.size ?_; intro A8 c8 w8 R8 hR8 ho8 hg8 hq8; have hb8 := HOA.out.grow HBA.out hg8 HBA.out.size; have HB8 := Lib.hid hb8; have HP8 := Lib.hid (HY0.out.belowAll hb8); have HV8 := Lib.hid (HY1.out.belowAll hb8); have HK8 := Lib.hid (HY2.out.belowAll hb8); have HM8 := Lib.hid (HY3.out.belowAll hb8); have HO8 := Lib.hid ho8; have HR8 := Lib.hid hR8.out; have HQ8 := Lib.hid hq8; have r10 := HP8.out.cell 10; have HDC := Lib.hid (hP.out _ hb8); clear ho8 hg8 hq8 hb8 hR8) | (have HRL2 := Lib.hid (show R8.length + ((wout rs k).drop jn).length ≤ 1000000000 from by have h7 := HN512.out; have h8 := HR7.out; rw [List.nil_append] at h8; rw [HR8.out, h8, List.length_append, HFL.out, HDL.out]; simp; omega); refine wpList_append_vals3 elM rfl (.tmp 119) (.tmp 123) 31 Try.underlying31 rfl W6.heap.size A8 c8 R8 (by rfl) HO8.out (some D) (c1 - jn) ((wout rs k).drop jn) (by rw [HDL.out]; rfl) HDC.out HRL2.out (by decide) HB8.out.size ?_; intro A9 c9 w9 R9 hR9 ho9 hg9 hq9; have hb9 := HO8.out.grow HB8.out hg9 HB8.out.size; have HB9 := Lib.hid hb9; have HP9 := Lib.hid (HY0.out.belowAll hb9); have HV9 := Lib.hid (HY1.out.belowAll hb9); have HK9 := Lib.hid (HY2.out.belowAll hb9); have HM9 := Lib.hid (HY3.out.belowAll hb9); have HO9 := Lib.hid ho9; have HR9 := Lib.hid hR9.out; have HQ9 := Lib.hid hq9; obtain ⟨u0, u1, u2, u3, u4, u5, u6, u7, u8, u9, ux, u11, u12, u13⟩ := HP9.out.cells14; have fa := HP9.out.free 10; obtain ⟨v0, v1, v2, v3, v4, v5, v6, v7, v8, v9, v10, v11, v12, v13⟩ := HV9.out.cells14; obtain ⟨g0, g1, g2, g3, g4, g5, g6, g7, g8, g9, ga, gbb, gc, gd⟩ := HV9.out.free14; obtain ⟨x0, x1, x2⟩ := HK9.out.cells3; obtain ⟨xx0, xx1, xx2⟩ := HK9.out.free3; have q5 : ¬ (W.heap.size + 1 = W.heap.size) := (by omega); have q6 : ¬ (W.heap.size = W.heap.size + 1) := (by omega); have q7 : ¬ (W.heap.size + 1 + 1 = W.heap.size) := (by omega); have q8 : ¬ (W.heap.size = W.heap.size + 1 + 1) := (by omega); have q9 : ¬ (W.heap.size + 1 + 1 = W.heap.size + 1) := (by omega); have q10 : ¬ (W.heap.size + 1 = W.heap.size + 1 + 1) := (by omega); clear ho9 hg9 hq9 hb9 hR9))
  obtain ⟨a8, rfl⟩ : ∃ a8, A8 = some a8 := some_of HQ7.out HQ8.out
  obtain ⟨a9, rfl⟩ : ∃ a9, A9 = some a9 := some_of (g := a8) (p := 0) (.inl rfl) HQ9.out
  have e9 : R9 = insd (wout rs k) jn r := by rw [HR9.out, HR8.out, HR7.out]; unfold insd; simp
  have hs6 := HY3.out.lt
  refine bodyPost_ret (results_cell2_tmp rfl _ _ _ _ _ _ _ rfl rfl (fin_load1 (HV9.out.other (a := ⟨W.heap.size, 10, none⟩) q5 (.slice (some a9) R9.length c9)) rfl q10 b (some a9) R9.length c9 _ _ _) (fin_load2 (HK9.out.other (a := ⟨W.heap.size, 10, none⟩) q7 (.slice (some a9) R9.length c9)) q9 b (some a9) R9.length c9 _ _ _)) rfl ?_
  rw [← e9]
  exact fin_did rfl z0 true (((HO9.out.mono (by omega)).setlow (by omega) 10 (.slice (some a9) R9.length c9))) (touch_new (HT.out.more (Touch.of_below HB9.out)) (Nat.le_refl _) 10 (.slice (some a9) R9.length c9))
end Go.Proofs.Ytcdghipodnafmaa
