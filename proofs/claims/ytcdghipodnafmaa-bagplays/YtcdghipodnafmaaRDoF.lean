/-
  Contract of the document's Do, Twice and Move where nothing is done. Conditions: the messages lie in memory; the counts are low.
-/
import Derived.Test.YtcdghipodnafmaaRDoA
namespace Go.Proofs.Ytcdghipodnafmaa
open Go.ChangeShapes Go.WideShapes Go.ChangeAt Go.RowKit
set_option linter.unusedVariables false
set_option maxRecDepth 20000 in
set_option maxHeartbeats 8000000 in
theorem rdo_twice_full (b : Rb) (hb : LowR b) (A : Option Addr) (c : Nat) (rs : List Mr) (W : World) (h : CellsG enM W A c rs) (hcap : rs.length ≤ c) (hmany : rs.length ≤ 512) (k : Nat) (r : Mr) (hr : rs[k]? = some r) (j : Int) (hfull : b.m ≤ (rs.length : Int)) :
    Calls Try.prog 23 #[rv b A rs.length c, .int .i64 2, .int .i64 (k : Int), .int .i64 j] W (RDid (b, rs, z0, false) A c rs W) := by
  obtain ⟨n, hn⟩ : ∃ n, n = rs.length := ⟨_, rfl⟩
  have hlt : k < rs.length := (List.getElem?_eq_some_iff.1 hr).1
  obtain ⟨mn, hmn⟩ : ∃ mn, mn = r.m.b.length := ⟨_, rfl⟩
  obtain ⟨gb, o, hA, hgb, hcell⟩ := cells_msg h hr
  have d1 : decide ((k : Int) < 0) = false := by simp
  have d2 : decide ((n : Int) ≤ (k : Int)) = false := by simp; omega
  have hkn : (k : Int) < (n : Int) := by omega
  have hkn2 : k < n := by omega
  obtain ⟨z0', z1', z2'⟩ := hcell (((W.alloc (.cells #[.int .i64 b.n, .int .i64 b.m, .bool (b.dn 0), .bool (b.dn 1), .bool (b.dn 2), .bool (b.dn 3), .bool (b.dn 4), .bool (b.dn 5), .bool (b.dn 6), .bool (b.dn 7), .slice A n c, .int .i64 b.x, .int .i64 b.y, .int .i64 b.z] 34)).alloc (.cells #[.int .i64 0, .int .i64 0, .bool false, .bool false, .bool false, .bool false, .bool false, .bool false, .bool false, .bool false, .slice none 0 0, .int .i64 0, .int .i64 0, .int .i64 0] 34)).alloc (.cells #[.int .i64 0, .int .i64 0, .slice none 0 0] 48)) (below_three W _ _ _)
  rw [← hmn] at z2'
  have HEND := Lib.hid (fun X Y Z V => did_same b A c rs W ((((W.alloc X).alloc Y).alloc Z).alloc V) n hn false (below_four W X Y Z V))
  have HL := Lib.hid (fun X Z V => lvr (show Blk ((((W.alloc X).alloc (.cells (rc b A n c) 34)).alloc Z).alloc V) (W.heap.size + 1) (rc b A n c) 34 from ((Blk.newAt (W.alloc X) (rc b A n c) 34 (g := W.heap.size + 1) (by simp)).alloc Z).alloc V))
  have HM := Lib.hid (fun X Y V => lv48 (show Blk ((((W.alloc X).alloc Y).alloc (.cells #[.int .i64 0, .int .i64 0, .slice none 0 0] 48)).alloc V) (W.heap.size + 1 + 1) #[.int .i64 0, .int .i64 0, .slice none 0 0] 48 from (Blk.newAt ((W.alloc X).alloc Y) #[.int .i64 0, .int .i64 0, .slice none 0 0] 48 (g := W.heap.size + 1 + 1) (by simp)).alloc V))
  have d3 : decide (b.m ≤ (n : Int)) = true := by simp; omega
  clear hfull
  rw [← hn]
  subst hA
  clear h hcap hmany hr hb hn hcell hlt hmn hgb
  unfold rc at HL
  unfold rv at HEND HL
  unfold rc at HEND HL
  unfold rv rc
  go_enter Try.func23, Try.ntmps23
  go_wp2
  refine bodyPost_ret (results_cell2_tmp rfl _ _ _ _ _ _ _ rfl rfl (HL.out _ _ _) (HM.out _ _ _)) rfl ?_
  exact HEND.out _ _ _ _
set_option maxRecDepth 20000 in
set_option maxHeartbeats 8000000 in
theorem rdo_move_lo (b : Rb) (hb : LowR b) (A : Option Addr) (c : Nat) (rs : List Mr) (W : World) (h : CellsG enM W A c rs) (hcap : rs.length ≤ c) (hmany : rs.length ≤ 512) (k : Nat) (r : Mr) (hr : rs[k]? = some r) (j : Int) (d : Int) (hd0 : d ≠ 0) (hd1 : d ≠ 1) (hd2 : d ≠ 2) (hj : j < 0) :
    Calls Try.prog 23 #[rv b A rs.length c, .int .i64 d, .int .i64 (k : Int), .int .i64 j] W (RDid (b, rs, z0, false) A c rs W) := by
  obtain ⟨n, hn⟩ : ∃ n, n = rs.length := ⟨_, rfl⟩
  have hlt : k < rs.length := (List.getElem?_eq_some_iff.1 hr).1
  obtain ⟨mn, hmn⟩ : ∃ mn, mn = r.m.b.length := ⟨_, rfl⟩
  obtain ⟨gb, o, hA, hgb, hcell⟩ := cells_msg h hr
  have d1 : decide ((k : Int) < 0) = false := by simp
  have d2 : decide ((n : Int) ≤ (k : Int)) = false := by simp; omega
  have hkn : (k : Int) < (n : Int) := by omega
  have hkn2 : k < n := by omega
  obtain ⟨z0', z1', z2'⟩ := hcell (((W.alloc (.cells #[.int .i64 b.n, .int .i64 b.m, .bool (b.dn 0), .bool (b.dn 1), .bool (b.dn 2), .bool (b.dn 3), .bool (b.dn 4), .bool (b.dn 5), .bool (b.dn 6), .bool (b.dn 7), .slice A n c, .int .i64 b.x, .int .i64 b.y, .int .i64 b.z] 34)).alloc (.cells #[.int .i64 0, .int .i64 0, .bool false, .bool false, .bool false, .bool false, .bool false, .bool false, .bool false, .bool false, .slice none 0 0, .int .i64 0, .int .i64 0, .int .i64 0] 34)).alloc (.cells #[.int .i64 0, .int .i64 0, .slice none 0 0] 48)) (below_three W _ _ _)
  rw [← hmn] at z2'
  have HEND := Lib.hid (fun X Y Z V => did_same b A c rs W ((((W.alloc X).alloc Y).alloc Z).alloc V) n hn false (below_four W X Y Z V))
  have HL := Lib.hid (fun X Z V => lvr (show Blk ((((W.alloc X).alloc (.cells (rc b A n c) 34)).alloc Z).alloc V) (W.heap.size + 1) (rc b A n c) 34 from ((Blk.newAt (W.alloc X) (rc b A n c) 34 (g := W.heap.size + 1) (by simp)).alloc Z).alloc V))
  have HM := Lib.hid (fun X Y V => lv48 (show Blk ((((W.alloc X).alloc Y).alloc (.cells #[.int .i64 0, .int .i64 0, .slice none 0 0] 48)).alloc V) (W.heap.size + 1 + 1) #[.int .i64 0, .int .i64 0, .slice none 0 0] 48 from (Blk.newAt ((W.alloc X).alloc Y) #[.int .i64 0, .int .i64 0, .slice none 0 0] 48 (g := W.heap.size + 1 + 1) (by simp)).alloc V))
  have e0 : (d == 0) = false := by simp [hd0]
  have e1 : (d == 1) = false := by simp [hd1]
  have e2 : (d == 2) = false := by simp [hd2]
  have d3 : decide (j < 0) = true := by simpa using hj
  clear hj
  clear hd0 hd1 hd2
  rw [← hn]
  subst hA
  clear h hcap hmany hr hb hn hcell hlt hmn hgb
  unfold rc at HL
  unfold rv at HEND HL
  unfold rc at HEND HL
  unfold rv rc
  go_enter Try.func23, Try.ntmps23
  go_wp2
  refine bodyPost_ret (results_cell2_tmp rfl _ _ _ _ _ _ _ rfl rfl (HL.out _ _ _) (HM.out _ _ _)) rfl ?_
  exact HEND.out _ _ _ _
set_option maxRecDepth 20000 in
set_option maxHeartbeats 8000000 in
theorem rdo_move_hi (b : Rb) (hb : LowR b) (A : Option Addr) (c : Nat) (rs : List Mr) (W : World) (h : CellsG enM W A c rs) (hcap : rs.length ≤ c) (hmany : rs.length ≤ 512) (k : Nat) (r : Mr) (hr : rs[k]? = some r) (j : Int) (d : Int) (hd0 : d ≠ 0) (hd1 : d ≠ 1) (hd2 : d ≠ 2) (hj0 : 0 ≤ j) (hj : (rs.length : Int) ≤ j) :
    Calls Try.prog 23 #[rv b A rs.length c, .int .i64 d, .int .i64 (k : Int), .int .i64 j] W (RDid (b, rs, z0, false) A c rs W) := by
  obtain ⟨n, hn⟩ : ∃ n, n = rs.length := ⟨_, rfl⟩
  have hlt : k < rs.length := (List.getElem?_eq_some_iff.1 hr).1
  obtain ⟨mn, hmn⟩ : ∃ mn, mn = r.m.b.length := ⟨_, rfl⟩
  obtain ⟨gb, o, hA, hgb, hcell⟩ := cells_msg h hr
  have d1 : decide ((k : Int) < 0) = false := by simp
  have d2 : decide ((n : Int) ≤ (k : Int)) = false := by simp; omega
  have hkn : (k : Int) < (n : Int) := by omega
  have hkn2 : k < n := by omega
  obtain ⟨z0', z1', z2'⟩ := hcell (((W.alloc (.cells #[.int .i64 b.n, .int .i64 b.m, .bool (b.dn 0), .bool (b.dn 1), .bool (b.dn 2), .bool (b.dn 3), .bool (b.dn 4), .bool (b.dn 5), .bool (b.dn 6), .bool (b.dn 7), .slice A n c, .int .i64 b.x, .int .i64 b.y, .int .i64 b.z] 34)).alloc (.cells #[.int .i64 0, .int .i64 0, .bool false, .bool false, .bool false, .bool false, .bool false, .bool false, .bool false, .bool false, .slice none 0 0, .int .i64 0, .int .i64 0, .int .i64 0] 34)).alloc (.cells #[.int .i64 0, .int .i64 0, .slice none 0 0] 48)) (below_three W _ _ _)
  rw [← hmn] at z2'
  have HEND := Lib.hid (fun X Y Z V => did_same b A c rs W ((((W.alloc X).alloc Y).alloc Z).alloc V) n hn false (below_four W X Y Z V))
  have HL := Lib.hid (fun X Z V => lvr (show Blk ((((W.alloc X).alloc (.cells (rc b A n c) 34)).alloc Z).alloc V) (W.heap.size + 1) (rc b A n c) 34 from ((Blk.newAt (W.alloc X) (rc b A n c) 34 (g := W.heap.size + 1) (by simp)).alloc Z).alloc V))
  have HM := Lib.hid (fun X Y V => lv48 (show Blk ((((W.alloc X).alloc Y).alloc (.cells #[.int .i64 0, .int .i64 0, .slice none 0 0] 48)).alloc V) (W.heap.size + 1 + 1) #[.int .i64 0, .int .i64 0, .slice none 0 0] 48 from (Blk.newAt ((W.alloc X).alloc Y) #[.int .i64 0, .int .i64 0, .slice none 0 0] 48 (g := W.heap.size + 1 + 1) (by simp)).alloc V))
  have e0 : (d == 0) = false := by simp [hd0]
  have e1 : (d == 1) = false := by simp [hd1]
  have e2 : (d == 2) = false := by simp [hd2]
  have d3 : decide (j < 0) = false := by simp; omega
  have d4 : decide ((n : Int) ≤ j) = true := by simp; omega
  clear hj hj0
  clear hd0 hd1 hd2
  rw [← hn]
  subst hA
  clear h hcap hmany hr hb hn hcell hlt hmn hgb
  unfold rc at HL
  unfold rv at HEND HL
  unfold rc at HEND HL
  unfold rv rc
  go_enter Try.func23, Try.ntmps23
  go_wp2
  refine bodyPost_ret (results_cell2_tmp rfl _ _ _ _ _ _ _ rfl rfl (HL.out _ _ _) (HM.out _ _ _)) rfl ?_
  exact HEND.out _ _ _ _
end Go.Proofs.Ytcdghipodnafmaa
