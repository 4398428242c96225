/-
  Contract of the document's Send, where the sender is down or there is no room. Conditions: the messages lie in memory.
-/
import Derived.Test.YtcdghipodnafmaaRSendA
namespace Go.Proofs.Ytcdghipodnafmaa
open Go.ChangeShapes Go.WideShapes Go.ChangeAt Go.RowKit
set_option linter.unusedVariables false
set_option maxRecDepth 20000 in
set_option maxHeartbeats 8000000 in
theorem rsend_none (b : Rb) (A : Option Addr) (c : Nat) (rs : List Mr) (W : World) (k : Nat) (t : Int) (D : Option Addr) (cd ln : Nat) (hk : k < 8) (hf : (k : Int) < b.n) (ht0 : 0 ≤ t) (ht : t < b.n) (hdn : b.dn k = true) :
    Calls Try.prog 22 #[rv b A rs.length c, .int .i64 (k : Int), .int .i64 t, .slice D ln cd] W (RSent b 6 A c rs rs W) := by
  obtain ⟨n, hn⟩ : ∃ n, n = rs.length := ⟨_, rfl⟩
  have HEND := Lib.hid (fun X => sent_two b b 6 A c rs W X n hn)
  have HL := Lib.hid (fun X => lv34 (blk_two b A c n W X))
  have d1 : decide ((k : Int) < 0) = false := by simp
  have d2 : decide (b.n ≤ (k : Int)) = false := by simp; omega
  have d3 : decide (t < 0) = false := by simp; omega
  have d4 : decide (b.n ≤ t) = false := by simp; omega
  have q : ((W.alloc (.cells (rc b A n c) 34)).alloc (.cells rz 34)).cell? ⟨W.heap.size, 2 + k, none⟩ = some (.bool (b.dn k)) := dn_cell ((Blk.new W (rc b A n c) 34).alloc (.cells rz 34)) hk
  rw [hdn] at q
  rw [← hn]
  have HN := Lib.hid hn
  clear hn hf ht ht0 hdn
  unfold rc rz at q
  unfold rc at HL
  unfold rv rc
  go_enter Try.func22, Try.ntmps22
  go_wp2
  refine bodyPost_ret (results_cell_tmp1 rfl _ _ _ _ _ rfl (HL.out _)) rfl ?_
  exact HEND.out _
set_option maxRecDepth 20000 in
set_option maxHeartbeats 8000000 in
theorem rsend_many (b : Rb) (A : Option Addr) (c : Nat) (rs : List Mr) (W : World) (k : Nat) (t : Int) (D : Option Addr) (cd ln : Nat) (hk : k < 8) (hf : (k : Int) < b.n) (ht0 : 0 ≤ t) (ht : t < b.n) (hdn : b.dn k = false) (hroom : b.m ≤ (rs.length : Int)) (hz0 : 0 ≤ b.z) (hz1 : b.z ≤ 100000) :
    Calls Try.prog 22 #[rv b A rs.length c, .int .i64 (k : Int), .int .i64 t, .slice D ln cd] W (RSent { b with z := b.z + 1 } 9 A c rs rs W) := by
  obtain ⟨n, hn⟩ : ∃ n, n = rs.length := ⟨_, rfl⟩
  have HEND := Lib.hid (fun X => sent_two b { b with z := b.z + 1 } 9 A c rs W X n hn)
  have HL := Lib.hid (fun X => lv34 (blk_two { b with z := b.z + 1 } A c n W X))
  have d5 : decide (b.m ≤ (n : Int)) = true := by simp; omega
  have hwz : wrap64 (b.z + 1) = b.z + 1 := by unfold wrap64; omega
  have d1 : decide ((k : Int) < 0) = false := by simp
  have d2 : decide (b.n ≤ (k : Int)) = false := by simp; omega
  have d3 : decide (t < 0) = false := by simp; omega
  have d4 : decide (b.n ≤ t) = false := by simp; omega
  have q : ((W.alloc (.cells (rc b A n c) 34)).alloc (.cells rz 34)).cell? ⟨W.heap.size, 2 + k, none⟩ = some (.bool (b.dn k)) := dn_cell ((Blk.new W (rc b A n c) 34).alloc (.cells rz 34)) hk
  rw [hdn] at q
  rw [← hn]
  have HN := Lib.hid hn
  clear hn hf ht ht0 hdn
  unfold rc rz at q
  clear hroom hz0 hz1
  unfold rc at HL
  unfold rv rc
  go_enter Try.func22, Try.ntmps22
  go_wp2
  refine bodyPost_ret (results_cell_tmp1 rfl _ _ _ _ _ rfl (HL.out _)) rfl ?_
  exact HEND.out _
end Go.Proofs.Ytcdghipodnafmaa
