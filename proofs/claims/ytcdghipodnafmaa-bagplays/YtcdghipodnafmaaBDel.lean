/-
  Contract of slices.Delete of one message. Conditions: the row is the call's own, the index is in it.
-/
import Derived.Test.YtcdghipodnafmaaBSmall
import Derived.Deep.RegionLaw
import Derived.Shelf.RegionOpenPlain
import Derived.Lib.Walk
import Derived.Lib.SliceRun
namespace Go.Proofs.Ytcdghipodnafmaa
open Go.ChangeShapes Go.WideShapes Go.ChangeAt Go.RowKit
set_option linter.unusedVariables false

def zs3 : List Value := [.int .i64 0, .int .i64 0, .slice none 0 0]
theorem run_clear_one (w : World) (ty : TypeId) (b o c : Nat) (hc : ∀ j, j < 3 → (w.cell? ⟨b, o + j, none⟩).isSome = true) (hf : ∀ j, j < 3 → w.frozen? ⟨b, o + j, none⟩ = false) :
    (Builtin.clear_ #[31] ty #[.slice (some ⟨b, o, none⟩) 1 c]).run Try.prog w = .ok (.tuple #[]) (w.setCells b o zs3) := by
  have hst := run_storeCells_cells (P := Try.prog) b o zs3 0 w (by simpa [zs3] using hc) (by simpa [zs3] using hf) (by simp [zs3, Value.oneCell'])
  have hv : (zeroValue 48).run Try.prog w = .ok zM w := by kernel_rfl
  have hz : (Builtin.zeroCells zM.cells 1).toList = zs3 := by kernel_rfl
  simp only [Nat.add_zero] at hst
  simp [Builtin.clear_, run_underlying Try.underlying31, hv, hz, hst]
/-- A row of the call's own, and what lies in its block. -/
theorem OwnG.open_ {w : World} {A : Option Addr} {c : Nat} {rs : List Mr} (h : OwnG 48 3 enM 0 w A c rs) (hl : 0 < rs.length) : ∃ g cur, A = some ⟨g, 0, none⟩ ∧ Blk w g cur 48 ∧ rs.length ≤ c ∧ c ≤ maxLen ∧ cur.size = c * 3 ∧ cur.toList.take (rs.length * 3) = cellsG enM rs := by
  rcases h.2 with ⟨_, h0⟩ | ⟨g, cap, cur, hv, _, hb, h1, h2, h3, h4⟩
  · omega
  · simp only [Value.slice.injEq] at hv
    obtain ⟨rfl, _, rfl⟩ := hv
    exact ⟨g, cur, rfl, hb, h1, h2, h3, h4⟩
theorem OwnG.shut {w : World} {g c : Nat} {cur : Array Value} {rs : List Mr} (hb : Blk w g cur 48) (h1 : rs.length ≤ c) (h2 : c ≤ maxLen) (h3 : cur.size = c * 3) (h4 : cur.toList.take (rs.length * 3) = cellsG enM rs) : OwnG 48 3 enM 0 w (some ⟨g, 0, none⟩) c rs :=
  ⟨cellsG_length elM rs, .inr ⟨g, c, cur, rfl, Nat.zero_le _, hb, h1, h2, h3, h4⟩⟩
theorem cellsG_take (rs : List Mr) (i : Nat) (hi : i ≤ rs.length) : cellsG enM (rs.take i) = (cellsG enM rs).take (i * 3) := by
  have h := cellsG_append enM (rs.take i) (rs.drop i)
  rw [List.take_append_drop] at h
  rw [h, List.take_left' (by rw [cellsG_length elM, List.length_take, Nat.min_eq_left hi])]
theorem cellsG_drop (rs : List Mr) (i : Nat) (hi : i ≤ rs.length) : cellsG enM (rs.drop i) = (cellsG enM rs).drop (i * 3) := by
  have h := cellsG_append enM (rs.take i) (rs.drop i)
  rw [List.take_append_drop] at h
  rw [h, List.drop_left' (by rw [cellsG_length elM, List.length_take, Nat.min_eq_left hi])]

set_option maxHeartbeats 4000000 in
set_option maxRecDepth 100000 in
theorem delete_calls {w : World} {A : Option Addr} {c : Nat} {rs : List Mr} (h : OwnG 48 3 enM 0 w A c rs) (i j : Nat) (hij : j = i + 1) (hi : i < rs.length) :
    Calls Try.prog 33 #[.slice A rs.length c, .int .i64 i, .int .i64 (j : Int)] w fun e w' => e = .returned (.slice A (rs.take i ++ rs.drop j).length c) ∧ OwnG 48 3 enM 0 w' A c (rs.take i ++ rs.drop j) ∧ Touch (fun k => ∃ a, A = some a ∧ k = a.block) w w' := by
  have HJ := Lib.hid hij
  obtain ⟨g, cur, rfl, hb, hnc, hcm, hsz, hcur⟩ := h.open_ (by omega)
  obtain ⟨i0, hi0, hz0, hz1, hz2⟩ := info_parts elM.info
  have hlen2 : (rs.take i ++ rs.drop j).length = i + (rs.length - (j)) := by simp; omega
  obtain ⟨n, hn⟩ : ∃ n, n = rs.length := ⟨_, rfl⟩
  obtain ⟨news, hnews⟩ : ∃ news, news = cellsG enM (rs.drop j) := ⟨_, rfl⟩
  have hnl : news.length = (n - (j)) * 3 := by rw [hnews, cellsG_length elM, List.length_drop, hn]
  have hcell : ∀ j u, (cellsG enM rs)[j]? = some u → w.cell? ⟨g, j, none⟩ = some u := fun j u hu => by
    rw [hb.cell, ← Array.getElem?_toList]
    rw [← hcur] at hu
    have hj : j < rs.length * 3 := by
      have := (List.getElem?_eq_some_iff.1 hu).1
      rw [List.length_take] at this; omega
    rwa [List.getElem?_take_of_lt hj] at hu
  obtain ⟨D, hD, hsrc⟩ : ∃ D : Addr, (if c = j then some (⟨g, 0, none⟩ : Addr) else some ⟨g, (j) * 3, none⟩) = some D ∧ Hid (∀ t u, news[t]? = some u → w.drew.cell? (D.add t) = some u) := by
    by_cases hc : c = j
    · refine ⟨⟨g, 0, none⟩, by simp [hc], fun t u hu => ?_⟩
      have h0 : news.length = 0 := by rw [hnl]; omega
      rw [List.length_eq_zero_iff.1 h0] at hu
      simp at hu
    · refine ⟨⟨g, (j) * 3, none⟩, by simp [hc], fun t u hu => ?_⟩
      rw [Addr.add_lit]
      refine hcell ((j) * 3 + t) u ?_
      rw [hnews, cellsG_drop rs (j) (by omega), List.getElem?_drop] at hu
      exact hu
  have s1 : Hid (news.length = (n - (j)) * 3) := hnl
  have s2 : Hid (∀ u ∈ news, u.oneCell' = true) := by
    rw [hnews]; exact cellsG_one elM _
  have hsome : ∀ (W : World) (cs : Array Value), Blk W g cs 48 → cs.size = c * 3 → ∀ k, k < c * 3 → (W.cell? ⟨g, k, none⟩).isSome = true ∧ W.frozen? ⟨g, k, none⟩ = false := fun W cs hW hs k hk => ⟨by rw [hW.cell, Array.getElem?_eq_getElem (by omega)]; rfl, hW.free k⟩
  have s3 : Hid (∀ t, t < news.length → (w.drew.cell? ⟨g, 0 + i * 3 + t, none⟩).isSome = true ∧ w.drew.frozen? ⟨g, 0 + i * 3 + t, none⟩ = false) := by
    intro t ht
    rw [hnl] at ht
    exact hsome w.drew cur hb.drew hsz _ (by omega)
  obtain ⟨cs1, hb1, hc1⟩ := Blk.sets news (0 + i * 3) w.drew cur hb.drew (by rw [hnl]; omega)
  obtain ⟨W1, hW1⟩ : ∃ W1, W1 = w.drew.setCells g (0 + i * 3) news := ⟨_, rfl⟩
  rw [← hW1] at hb1
  have hs1 : cs1.size = c * 3 := by
    have : cs1.toList.length = c * 3 := by rw [hc1]; simp; omega
    simpa using this
  have hcl : ∀ ty, (Builtin.clear_ #[31] ty #[.slice (some ⟨g, (i + (n - (j))) * 3, none⟩) (n - (i + (n - (j)))) (c - (i + (n - (j))))]).run Try.prog W1 = .ok (.tuple #[]) (W1.setCells g ((i + (n - (j))) * 3) zs3) := fun ty => by
    rw [show n - (i + (n - (j))) = 1 by omega]
    exact run_clear_one W1 ty g _ _ (fun j hj => (hsome W1 cs1 hb1 hs1 _ (by omega)).1) (fun j hj => (hsome W1 cs1 hb1 hs1 _ (by omega)).2)
  obtain ⟨cs2, hb2, hc2⟩ := Blk.sets zs3 ((i + (n - (j))) * 3) W1 cs1 hb1 (by rw [hs1]; simp [zs3]; omega)
  have hfin : OwnG 48 3 enM 0 (W1.setCells g ((i + (n - (j))) * 3) zs3) (some ⟨g, 0, none⟩) c (rs.take i ++ rs.drop j) := by
    refine OwnG.shut hb2 (by rw [hlen2]; omega) hcm ?_ ?_
    · have : cs2.toList.length = c * 3 := by rw [hc2]; simp [zs3]; omega
      simpa using this
    · rw [hlen2, hc2, ← hn, List.append_assoc, List.take_append_of_le_length (by simp; omega), List.take_take, Nat.min_self, hc1, List.append_assoc, cellsG_append, cellsG_take rs i (by omega), ← hnews, ← hcur]
      rw [List.take_append, List.length_take, Nat.zero_add]
      have e1 : min (i * 3) cur.toList.length = i * 3 := by simp; omega
      rw [e1, List.take_of_length_le (by rw [List.length_take, e1]; omega), List.take_take, Nat.min_eq_left (by omega)]
      congr 1
      rw [List.take_append_of_le_length (by rw [hnl]; omega), List.take_of_length_le (by rw [hnl]; omega)]
  have htouch : Touch (fun k => ∃ a : Addr, some (⟨g, 0, none⟩ : Addr) = some a ∧ k = a.block) w (W1.setCells g ((i + (n - (j))) * 3) zs3) := by
    have hS : (fun k => ∃ a : Addr, some (⟨g, 0, none⟩ : Addr) = some a ∧ k = a.block) g := ⟨_, rfl, rfl⟩
    rw [hW1]
    exact ((Touch.of_below (below_drew w)).more (Touch.sets hS _ _ _)).more (Touch.sets hS _ _ _)
  have HF := Lib.hid hfin
  have HT := Lib.hid htouch
  have HL2 := Lib.hid hlen2
  have hW : Hid (W1 = w.drew.setCells g (0 + i * 3) news) := hW1
  have hic : i ≤ c := by omega
  have hjc : j ≤ c := by omega
  have hjn : j ≤ n := by omega
  have hijl : i ≤ j := by omega
  have hcne : ¬ (c = i + (n - j)) := by omega
  have hne : ((i : Int) == (j : Int)) = false := by simp; omega
  have HN := Lib.hid hn
  rw [hlen2, ← hn]
  rw [← hn] at hi hnc
  clear hW1 hb1 hc1 hb2 hc2 hs1 hfin htouch hsome hcell hnl hnews hlen2 hb hsz hcur h hn hij
  go_enter Try.func33, Try.ntmps33
  go_wp2_with fail
  go_region_law (refine step_append_room rfl (.tmp 22) (.tmp 25) 31 rfl 48 i0 3 Try.underlying31 hi0 hz1 g 0 i c (by simp [Act.eval, Act.put]) D (n - (j)) (c - (j)) news (by simp [Act.eval, Act.put]) s1.out hsrc.out s2.out (by omega) s3.out ?_; rw [← hW.out])
  go_wp2
  go_ret
  exact ⟨rfl, HF.out, HT.out⟩
end Go.Proofs.Ytcdghipodnafmaa
