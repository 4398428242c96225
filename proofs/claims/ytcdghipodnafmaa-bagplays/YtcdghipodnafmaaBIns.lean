/-
  Contract of slices.Insert of one message. Conditions: the row is the call's own and has room; the message lies in a block of its own.
-/
import Derived.Test.YtcdghipodnafmaaBAdd
import Derived.Test.YtcdghipodnafmaaBOv
import Derived.Shelf.Spec.SlicesInsert
namespace Go.Proofs.Ytcdghipodnafmaa
open Go.ChangeShapes Go.WideShapes Go.ChangeAt Go.RowKit
set_option linter.unusedVariables false

theorem run_copy_msgs (w : World) (ty : TypeId) (b o dLen dCap : Nat) (a : Addr) (sLen sCap k : Nat) (cs : List Value) (hk : Nat.min sLen dLen = k) (hn : cs.length = k * 3)
    (hsrc : ∀ j v, cs[j]? = some v → w.cell? (a.add j) = some v) (hc : ∀ j, j < cs.length → (w.cell? ⟨b, o + j, none⟩).isSome = true) (hf : ∀ j, j < cs.length → w.frozen? ⟨b, o + j, none⟩ = false) (h1 : ∀ v ∈ cs, v.oneCell' = true) :
    (Builtin.copy_ #[31, 31] ty #[.slice (some ⟨b, o, none⟩) dLen dCap, .slice (some a) sLen sCap]).run Try.prog w = .ok (goInt k) (w.setCells b o cs) := by
  have hl := run_loadCells_list (P := Try.prog) w a cs hsrc
  have hst := run_storeCells_cells (P := Try.prog) b o cs 0 w (by simpa using hc) (by simpa using hf) h1
  obtain ⟨i0, hi0, hz0, hz1, hz2⟩ := info_parts elM.info
  rw [hn] at hl
  simp [Builtin.copy_, run_underlying Try.underlying31, Builtin.lenOf, Builtin.firstCells, sizeOf, typeInfo, hi0, hz1, hk, hl, hst]
theorem w64 {x : Int} (h0 : 0 ≤ x) (h1 : x ≤ 9223372036854775807) : wrap64 x = x := by unfold wrap64; omega
theorem i64w {x : Int} (h0 : 0 ≤ x) (h1 : x ≤ 9223372036854775807) : IntKind.i64.wrap x = x := by rw [IntKind.wrap_i64]; omega
theorem Blk.shape {W : World} {g : Nat} {cs : Array Value} {t : TypeId} (h : Blk W g cs t) : W.shape? g = some (t, cs.size) := by simp [World.shape?, show W.heap[g]? = _ from h]
def insd {α : Type} (l : List α) (j : Nat) (x : α) : List α := l.take j ++ x :: l.drop j
theorem insd_len {α : Type} (l : List α) (j : Nat) (x : α) (h : j ≤ l.length) : (insd l j x).length = l.length + 1 := by unfold insd; simp; omega

set_option maxHeartbeats 4000000 in
set_option maxRecDepth 100000 in
theorem insert_calls {w : World} {A : Option Addr} {c : Nat} {rs : List Mr} (h : OwnG 48 3 enM 0 w A c rs) (hroom : rs.length + 1 ≤ c) (hmany : rs.length ≤ 512) (j : Nat) (hj : j ≤ rs.length) (x : Mr) (vb : Nat) (hv : Blk w vb #[.int .i64 x.m.frm, .int .i64 x.m.tgt, .slice x.A x.m.b.length x.c] 48) (hvb : ∀ a, A = some a → a.block ≠ vb) :
    Calls Try.prog 30 #[.slice A rs.length c, .int .i64 j, .slice (some ⟨vb, 0, none⟩) 1 1] w fun e w' => ∃ A' c', e = .returned (.slice A' (insd rs j x).length c') ∧ OwnG 48 3 enM 0 w' A' c' (insd rs j x) ∧ w.grownBy w' (Value.slice A rs.length c).ownBlock ∧ (A'.map Addr.block = A.map Addr.block ∨ A'.map Addr.block = some w.heap.size) := by
  obtain ⟨g, cur, rfl, hb, hnc, hcm, hsz, hcur⟩ : ∃ g cur, A = some ⟨g, 0, none⟩ ∧ Blk w g cur 48 ∧ rs.length ≤ c ∧ c ≤ maxLen ∧ cur.size = c * 3 ∧ cur.toList.take (rs.length * 3) = cellsG enM rs := by
    rcases h.2 with ⟨h1, h0⟩ | ⟨g, cap, cur, hv, _, hb, h1, h2, h3, h4⟩
    · simp only [Value.slice.injEq] at h1
      omega
    · simp only [Value.slice.injEq] at hv
      obtain ⟨rfl, _, rfl⟩ := hv
      exact ⟨g, cur, rfl, hb, h1, h2, h3, h4⟩
  have hgv : g ≠ vb := hvb _ rfl
  obtain ⟨i0, hi0, hzz0, hzz1, hzz2⟩ := info_parts elM.info
  have hz1 : ¬ ((1 : Int) = 0) := by omega
  obtain ⟨n, hn⟩ : ∃ n, n = rs.length := ⟨_, rfl⟩
  have HN := Lib.hid hn
  rcases Nat.lt_or_ge j rs.length with hlt | hge
  · have hn2 : (insd rs j x).length = n + 1 := by rw [insd_len _ _ _ hj, hn]
    have hz2 : ((j : Int) == (n : Int)) = false := by simp; omega
    obtain ⟨tl, htl⟩ : ∃ tl, tl = cellsG enM (rs.drop j) := ⟨_, rfl⟩
    have htll : tl.length = (n - j) * 3 := by rw [htl, cellsG_length elM, List.length_drop, hn]
    have hcell : ∀ k u, (cellsG enM rs)[k]? = some u → w.cell? ⟨g, k, none⟩ = some u := fun k u hu => by
      rw [hb.cell, ← Array.getElem?_toList]
      rw [← hcur] at hu
      have hk : k < rs.length * 3 := by
        have := (List.getElem?_eq_some_iff.1 hu).1
        rw [List.length_take] at this; omega
      rwa [List.getElem?_take_of_lt hk] at hu
    have hsome : ∀ (W : World) (cs : Array Value), Blk W g cs 48 → cs.size = c * 3 → ∀ k, k < c * 3 → (W.cell? ⟨g, k, none⟩).isSome = true ∧ W.frozen? ⟨g, k, none⟩ = false := fun W cs hW hs k hk => ⟨by rw [hW.cell, Array.getElem?_eq_getElem (by omega)]; rfl, hW.free k⟩
    have hcp1 : ∀ ty dc sc, (Builtin.copy_ #[31, 31] ty #[.slice (some ⟨g, (j + 1) * 3, none⟩) (n - j) dc, .slice (some ⟨g, j * 3, none⟩) (n + 1 - j) sc]).run Try.prog w.drew = .ok (goInt (n - j : Nat)) (w.drew.setCells g ((j + 1) * 3) tl) := fun ty dc sc =>
      run_copy_msgs w.drew ty g _ _ dc ⟨g, j * 3, none⟩ _ sc (n - j) tl (by simp only [Nat.min_def]; split <;> omega) htll
        (fun k u hk => by rw [Addr.add_lit]; refine hcell _ u ?_; rw [htl, cellsG_drop rs j (by omega), List.getElem?_drop] at hk; exact hk)
        (fun k hk => (hsome w.drew cur hb.drew hsz _ (by omega)).1) (fun k hk => (hsome w.drew cur hb.drew hsz _ (by omega)).2) (by rw [htl]; exact cellsG_one elM _)
    obtain ⟨W1, hW1⟩ : ∃ W1, W1 = w.drew.setCells g ((j + 1) * 3) tl := ⟨_, rfl⟩
    obtain ⟨cs1, hb1, hc1⟩ := Blk.sets tl ((j + 1) * 3) w.drew cur hb.drew (by rw [htll]; omega)
    rw [← hW1] at hb1 hcp1
    have hs1 : cs1.size = c * 3 := by
      have : cs1.toList.length = c * 3 := by rw [hc1]; simp; omega
      simpa using this
    have t1 : Touch (fun k => k = g) w W1 := by rw [hW1]; exact (Touch.of_below (below_drew w)).more (Touch.sets (S := fun k => k = g) rfl _ _ _)
    have hv1 : Blk W1 vb #[.int .i64 x.m.frm, .int .i64 x.m.tgt, .slice x.A x.m.b.length x.c] 48 := (t1.block vb hv.lt (fun e => hgv e.symm)).trans hv
    have hcp2 : ∀ ty dc, (Builtin.copy_ #[31, 31] ty #[.slice (some ⟨g, j * 3, none⟩) (n + 1 - j) dc, .slice (some ⟨vb, 0, none⟩) 1 1]).run Try.prog W1 = .ok (goInt (1 : Nat)) (W1.setCells g (j * 3) (enM x)) := fun ty dc =>
      run_copy_msgs W1 ty g _ _ dc ⟨vb, 0, none⟩ 1 1 1 (enM x) (by simp only [Nat.min_def]; split <;> omega) rfl
        (fun k u hk => by rw [Addr.add_lit, Nat.zero_add, hv1.cell, ← Array.getElem?_toList]; exact hk)
        (fun k hk => (hsome W1 cs1 hb1 hs1 _ (by have : k < 3 := hk; omega)).1) (fun k hk => (hsome W1 cs1 hb1 hs1 _ (by have : k < 3 := hk; omega)).2) (elM.one x)
    obtain ⟨cs2, hb2, hc2⟩ := Blk.sets (enM x) (j * 3) W1 cs1 hb1 (by rw [hs1, elM.len x]; omega)
    have hfin : OwnG 48 3 enM 0 (W1.setCells g (j * 3) (enM x)) (some ⟨g, 0, none⟩) c (insd rs j x) := by
      refine OwnG.shut hb2 (by rw [hn2]; omega) hcm ?_ ?_
      · have : cs2.toList.length = c * 3 := by rw [hc2]; simp [elM.len x]; omega
        simpa using this
      · have hcl : cur.toList.length = c * 3 := by simpa using hsz
        have e1 : cs1.toList.take (j * 3) = cellsG enM (rs.take j) := by
          rw [hc1, List.append_assoc, List.take_append_of_le_length (by rw [List.length_take, hcl]; omega), List.take_take, Nat.min_eq_left (by omega), cellsG_take rs j hj, ← hcur, List.take_take, Nat.min_eq_left (by omega)]
        have e2 : cs1.toList.drop (j * 3 + (enM x).length) = tl ++ cur.toList.drop ((j + 1) * 3 + tl.length) := by
          rw [hc1, List.append_assoc, List.drop_left' (by rw [List.length_take, hcl, elM.len x]; omega)]
        rw [hn2, hc2, e1, e2]
        unfold insd
        rw [cellsG_append, ← List.append_assoc, List.take_left' (by rw [List.length_append, List.length_append, cellsG_length elM, List.length_take, Nat.min_eq_left hj, elM.len x, htll]; omega), List.append_assoc, htl]
        rfl
    have t2 : Touch (fun k => k = g) w (W1.setCells g (j * 3) (enM x)) := t1.more (Touch.sets (S := fun k => k = g) rfl _ _ _)
    have hgr : w.grownBy (W1.setCells g (j * 3) (enM x)) (some g) := ⟨t2.os, t2.tape, t2.output, t2.size, fun k hk hne => t2.block k hk fun e => hne (by rw [e])⟩
    have hso : ∀ w, (Go.sizeOf 48).run Try.prog w = .ok 3 w := fun w => by simp [sizeOf, typeInfo, hi0, hzz1]
    have hov : ∀ lb cb, (callFunc 34 #[.slice (some ⟨vb, 0, none⟩) 1 1, .slice (some ⟨g, (j + 1) * 3, none⟩) lb cb]).run Try.prog w = .ok (.value (.bool false)) w := fun lb cb => by
      rw [run_ov,
        Lib.run_overlaps_apart w 31 4 48 Try.underlying31 3 hso ⟨vb, 0, none⟩ ⟨g, (j + 1) * 3, none⟩ 1 1 lb cb (fun e => hgv e.symm) 48 48 _ _ hv.shape hb.shape (by omega) (hv.free 0) (hv.free _)]
      rfl
    have HF := Lib.hid hfin
    have HG := Lib.hid hgr
    have HN2 := Lib.hid hn2
    have hjn : j ≤ n := by omega
    have hjn1 : j ≤ n + 1 := by omega
    have hjc : j ≤ c := by omega
    have hjc1 : j + 1 ≤ c := by omega
    have hnc1 : n + 1 ≤ c := by omega
    have hb2' : ¬ (c = j + 1) := by omega
    have hb4 : ¬ (c = j) := by omega
    have hgt : decide ((c : Int) < (n : Int) + 1) = false := by simp; omega
    have hx0 : (0 : Int) ≤ (j : Int) + 1 := by omega
    have hx1 : (j : Int) + 1 ≤ (n : Int) + 1 := by omega
    have hx2 : ((j : Int) + 1).toNat = j + 1 := by omega
    have hx3 : ((n : Int) + 1).toNat = n + 1 := by omega
    have hx4 : (j : Int) + 1 ≤ 9223372036854775807 := by omega
    have hx5 : (n : Int) + 1 ≤ 9223372036854775807 := by omega
    have hx6 : (0 : Int) ≤ (n : Int) + 1 := by omega
    have hx7 : (n : Int) + 1 ≤ (c : Int) := by omega
    have hx8 : (j : Int) ≤ (n : Int) + 1 := by omega
    have hw1 : wrap64 ((n : Int) + 1) = (n : Int) + 1 := w64 hx6 hx5
    have hw2 : wrap64 ((j : Int) + 1) = (j : Int) + 1 := w64 hx0 hx4
    have hw3 : IntKind.i64.wrap ((j : Int) + 1) = (j : Int) + 1 := i64w hx0 hx4
    have hw4 : IntKind.i64.wrap ((n : Int) + 1) = (n : Int) + 1 := i64w hx6 hx5
    rw [← hn]
    clear hW1 hb1 hc1 hb2 hc2 hs1 hfin hgr t1 t2 hv1 hsome hcell htll htl hb hsz hcur h hn2 hn hv hvb
    go_enter Try.func30, Try.ntmps30
    go_wp2_with (simp only [hov])
    go_region_law (refine step_copy_runI rfl _ _ 31 31 rfl _ _ (by simp [Act.eval, Act.put]) (by simp [Act.eval, Act.put]) (hcp1 _ _ _) ?_)
    go_wp2_with (at_builtin; refine wpList_copy_runI _ rfl _ _ 31 31 rfl _ _ rfl rfl (hcp2 _ _) ?_)
    go_ret
    exact ⟨some ⟨g, 0, none⟩, c, by rw [HN2.out]; rfl, HF.out, HG.out, .inl rfl⟩
  · have hjn : j = n := by omega
    subst hjn
    have hin : insd rs j x = rs ++ [x] := by unfold insd; rw [List.take_of_length_le (by omega), List.drop_eq_nil_of_le (by omega)]
    have hcx : CellsG enM w (some ⟨vb, 0, none⟩) 1 [x] := .inr ⟨_, rfl, fun k u hu => by
      rw [Addr.add_lit, Nat.zero_add, hv.cell, ← Array.getElem?_toList]
      rw [cellsG, List.flatMap_cons, List.flatMap_nil, List.append_nil] at hu
      exact hu⟩
    have hz2 : ((j : Int) == (j : Int)) = true := by simp
    have hrun : ∀ ty, ∃ A' c' w', (Builtin.append_ #[31, 31] ty #[.slice (some ⟨g, 0, none⟩) rs.length c, .slice (some ⟨vb, 0, none⟩) 1 1]).run Try.prog w = .ok (.slice A' (rs ++ [x]).length c') w' ∧ OwnG 48 3 enM 0 w' A' c' (rs ++ [x]) ∧ w.grownBy w' (Value.slice (some ⟨g, 0, none⟩) rs.length c).ownBlock ∧ (A'.map Addr.block = (some (⟨g, 0, none⟩ : Addr)).map Addr.block ∨ A'.map Addr.block = some w.heap.size) := fun ty => run_append_vals2 elM 31 ty Try.underlying31 w 0 _ c rs h (some ⟨vb, 0, none⟩) 1 [x] hcx (by simp; omega) (by decide) (Nat.zero_le _)
    obtain ⟨A', c', w', h1, h2, h3, h4⟩ := hrun 31
    rw [hin]
    rw [← hn] at h1 h3 ⊢
    obtain ⟨q, hq⟩ : ∃ q, q = (rs ++ [x]).length := ⟨_, rfl⟩
    rw [← hq] at h1 ⊢
    have H2 := Lib.hid h2
    have H3 := Lib.hid h3
    have H4 := Lib.hid h4
    clear hrun h h2 h3 h4 hcx hv hb hcur hin hvb hq hn hsz
    go_enter Try.func30, Try.ntmps30
    go_wp2_with (at_builtin; refine Lib.wpList_append_run _ rfl _ _ _ _ rfl _ _ rfl rfl _ _ h1 ?_)
    go_ret
    exact ⟨A', c', rfl, H2.out, H3.out, H4.out⟩
end Go.Proofs.Ytcdghipodnafmaa
