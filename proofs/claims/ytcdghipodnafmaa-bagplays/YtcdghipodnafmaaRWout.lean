/-
  Contract of the document's without. Conditions: the messages lie in memory, the index is one of them.
-/
import Derived.Test.YtcdghipodnafmaaPMid
namespace Go.Proofs.Ytcdghipodnafmaa
open Go.ChangeShapes Go.WideShapes Go.ChangeAt Go.RowKit
set_option linter.unusedVariables false
theorem some_of {A3 A4 : Option Addr} {g : Addr} {p q : Nat} (h3 : A3.map Addr.block = (some g).map Addr.block ∨ A3.map Addr.block = some p) (h4 : A4.map Addr.block = A3.map Addr.block ∨ A4.map Addr.block = some q) : ∃ a, A4 = some a := by
  cases A4 with
  | some a => exact ⟨a, rfl⟩
  | none =>
    cases A3 with
    | some b => rcases h4 with h | h <;> cases h
    | none => rcases h3 with h | h <;> cases h
/-- The document's bag comes back with messages of the call's own. -/
def RefNew (b : Rb) (rs : List Mr) (W : World) (e : Ending) (w' : World) : Prop := ∃ A c, e = .returned (rv b (some A) rs.length c) ∧ OwnG 48 3 enM W.heap.size w' (some A) c rs ∧ Below W.heap.size W w'
set_option maxRecDepth 20000 in
set_option maxHeartbeats 8000000 in
theorem without_calls (b : Rb) (A : Option Addr) (c : Nat) (rs : List Mr) (W : World) (h : CellsG enM W A c rs) (hcap : rs.length ≤ c) (hmany : rs.length ≤ 512) (i : Nat) (hi : i < rs.length) :
    Calls Try.prog 31 #[rv b A rs.length c, .int .i64 i] W (RefNew b (wout rs i) W) := by
  obtain ⟨bb, o, hA, hbl, _⟩ := h.at_ elM (by omega)
  obtain ⟨n, hn⟩ : ∃ n, n = rs.length := ⟨_, rfl⟩
  have HN := Lib.hid hn
  have hb2 := below_two W (.cells (rc b A n c) 34) (.cells rz 34)
  have b0 := (Blk.new W (rc b A n c) 34).alloc (.cells rz 34)
  have b1 := Blk.newAt (W.alloc (.cells (rc b A n c) 34)) rz 34 (g := W.heap.size + 1) (by simp)
  obtain ⟨W2, hW2⟩ : ∃ W2, W2 = (W.alloc (.cells (rc b A n c) 34)).alloc (.cells rz 34) := ⟨_, rfl⟩
  have hs2 : W2.heap.size = W.heap.size + 2 := by rw [hW2]; simp
  rw [← hW2] at hb2 b0 b1
  have HB2 := Lib.hid hb2
  have HX0 := Lib.hid b0
  have HX1 := Lib.hid b1
  have HS2 := Lib.hid hs2
  have HF := Lib.hid (show ∀ V, Below W.heap.size W V → CellsG enM V A c (rs.take i) from fun V hV => (h.below hV).front i (by omega))
  have HFL := Lib.hid (show (rs.take i).length = i by rw [List.length_take]; omega)
  obtain ⟨D, hD, hP⟩ : ∃ D : Addr, (if c = i + 1 then some (⟨bb, o, none⟩ : Addr) else some ⟨bb, o + (i + 1) * 3, none⟩) = some D ∧ Hid (∀ V, Below W.heap.size W V → CellsG enM V (some D) (c - (i + 1)) (rs.drop (i + 1))) := by
    by_cases hc : c = i + 1
    · exact ⟨⟨bb, o, none⟩, by simp [hc], Lib.hid fun V hV => .inr ⟨_, rfl, fun k u hu => by rw [List.drop_eq_nil_of_le (by omega)] at hu; simp [cellsG] at hu⟩⟩
    · refine ⟨⟨bb, o + (i + 1) * 3, none⟩, by simp [hc], Lib.hid fun V hV => ?_⟩
      rcases Nat.lt_or_ge (i + 1) rs.length with h1 | h1
      · exact (h.below hV).part (i + 1) (by omega) h1 _ bb o hA
      · exact .inr ⟨_, rfl, fun k u hu => by rw [List.drop_eq_nil_of_le h1] at hu; simp [cellsG] at hu⟩
  have HDL := Lib.hid (show (rs.drop (i + 1)).length = n - (i + 1) by rw [List.length_drop, hn])
  subst hA
  have k10 : W2.cell? ⟨W.heap.size, 10, none⟩ = some (.slice (some ⟨bb, o, none⟩) n c) := b0.cell 10
  have hE := Below.refl W2.heap.size W2 |>.alloc (Nat.le_refl _) (.cells #[] 48)
  have HE := Lib.hid hE.drew
  have HOE := Lib.hid (show OwnG 48 3 enM W2.heap.size (W2.alloc (.cells #[] 48)).drew (some ⟨W2.heap.size, 0, none⟩) 0 [] from World.ownsRow_lit (size := 3) W2 #[] 0 (Nat.le_refl _) (by unfold maxLen; omega) rfl)
  have k10e : (W2.alloc (.cells #[] 48)).cell? ⟨W.heap.size, 10, none⟩ = some (.slice (some ⟨bb, o, none⟩) n c) := (b0.alloc (.cells #[] 48)).cell 10
  have hin : (i : Int) < (n : Int) := by omega
  have hx0 : (0 : Int) ≤ (i : Int) + 1 := by omega
  have hx1 : (i : Int) + 1 ≤ (n : Int) := by omega
  have hx2 : ((i : Int) + 1).toNat = i + 1 := by omega
  have hx4 : (i : Int) + 1 ≤ 9223372036854775807 := by omega
  have hx5 : (i : Int) ≤ (c : Int) := by omega
  have hx6 : i ≤ c := by omega
  have hi512 : i ≤ 512 := by omega
  have hw2 : wrap64 ((i : Int) + 1) = (i : Int) + 1 := by unfold wrap64; omega
  have hw3 : IntKind.i64.wrap ((i : Int) + 1) = (i : Int) + 1 := by clear hw2; rw [IntKind.wrap_i64]; omega
  have HMANY := Lib.hid hmany
  have hrv : rv b (some ⟨bb, o, none⟩) n c = .agg (rc b (some ⟨bb, o, none⟩) n c) := rfl
  rw [← hn, hrv]
  have HW2 := Lib.hid hW2
  have hzz : rz = #[.int .i64 0, .int .i64 0, .bool false, .bool false, .bool false, .bool false, .bool false, .bool false, .bool false, .bool false, .slice none 0 0, .int .i64 0, .int .i64 0, .int .i64 0] := rfl
  unfold rc at hW2 ⊢
  rw [hzz] at hW2
  clear h hb2 b0 b1 hs2 hn hmany hi hcap hE hrv hzz
  go_enter Try.func31, Try.ntmps31
  go_wp2_with fail
  rw [← hW2]
  clear hW2
  go_region_law (first | (refine step_append_vals elM rfl (.tmp 5) (.tmp 9) 31 Try.underlying31 rfl W2.heap.size (some ⟨W2.heap.size, 0, none⟩) 0 [] (by rfl) HOE.out (some ⟨bb, o, none⟩) c (rs.take i) (by rw [HFL.out]; simp [Act.eval, Act.put]) (HF.out _ (HB2.out.trans (HE.out.mono HB2.out.size))) (by rw [HFL.out]; simp; omega) (by decide) (by simp) ?_; intro A3 c3 w3 R3 hR3 ho3 hg3 hq3; have hb3 := HOE.out.grow (HE.out) hg3 (by simp); have HB3 := Lib.hid (HB2.out.trans (hb3.mono HB2.out.size)); have HC3 := Lib.hid hb3; have y0 := HX0.out.belowAll hb3; have y1 := HX1.out.belowAll hb3; have HY0 := Lib.hid y0; have HY1 := Lib.hid y1; have k3 : w3.cell? ⟨W.heap.size, 10, none⟩ = some (.slice (some ⟨bb, o, none⟩) n c) := y0.cell 10; have HO3 := Lib.hid ho3; have HR3 := Lib.hid hR3.out; have HQ3 := Lib.hid hq3; clear ho3 hg3 hq3 hb3 y0 y1 hR3) | (refine step_append_vals elM rfl (.tmp 10) (.tmp 15) 31 Try.underlying31 rfl W2.heap.size A3 c3 R3 (by simp [Act.eval, Act.put]) HO3.out (some D) (c - (i + 1)) (rs.drop (i + 1)) (by rw [HDL.out]; simp [Act.eval, Act.put]) (hP.out _ HB3.out) (by have h7 := HMANY.out; have h8 := HFL.out; have h9 := HDL.out; have h5 := HN.out; rw [HR3.out, List.nil_append, h8, h9]; omega) (by decide) HC3.out.size ?_; intro A4 c4 w4 R4 hR4 ho4 hg4 hq4; have hb4 := HO3.out.grow HC3.out hg4 HC3.out.size; have HB4 := Lib.hid (HB2.out.trans (hb4.mono HB2.out.size)); have y0 := HX0.out.belowAll hb4; have y1 := HX1.out.belowAll hb4; have HZ0 := Lib.hid y0; have HZ1 := Lib.hid y1; obtain ⟨p0, p1, p2, p3, p4, p5, p6, p7, p8, p9, p10, p11, p12, p13⟩ := (show Blk w4 W.heap.size #[.int .i64 b.n, .int .i64 b.m, .bool (b.dn 0), .bool (b.dn 1), .bool (b.dn 2), .bool (b.dn 3), .bool (b.dn 4), .bool (b.dn 5), .bool (b.dn 6), .bool (b.dn 7), .slice (some ⟨bb, o, none⟩) n c, .int .i64 b.x, .int .i64 b.y, .int .i64 b.z] 34 from y0).cells14; have f10 := y0.free 10; have HO4 := Lib.hid ho4; have HR4 := Lib.hid hR4.out; have HQ4 := Lib.hid hq4; clear ho4 hg4 hq4 hb4 y0 y1 hR4))
  all_goals
    have z1 := HZ1.out
    obtain ⟨v0, v1, v2, v3, v4, v5, v6, v7, v8, v9, v10, v11, v12, v13⟩ := (show Blk w4 (W.heap.size + 1) #[.int .i64 0, .int .i64 0, .bool false, .bool false, .bool false, .bool false, .bool false, .bool false, .bool false, .bool false, .slice none 0 0, .int .i64 0, .int .i64 0, .int .i64 0] 34 from z1).cells14
    obtain ⟨f0, f1, f2, f3, f4, f5, f6, f7, f8, f9, fa, fb, fc, fd⟩ := z1.free14
    have q5 : ¬ (W.heap.size + 1 = W.heap.size) := by omega
    have q6 : ¬ (W.heap.size = W.heap.size + 1) := by omega
    clear z1
    go_wp2
    obtain ⟨a4, rfl⟩ : ∃ a4, A4 = some a4 := some_of HQ3.out HQ4.out
    have e4 : R4 = wout rs i := by rw [HR4.out, HR3.out]; rfl
    rw [← e4]
    have hbx : Blk (w4.setCell ⟨W.heap.size, 10, none⟩ (.slice (some a4) R4.length c4)) (W.heap.size + 1) rz 34 := HZ1.out.other (a := ⟨W.heap.size, 10, none⟩) q5 _
    have h2 := HS2.out
    have hro : ∀ a, some a4 = some a → a.block ≠ W.heap.size ∧ a.block ≠ W.heap.size + 1 := fun a ha => by
      have e9 := Option.some.inj ha
      rw [← e9]
      have := (HO4.out.row a4.block rfl).1
      omega
    have ht : Touch (fun _ => False) W (rset (w4.setCell ⟨W.heap.size, 10, none⟩ (.slice (some a4) R4.length c4)) (W.heap.size + 1) b (some a4) R4.length c4) := rset_touch (touch_new (Touch.of_below HB4.out) (Nat.le_refl _) 10 _) (by omega) b (some a4) R4.length c4
    exact bodyPost_ret (results_cell1 rfl _ _ _ _ _ rfl (lvr (rset_blk hbx rfl b (some a4) R4.length c4))) rfl ⟨a4, c4, rfl, (HO4.out.mono (by omega)).blocks fun a ha => (rset_other (hro a ha).2 b (some a4) R4.length c4).trans (Below.heap_setCell _ _ _ _ (hro a ha).1), ht.none_below⟩
end Go.Proofs.Ytcdghipodnafmaa
