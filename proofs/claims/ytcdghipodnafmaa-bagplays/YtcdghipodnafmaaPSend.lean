/-
  The law's step: Send. Conditions: both bags lie in memory and are the same; the counts are low.
-/
import Derived.Test.YtcdghipodnafmaaPStep0
import Derived.Test.YtcdghipodnafmaaRSend
namespace Go.Proofs.Ytcdghipodnafmaa
open Go.ChangeShapes Go.WideShapes Go.ChangeAt Go.RowKit
set_option linter.unusedVariables false
theorem sendS_nodes (g : Bg) (f t : Int) (l : List Int) : (sendS g f t l).1.nodes = g.nodes := by
  unfold sendS
  split
  · split
    · split <;> rfl
    · rfl
  · rfl
set_option maxRecDepth 20000 in
set_option maxHeartbeats 8000000 in
theorem step_send {w : World} {p : Nat} {n : Int} {k : Nat} {S : Nat → Prop} {g : Bg} {b : Rb} {A : Option Addr} {c : Nat} {rs : List Mr} {W : World} (B : Both w p n k S g b A c rs W) (hk : k ≤ 150) (x y : Int) (u : Bool) (D : Option Addr) (dc : Nat) (l : List Int) (hl : GoodB w D dc l) :
    Calls Try.prog 10 #[at_ p, rv b A rs.length c, .agg #[.int .i64 4, .int .i64 x, .int .i64 y, .bool u, .slice D l.length dc]] W (StepR w p n k S W) := by
  obtain ⟨nr, hnr⟩ : ∃ nr, nr = rs.length := ⟨_, rfl⟩
  obtain ⟨ln, hln⟩ : ∃ ln, ln = l.length := ⟨_, rfl⟩
  have HNR := Lib.hid hnr
  have HLN := Lib.hid hln
  have HB := Lib.hid B
  have hb3 : Below W.heap.size W (((W.alloc (.cells #[.int .i64 b.n, .int .i64 b.m, .bool (b.dn 0), .bool (b.dn 1), .bool (b.dn 2), .bool (b.dn 3), .bool (b.dn 4), .bool (b.dn 5), .bool (b.dn 6), .bool (b.dn 7), .slice A nr c, .int .i64 b.x, .int .i64 b.y, .int .i64 b.z] 34)).alloc (.cells #[.int .i64 4, .int .i64 x, .int .i64 y, .bool u, .slice D ln dc] 39)).alloc (.cells #[.int .i64 0, .int .i64 0, .bool false, .bool false, .bool false, .bool false, .bool false, .bool false, .bool false, .bool false, .slice none 0 0, .int .i64 0, .int .i64 0, .int .i64 0] 34)) := below_three W _ _ _
  have HB3 := Lib.hid hb3
  have HX0 := Lib.hid (show Blk (((W.alloc (.cells #[.int .i64 b.n, .int .i64 b.m, .bool (b.dn 0), .bool (b.dn 1), .bool (b.dn 2), .bool (b.dn 3), .bool (b.dn 4), .bool (b.dn 5), .bool (b.dn 6), .bool (b.dn 7), .slice A nr c, .int .i64 b.x, .int .i64 b.y, .int .i64 b.z] 34)).alloc (.cells #[.int .i64 4, .int .i64 x, .int .i64 y, .bool u, .slice D ln dc] 39)).alloc (.cells #[.int .i64 0, .int .i64 0, .bool false, .bool false, .bool false, .bool false, .bool false, .bool false, .bool false, .bool false, .slice none 0 0, .int .i64 0, .int .i64 0, .int .i64 0] 34)) W.heap.size #[.int .i64 b.n, .int .i64 b.m, .bool (b.dn 0), .bool (b.dn 1), .bool (b.dn 2), .bool (b.dn 3), .bool (b.dn 4), .bool (b.dn 5), .bool (b.dn 6), .bool (b.dn 7), .slice A nr c, .int .i64 b.x, .int .i64 b.y, .int .i64 b.z] 34 from ((Blk.new W #[.int .i64 b.n, .int .i64 b.m, .bool (b.dn 0), .bool (b.dn 1), .bool (b.dn 2), .bool (b.dn 3), .bool (b.dn 4), .bool (b.dn 5), .bool (b.dn 6), .bool (b.dn 7), .slice A nr c, .int .i64 b.x, .int .i64 b.y, .int .i64 b.z] 34).alloc _).alloc _)
  have HX1 := Lib.hid (show Blk (((W.alloc (.cells #[.int .i64 b.n, .int .i64 b.m, .bool (b.dn 0), .bool (b.dn 1), .bool (b.dn 2), .bool (b.dn 3), .bool (b.dn 4), .bool (b.dn 5), .bool (b.dn 6), .bool (b.dn 7), .slice A nr c, .int .i64 b.x, .int .i64 b.y, .int .i64 b.z] 34)).alloc (.cells #[.int .i64 4, .int .i64 x, .int .i64 y, .bool u, .slice D ln dc] 39)).alloc (.cells #[.int .i64 0, .int .i64 0, .bool false, .bool false, .bool false, .bool false, .bool false, .bool false, .bool false, .bool false, .slice none 0 0, .int .i64 0, .int .i64 0, .int .i64 0] 34)) (W.heap.size + 1) #[.int .i64 4, .int .i64 x, .int .i64 y, .bool u, .slice D ln dc] 39 from (Blk.newAt (W.alloc (.cells #[.int .i64 b.n, .int .i64 b.m, .bool (b.dn 0), .bool (b.dn 1), .bool (b.dn 2), .bool (b.dn 3), .bool (b.dn 4), .bool (b.dn 5), .bool (b.dn 6), .bool (b.dn 7), .slice A nr c, .int .i64 b.x, .int .i64 b.y, .int .i64 b.z] 34)) #[.int .i64 4, .int .i64 x, .int .i64 y, .bool u, .slice D ln dc] 39 (g := W.heap.size + 1) (by simp)).alloc _)
  have HX2 := Lib.hid (show Blk (((W.alloc (.cells #[.int .i64 b.n, .int .i64 b.m, .bool (b.dn 0), .bool (b.dn 1), .bool (b.dn 2), .bool (b.dn 3), .bool (b.dn 4), .bool (b.dn 5), .bool (b.dn 6), .bool (b.dn 7), .slice A nr c, .int .i64 b.x, .int .i64 b.y, .int .i64 b.z] 34)).alloc (.cells #[.int .i64 4, .int .i64 x, .int .i64 y, .bool u, .slice D ln dc] 39)).alloc (.cells #[.int .i64 0, .int .i64 0, .bool false, .bool false, .bool false, .bool false, .bool false, .bool false, .bool false, .bool false, .slice none 0 0, .int .i64 0, .int .i64 0, .int .i64 0] 34)) (W.heap.size + 1 + 1) #[.int .i64 0, .int .i64 0, .bool false, .bool false, .bool false, .bool false, .bool false, .bool false, .bool false, .bool false, .slice none 0 0, .int .i64 0, .int .i64 0, .int .i64 0] 34 from Blk.newAt ((W.alloc (.cells #[.int .i64 b.n, .int .i64 b.m, .bool (b.dn 0), .bool (b.dn 1), .bool (b.dn 2), .bool (b.dn 3), .bool (b.dn 4), .bool (b.dn 5), .bool (b.dn 6), .bool (b.dn 7), .slice A nr c, .int .i64 b.x, .int .i64 b.y, .int .i64 b.z] 34)).alloc (.cells #[.int .i64 4, .int .i64 x, .int .i64 y, .bool u, .slice D ln dc] 39)) #[.int .i64 0, .int .i64 0, .bool false, .bool false, .bool false, .bool false, .bool false, .bool false, .bool false, .bool false, .slice none 0 0, .int .i64 0, .int .i64 0, .int .i64 0] 34 (by simp))
  have HSD := Lib.hid (send_calls (B.mem.bag.below hb3) (B.cnt.low (by omega)) x y D dc l (hl.lies.below (B.mem.below.trans (hb3.mono B.mem.below.size))) hl.isB hl.few)
  have HSL := Lib.hid (B.rel.sends B.ms x y ⟨⟨x, y, l⟩, D, dc⟩ l rfl)
  have HCN := Lib.hid (B.cnt.send x y l)
  have HLOW := Lib.hid (B.lowR (by omega))
  have HFEW := Lib.hid B.few
  have HLT := Lib.hid (show ∀ q, S q → q < W.heap.size from fun q hq => B.mem.bag.lt q hq)
  have HGL := Lib.hid hl
  unfold at_ at HSD ⊢
  rw [← hln] at HSD ⊢
  rw [← hnr]
  clear B hl hnr hln hb3
  unfold rv rc
  go_enter Try.func10, Try.ntmps10
  go_wp2_with fail
  refine HSD.out.mono ?_
  rintro e w1 ⟨rfl, hD⟩
  have hbl : ∀ q, W.heap.size ≤ q → q < (((W.alloc (.cells #[.int .i64 b.n, .int .i64 b.m, .bool (b.dn 0), .bool (b.dn 1), .bool (b.dn 2), .bool (b.dn 3), .bool (b.dn 4), .bool (b.dn 5), .bool (b.dn 6), .bool (b.dn 7), .slice A nr c, .int .i64 b.x, .int .i64 b.y, .int .i64 b.z] 34)).alloc (.cells #[.int .i64 4, .int .i64 x, .int .i64 y, .bool u, .slice D ln dc] 39)).alloc (.cells #[.int .i64 0, .int .i64 0, .bool false, .bool false, .bool false, .bool false, .bool false, .bool false, .bool false, .bool false, .slice none 0 0, .int .i64 0, .int .i64 0, .int .i64 0] 34)).heap.size → w1.heap[q]? = (((W.alloc (.cells #[.int .i64 b.n, .int .i64 b.m, .bool (b.dn 0), .bool (b.dn 1), .bool (b.dn 2), .bool (b.dn 3), .bool (b.dn 4), .bool (b.dn 5), .bool (b.dn 6), .bool (b.dn 7), .slice A nr c, .int .i64 b.x, .int .i64 b.y, .int .i64 b.z] 34)).alloc (.cells #[.int .i64 4, .int .i64 x, .int .i64 y, .bool u, .slice D ln dc] 39)).alloc (.cells #[.int .i64 0, .int .i64 0, .bool false, .bool false, .bool false, .bool false, .bool false, .bool false, .bool false, .bool false, .slice none 0 0, .int .i64 0, .int .i64 0, .int .i64 0] 34)).heap[q]? := fun q hq hq2 => by
    obtain ⟨_, _, ht, _⟩ := hD
    exact ht.block q hq2 (fun hs => by have := HLT.out q hs; omega)
  have b0 : Blk w1 W.heap.size #[.int .i64 b.n, .int .i64 b.m, .bool (b.dn 0), .bool (b.dn 1), .bool (b.dn 2), .bool (b.dn 3), .bool (b.dn 4), .bool (b.dn 5), .bool (b.dn 6), .bool (b.dn 7), .slice A nr c, .int .i64 b.x, .int .i64 b.y, .int .i64 b.z] 34 := (hbl _ (Nat.le_refl _) HX0.out.lt).trans HX0.out
  have b1 : Blk w1 (W.heap.size + 1) #[.int .i64 4, .int .i64 x, .int .i64 y, .bool u, .slice D ln dc] 39 := (hbl _ (by omega) HX1.out.lt).trans HX1.out
  have b2 : Blk w1 (W.heap.size + 1 + 1) #[.int .i64 0, .int .i64 0, .bool false, .bool false, .bool false, .bool false, .bool false, .bool false, .bool false, .bool false, .slice none 0 0, .int .i64 0, .int .i64 0, .int .i64 0] 34 := (hbl _ (by omega) HX2.out.lt).trans HX2.out
  obtain ⟨S1, hsub, hto, M1⟩ := (HB.out.mem.on HB3.out).done2 hD
  have HS1 := Lib.hid (show ¬ S1 (W.heap.size + 1 + 1) from fun hs => by
    have h8 := HX2.out.lt
    rcases hsub _ hs with h9 | h9
    · have := HLT.out _ h9; omega
    · omega)
  have HM1 := Lib.hid M1
  have HY2 := Lib.hid b2
  obtain ⟨cd, hcd⟩ : ∃ cd, cd = (sendS g x y l).2 := ⟨_, rfl⟩
  have HCD := Lib.hid hcd
  obtain ⟨u0, u1, u2, u3, u4, u5, u6, u7, u8, u9, u10, u11, u12, u13⟩ := b0.cells14
  obtain ⟨f0, f1, f2, f3, f4⟩ := b1.cells5
  have HSR := Lib.hid (rsend_calls b HLOW.out A c rs w1 HM1.out.row.cells HFEW.out x y D dc l)
  unfold rv rc at HSR
  rw [← HLN.out, ← HNR.out] at HSR
  rw [← hcd]
  have HTO := Lib.hid ((Touch.of_below (S := S) HB3.out).more hto)
  have HSUB := Lib.hid ((Sub.refl S W).on hsub HB3.out.size)
  clear hD hbl hsub hto b0 b1 b2 M1 hcd
  dsimp only
  go_wp2_with fail
  refine HSR.out.mono ?_
  rintro e w2 ⟨A2, c2, rfl, hrow, hb2⟩
  have hM2 := HM1.out.ref hrow hb2 (fun s hs => (sendQ_mem hs).imp id (fun e => by rw [e]; exact ⟨HGL.out.lies, HGL.out.isB⟩))
  have hBoth : Both w p n (k + 1) S1 (sendS g x y l).1 (sendQ b rs x y ⟨⟨x, y, l⟩, D, dc⟩).1 A2 c2 (sendQ b rs x y ⟨⟨x, y, l⟩, D, dc⟩).2.1 w2 := ⟨hM2, HSL.out.2.1, HSL.out.2.2, HCN.out, by rw [sendS_nodes]; exact HB.out.nn⟩
  rw [HSL.out.1, ← HCD.out]
  generalize (sendQ b rs x y ⟨⟨x, y, l⟩, D, dc⟩).1 = b2 at hBoth ⊢
  generalize (sendQ b rs x y ⟨⟨x, y, l⟩, D, dc⟩).2.1 = rs2 at hBoth ⊢
  have HBO := Lib.hid hBoth
  obtain ⟨n2, hn2⟩ : ∃ n2, n2 = rs2.length := ⟨_, rfl⟩
  have HN2 := Lib.hid hn2
  have HT2 := Lib.hid (HTO.out.more (Touch.of_below hb2))
  have hy2 := HY2.out.belowAll hb2
  have HZ2 := Lib.hid hy2
  obtain ⟨v0, v1, v2, v3, v4, v5, v6, v7, v8, v9, v10, v11, v12, v13⟩ := hy2.cells14
  obtain ⟨g0, g1, g2, g3, g4, g5, g6, g7, g8, g9, ga, gbb, gc, gd⟩ := hy2.free14
  have hlt2 := hy2.lt
  have q5 : ¬ (w2.heap.size = W.heap.size + 1 + 1) := by omega
  have q6 : ¬ (W.heap.size + 1 + 1 = w2.heap.size) := by omega
  have hl2 : (loadVar 34 ⟨w2.heap.size, 0, none⟩).run Try.prog (w2.alloc (.cells #[.int .i64 b2.n, .int .i64 b2.m, .bool (b2.dn 0), .bool (b2.dn 1), .bool (b2.dn 2), .bool (b2.dn 3), .bool (b2.dn 4), .bool (b2.dn 5), .bool (b2.dn 6), .bool (b2.dn 7), .slice A2 n2 c2, .int .i64 b2.x, .int .i64 b2.y, .int .i64 b2.z] 34)) = .ok (.agg #[.int .i64 b2.n, .int .i64 b2.m, .bool (b2.dn 0), .bool (b2.dn 1), .bool (b2.dn 2), .bool (b2.dn 3), .bool (b2.dn 4), .bool (b2.dn 5), .bool (b2.dn 6), .bool (b2.dn 7), .slice A2 n2 c2, .int .i64 b2.x, .int .i64 b2.y, .int .i64 b2.z]) (w2.alloc (.cells #[.int .i64 b2.n, .int .i64 b2.m, .bool (b2.dn 0), .bool (b2.dn 1), .bool (b2.dn 2), .bool (b2.dn 3), .bool (b2.dn 4), .bool (b2.dn 5), .bool (b2.dn 6), .bool (b2.dn 7), .slice A2 n2 c2, .int .i64 b2.x, .int .i64 b2.y, .int .i64 b2.z] 34)) := lv34 (Blk.new w2 #[.int .i64 b2.n, .int .i64 b2.m, .bool (b2.dn 0), .bool (b2.dn 1), .bool (b2.dn 2), .bool (b2.dn 3), .bool (b2.dn 4), .bool (b2.dn 5), .bool (b2.dn 6), .bool (b2.dn 7), .slice A2 n2 c2, .int .i64 b2.x, .int .i64 b2.y, .int .i64 b2.z] 34)
  unfold rv rc
  rw [← hn2]
  clear hM2 hBoth hrow hb2 hn2 hy2
  dsimp only
  go_wp2_with fail
  go_region_law (first | (go_simp; refine (code_calls _ _).mono ?_; rintro e w' ⟨rfl, rfl⟩))
  all_goals
    go_wp2
    refine bodyPost_ret (results_cell_tmp1 rfl _ _ _ _ _ rfl (lvr (((rset_blk HZ2.out rfl b2 A2 n2 c2).alloc _).drew))) rfl ?_
    rw [HN2.out]
    exact ⟨S1, _, b2, A2, c2, rs2, rfl, ((HBO.out.rset HZ2.out HS1.out (by have := HB.out.mem.below.size; omega) b2 A2 rs2.length c2).on (below_one _ _)).on (below_drew _), ((rset_touch HT2.out (by omega) b2 A2 rs2.length c2).more (Touch.of_below (below_one _ _))).more (Touch.drewN _ _ 1), HSUB.out⟩
end Go.Proofs.Ytcdghipodnafmaa
