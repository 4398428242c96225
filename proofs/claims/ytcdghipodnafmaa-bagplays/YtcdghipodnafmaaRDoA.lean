/-
  Contract of the document's Do, what is common. Conditions: the messages lie in memory; the counts are low.
-/
import Derived.Test.YtcdghipodnafmaaRSend
import Derived.Test.YtcdghipodnafmaaRWout
namespace Go.Proofs.Ytcdghipodnafmaa
open Go.ChangeShapes Go.WideShapes Go.ChangeAt Go.RowKit
set_option linter.unusedVariables false
theorem results_cell2_tmp {fn : Func} {p q u : Tmp} {ty ty2 : TypeId} (h : fn.results = #[.cell p ty, .cell q ty2, .tmp u]) (tmps : Array Value) (P : Program) (w : World) (a1 a2 : Addr) (x y : Value)
    (hp : tmps.getD p undef = .pointer (some a1)) (hq : tmps.getD q undef = .pointer (some a2)) (l1 : (loadVar ty a1).run P w = .ok x w) (l2 : (loadVar ty2 a2).run P w = .ok y w) :
    (results fn tmps).run P w = .ok (.tuple #[x, y, tmps.getD u undef]) w := by
  rw [Array.getD_eq_getD_getElem?] at hp hq
  simp only [results, h]
  simp [Result.andThen, hp, hq, asAddr, l1, l2]
def mv (r : Mr) : Value := .agg #[.int .i64 r.m.frm, .int .i64 r.m.tgt, .slice r.A r.m.b.length r.c]
def RDid (r : Rb × List Mr × Mr × Bool) (A : Option Addr) (c : Nat) (rs : List Mr) (W : World) (e : Ending) (w' : World) : Prop := ∃ A' c', e = .returned (.tuple #[rv r.1 A' r.2.1.length c', mv r.2.2.1, .bool r.2.2.2]) ∧ RowTo A c rs W w' A' c' r.2.1 ∧ Below W.heap.size W w'
theorem below_three (w : World) (o1 o2 o3 : Obj) : Below w.heap.size w (((w.alloc o1).alloc o2).alloc o3) := (below_two w o1 o2).alloc (below_two w o1 o2).size o3
theorem below_four (w : World) (o1 o2 o3 o4 : Obj) : Below w.heap.size w ((((w.alloc o1).alloc o2).alloc o3).alloc o4) := (below_three w o1 o2 o3).alloc (below_three w o1 o2 o3).size o4
theorem cells_msg {w : World} {A : Option Addr} {c : Nat} {rs : List Mr} (h : CellsG enM w A c rs) {k : Nat} {r : Mr} (hr : rs[k]? = some r) : ∃ g o, A = some ⟨g, o, none⟩ ∧ g < w.heap.size ∧ ∀ W, Below w.heap.size w W → W.cell? ⟨g, o + k * 3, none⟩ = some (.int .i64 r.m.frm) ∧ W.cell? ⟨g, o + k * 3 + 1, none⟩ = some (.int .i64 r.m.tgt) ∧ W.cell? ⟨g, o + k * 3 + 2, none⟩ = some (.slice r.A r.m.b.length r.c) := by
  have hl : k < rs.length := (List.getElem?_eq_some_iff.1 hr).1
  obtain ⟨g, o, h1, h2, h3⟩ := h.at_ elM (by omega)
  refine ⟨g, o, h1, h2, fun W hW => ⟨?_, ?_, ?_⟩⟩
  · exact (hW.cell (p := ⟨g, o + k * 3, none⟩) h2).trans (h3 k 0 r hr (by omega))
  · exact (hW.cell (p := ⟨g, o + k * 3 + 1, none⟩) h2).trans (h3 k 1 r hr (by omega))
  · exact (hW.cell (p := ⟨g, o + k * 3 + 2, none⟩) h2).trans (h3 k 2 r hr (by omega))
theorem getDz {rs : List Mr} {k : Nat} {r : Mr} (h : rs[k]? = some r) : rs.getD k z0 = r := by rw [List.getD_eq_getElem?_getD, h]; rfl
theorem cells_blk {W : World} {g : Nat} {f t : Int} {D : Option Addr} {mn q : Nat} (h : Blk W g #[.int .i64 f, .int .i64 t, .slice D mn q] 48) (r : Mr) (e : #[.int .i64 f, .int .i64 t, .slice D mn q] = (enM r).toArray) : CellsG enM W (some ⟨g, 0, none⟩) 1 [r] := .inr ⟨_, rfl, fun k u hu => by
    rw [Addr.add_lit, Nat.zero_add, h.cell, e]
    rw [cellsG, List.flatMap_cons, List.flatMap_nil, List.append_nil] at hu
    simpa using hu⟩
theorem one_mm (r : Mr) {mn : Nat} (h : mn = r.m.b.length) : #[.int .i64 r.m.frm, .int .i64 r.m.tgt, .slice r.A mn r.c] = (enM r).toArray := by rw [h]; rfl
def fin (V : World) (g h : Nat) (b : Rb) (A : Option Addr) (l c : Nat) (x y z : Value) : World := (((rset V g b A l c).setCell ⟨h, 0, none⟩ x).setCell ⟨h, 1, none⟩ y).setCell ⟨h, 2, none⟩ z
theorem fin_load1 {V : World} {g h : Nat} {cs : Array Value} (hy : Blk V g cs 34) (hs : cs.size = 14) (hne : g ≠ h) (b : Rb) (A : Option Addr) (l c : Nat) (x y z : Value) : (loadVar 34 ⟨g, 0, none⟩).run Try.prog (fin V g h b A l c x y z) = .ok (rv b A l c) (fin V g h b A l c x y z) := lvr (((rset_blk hy hs b A l c).other (a := ⟨h, 0, none⟩) hne x |>.other (a := ⟨h, 1, none⟩) hne y).other (a := ⟨h, 2, none⟩) hne z)
theorem fin_load2 {V : World} {g h : Nat} {u v w : Value} (hy : Blk V h #[u, v, w] 48) (hne : h ≠ g) (b : Rb) (A : Option Addr) (l c : Nat) (x y z : Value) : (loadVar 48 ⟨h, 0, none⟩).run Try.prog (fin V g h b A l c x y z) = .ok (.agg #[x, y, z]) (fin V g h b A l c x y z) := lv48 (Blk.set3 (show Blk (rset V g b A l c) h #[u, v, w] 48 from (rset_other hne b A l c).trans hy) x y z)
theorem fin_did {W V : World} {b' : Rb} {A : Option Addr} {a1 : Addr} {c c1 : Nat} {rs rs' : List Mr} {n1 : Nat} (hn : n1 = rs'.length) (r : Mr) (ok : Bool) (ho : OwnG 48 3 enM (W.heap.size + 4) V (some a1) c1 rs') (ht : Touch (fun _ => False) W V) : RDid (b', rs', r, ok) A c rs W (.returned (.tuple #[rv b' (some a1) n1 c1, mv r, .bool ok])) (fin V (W.heap.size + 1) (W.heap.size + 1 + 1) b' (some a1) n1 c1 (.int .i64 r.m.frm) (.int .i64 r.m.tgt) (.slice r.A r.m.b.length r.c)) :=
  ⟨some a1, c1, by rw [hn], .inr ((((ho.rsetlow (by omega) b' (some a1) n1 c1).setlow (by omega) 0 _).setlow (by omega) 1 _).setlow (by omega) 2 _ |>.mono (by omega)), (touch_set3 (rset_touch ht (by omega) b' (some a1) n1 c1) (by omega) _ _ _).none_below⟩
theorem RDid.drew {x : Rb × List Mr × Mr × Bool} {A : Option Addr} {c : Nat} {rs : List Mr} {W : World} {e : Ending} {w' : World} (h : RDid x A c rs W e w') : RDid x A c rs W e w'.drew := by
  obtain ⟨A', c', h1, h2, h3⟩ := h
  refine ⟨A', c', h1, ?_, h3.trans ((below_drew w').mono h3.size)⟩
  rcases h2 with h2 | h2
  · exact .inl h2
  · exact .inr (h2.below (below_drew w'))
theorem fin_blk1 {V : World} {g h : Nat} {cs : Array Value} (hy : Blk V g cs 34) (hs : cs.size = 14) (hne : g ≠ h) (b : Rb) (A : Option Addr) (l c : Nat) (x y z : Value) : Blk (fin V g h b A l c x y z) g (rc b A l c) 34 := ((rset_blk hy hs b A l c).other (a := ⟨h, 0, none⟩) hne x |>.other (a := ⟨h, 1, none⟩) hne y).other (a := ⟨h, 2, none⟩) hne z
theorem fin_blk2 {V : World} {g h : Nat} {u v w : Value} (hy : Blk V h #[u, v, w] 48) (hne : h ≠ g) (b : Rb) (A : Option Addr) (l c : Nat) (x y z : Value) : Blk (fin V g h b A l c x y z) h #[x, y, z] 48 := Blk.set3 (show Blk (rset V g b A l c) h #[u, v, w] 48 from (rset_other hne b A l c).trans hy) x y z
def fin2 (V : World) (g h : Nat) (b : Rb) (A : Option Addr) (l c : Nat) (x y z : Value) : World := rset (((V.setCell ⟨h, 0, none⟩ x).setCell ⟨h, 1, none⟩ y).setCell ⟨h, 2, none⟩ z) g b A l c
theorem fin2_load1 {V : World} {g h : Nat} {cs : Array Value} (hy : Blk V g cs 34) (hs : cs.size = 14) (hne : g ≠ h) (b : Rb) (A : Option Addr) (l c : Nat) (x y z : Value) : (loadVar 34 ⟨g, 0, none⟩).run Try.prog (fin2 V g h b A l c x y z) = .ok (rv b A l c) (fin2 V g h b A l c x y z) := lvr (rset_blk (((hy.other (a := ⟨h, 0, none⟩) hne x).other (a := ⟨h, 1, none⟩) hne y).other (a := ⟨h, 2, none⟩) hne z) hs b A l c)
theorem fin2_load2 {V : World} {g h : Nat} {u v w : Value} (hy : Blk V h #[u, v, w] 48) (hne : h ≠ g) (b : Rb) (A : Option Addr) (l c : Nat) (x y z : Value) : (loadVar 48 ⟨h, 0, none⟩).run Try.prog (fin2 V g h b A l c x y z) = .ok (.agg #[x, y, z]) (fin2 V g h b A l c x y z) := lv48 ((rset_other hne b A l c).trans (Blk.set3 hy x y z))
theorem fin2_blk1 {V : World} {g h : Nat} {cs : Array Value} (hy : Blk V g cs 34) (hs : cs.size = 14) (hne : g ≠ h) (b : Rb) (A : Option Addr) (l c : Nat) (x y z : Value) : Blk (fin2 V g h b A l c x y z) g (rc b A l c) 34 := rset_blk (((hy.other (a := ⟨h, 0, none⟩) hne x).other (a := ⟨h, 1, none⟩) hne y).other (a := ⟨h, 2, none⟩) hne z) hs b A l c
theorem fin2_blk2 {V : World} {g h : Nat} {u v w : Value} (hy : Blk V h #[u, v, w] 48) (hne : h ≠ g) (b : Rb) (A : Option Addr) (l c : Nat) (x y z : Value) : Blk (fin2 V g h b A l c x y z) h #[x, y, z] 48 := (rset_other hne b A l c).trans (Blk.set3 hy x y z)
theorem fin2_did {W V : World} {b' : Rb} {A : Option Addr} {a1 : Addr} {c c1 : Nat} {rs rs' : List Mr} {n1 : Nat} (hn : n1 = rs'.length) (r : Mr) (ok : Bool) (ho : OwnG 48 3 enM (W.heap.size + 4) V (some a1) c1 rs') (ht : Touch (fun _ => False) W V) : RDid (b', rs', r, ok) A c rs W (.returned (.tuple #[rv b' (some a1) n1 c1, mv r, .bool ok])) (fin2 V (W.heap.size + 1) (W.heap.size + 1 + 1) b' (some a1) n1 c1 (.int .i64 r.m.frm) (.int .i64 r.m.tgt) (.slice r.A r.m.b.length r.c)) :=
  ⟨some a1, c1, by rw [hn], .inr ((((ho.setlow (by omega) 0 _).setlow (by omega) 1 _).setlow (by omega) 2 _).rsetlow (by omega) b' (some a1) n1 c1 |>.mono (by omega)), (rset_touch (touch_set3 ht (by omega) _ _ _) (by omega) b' (some a1) n1 c1).none_below⟩
/-- Nothing is told, and nothing has turned. -/
theorem did_same (b : Rb) (A : Option Addr) (c : Nat) (rs : List Mr) (W : World) (w' : World) (n : Nat) (hn : n = rs.length) (ok : Bool) (hb : Below W.heap.size W w') : RDid (b, rs, z0, ok) A c rs W (.returned (.tuple #[rv b A n c, .agg #[.int .i64 0, .int .i64 0, .slice none 0 0], .bool ok])) w' := ⟨A, c, by rw [hn]; rfl, .inl ⟨rfl, rfl, rfl⟩, hb⟩
set_option maxRecDepth 20000 in
set_option maxHeartbeats 8000000 in
theorem rdo_out (b : Rb) (A : Option Addr) (c : Nat) (rs : List Mr) (W : World) (d i j : Int) (hbad : inB rs.length i = false) :
    Calls Try.prog 23 #[rv b A rs.length c, .int .i64 d, .int .i64 i, .int .i64 j] W (RDid (b, rs, z0, false) A c rs W) := by
  obtain ⟨n, hn⟩ : ∃ n, n = rs.length := ⟨_, rfl⟩
  have HEND := Lib.hid (fun X Y Z => did_same b A c rs W (((W.alloc X).alloc Y).alloc Z) n hn false (below_three W X Y Z))
  have HL := Lib.hid (fun X Z => lvr (show Blk (((W.alloc X).alloc (.cells (rc b A n c) 34)).alloc Z) (W.heap.size + 1) (rc b A n c) 34 from (Blk.newAt (W.alloc X) (rc b A n c) 34 (g := W.heap.size + 1) (by simp)).alloc Z))
  have HM := Lib.hid (fun X Y => lv48 (show Blk (((W.alloc X).alloc Y).alloc (.cells #[.int .i64 0, .int .i64 0, .slice none 0 0] 48)) (W.heap.size + 1 + 1) #[.int .i64 0, .int .i64 0, .slice none 0 0] 48 from Blk.newAt ((W.alloc X).alloc Y) #[.int .i64 0, .int .i64 0, .slice none 0 0] 48 (by simp)))
  rw [← hn] at hbad ⊢
  clear hn
  unfold inB at hbad
  unfold rc at HL
  unfold rv at HEND HL
  unfold rc at HEND HL
  unfold rv rc
  by_cases h1 : i < 0
  · have d1 : decide (i < 0) = true := by simpa using h1
    clear hbad h1
    go_enter Try.func23, Try.ntmps23
    go_wp2
    refine bodyPost_ret (results_cell2_tmp rfl _ _ _ _ _ _ _ rfl rfl (HL.out _ _) (HM.out _ _)) rfl ?_
    exact HEND.out _ _ _
  · have d1 : decide (i < 0) = false := by simpa using h1
    have d2 : decide ((n : Int) ≤ i) = true := by
      simp only [Bool.and_eq_false_iff, decide_eq_false_iff_not] at hbad
      simp only [decide_eq_true_eq]; omega
    clear hbad h1
    go_enter Try.func23, Try.ntmps23
    go_wp2
    refine bodyPost_ret (results_cell2_tmp rfl _ _ _ _ _ _ _ rfl rfl (HL.out _ _) (HM.out _ _)) rfl ?_
    exact HEND.out _ _ _
end Go.Proofs.Ytcdghipodnafmaa
