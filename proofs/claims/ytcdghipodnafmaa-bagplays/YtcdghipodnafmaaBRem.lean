/-
  Contract of the bag's remove. Conditions: the bag lies in memory, the index is one of a message.
-/
import Derived.Test.YtcdghipodnafmaaBDel
namespace Go.Proofs.Ytcdghipodnafmaa
open Go.ChangeShapes Go.WideShapes Go.ChangeAt Go.RowKit
set_option linter.unusedVariables false

theorem lv48 {W : World} {g : Nat} {a b c : Value} (h : Blk W g #[a, b, c] 48) : (loadVar 48 ⟨g, 0, none⟩).run Try.prog W = .ok (.agg #[a, b, c]) W := by
  have hl := run_loadCells_list (P := Try.prog) W ⟨g, 0, none⟩ [a, b, c] (fun j u hu => by
    have e1 : (⟨g, 0, none⟩ : Addr).add j = ⟨g, j, none⟩ := by
      unfold Addr.add
      split
      · rename_i hz; rw [hz]
      · simp
    rw [e1, h.cell j, ← Array.getElem?_toList]
    exact hu)
  simp at hl
  simp [loadVar, isAgg, underlying, Try.underlying48, hl]
theorem results_cell1 {fn : Func} {p : Tmp} {ty : TypeId} (h : fn.results = #[.cell p ty]) (tmps : Array Value) (P : Program) (w : World) (a1 : Addr) (x : Value)
    (hp : tmps.getD p undef = .pointer (some a1)) (l1 : (loadVar ty a1).run P w = .ok x w) :
    (results fn tmps).run P w = .ok x w := by
  rw [Array.getD_eq_getD_getElem?] at hp
  simp only [results, h]
  simp [hp, asAddr, l1]
theorem below_two (w : World) (o p : Obj) : Below w.heap.size w ((w.alloc o).alloc p) := ((Below.refl _ _).alloc (Nat.le_refl _) _).alloc (by simp) _
theorem Blk.set3 {W : World} {g : Nat} {a b c : Value} {t : TypeId} (h : Blk W g #[a, b, c] t) (x y z : Value) : Blk (((W.setCell ⟨g, 0, none⟩ x).setCell ⟨g, 1, none⟩ y).setCell ⟨g, 2, none⟩ z) g #[x, y, z] t := by
  have := ((h.set 0 x).set 1 y).set 2 z
  simpa using this
theorem set3_other {W : World} {g k : Nat} (hne : k ≠ g) (x y z : Value) : (((W.setCell ⟨g, 0, none⟩ x).setCell ⟨g, 1, none⟩ y).setCell ⟨g, 2, none⟩ z).heap[k]? = W.heap[k]? :=
  (Below.heap_setCell _ _ _ k hne).trans ((Below.heap_setCell _ _ _ k hne).trans (Below.heap_setCell _ _ _ k hne))
theorem Blk.set3o {W : World} {g k : Nat} {cs : Array Value} {t : TypeId} (h : Blk W k cs t) (hne : k ≠ g) (x y z : Value) : Blk (((W.setCell ⟨g, 0, none⟩ x).setCell ⟨g, 1, none⟩ y).setCell ⟨g, 2, none⟩ z) k cs t := ((h.other (a := ⟨g, 0, none⟩) hne x).other (a := ⟨g, 1, none⟩) hne y).other (a := ⟨g, 2, none⟩) hne z
theorem set3_size (W : World) (g : Nat) (x y z : Value) : (((W.setCell ⟨g, 0, none⟩ x).setCell ⟨g, 1, none⟩ y).setCell ⟨g, 2, none⟩ z).heap.size = W.heap.size := by simp [World.setCell]
/-- A store into a block that is new since w. -/
theorem touch_new {S : Nat → Prop} {w W : World} {g : Nat} (ht : Touch S w W) (hg : w.heap.size ≤ g) (k : Nat) (v : Value) : Touch S w (W.setCell ⟨g, k, none⟩ v) :=
  ht.on (Touch.set (S := fun k => k = g) rfl W k v) fun b hb => .inr (by rw [hb]; exact hg)
theorem touch_set3 {S : Nat → Prop} {w W : World} {g : Nat} (ht : Touch S w W) (hg : w.heap.size ≤ g) (x y z : Value) : Touch S w (((W.setCell ⟨g, 0, none⟩ x).setCell ⟨g, 1, none⟩ y).setCell ⟨g, 2, none⟩ z) := touch_new (touch_new (touch_new ht hg 0 x) hg 1 y) hg 2 z
theorem Blk.cells3 {W : World} {g : Nat} {a b c : Value} {t : TypeId} (h : Blk W g #[a, b, c] t) : W.cell? ⟨g, 0, none⟩ = some a ∧ W.cell? ⟨g, 1, none⟩ = some b ∧ W.cell? ⟨g, 2, none⟩ = some c := ⟨h.cell 0, h.cell 1, h.cell 2⟩
theorem Blk.free3 {W : World} {g : Nat} {cs : Array Value} {t : TypeId} (h : Blk W g cs t) : W.frozen? ⟨g, 0, none⟩ = false ∧ W.frozen? ⟨g, 1, none⟩ = false ∧ W.frozen? ⟨g, 2, none⟩ = false := ⟨h.free 0, h.free 1, h.free 2⟩

section
variable {S : Nat → Prop} {w : World} {p gb : Nat} {A : Option Addr} {c : Nat} {rs : List Mr} {g : Bg}
/-- A bag whose row alone has turned, and the slice in its struct. -/
theorem Open.reset (h : Open S w p A c rs g) {W : World} {A' : Option Addr} {c' : Nat} {rs' : List Mr} {S' : Nat → Prop} {ms' : List Mg} (hb : Blk W p (bcells A' rs'.length c' g) 56) (ho : OwnG 48 3 enM 0 W A' c' rs') (hp : S' p) (hr : ∀ a, A' = some a → S' a.block) (hl : ∀ k, S' k → k < W.heap.size)
    (hd : ∀ r ∈ rs', Out S' W r.A r.c r.m.b) (hm : rs'.map Mr.m = ms') (hok : Ok { g with ms := ms' }) : Open S' W p A' c' rs' { g with ms := ms' } := ⟨hb, hp, ho, hr, hl, hd, hm, hok⟩
theorem Ok.fewer {g : Bg} (h : Ok g) {ms : List Mg} (hs : ∀ m ∈ ms, m ∈ g.ms) (hl : ms.length ≤ g.ms.length) : Ok { g with ms := ms } :=
  ⟨h.up, h.n1, h.n8, h.m1, h.m2, by have := h.many; show (ms.length : Int) ≤ g.most; omega, fun m hm => h.msgs m (hs m hm), h.s0, h.t0, h.l0⟩
end
def wout {α : Type} (l : List α) (i : Nat) : List α := l.take i ++ l.drop (i + 1)
theorem mem_wout {α : Type} {l : List α} {i : Nat} {x : α} (h : x ∈ wout l i) : x ∈ l := by
  unfold wout at h
  rcases List.mem_append.1 h with h | h
  · exact List.mem_of_mem_take h
  · exact List.mem_of_mem_drop h
theorem wout_len {α : Type} (l : List α) (i : Nat) (h : i < l.length) : (wout l i).length = l.length - 1 := by unfold wout; simp; omega
theorem wout_map {α β : Type} (f : α → β) (l : List α) (i : Nat) : (wout l i).map f = wout (l.map f) i := by unfold wout; simp [List.map_take, List.map_drop]

section
variable {S : Nat → Prop} {w : World} {p gb : Nat} {A : Option Addr} {c : Nat} {rs : List Mr} {g : Bg}
theorem bcells_0 (A A' : Option Addr) (n n' c c' : Nat) (g : Bg) : (bcells A n c g).setIfInBounds 0 (.slice A' n' c') = bcells A' n' c' g := rfl
theorem remove_end (h : Open S w p (some ⟨gb, 0, none⟩) c rs g) {i : Nat} (hil : i < rs.length) {w2 w3 : World} (h2 : Below w.heap.size w w2) (h2s : w2.heap.size = w.heap.size + 2) (ho : OwnG 48 3 enM 0 w3 (some ⟨gb, 0, none⟩) c (wout rs i)) (ht : Touch (fun k => ∃ a : Addr, some (⟨gb, 0, none⟩ : Addr) = some a ∧ k = a.block) w2 w3) (x y z : Value) :
    Open S ((((w3.setCell ⟨p, 0, none⟩ (.slice (some ⟨gb, 0, none⟩) (wout rs i).length c)).setCell ⟨w.heap.size, 0, none⟩ x).setCell ⟨w.heap.size, 1, none⟩ y).setCell ⟨w.heap.size, 2, none⟩ z) p (some ⟨gb, 0, none⟩) c (wout rs i) { g with ms := wout g.ms i } ∧
    Touch S w ((((w3.setCell ⟨p, 0, none⟩ (.slice (some ⟨gb, 0, none⟩) (wout rs i).length c)).setCell ⟨w.heap.size, 0, none⟩ x).setCell ⟨w.heap.size, 1, none⟩ y).setCell ⟨w.heap.size, 2, none⟩ z) := by
  have hpl := h.blk.lt
  have hgp := h.row_ne _ rfl
  have hgl : gb < w.heap.size := h.lt _ (h.rowS _ rfl)
  have t1 : Touch S w w3 := (Touch.of_below h2).on ht fun b hb => by
    obtain ⟨a, ha, rfl⟩ := hb
    injection ha with ha
    subst ha
    exact .inl (h.rowS _ rfl)
  have t2 : Touch S w (w3.setCell ⟨p, 0, none⟩ (.slice (some ⟨gb, 0, none⟩) (wout rs i).length c)) := t1.more (Touch.set h.pS w3 0 _)
  have t3 := touch_set3 t2 (Nat.le_refl _) x y z
  have bp : Blk w3 p (bcells (some ⟨gb, 0, none⟩) rs.length c g) 56 := (ht.block p (by omega) (by rintro ⟨a, ha, rfl⟩; injection ha with ha; subst ha; exact hgp rfl)).trans (h.blk.belowAll h2)
  refine ⟨h.reset ?_ ?_ h.pS h.rowS (fun k hk => ?_) (fun r hr => ?_) ?_ ?_, t3⟩
  · have h5 := bp.set 0 (.slice (some ⟨gb, 0, none⟩) (wout rs i).length c)
    rw [bcells_0] at h5
    exact h5.set3o (by omega) x y z
  · have hk := (set3_other (W := w3.setCell ⟨p, 0, none⟩ (.slice (some ⟨gb, 0, none⟩) (wout rs i).length c)) (g := w.heap.size) (k := gb) (by omega) x y z).trans (Below.heap_setCell _ _ _ gb hgp)
    exact ho.blocks fun a ha => (Option.some.inj ha) ▸ hk
  · exact Nat.lt_of_lt_of_le (h.lt k hk) t3.size
  · exact (h.data r (mem_wout hr)).step t3 (Sub.refl _ _)
  · rw [wout_map, h.fs]
  · exact h.ok.fewer (fun m hm => mem_wout hm) (by rw [wout_len _ _ (by rw [← h.len]; exact hil)]; omega)

set_option maxRecDepth 20000 in
set_option maxHeartbeats 4000000 in
theorem remove_calls (h : Open S w p A c rs g) (i : Nat) (r : Mr) (hi : rs[i]? = some r) :
    Calls Try.prog 27 #[at_ p, .int .i64 i] w fun e w' => e = .returned (.agg #[.int .i64 r.m.frm, .int .i64 r.m.tgt, .slice r.A r.m.b.length r.c]) ∧ Open S w' p A c (wout rs i) { g with ms := wout g.ms i } ∧ Touch S w w' := by
  have hil : i < rs.length := (List.getElem?_eq_some_iff.1 hi).1
  have hlen := h.len
  have hmost := h.ok.many
  have hm2 := h.ok.m2
  have hin : (i : Int) < (rs.length : Int) := by omega
  have hi1 : wrap64 ((i : Int) + 1) = (i : Int) + 1 := by unfold wrap64; omega
  obtain ⟨gb, hA, _, hgl, hcell⟩ := h.row.at0 elM (by omega)
  have hgp := h.row_ne _ hA
  have hz := hcell i 0 r hi (by omega)
  have hz1 := hcell i 1 r hi (by omega)
  have hz2 := hcell i 2 r hi (by omega)
  simp only [enM] at hz hz1 hz2
  subst hA
  obtain ⟨f, hf⟩ : ∃ f, f = r.m.frm := ⟨_, rfl⟩
  obtain ⟨t, ht⟩ : ∃ t, t = r.m.tgt := ⟨_, rfl⟩
  obtain ⟨l, hl⟩ : ∃ l, l = r.m.b.length := ⟨_, rfl⟩
  rw [← hf, ← ht, ← hl]
  rw [← hf] at hz
  rw [← ht] at hz1
  rw [← hl] at hz2
  obtain ⟨n, hn⟩ : ∃ n, n = rs.length := ⟨_, rfl⟩
  have HN := Lib.hid hn
  have HCELL := Lib.hid (show ∀ W, Below w.heap.size w W → W.cell? ⟨p, 0, none⟩ = some (.slice (some ⟨gb, 0, none⟩) n c) ∧ W.cell? ⟨gb, i * 3, none⟩ = some (.int .i64 f) ∧ W.cell? ⟨gb, i * 3 + 1, none⟩ = some (.int .i64 t) ∧ W.cell? ⟨gb, i * 3 + 2, none⟩ = some (.slice r.A l r.c) from fun W hb => by
    have hpl := h.blk.lt
    refine ⟨?_, (hb.cell (p := ⟨gb, i * 3, none⟩) hgl).trans hz, (hb.cell (p := ⟨gb, i * 3 + 1, none⟩) hgl).trans hz1, (hb.cell (p := ⟨gb, i * 3 + 2, none⟩) hgl).trans hz2⟩
    rw [hn]
    exact (hb.cell (p := ⟨p, 0, none⟩) hpl).trans (h.blk.cell 0))
  have HD := Lib.hid (show ∀ W, Below w.heap.size w W → Calls Try.prog 33 #[.slice (some ⟨gb, 0, none⟩) n c, .int .i64 (i : Int), .int .i64 ((i : Int) + 1)] W fun e w' => e = .returned (.slice (some ⟨gb, 0, none⟩) (wout rs i).length c) ∧ OwnG 48 3 enM 0 w' (some ⟨gb, 0, none⟩) c (wout rs i) ∧ Touch (fun k => ∃ a : Addr, some (⟨gb, 0, none⟩ : Addr) = some a ∧ k = a.block) W w' from fun W hb => by
    have := delete_calls (h.row.below hb) i (i + 1) rfl hil
    rw [show ((i : Int) + 1) = ((i + 1 : Nat) : Int) by push_cast; rfl, hn]
    exact this)
  have HO := Lib.hid h
  have HI := Lib.hid hi
  have HBT := Lib.hid (below_two w (.cells #[.int .i64 0, .int .i64 0, .slice none 0 0] 48) (.cells #[.int .i64 f, .int .i64 t, .slice r.A l r.c] 48))
  obtain ⟨d0, d1, d2, d3⟩ := HCELL.out _ (below_one w (.cells #[.int .i64 0, .int .i64 0, .slice none 0 0] 48))
  obtain ⟨e0, _⟩ := HCELL.out _ HBT.out
  have HB4 := Lib.hid ((Blk.new w #[.int .i64 0, .int .i64 0, .slice none 0 0] 48).alloc (.cells #[.int .i64 f, .int .i64 t, .slice r.A l r.c] 48))
  have HB5 := Lib.hid (Blk.newAt (w.alloc (.cells #[.int .i64 0, .int .i64 0, .slice none 0 0] 48)) #[.int .i64 f, .int .i64 t, .slice r.A l r.c] 48 (g := w.heap.size + 1) (by simp))
  have hpl := h.blk.lt
  have HPL := Lib.hid hpl
  have HGL := Lib.hid hgl
  have HGP := Lib.hid hgp
  have q1 : ¬ (w.heap.size = p) := by omega
  have q2 : ¬ (w.heap.size + 1 = p) := by omega
  have q3 : ¬ (p = w.heap.size) := by omega
  have q4 : ¬ (p = w.heap.size + 1) := by omega
  have q5 : ¬ (w.heap.size + 1 = w.heap.size) := by omega
  rw [← hn] at hin hil
  unfold at_
  clear h hi hcell hz hz1 hz2 hf ht hl hn hlen hmost hgp
  go_enter Try.func27, Try.ntmps27
  have HEND := Lib.hid (fun w3 ho ht => remove_end HO.out (HN.out ▸ hil) HBT.out (by simp) (w3 := w3) ho ht (.int .i64 f) (.int .i64 t) (.slice r.A l r.c))
  go_wp2_with (go_at_call 33; refine (HD.out _ HBT.out).mono ?_; rintro e w3 ⟨rfl, ho, ht3⟩; have hk : ∀ k, k < w.heap.size + 2 → k ≠ gb → w3.heap[k]? = ((w.alloc (.cells #[.int .i64 0, .int .i64 0, .slice none 0 0] 48)).alloc (.cells #[.int .i64 f, .int .i64 t, .slice r.A l r.c] 48)).heap[k]? := (fun k hk hne => ht3.block k (by simp; omega) (by rintro ⟨a, ha, rfl⟩; injection ha with ha; subst ha; exact hne rfl)); have bp : Blk w3 p _ 56 := (hk p (by omega) (fun e => HGP.out e.symm)).trans (HO.out.blk.belowAll HBT.out); have b4 : Blk w3 w.heap.size _ 48 := (hk _ (by omega) (by omega)).trans HB4.out; have b5 : Blk w3 (w.heap.size + 1) _ 48 := (hk _ (by omega) (by omega)).trans HB5.out; have p0 := bp.cell 0; have p1 := bp.free 0; simp only [bcells] at p0; obtain ⟨x0, x1, x2⟩ := b5.cells3; obtain ⟨y0, y1, y2⟩ := b4.cells3; obtain ⟨z0, z1, z2⟩ := b4.free3; have HE := Lib.hid (HEND.out w3 ho ht3); have HB4' := Lib.hid b4; clear hk bp b4 b5 ho ht3)
  exact bodyPost_ret (results_cell1 rfl _ _ _ _ _ rfl (lv48 (Blk.set3 (HB4'.out.other (by show w.heap.size ≠ p; omega) _) _ _ _))) rfl ⟨rfl, HE.out⟩
end
end Go.Proofs.Ytcdghipodnafmaa
