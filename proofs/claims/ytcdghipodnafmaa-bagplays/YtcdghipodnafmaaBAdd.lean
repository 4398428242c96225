/-
  Contract of the bag's add. Conditions: the bag lies in memory and has room; the bytes lie outside of it.
-/
import Derived.Test.YtcdghipodnafmaaBCl
import Derived.Test.YtcdghipodnafmaaHistA
import Derived.Deep.RegionLaw
namespace Go.Proofs.Ytcdghipodnafmaa
open Go.ChangeShapes Go.WideShapes Go.ChangeAt Go.RowKit
set_option linter.unusedVariables false

/-- Append of elements, with where the row lies behind it. -/
theorem run_append_vals2 {α : Type} {e : TypeId} {sz bt : Nat} {z : Value} {en : α → List Value} (E : El e sz bt z en) (T ty : TypeId) (hT : Try.prog.underlying T = some (.slice e)) (w : World) (base : Nat) (A : Option Addr) (c : Nat) (xs : List α) (hown : OwnG e sz en base w A c xs) (B : Option Addr) (d : Nat) (ns : List α) (hr : CellsG en w B d ns)
    (h63 : xs.length + ns.length ≤ 1000000000) (hbt : bt ≤ 1000) (hbase : base ≤ w.heap.size) :
    ∃ A' c' w', (Builtin.append_ #[T, T] ty #[.slice A xs.length c, .slice B ns.length d]).run Try.prog w = .ok (.slice A' (xs ++ ns).length c') w' ∧ OwnG e sz en base w' A' c' (xs ++ ns) ∧ w.grownBy w' (Value.slice A xs.length c).ownBlock ∧ (A'.map Addr.block = A.map Addr.block ∨ A'.map Addr.block = some w.heap.size) := by
  obtain ⟨i0, hi, hz0, hz1, hz2⟩ := info_parts E.info
  have hmul : (xs.length + ns.length) * bt ≤ 1000000000 * 1000 := Nat.mul_le_mul h63 hbt
  have hob : ∀ (X : Option Addr) (q r : Nat), (Value.slice X q r).ownBlock = X.map Addr.block := fun X q r => by cases X <;> rfl
  unfold OwnG at *
  rw [List.length_append, cellsG_append]
  rcases hr with ⟨rfl, rfl, rfl⟩ | ⟨a, rfl, hr⟩
  · refine ⟨A, c, w, run_append_owned_none w base T ty e i0 sz hT hi _ _ _ hown, ?_, World.grownBy.refl _ _, .inl rfl⟩
    simpa [cellsG] using hown
  · obtain ⟨v', w', hrun, h2, h3, _, h5⟩ := run_append_own_at (P := Try.prog) w base T ty e i0 z sz bt hT hi hz0 hz1 hz2 E.zero E.pos _ _ _ hown a ns.length d (cellsG en ns) (cellsG_length E ns) hr (cellsG_one E ns) (by unfold maxLen; omega) (by omega) hbase
    rcases h2.2 with ⟨hv, h0⟩ | ⟨g, cap, cur, hv, _⟩
    · subst hv
      refine ⟨none, 0, w', ?_, ?_, h3, ?_⟩
      · rw [h0]; exact hrun
      · rw [h0] at h2 ⊢; exact h2
      · rw [hob, hob] at h5; exact h5
    · subst hv
      exact ⟨_, cap, w', hrun, h2, h3, by rw [hob, hob] at h5; exact h5⟩
theorem step_append_vals {α : Type} {e : TypeId} {sz bt : Nat} {z : Value} {en : α → List Value} (E : El e sz bt z en) {w : World} {ops : Array Oper} {o : Oper} {a : Act} {K : Act → World → Prop} {Q : Exit → Act → World → Prop} {F : Prop} (hg : o.guard = none) (s x : Operand) (T : TypeId) (hT : Try.prog.underlying T = some (.slice e))
    (ho : o.op = .call { callee := .builtin .append, args := #[s, x], argTypes := #[T, T] })
    (base : Nat) (A : Option Addr) (c : Nat) (xs : List α) (hs : a.eval s = .slice A xs.length c) (hown : OwnG e sz en base w A c xs)
    (B : Option Addr) (d : Nat) (ns : List α) (hx : a.eval x = .slice B ns.length d) (hr : CellsG en w B d ns) (h63 : xs.length + ns.length ≤ 1000000000) (hbt : bt ≤ 1000) (hbase : base ≤ w.heap.size)
    (h : ∀ A' c' w' R, Hid (R = xs ++ ns) → OwnG e sz en base w' A' c' R → w.grownBy w' (Value.slice A xs.length c).ownBlock → (A'.map Addr.block = A.map Addr.block ∨ A'.map Addr.block = some w.heap.size) → K (a.put o.dst (.slice A' R.length c')) w') :
    if Region.wanted o (yielded ops a.tmps) = true then Oper.wp Try.prog o a w K Q else F := by
  have hw : Region.wanted o (yielded ops a.tmps) = true := by simp [Region.wanted, hg]
  rw [if_pos hw]
  obtain ⟨A', c', w', hrun, h2, h3, h4⟩ := run_append_vals2 E T o.type hT w base A c xs hown B d ns hr h63 hbt hbase
  unfold Oper.wp execOp
  simp only [ho, resolve, invoke, builtin, Sem.run_bind, Sem.run_pure, Result.andThen_ok, List.map_toArray, List.map_cons, List.map_nil, hs, hx, hrun]
  exact h A' c' w' _ (Lib.hid rfl) h2 h3 h4

section
variable {S : Nat → Prop} {w : World} {p : Nat} {A : Option Addr} {c : Nat} {rs : List Mr} {g : Bg}
theorem bcells_11 (A : Option Addr) (n c : Nat) (g : Bg) (x : Int) : (bcells A n c g).setIfInBounds 11 (.int .i64 x) = bcells A n c { g with sent := x } := rfl
theorem add_end (h : Open S w p A c rs g) (rx : Mr) {w3 w4 : World} {o : Obj} (hb3 : Below w.heap.size w w3) (ho3 : OwnS w.heap.size w3 rx.A rx.c rx.m.b) {A4 : Option Addr} {c4 : Nat} {R : List Mr} (hR : R = rs ++ [rx]) (ho4 : OwnG 48 3 enM 0 w4 A4 c4 R) (hg4 : (w3.alloc o).grownBy w4 (Value.slice A rs.length c).ownBlock)
    (hbb : A4.map Addr.block = A.map Addr.block ∨ A4.map Addr.block = some (w3.alloc o).heap.size) (hroom : (rs.length : Int) < g.most) (hgood : GoodM g.nodes rx.m) :
    Done S w p { g with ms := g.ms ++ [rx.m], sent := g.sent + 1 } ((w4.setCell ⟨p, 0, none⟩ (.slice A4 R.length c4)).setCell ⟨p, 11, none⟩ (.int .i64 (g.sent + 1))) := by
  have hpl := h.blk.lt
  have hsz : (w3.alloc o).heap.size = w3.heap.size + 1 := by simp
  have hw3 := hb3.size
  have hrow : ∀ k, (Value.slice A rs.length c).ownBlock = some k → S k ∧ k < w.heap.size ∧ k ≠ p := fun k hk => by
    cases A with
    | none => simp [Value.ownBlock] at hk
    | some a =>
      have e : a.block = k := Option.some.inj hk
      subst e
      exact ⟨h.rowS a rfl, h.lt _ (h.rowS a rfl), h.row_ne a rfl⟩
  have hb3a : Below w.heap.size w (w3.alloc o) := hb3.alloc (by omega) o
  have t4 : Touch S w w4 := (Touch.of_below hb3a).on (Touch.grown (S := S) hg4 fun k hk => (hrow k hk).1) fun b hb => .inl hb
  have t5 : Touch S w ((w4.setCell ⟨p, 0, none⟩ (.slice A4 R.length c4)).setCell ⟨p, 11, none⟩ (.int .i64 (g.sent + 1))) := (t4.more (Touch.set h.pS _ 0 _)).more (Touch.set h.pS _ 11 _)
  have hA4 : ∀ a, A4 = some a → (S a.block ∧ a.block < w.heap.size ∧ a.block ≠ p) ∨ a.block = w3.heap.size + 1 := fun a ha => by
    subst ha
    rcases hbb with e | e
    · cases A with
      | none => cases e
      | some b =>
        have e2 : a.block = b.block := Option.some.inj e
        rw [e2]
        exact .inl (hrow b.block rfl)
    · have e2 : a.block = (w3.alloc o).heap.size := Option.some.inj e
      exact .inr (by omega)
  have hsub : Sub (fun k => k = p ∨ ∃ a, A4 = some a ∧ k = a.block) S w := fun k hk => by
    rcases hk with rfl | ⟨a, ha, rfl⟩
    · exact .inl h.pS
    · rcases hA4 a ha with h1 | h1
      · exact .inl h1.1
      · exact .inr (by omega)
  have bp4 : Blk w4 p (bcells A rs.length c g) 56 := (h.blk.belowAll hb3a).grown hg4 fun e => (hrow p e).2.2 rfl
  have bp5 := (bp4.set 0 (.slice A4 R.length c4)).set 11 (.int .i64 (g.sent + 1))
  rw [bcells_0, bcells_11] at bp5
  have hok := h.ok
  have hne4 : ∀ a, A4 = some a → a.block ≠ p := fun a ha => by
    rcases hA4 a ha with h1 | h1
    · exact h1.2.2
    · omega
  refine ⟨fun k => k = p ∨ ∃ a, A4 = some a ∧ k = a.block, ⟨A4, c4, R, bp5, .inl rfl, ?_, fun a ha => .inr ⟨a, ha, rfl⟩, fun k hk => ?_, fun r hr => ?_, ?_, ?_⟩, t5, hsub⟩
  · exact ho4.blocks fun a ha => (Below.heap_setCell _ _ _ _ (hne4 a ha)).trans (Below.heap_setCell _ _ _ _ (hne4 a ha))
  · rcases hk with rfl | ⟨a, ha, rfl⟩
    · exact Nat.lt_of_lt_of_le hpl t5.size
    · obtain ⟨cur, q, hq⟩ := (ho4.row a.block (by rw [ha]; rfl)).2
      have h1 : a.block < w4.heap.size := (Array.getElem?_eq_some_iff.1 hq).1
      simpa [World.setCell] using h1
  · rw [hR] at hr
    rcases List.mem_append.1 hr with h1 | h1
    · exact (h.data r h1).step t5 hsub
    · simp only [List.mem_singleton] at h1
      subst h1
      rcases ho3.2 with ⟨hv, h0⟩ | ⟨g3, cap, cur, hv, hg3, hh, _⟩
      · have e1 : r.m.b = [] := List.eq_nil_of_length_eq_zero h0
        simp only [Value.slice.injEq] at hv
        obtain ⟨e2, _, e3⟩ := hv
        rw [e1, e2, e3]
        exact Out.nil _ _
      · have hg3l : g3 < w3.heap.size := (Array.getElem?_eq_some_iff.1 hh).1
        have e2 : r.A = some ⟨g3, 0, none⟩ := by injection hv
        have hk : ((w4.setCell ⟨p, 0, none⟩ (.slice A4 R.length c4)).setCell ⟨p, 11, none⟩ (.int .i64 (g.sent + 1))).heap[g3]? = w3.heap[g3]? := by
          rw [Below.heap_setCell _ _ _ g3 (by show g3 ≠ p; omega), Below.heap_setCell _ _ _ g3 (by show g3 ≠ p; omega), hg4.block g3 (by omega) (fun e => by have := (hrow g3 e.symm).2.1; omega)]
          exact Below.heap_alloc w3 o g3 hg3l
        refine ⟨(Lies.of_own ho3).blocks fun _ a ha => ?_, fun _ a ha hs => ?_, fun _ a ha => ⟨cur, (0, 0), ?_⟩⟩
        · rw [e2] at ha
          exact (Option.some.inj ha) ▸ hk
        · rw [e2] at ha
          have e4 : g3 = a.block := by rw [← Option.some.inj ha]
          rcases hs with h2 | ⟨b, hb, h2⟩
          · omega
          · rcases hA4 b hb with h3 | h3 <;> omega
        · rw [e2] at ha
          exact (Option.some.inj ha) ▸ (hk.trans hh)
  · rw [hR, List.map_append, h.fs]; rfl
  · exact ⟨hok.up, hok.n1, hok.n8, hok.m1, hok.m2, by
      have := h.len
      show ((g.ms ++ [rx.m]).length : Int) ≤ g.most
      simp only [List.length_append, List.length_singleton]
      omega, fun m hm => by
      rcases List.mem_append.1 hm with h1 | h1
      · exact hok.msgs m h1
      · simp only [List.mem_singleton] at h1
        subst h1
        exact hgood, by have := hok.s0; show 0 ≤ g.sent + 1; omega, hok.t0, hok.l0⟩
set_option maxRecDepth 20000 in
set_option maxHeartbeats 4000000 in
theorem add_calls (h : Open S w p A c rs g) (hlow : Low g) (hroom : (rs.length : Int) < g.most) (f t : Int) (D : Option Addr) (cd : Nat) (l : List Int) (hl : Lies w D cd l) (hb : IsB l) (hll : l.length ≤ 100000) (ht0 : 0 ≤ t) (ht1 : t < g.nodes) :
    Calls Try.prog 29 #[at_ p, .agg #[.int .i64 f, .int .i64 t, .slice D l.length cd]] w fun e w' => e = .returned (.tuple #[]) ∧ Done S w p { g with ms := g.ms ++ [⟨f, t, l⟩], sent := g.sent + 1 } w' := by
  obtain ⟨n, hn⟩ : ∃ n, n = rs.length := ⟨_, rfl⟩
  obtain ⟨ln, hln⟩ : ∃ ln, ln = l.length := ⟨_, rfl⟩
  have HN := Lib.hid hn
  have HLN := Lib.hid hln
  have HO := Lib.hid h
  have hb1 := below_one w (.cells #[.int .i64 f, .int .i64 t, .slice D ln cd] 48)
  have HB1 := Lib.hid hb1
  have HC := Lib.hid (show ∀ W, Below w.heap.size w W → Calls Try.prog 24 #[.agg #[.int .i64 f, .int .i64 t, .slice D ln cd]] W (OwnM W f t l) from fun W hW => by rw [hln]; exact clone_calls f t D cd l W (hl.below hW) (by omega))
  have b0 := Blk.new w #[.int .i64 f, .int .i64 t, .slice D ln cd] 48
  have HX0 := Lib.hid b0
  obtain ⟨x0, x1, x2⟩ := b0.cells3
  have bp := h.blk.belowAll hb1
  have HBP := Lib.hid bp
  have p0 : (w.alloc (.cells #[.int .i64 f, .int .i64 t, .slice D ln cd] 48)).cell? ⟨p, 0, none⟩ = some (.slice A n c) := by rw [hn]; exact bp.cell 0
  rw [← hln]
  have hpl := h.blk.lt
  have hmany : rs.length ≤ 512 := by have := h.ok.many; have := h.ok.m2; have := h.len; omega
  have HROW := Lib.hid (show ∀ W, Below w.heap.size w W → OwnG 48 3 enM 0 W A c rs from fun W hW => h.row.below hW)
  have HBN := Lib.hid (show ∀ w3 : World, Below (w.alloc (.cells #[.int .i64 f, .int .i64 t, .slice D ln cd] 48)).heap.size (w.alloc (.cells #[.int .i64 f, .int .i64 t, .slice D ln cd] 48)) w3 → ∀ {o : Obj}, Below w.heap.size w (w3.alloc o) from fun w3 h3 o => ((below_one w _).trans (h3.mono (by simp))).alloc (Nat.le_trans (by simp) h3.size) o)
  have HNE := Lib.hid (show (Value.slice A rs.length c).ownBlock ≠ some p ∧ (Value.slice A rs.length c).ownBlock ≠ some w.heap.size from by
    cases A with
    | none => exact ⟨by simp [Value.ownBlock], by simp [Value.ownBlock]⟩
    | some a =>
      have h1 := h.row_ne a rfl
      have h2 := h.lt _ (h.rowS a rfl)
      exact ⟨fun e => h1 (Option.some.inj e), fun e => by have e2 : a.block = w.heap.size := Option.some.inj e; omega⟩)
  have hsl := hlow.s1
  have hs0 := h.ok.s0
  have hsw : wrap64 (g.sent + 1) = g.sent + 1 := by unfold wrap64; omega
  unfold at_
  clear h hl hb1 b0 bp hn hln
  go_enter Try.func29, Try.ntmps29
  go_wp2_with fail
  go_region_law (first | (refine step_append_vals elM rfl _ _ 31 Try.underlying31 rfl 0 A c rs (by rw [← HN.out]; rfl) (HROW.out _ (HBN.out _ HB3.out)) (some ⟨w3.heap.size, 0, none⟩) 1 [⟨⟨f, t, l⟩, A3, c3⟩] rfl (cells_one_val elM w3 _ _ rfl) (by simp; omega) (by decide) (Nat.zero_le _) ?_; intro A4 c4 w4 R hR ho4 hg4 hb4; have b4 := HBA.out.grown hg4 HNE.out.1; have bx4 := HBXA.out.grown hg4 HNE.out.2; have s0 : w4.cell? ⟨p, 0, none⟩ = some (.slice A n c) := (by rw [HN.out]; exact b4.cell 0); have s4 := b4.free 0; obtain ⟨u0, u1, u2⟩ := bx4.cells3; have s5 := b4.cell 11; have s6 := b4.free 11; simp only [bcells] at s5; have HB4 := Lib.hid b4; have HO4 := Lib.hid ho4; have HG4 := Lib.hid hg4; have HBB := Lib.hid hb4; clear b4 bx4 ho4 hg4 hb4) | (go_simp; refine (HC.out _ (HB1.out.trans ((below_drew _).mono HB1.out.size))).mono ?_; rintro e w3 ⟨A3, c3, rfl, ho, hb3⟩; have hb3' : Below (w.heap.size + 1) (w.alloc (.cells #[.int .i64 f, .int .i64 t, .slice D ln cd] 48)) w3 := ⟨hb3.os, hb3.tape, hb3.output, by have := hb3.size; simpa using this, fun k hk => hb3.block k (by simpa using hk)⟩; have hbs : (w.alloc (.cells #[.int .i64 f, .int .i64 t, .slice D ln cd] 48)).heap.size = w.heap.size + 1 := (by simp); rw [← hbs] at hb3'; have bx := HX0.out.belowAll hb3'; have bq := HBP.out.belowAll hb3'; have HBQ := Lib.hid bq; have HBX := Lib.hid bx; have q0 : w3.cell? ⟨p, 0, none⟩ = some (.slice A n c) := (by rw [HN.out]; exact bq.cell 0); obtain ⟨y0, y1, y2⟩ := bx.cells3; have ba := bq.alloc (.cells #[.int .i64 f, .int .i64 t, .slice A3 l.length c3] 48); have HBA := Lib.hid ba; have r0 : (w3.alloc (.cells #[.int .i64 f, .int .i64 t, .slice A3 l.length c3] 48)).cell? ⟨p, 0, none⟩ = some (.slice A n c) := (by rw [HN.out]; exact ba.cell 0); obtain ⟨v0, v1, v2⟩ := (bx.alloc (.cells #[.int .i64 f, .int .i64 t, .slice A3 l.length c3] 48)).cells3; have HO3 := Lib.hid ho; have HB3 := Lib.hid hb3'; have HBXA := Lib.hid (bx.alloc (.cells #[.int .i64 f, .int .i64 t, .slice A3 l.length c3] 48)); clear bx bq ba ho hb3 hb3' hbs))
  all_goals
    go_wp2
    refine bodyPost_end (results_none rfl _ _ _) rfl ⟨rfl, ?_⟩
    have hbs : (w.alloc (.cells #[.int .i64 f, .int .i64 t, .slice D ln cd] 48)).heap.size = w.heap.size + 1 := by simp
    exact add_end HO.out ⟨⟨f, t, l⟩, A3, c3⟩ ((below_one w _).trans (HB3.out.mono (by omega))) (OwnS.mono HO3.out (by show w.heap.size ≤ (World.drew _).heap.size; simp)) hR.out HO4.out HG4.out HBB.out hroom ⟨ht0, ht1, hb, hll⟩
end
end Go.Proofs.Ytcdghipodnafmaa
