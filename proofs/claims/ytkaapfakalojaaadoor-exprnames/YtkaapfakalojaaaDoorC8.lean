/-
  A row of expressions of the call's own: an element is put at its end (append of a zero value, then a store of the element), in a fence. Conditions: as in the premises.
  What lies in memory while the program's Right goes over the parts. Conditions: as in the premises.
  A round of the program's Right. Conditions: as in the premises.
  Contracts of the program's misshapen and overlong. Conditions: the table of the operations lies in memory; texts of at most 2^47 bytes.
  Contracts of slices.IndexFunc and slices.ContainsFunc at the program's misshapen and overlong, over a row of expressions. Conditions: rows of at most 1000 expressions.
  What the parts tell of an expression; how the program's Right returns. Conditions: as in the premises.
-/
import Derived.Laws.IdiomCopy
import Derived.Deep.QuietTactic
import Derived.BigQuiet
import Derived.Test.YtkaapfakalojaaaDoorC7
namespace Go.Proofs.YtkaapfakalojaaaDoor
open Go.ChangeShapes Go.WideShapes Go.ChangeAt Go.RowKit Go.Shelf
set_option linter.unusedVariables false
attribute [local go_sem] Oper.semAt_some
def zX : Ex := .node 0 ⟨0, 0, ⟨#[]⟩⟩ none 0 []
/-- A row with the five cells of an element set. -/
def set5 (cur : Array Value) (o : Nat) (x : Ex) : Array Value := ((((cur.setIfInBounds o (.int .i64 x.op)).setIfInBounds (o + 1) (.int .u8 x.vl.k)).setIfInBounds (o + 2) (.int .i64 x.vl.n)).setIfInBounds (o + 3) (.string x.vl.s)).setIfInBounds (o + 4) (.slice x.adr x.args.length x.cp)
theorem set5_size (cur : Array Value) (o : Nat) (x : Ex) : (set5 cur o x).size = cur.size := by simp [set5]
theorem set5_take (cur : Array Value) (o : Nat) (x : Ex) (xs : List Value) (hs : o + 5 ≤ cur.size) (h : cur.toList.take o = xs) : (set5 cur o x).toList.take (o + 5) = xs ++ enX x := by
  have hl : xs.length = o := by rw [← h]; simp; omega
  apply List.ext_getElem?
  intro i
  by_cases h1 : i < o
  · rw [List.getElem?_append_left (by omega), ← h, List.getElem?_take, if_pos (by omega), List.getElem?_take, if_pos h1]
    simp only [set5, Array.toList_setIfInBounds]
    rw [List.getElem?_set_ne (by omega), List.getElem?_set_ne (by omega), List.getElem?_set_ne (by omega), List.getElem?_set_ne (by omega), List.getElem?_set_ne (by omega)]
  · rw [List.getElem?_append_right (by omega), hl]
    by_cases h2 : i < o + 5
    · rw [List.getElem?_take, if_pos h2]
      simp only [set5, Array.toList_setIfInBounds]
      have hc : i = o ∨ i = o + 1 ∨ i = o + 2 ∨ i = o + 3 ∨ i = o + 4 := by omega
      rcases hc with rfl | rfl | rfl | rfl | rfl
      · rw [List.getElem?_set_ne (by omega), List.getElem?_set_ne (by omega), List.getElem?_set_ne (by omega), List.getElem?_set_ne (by omega), List.getElem?_set_self (by simp; omega)]; simp [enX]
      · rw [List.getElem?_set_ne (by omega), List.getElem?_set_ne (by omega), List.getElem?_set_ne (by omega), List.getElem?_set_self (by simp; omega)]; simp [enX]
      · rw [List.getElem?_set_ne (by omega), List.getElem?_set_ne (by omega), List.getElem?_set_self (by simp; omega)]; simp [enX]
      · rw [List.getElem?_set_ne (by omega), List.getElem?_set_self (by simp; omega)]; simp [enX]
      · rw [List.getElem?_set_self (by simp; omega)]; simp [enX]
    · rw [List.getElem?_take, if_neg h2, List.getElem?_eq_none (by simp [enX]; omega)]
/-- Where the row lies, and what it is once the last element's cells are set. -/
theorem own_put {B : Nat} {w : World} {A : Option Addr} {c : Nat} {es : List Ex} {z : Ex} (h : OwnG 26 5 enX B w A c (es ++ [z])) :
    ∃ g cur, A = some ⟨g, 0, none⟩ ∧ B ≤ g ∧ Blk w g cur 26 ∧ es.length * 5 + 5 ≤ cur.size ∧ ∀ x w', Blk w' g (set5 cur (es.length * 5) x) 26 → OwnG 26 5 enX B w' A c (es ++ [x]) := by
  obtain ⟨hl, h0 | ⟨g, cap, cur, hv, hB, hg, hn, hm, hs, ht⟩⟩ := h
  · exact absurd h0.2 (by simp)
  · simp only [Value.slice.injEq] at hv
    obtain ⟨rfl, _, rfl⟩ := hv
    have hlen : (es ++ [z]).length = es.length + 1 := by simp
    rw [hlen] at hn ht hl
    have hcs : es.length * 5 + 5 ≤ cur.size := by rw [hs]; omega
    refine ⟨g, cur, rfl, hB, hg, hcs, fun x w' hw => ?_⟩
    have hz : cellsG enX (es ++ [z]) = cellsG enX es ++ enX z := by rw [cellsG_append]; simp [cellsG]
    have hx : cellsG enX (es ++ [x]) = cellsG enX es ++ enX x := by rw [cellsG_append]; simp [cellsG]
    have he5 : (cellsG enX es).length = es.length * 5 := cellsG_length elX es
    have ht5 : cur.toList.take (es.length * 5) = cellsG enX es := by
      have := congrArg (List.take (es.length * 5)) ht
      rw [List.take_take, hz, Nat.min_eq_left (by omega), List.take_left' he5] at this
      exact this
    refine ⟨by rw [hx, List.length_append, he5]; simp [enX]; omega, .inr ⟨g, c, _, by rw [show (es ++ [x]).length = es.length + 1 by simp], hB, hw, by simp; omega, hm, by rw [set5_size]; exact hs, ?_⟩⟩
    rw [show (es ++ [x]).length * 5 = es.length * 5 + 5 by simp; omega, hx]
    exact set5_take cur _ x _ hcs ht5
/-- A store of five cells. -/
theorem run_store5 (w : World) (g o : Nat) (cur : Array Value) (hb : Blk w g cur 26) (ho : o + 5 ≤ cur.size) (x : Ex) :
    ∃ w', (storeVar 26 ⟨g, o, none⟩ x.v).run Tryd.prog w = .ok () w' ∧ Blk w' g (set5 cur o x) 26 ∧ (∀ k, k ≠ g → w'.heap[k]? = w.heap[k]?) ∧ w'.heap.size = w.heap.size ∧ Below 0 w w' := by
  have hst : (storeCells ⟨g, o, none⟩ (enX x) 0).run Tryd.prog w = .ok () (w.setCells g o (enX x)) := by
    refine run_storeCells_cells (P := Tryd.prog) g o (enX x) 0 w (fun j hj => ?_) (fun j hj => hb.free _) (elX.one x)
    have : j < 5 := by simpa [enX] using hj
    rw [hb.cell, Array.getElem?_eq_getElem (by omega)]
    rfl
  have b5 := ((((hb.set o (.int .i64 x.op)).set (o + 1) (.int .u8 x.vl.k)).set (o + 1 + 1) (.int .i64 x.vl.n)).set (o + 1 + 1 + 1) (.string x.vl.s)).set (o + 1 + 1 + 1 + 1) (.slice x.adr x.args.length x.cp)
  refine ⟨w.setCells g o (enX x), ?_, b5, fun k hk => ?_, ?_, ?_⟩
  · have h5 : (Go.sizeOf 26).run Tryd.prog w = .ok 5 w := Tryd.sizeOf26 w
    have hc : x.v.cells = (enX x).toArray := rfl
    have hl : (enX x).toArray.size = 5 := rfl
    simp only [storeVar, Sem.run_bind, h5, Result.andThen_ok, hc, hl]
    exact hst
  · simp only [World.setCells, enX]
    rw [Below.heap_setCell _ _ _ _ hk, Below.heap_setCell _ _ _ _ hk, Below.heap_setCell _ _ _ _ hk, Below.heap_setCell _ _ _ _ hk, Below.heap_setCell _ _ _ _ hk]
  · simp [World.setCells, enX, World.setCell]
  · exact (((((Below.refl 0 w).setCell (p := ⟨g, o, none⟩) (Nat.zero_le _) _).setCell (p := ⟨g, o + 1, none⟩) (Nat.zero_le _) _).setCell (p := ⟨g, o + 1 + 1, none⟩) (Nat.zero_le _) _).setCell (p := ⟨g, o + 1 + 1 + 1, none⟩) (Nat.zero_le _) _).setCell (p := ⟨g, o + 1 + 1 + 1 + 1, none⟩) (Nat.zero_le _) _
/-- An append onto a row of the call's own, and where the new row lies. -/
theorem run_append_vals2 {α : Type} {e : TypeId} {sz bt : Nat} {z : Value} {en : α → List Value} (E : El e sz bt z en) (T ty : TypeId) (hT : Tryd.prog.underlying T = some (.slice e)) (w : World) (base : Nat) (A : Option Addr) (c : Nat) (xs : List α) (hown : OwnG e sz en base w A c xs) (B : Option Addr) (d : Nat) (ns : List α) (hr : CellsG en w B d ns)
    (h63 : xs.length + ns.length ≤ 1000000000) (hbt : bt ≤ 1000) (hbase : base ≤ w.heap.size) :
    ∃ A' c' w', (Builtin.append_ #[T, T] ty #[.slice A xs.length c, .slice B ns.length d]).run Tryd.prog w = .ok (.slice A' (xs ++ ns).length c') w' ∧ OwnG e sz en base w' A' c' (xs ++ ns) ∧ w.grownBy w' (Value.slice A xs.length c).ownBlock ∧ (A'.map Addr.block = A.map Addr.block ∨ A'.map Addr.block = some w.heap.size) := by
  obtain ⟨i0, hi, hz0, hz1, hz2⟩ := info_parts E.info
  have hmul : (xs.length + ns.length) * bt ≤ 1000000000 * 1000 := Nat.mul_le_mul h63 hbt
  have hob : ∀ (X : Option Addr) (q r : Nat), (Value.slice X q r).ownBlock = X.map Addr.block := fun X q r => by cases X <;> rfl
  unfold OwnG at *
  rw [List.length_append, cellsG_append]
  rcases hr with ⟨rfl, rfl, rfl⟩ | ⟨a, rfl, hr⟩
  · refine ⟨A, c, w, run_append_owned_none w base T ty e i0 sz hT hi _ _ _ hown, ?_, World.grownBy.refl _ _, .inl rfl⟩
    simpa [cellsG] using hown
  · obtain ⟨v', w', hrun, h2, h3, _, h5⟩ := run_append_own_at (P := Tryd.prog) w base T ty e i0 z sz bt hT hi hz0 hz1 hz2 E.zero E.pos _ _ _ hown a ns.length d (cellsG en ns) (cellsG_length E ns) hr (cellsG_one E ns) (by unfold maxLen; omega) (by omega) hbase
    rcases h2.2 with ⟨hv, h0⟩ | ⟨g, cap, cur, hv, _⟩
    · subst hv
      refine ⟨none, 0, w', ?_, ?_, h3, ?_⟩
      · rw [h0]; exact hrun
      · rw [h0] at h2 ⊢; exact h2
      · rw [hob, hob] at h5; exact h5
    · subst hv
      exact ⟨_, cap, w', hrun, h2, h3, by rw [hob, hob] at h5; exact h5⟩
/-- A step of a drawn region in a round: an append onto a row of the call's own. -/
theorem stepIn_append_X {L N : Nat} {w : World} {ops : Array Oper} {o : Oper} {a : Act} {K : Act → World → Prop} {Q : Exit → Act → World → Prop} {F : Prop} (hg : o.guard = none) (s x : Operand)
    (ho : o.op = .call { callee := .builtin .append, args := #[s, x], argTypes := #[24, 24] })
    (base : Nat) (A : Option Addr) (c : Nat) (xs : List Ex) (hs : a.eval s = .slice A xs.length c) (hown : OwnG 26 5 enX base w A c xs)
    (B : Option Addr) (d : Nat) (ns : List Ex) (hx : a.eval x = .slice B ns.length d) (hr : CellsG enX w B d ns) (h63 : xs.length + ns.length ≤ 1000000000) (hbase : base ≤ w.heap.size)
    (h : ∀ A' c' w' R, Hid (R = xs ++ ns) → OwnG 26 5 enX base w' A' c' R → w.grownBy w' (Value.slice A xs.length c).ownBlock → (A'.map Addr.block = A.map Addr.block ∨ A'.map Addr.block = some w.heap.size) → K (a.put o.dst (.slice A' R.length c')) w') :
    if Region.wanted o (yielded ops a.tmps) = true then Oper.wpIn (Fence.wide.inRound L) N Tryd.prog o a w K Q else F := by
  have hw : Region.wanted o (yielded ops a.tmps) = true := by simp [Region.wanted, hg]
  rw [if_pos hw]
  obtain ⟨A', c', w', hrun, h2, h3, h4⟩ := run_append_vals2 elX 24 o.type Tryd.underlying24 w base A c xs hown B d ns hr h63 (by decide) hbase
  unfold Oper.wpIn
  refine ⟨?_, ?_⟩
  · simp [Oper.about, ho, resolve, Target.leads, Sem.run_pure]
  · rw [Oper.semAt_plain _ _ _ (by rw [ho]; intro c hc'; cases hc')]
    unfold execOp
    simp only [ho, resolve, invoke, builtin, Sem.run_bind, Sem.run_pure, Result.andThen_ok, List.map_toArray, List.map_cons, List.map_nil, hs, hx, hrun]
    exact h A' c' w' _ (Lib.hid rfl) h2 h3 h4
/-- .. and a store of an element into the row. -/
theorem stepIn_store5 {L N : Nat} {w : World} {ops : Array Oper} {o : Oper} {a : Act} {K : Act → World → Prop} {Q : Exit → Act → World → Prop} {F : Prop} (hg : o.guard = none) (s y : Operand)
    (ho : o.op = .store 26 s y) (g i : Nat) (cur : Array Value) (hb : Blk w g cur 26) (hi : i + 5 ≤ cur.size) (x : Ex) (hs : a.eval s = .pointer (some ⟨g, i, none⟩)) (hy : a.eval y = x.v)
    (h : ∀ w', Blk w' g (set5 cur i x) 26 → (∀ k, k ≠ g → w'.heap[k]? = w.heap[k]?) → w'.heap.size = w.heap.size → Below 0 w w' → K (a.put o.dst undef) w') :
    if Region.wanted o (yielded ops a.tmps) = true then Oper.wpIn (Fence.wide.inRound L) N Tryd.prog o a w K Q else F := by
  have hw : Region.wanted o (yielded ops a.tmps) = true := by simp [Region.wanted, hg]
  rw [if_pos hw]
  obtain ⟨w', hrun, h2, h3, h4, h5⟩ := run_store5 w g i cur hb hi x
  unfold Oper.wpIn
  refine ⟨?_, ?_⟩
  · simp [Oper.about, ho]
  · rw [Oper.semAt_plain _ _ _ (by rw [ho]; intro c hc'; cases hc')]
    have hr2 : (Instr.storeAt 26 (.pointer (some ⟨g, i, none⟩)) x.v).run Tryd.prog w = .ok () w' := by simp [Instr.storeAt, Instr.sureAddr, hrun]
    unfold execOp
    simp only [ho, Sem.run_bind, Sem.run_pure, Result.andThen_ok, hs, hy, hr2]
    exact h w' h2 h3 h4 h5
end Go.Proofs.YtkaapfakalojaaaDoor
namespace Go.Proofs.YtkaapfakalojaaaDoor
open Go.ChangeShapes Go.WideShapes Go.ChangeAt Go.RowKit Go.Shelf
set_option linter.unusedVariables false
attribute [local go_sem] Oper.semAt_some
structure RtI (w : World) (e : Ex) (pre : List Pt) (W : World) : Prop where
  res : Blk W (w.heap.size + 1) #[.int .i64 0] 31
  row : ∃ A c, Blk W (w.heap.size + 1 + 1) #[.slice A (pre.map (·.2)).length c] 24 ∧ OwnG 26 5 enX (w.heap.size + 1 + 1 + 1 + 1 + 1) W A c (pre.map (·.2))
  dp : Blk W (w.heap.size + 1 + 1 + 1) #[.int .i64 (maxd pre)] 3
  bx : Blk W (w.heap.size + 1 + 1 + 1 + 1) e.cells 26
  b : Below w.heap.size w W
  le : pre.length ≤ 200
def RtC (w : World) (W : World) (k : Nat) : Prop := k = w.heap.size + 1 ∨ k = w.heap.size + 1 + 1 ∨ k = w.heap.size + 1 + 1 + 1 ∨ ∃ o n c, W.heap[w.heap.size + 1 + 1]? = some (.cells #[.slice (some ⟨k, o, none⟩) n c] 24 (0, 0))
def RtX (w : World) (cd : Code) (pre : List Pt) (W : World) : Prop := cd = .ret ∧ Blk W (w.heap.size + 1) #[.int .i64 9] 31 ∧ Below w.heap.size w W ∧ 200 < pre.length
theorem OwnG.stays {B n : Nat} {W W' : World} {A : Option Addr} {c : Nat} {rs : List Ex} (h : OwnG 26 5 enX B W A c rs) (hs : Stays n W W') : OwnG 26 5 enX B W' A c rs := by
  refine ⟨h.1, ?_⟩
  rcases h.2 with hn | ⟨g, cap, cur, hv, hb, hg, rest⟩
  · exact .inl hn
  · exact .inr ⟨g, cap, cur, hv, hb, hs.cells _ _ hg rfl, rest⟩
theorem RtI.stays {w : World} {e : Ex} (pre : List Pt) (X Y : World) (hs : Stays w.heap.size X Y) (h : RtI w e pre X) : RtI w e pre Y := by
  obtain ⟨h1, ⟨A, c, h2, h3⟩, h4, h5, h6, h7⟩ := h
  exact ⟨hs.cells _ _ h1 rfl, ⟨A, c, hs.cells _ _ h2 rfl, h3.stays hs⟩, hs.cells _ _ h4 rfl, hs.cells _ _ h5 rfl, h6.trans hs.below, h7⟩
theorem RtX.stays {w : World} (cd : Code) (pre : List Pt) (X Y : World) (hs : Stays w.heap.size X Y) (h : RtX w cd pre X) : RtX w cd pre Y := ⟨h.1, hs.cells _ _ h.2.1 rfl, h.2.2.1.trans hs.below, h.2.2.2⟩
theorem RtC.stays {w : World} {e : Ex} (pre : List Pt) (A B : World) (k : Nat) (h : RtI w e pre A) (hs : Stays w.heap.size A B) (hk : RtC w B k) : k < A.heap.size ∧ RtC w A k := by
  rcases hk with rfl | rfl | rfl | ⟨o, n, c, hk⟩
  · exact ⟨h.res.lt, .inl rfl⟩
  · obtain ⟨_, _, h2, _⟩ := h.row; exact ⟨h2.lt, .inr (.inl rfl)⟩
  · exact ⟨h.dp.lt, .inr (.inr (.inl rfl))⟩
  · obtain ⟨A1, c1, h2, h3⟩ := h.row
    have h4 := hs.cells _ _ h2 rfl
    rw [h4] at hk
    simp only [Option.some.injEq, Obj.cells.injEq, Array.mk.injEq, List.cons.injEq, Value.slice.injEq, and_true] at hk
    obtain ⟨rfl, rfl, rfl⟩ := hk
    rcases h3.2 with ⟨hv, _⟩ | ⟨g, cap, cur, hv, hB, hg, _⟩
    · cases hv
    · simp only [Value.slice.injEq, Option.some.injEq, Addr.mk.injEq] at hv
      obtain ⟨⟨rfl, rfl, _⟩, _, rfl⟩ := hv
      exact ⟨(Array.getElem?_eq_some_iff.1 hg).1, .inr (.inr (.inr ⟨0, _, _, h2⟩))⟩
/-- The frame of a round behind the assignment. -/
def RtAct (w : World) (e : Ex) (x : Pt) (Bf : Nat) : Act :=
  { tmps := #[e.v, .pointer (some ⟨w.heap.size, 0, none⟩), .pointer (some ⟨w.heap.size + 1, 0, none⟩), .pointer (some ⟨w.heap.size + 1 + 1, 0, none⟩), .pointer (some ⟨w.heap.size + 1 + 1 + 1, 0, none⟩), .int .i64 x.1, .pointer (some ⟨Bf, 0, none⟩), e.v,
      .func (.func 42) #[] #[.pointer (some ⟨w.heap.size + 1 + 1 + 1 + 1, 0, none⟩)], .int .i64 x.1, x.2.v, undef, undef, undef, undef, undef, undef, undef, undef, undef, undef, undef, undef, undef, undef, undef, undef, undef, undef, undef, undef, undef], defers := [] }
def RtA (w : World) (e : Ex) (pre : List Pt) (x : Pt) (a' : Act) (W : World) : Prop := ∃ Bf, a' = RtAct w e x Bf ∧ Blk W Bf x.2.cells 26 ∧ pre ++ [x] <+: e.walk 1 ∧ w.heap.size + 1 + 1 + 1 + 1 < Bf
theorem RtA.stays {w : World} {e : Ex} (pre : List Pt) (x : Pt) (a' : Act) (X Y : World) (hs : Stays w.heap.size X Y) (h : RtA w e pre x a' X) : RtA w e pre x a' Y := by
  obtain ⟨Bf, h1, h2, h3⟩ := h
  exact ⟨Bf, h1, hs.cells _ _ h2 rfl, h3⟩
/-- The store that ends a round early. -/
theorem RtI.stop {w : World} {e : Ex} {pre : List Pt} {x : Pt} {W : World} (h : RtI w e pre W) (hl : pre.length = 200) : KeepsOthers W (W.setCell ⟨w.heap.size + 1, 0, none⟩ (.int .i64 9)) ∧ RtX w .ret (pre ++ [x]) (W.setCell ⟨w.heap.size + 1, 0, none⟩ (.int .i64 9)) := by
  refine ⟨KeepsOthers.setCell _ _ _, rfl, ?_, h.b.setCell (p := ⟨w.heap.size + 1, 0, none⟩) (by show w.heap.size ≤ w.heap.size + 1; omega) _, by simp; omega⟩
  simpa using h.res.set 0 (.int .i64 9)
/-- What a round that goes on does to memory, up to the greatest depth. -/
structure RtPut (w : World) (e : Ex) (pre : List Pt) (x : Pt) (W W9 : World) : Prop where
  res : Blk W9 (w.heap.size + 1) #[.int .i64 0] 31
  row : ∃ A c, Blk W9 (w.heap.size + 1 + 1) #[.slice A ((pre ++ [x]).map (·.2)).length c] 24 ∧ OwnG 26 5 enX (w.heap.size + 1 + 1 + 1 + 1 + 1) W9 A c ((pre ++ [x]).map (·.2))
  dp : Blk W9 (w.heap.size + 1 + 1 + 1) #[.int .i64 (maxd pre)] 3
  bx : Blk W9 (w.heap.size + 1 + 1 + 1 + 1) e.cells 26
  b : Below w.heap.size w W9
  ko : KeepsOthers W W9
  kc : KpC (RtC w) W W9
/-- The worlds of a round: W1 behind the literal, W5 behind the append, W9 behind the two stores. -/
theorem RtI.put {w : World} {e : Ex} {pre : List Pt} {x : Pt} {W W5 W9 : World} {Z : Obj} {A A7 : Option Addr} {c c7 g : Nat} {cur : Array Value} {R : List Ex} (h : RtI w e pre W) (hbl : Blk W (w.heap.size + 1 + 1) #[.slice A (pre.map (·.2)).length c] 24) (hown : OwnG 26 5 enX (w.heap.size + 1 + 1 + 1 + 1 + 1) W A c (pre.map (·.2)))
    (hg5 : ((W.alloc Z).drew).grownBy W5 (Value.slice A (pre.map (·.2)).length c).ownBlock) (ho5 : OwnG 26 5 enX (w.heap.size + 1 + 1 + 1 + 1 + 1) W5 A7 c7 R) (hR : R = pre.map (·.2) ++ [zX])
    (hA7 : A7 = some ⟨g, 0, none⟩) (hB : w.heap.size + 1 + 1 + 1 + 1 + 1 ≤ g) (hput : ∀ x w', Blk w' g (set5 cur ((pre.map (·.2)).length * 5) x) 26 → OwnG 26 5 enX (w.heap.size + 1 + 1 + 1 + 1 + 1) w' A7 c7 (pre.map (·.2) ++ [x]))
    (hgr : A7.map Addr.block = A.map Addr.block ∨ A7.map Addr.block = some ((W.alloc Z).drew).heap.size) (hl : pre.length < 200)
    (h9b : Blk W9 (w.heap.size + 1 + 1) #[.slice A7 R.length c7] 24) (h9g : Blk W9 g (set5 cur ((pre.map (·.2)).length * 5) x.2) 26) (h9k : ∀ k, k ≠ g → k ≠ w.heap.size + 1 + 1 → W9.heap[k]? = W5.heap[k]?) (h9s : W9.heap.size = W5.heap.size) (h90 : Below 0 W5 W9) : RtPut w e pre x W W9 := by
  subst hA7
  obtain ⟨hres, _, hdp, hbx, hb, hle⟩ := h
  have hsz0 : w.heap.size + 1 + 1 + 1 + 1 < W.heap.size := hbx.lt
  have hrow : ∀ k, (Value.slice A (pre.map (·.2)).length c).ownBlock = some k → w.heap.size + 1 + 1 + 1 + 1 + 1 ≤ k := fun k hk => (hown.row k hk).1
  have k5 : ∀ k, k < W.heap.size → k ≠ g → k ≠ w.heap.size + 1 + 1 → (Value.slice A (pre.map (·.2)).length c).ownBlock ≠ some k → W9.heap[k]? = W.heap[k]? := fun k hk h1 h2 h3 => by
    rw [h9k k h1 h2, hg5.block k (by simp; omega) (fun e => h3 e.symm)]
    exact Below.heap_alloc W Z k hk
  have q : ∀ k, k < w.heap.size + 1 + 1 + 1 + 1 + 1 → k ≠ w.heap.size + 1 + 1 → W9.heap[k]? = W.heap[k]? := fun k hk h2 => k5 k (by omega) (by omega) h2 (fun e => by have := hrow k e; omega)
  have hs9 : W.heap.size ≤ W9.heap.size := by rw [h9s]; have := hg5.size; simp at this; omega
  have hpm : (pre ++ [x]).map (·.2) = pre.map (·.2) ++ [x.2] := by simp
  have hRl : R.length = (pre.map (·.2) ++ [x.2]).length := by rw [hR]; simp
  refine ⟨(q _ (by omega) (by omega)).trans hres, ⟨some ⟨g, 0, none⟩, c7, by rw [hpm, ← hRl]; exact h9b, by rw [hpm]; exact hput _ _ h9g⟩, (q _ (by omega) (by omega)).trans hdp, (q _ (by omega) (by omega)).trans hbx, ?_, ?_, ?_⟩
  · exact ⟨h90.os.trans (hg5.os.trans hb.os), h90.tape.trans (hg5.tape.trans hb.tape), h90.output.trans (hg5.output.trans hb.output), Nat.le_trans hb.size hs9, fun k hk => (q k (by omega) (by omega)).trans (hb.block k hk)⟩
  · refine ⟨hs9, fun k o hk ho => ?_⟩
    have hkl : k < W.heap.size := (Array.getElem?_eq_some_iff.1 hk).1
    rw [k5 k hkl ?_ ?_ ?_]
    · exact hk
    · rintro rfl
      rcases hgr with h1 | h1
      · cases A with
        | none => cases h1
        | some a =>
          simp only [Option.map_some, Option.some.injEq] at h1
          obtain ⟨_, cur2, z2, h2⟩ := hown.row a.block rfl
          rw [← h1] at h2
          rw [hk] at h2
          cases h2
          cases ho
      · simp only [Option.map_some, Option.some.injEq] at h1
        simp at h1; omega
    · rintro rfl
      rw [hbl] at hk
      cases hk
      cases ho
    · intro e
      obtain ⟨_, cur2, z2, h2⟩ := hown.row k e
      rw [hk] at h2
      cases h2
      cases ho
  · refine ⟨hs9, fun k hk hc => ?_⟩
    have c1 : k ≠ w.heap.size + 1 + 1 := fun e => hc (.inr (.inl e))
    have c2 : (Value.slice A (pre.map (·.2)).length c).ownBlock ≠ some k := fun e => hc (by
      cases A with
      | none => cases e
      | some a =>
        rcases hown.2 with ⟨hv, _⟩ | ⟨g', cap, cur', hv, _⟩
        · cases hv
        · simp only [Value.slice.injEq, Option.some.injEq] at hv
          obtain ⟨rfl, _, rfl⟩ := hv
          simp only [Value.ownBlock, Option.some.injEq] at e
          subst e
          exact .inr (.inr (.inr ⟨0, _, _, hbl⟩)))
    have c3 : k ≠ g := by
      rintro rfl
      rcases hgr with h1 | h1
      · cases A with
        | none => cases h1
        | some a =>
          simp only [Option.map_some, Option.some.injEq] at h1
          exact c2 (by simp [Value.ownBlock, h1])
      · simp only [Option.map_some, Option.some.injEq] at h1
        simp at h1; omega
    refine ⟨k5 k hk c3 c1 c2, ?_⟩
    rintro (rfl | rfl | rfl | ⟨o, n, c', hk9⟩)
    · exact hc (.inl rfl)
    · exact c1 rfl
    · exact hc (.inr (.inr (.inl rfl)))
    · rw [h9b] at hk9
      simp only [Option.some.injEq, Obj.cells.injEq, Array.mk.injEq, List.cons.injEq, Value.slice.injEq, Addr.mk.injEq, and_true] at hk9
      exact c3 hk9.1.1.symm
end Go.Proofs.YtkaapfakalojaaaDoor
namespace Go.Proofs.YtkaapfakalojaaaDoor
open Go.ChangeShapes Go.WideShapes Go.ChangeAt Go.RowKit Go.Shelf
set_option linter.unusedVariables false
attribute [local go_sem] Oper.semAt_some
theorem RtPut.set {w : World} {e : Ex} {pre : List Pt} {x : Pt} {W W9 : World} (h : RtPut w e pre x W W9) (hl : pre.length < 200) (n : Int) (hn : n = maxd (pre ++ [x])) : KeepsOthers W (W9.setCell ⟨w.heap.size + 1 + 1 + 1, 0, none⟩ (.int .i64 n)) ∧ KpC (RtC w) W (W9.setCell ⟨w.heap.size + 1 + 1 + 1, 0, none⟩ (.int .i64 n)) ∧ RtI w e (pre ++ [x]) (W9.setCell ⟨w.heap.size + 1 + 1 + 1, 0, none⟩ (.int .i64 n)) := by
  subst hn
  obtain ⟨h1, ⟨A, c, h2, h3⟩, h4, h5, h6, h7, h8⟩ := h
  refine ⟨h7.trans (KeepsOthers.setCell _ _ _), h8.trans ⟨by simp [World.setCell], fun k hk hc => ⟨Below.heap_setCell _ _ _ k (fun e => hc (.inr (.inr (.inl e)))), fun hc9 => hc ?_⟩⟩, h1.other (by show w.heap.size + 1 ≠ w.heap.size + 1 + 1 + 1; omega) _, ⟨A, c, h2.other (by show w.heap.size + 1 + 1 ≠ w.heap.size + 1 + 1 + 1; omega) _, OwnG.other h3 h4 (by decide) _ _⟩, ?_, h5.other (by show w.heap.size + 1 + 1 + 1 + 1 ≠ w.heap.size + 1 + 1 + 1; omega) _, h6.setCell (p := ⟨w.heap.size + 1 + 1 + 1, 0, none⟩) (by show w.heap.size ≤ w.heap.size + 1 + 1 + 1; omega) _, by simp; omega⟩
  · rcases hc9 with hc9 | hc9 | hc9 | ⟨o, n, c9, hc9⟩
    · exact .inl hc9
    · exact .inr (.inl hc9)
    · exact .inr (.inr (.inl hc9))
    · rw [Below.heap_setCell _ _ _ _ (by show w.heap.size + 1 + 1 ≠ w.heap.size + 1 + 1 + 1; omega)] at hc9
      exact .inr (.inr (.inr ⟨o, n, c9, hc9⟩))
  · have := h4.set 0 (.int .i64 (maxd (pre ++ [x])))
    simpa using this
theorem cells5_of {W : World} {g : Nat} {x : Ex} (h : Blk W g x.cells 26) : W.cell? ⟨g, 0, none⟩ = some (.int .i64 x.op) ∧ W.cell? ⟨g, 1, none⟩ = some (.int .u8 x.vl.k) ∧ W.cell? ⟨g, 2, none⟩ = some (.int .i64 x.vl.n) ∧ W.cell? ⟨g, 3, none⟩ = some (.string x.vl.s) ∧ W.cell? ⟨g, 4, none⟩ = some (.slice x.adr x.args.length x.cp) := Blk.cells5 h
set_option maxRecDepth 100000 in
set_option maxHeartbeats 4000000 in
theorem right_body (w : World) (e : Ex) (L : Nat) (pre : List Pt) (x : Pt) (a' : Act) (W : World) (hi : RtI w e pre W) (ha : RtA w e pre x a' W) (body : Code)
    (hb : body = Code.skip) : True := trivial
end Go.Proofs.YtkaapfakalojaaaDoor
namespace Go.Proofs.YtkaapfakalojaaaDoor
open Go.ChangeShapes Go.WideShapes Go.ChangeAt Go.RowKit
set_option linter.unusedVariables false
set_option maxRecDepth 20000
def misX (x : Ex) : Bool := !decide ((x.args.length : Int) = arity x.op)
def longX (x : Ex) : Bool := decide (x.op = 0) && (decide (x.vl.k ≠ 0) && decide (65536 < x.vl.s.size))
set_option maxHeartbeats 4000000 in
theorem mis_calls (x : Ex) (w : World) (hT : OpTab w) : Calls Tryd.prog 29 #[x.v] w fun q w' => q = .returned (.bool (misX x)) ∧ Below w.heap.size w w' := by
  have hb := below_one w (.cells #[.int .i64 x.op, .int .u8 x.vl.k, .int .i64 x.vl.n, .string x.vl.s, .slice x.adr x.args.length x.cp] 26)
  have bx := Blk.new w #[.int .i64 x.op, .int .u8 x.vl.k, .int .i64 x.vl.n, .string x.vl.s, .slice x.adr x.args.length x.cp] 26
  have HI := Lib.hid (fun W => isop_calls x.op W)
  have hT2 := hT.below hb
  have HA := Lib.hid (fun k => arity_calls x.op _ (show OpTab (World.drewN (w.alloc (.cells #[.int .i64 x.op, .int .u8 x.vl.k, .int .i64 x.vl.n, .string x.vl.s, .slice x.adr x.args.length x.cp] 26)) k) from ⟨hT2.lt, hT2.name, hT2.ar⟩))
  have hao := fun h : isOp x.op = false => arity_out h
  unfold misX
  unfold Ex.v
  generalize x.op = p0 at *
  generalize x.vl.k = p1 at *
  generalize x.vl.n = p2 at *
  generalize x.vl.s = p3 at *
  generalize x.adr = p4 at *
  generalize x.args.length = ln at *
  generalize x.cp = p6 at *
  obtain ⟨x0, x1, x2, x3, x4⟩ := bx.cells5
  have HB := Lib.hid hb
  clear bx hT hT2 hb
  cases hop : isOp p0 with
  | true =>
    rw [hop] at HI
    generalize arity p0 = ar at *
    by_cases hl : (ln : Int) = ar
    · have e1 : ((ln : Int) != ar) = false := by simpa using hl
      rw [decide_eq_true hl]
      clear hop hao hl
      go_enter Tryd.func29, Tryd.ntmps29
      go_wp2_with fail
      go_quiet (first | (go_at_call 39; refine Calls.quiet_of_same (HI.out _)) | (go_at_call 22; refine Calls.quiet_of_same (HA.out _)))
      go_wp2
      go_ret
      exact ⟨rfl, HB.out.os, HB.out.tape, HB.out.output, HB.out.size, HB.out.block⟩
    · have e1 : ((ln : Int) != ar) = true := by simpa using hl
      rw [decide_eq_false hl]
      clear hop hao hl
      go_enter Tryd.func29, Tryd.ntmps29
      go_wp2_with fail
      go_quiet (first | (go_at_call 39; refine Calls.quiet_of_same (HI.out _)) | (go_at_call 22; refine Calls.quiet_of_same (HA.out _)))
      go_wp2
      go_ret
      exact ⟨rfl, HB.out.os, HB.out.tape, HB.out.output, HB.out.size, HB.out.block⟩
  | false =>
    rw [hop] at HI
    have hl : ¬ (ln : Int) = arity p0 := by rw [hao hop]; omega
    rw [decide_eq_false hl]
    clear hop hao hl HA
    go_enter Tryd.func29, Tryd.ntmps29
    go_wp2_with fail
    go_quiet ((go_at_call 39; refine Calls.quiet_of_same (HI.out _)))
    go_wp2
    go_ret
    exact ⟨rfl, HB.out.os, HB.out.tape, HB.out.output, HB.out.size, HB.out.block⟩
set_option maxHeartbeats 4000000 in
theorem long_calls (x : Ex) (w : World) : Calls Tryd.prog 30 #[x.v] w fun q w' => q = .returned (.bool (longX x)) ∧ Below w.heap.size w w' := by
  have hb := below_one w (.cells #[.int .i64 x.op, .int .u8 x.vl.k, .int .i64 x.vl.n, .string x.vl.s, .slice x.adr x.args.length x.cp] 26)
  have bx := Blk.new w #[.int .i64 x.op, .int .u8 x.vl.k, .int .i64 x.vl.n, .string x.vl.s, .slice x.adr x.args.length x.cp] 26
  have HS := Lib.hid (isstr_calls x.vl.k x.vl.n x.vl.s (w.alloc (.cells #[.int .i64 x.op, .int .u8 x.vl.k, .int .i64 x.vl.n, .string x.vl.s, .slice x.adr x.args.length x.cp] 26)))
  have hb2 : Below w.heap.size w ((w.alloc (.cells #[.int .i64 x.op, .int .u8 x.vl.k, .int .i64 x.vl.n, .string x.vl.s, .slice x.adr x.args.length x.cp] 26)).alloc (.cells #[.int .u8 x.vl.k, .int .i64 x.vl.n, .string x.vl.s] 23)) := hb.alloc (by simp) _
  have bx2 := bx.alloc (.cells #[.int .u8 x.vl.k, .int .i64 x.vl.n, .string x.vl.s] 23)
  unfold longX
  unfold Ex.v
  generalize x.op = p0 at *
  generalize x.vl.k = p1 at *
  generalize x.vl.n = p2 at *
  generalize x.vl.s = p3 at *
  generalize x.adr = p4 at *
  generalize x.args.length = ln at *
  generalize x.cp = p6 at *
  obtain ⟨x0, x1, x2, x3, x4⟩ := bx.cells5
  obtain ⟨z0, z1, z2, z3, z4⟩ := bx2.cells5
  have HB := Lib.hid hb
  have HB2 := Lib.hid hb2
  clear bx bx2 hb hb2
  by_cases h0 : p0 = 0
  · have e0 : (p0 == 0) = true := by simpa using h0
    rw [decide_eq_true h0, Bool.true_and]
    by_cases hk : p1 = 0
    · have e1 : (p1 != 0) = false := by simpa using hk
      rw [e1] at HS
      rw [show (decide (p1 ≠ 0) && decide (65536 < p3.size)) = false by simp [hk]]
      clear h0 hk
      go_enter Tryd.func30, Tryd.ntmps30
      go_wp2_with fail
      refine HS.out.mono ?_
      rintro e w' ⟨rfl, h9⟩
      subst h9
      dsimp only
      go_wp2
      go_ret
      exact ⟨rfl, HB2.out⟩
    · have e1 : (p1 != 0) = true := by simpa using hk
      rw [e1] at HS
      rw [show (decide (p1 ≠ 0) && decide (65536 < p3.size)) = decide ((65536 : Int) < (p3.size : Int)) by rw [decide_eq_true hk, Bool.true_and]; apply decide_eq_decide.2; omega]
      clear h0 hk
      go_enter Tryd.func30, Tryd.ntmps30
      go_wp2_with fail
      refine HS.out.mono ?_
      rintro e w' ⟨rfl, h9⟩
      subst h9
      dsimp only
      go_wp2
      go_ret
      exact ⟨rfl, HB2.out⟩
  · have e0 : (p0 == 0) = false := by simpa using h0
    rw [decide_eq_false h0, Bool.false_and]
    clear h0
    go_enter Tryd.func30, Tryd.ntmps30
    go_wp2
    go_ret
    exact ⟨rfl, HB.out⟩
end Go.Proofs.YtkaapfakalojaaaDoor
namespace Go.Proofs.YtkaapfakalojaaaDoor
open Go.ChangeShapes Go.WideShapes Go.ChangeAt Go.RowKit
set_option linter.unusedVariables false
set_option maxRecDepth 20000
def RelIf (p : Ex → Bool) (l : List Ex) (w : World) (i : Value) (wr : World) : Prop := ∃ j : Nat, i = .int .i64 j ∧ j ≤ l.length ∧ Hid (∀ x ∈ l.take j, p x = false) ∧ Below w.heap.size w wr
theorem any_false {p : Ex → Bool} {l : List Ex} (h : ∀ x ∈ l, p x = false) : l.any p = false := by
  rw [List.any_eq_false]
  intro x hx
  rw [h x hx]; simp

set_option maxHeartbeats 4000000 in
theorem mis_index_calls (A : Option Addr) (c : Nat) (l : List Ex) (w : World) (hc : CellsG enX w A c l) (hl : l.length ≤ 1000) (hT : OpTab w) : Calls Tryd.prog 44 #[.slice A l.length c, .func (.func 29) #[] #[]] w fun q w' => (∃ i : Int, q = .returned (.int .i64 i) ∧ decide (0 ≤ i) = l.any misX) ∧ Below w.heap.size w w' := by
  have HC := Lib.hid hc
  have HF := Lib.hid (fun (x : Ex) (W : World) (hW : Below w.heap.size w W) => mis_calls x W (hT.below hW))
  obtain ⟨ln, hln⟩ : ∃ ln, ln = l.length := ⟨_, rfl⟩
  have HLN := Lib.hid hln
  rw [← hln]
  rw [← hln] at hl
  clear hc hln hT
  go_enter Tryd.func44, Tryd.ntmps44
  go_wp2_with fail
  go_loopw [8] (RelIf misX l w) (fun i _ => 1001 - (intOf i).toNat)
  case atStart => exact ⟨0, rfl, Nat.zero_le _, Lib.hid (by simp), Below.refl _ _⟩
  case round =>
    obtain ⟨j, rfl, hj, hno, hbr⟩ := hrel
    rw [← HLN.out] at hj
    have HBR := Lib.hid hbr
    have HNO := Lib.hid hno.out
    clear hbr hno
    by_cases hlt : j < ln
    · obtain ⟨x, hx⟩ : ∃ x, l[j]? = some x := ⟨l[j]'(by rw [← HLN.out]; exact hlt), by simp⟩
      obtain ⟨b, o, hA, hb, hck⟩ := arg_cells HC.out (by rw [← HLN.out]; omega)
      subst hA
      obtain ⟨a0, a1, a2, a3, a4⟩ := hck j x hx wr HBR.out
      have HX := Lib.hid hx
      have HM := Lib.hid (List.mem_of_getElem? hx)
      have HCC := Lib.hid (HF.out x wr HBR.out)
      have h1i : (j : Int) < (ln : Int) := by omega
      obtain ⟨y, hy⟩ : ∃ y, y = misX x := ⟨_, rfl⟩
      rw [← hy] at HCC
      have HY := Lib.hid hy
      unfold Ex.v at HCC
      generalize x.op = p0 at *
      generalize x.vl.k = p1 at *
      generalize x.vl.n = p2 at *
      generalize x.vl.s = p3 at *
      generalize x.adr = p4 at *
      generalize x.args.length = p5 at *
      generalize x.cp = p6 at *
      clear hck hx hy hb hj
      go_wp2_with fail
      refine HCC.out.mono ?_
      rintro q w2 ⟨rfl, hb2⟩
      have HB2 := Lib.hid (HBR.out.trans (hb2.mono HBR.out.size))
      clear hb2
      dsimp only
      cases y with
      | false =>
        go_wp2
        go_roundw
        case rel => exact ⟨j + 1, by go_num, by rw [← HLN.out]; omega, Lib.hid (fun z hz => by
          rw [take_snoc HX.out] at hz
          rcases List.mem_append.1 hz with hz | hz
          · exact HNO.out z hz
          · simp only [List.mem_singleton] at hz; subst hz; exact HY.out.symm), HB2.out⟩
        case measure => simp [intOf]; omega
      | true =>
        go_wp2
        go_ret
        exact ⟨⟨j, rfl, by rw [List.any_eq_true.2 ⟨x, HM.out, HY.out.symm⟩]; simp⟩, HB2.out⟩
    · have h1i : ¬ (j : Int) < (ln : Int) := by omega
      have hall : l.any misX = false := any_false (fun x hx => HNO.out x (by
        have : j = l.length := by rw [← HLN.out]; omega
        rw [this, List.take_length]; exact hx))
      have HALL := Lib.hid hall
      clear hall
      go_wp2
      go_ret
      exact ⟨⟨-1, rfl, by rw [HALL.out]; rfl⟩, HBR.out⟩
theorem mis_contains_calls (A : Option Addr) (c : Nat) (l : List Ex) (w : World) (hc : CellsG enX w A c l) (hl : l.length ≤ 1000) (hT : OpTab w) : Calls Tryd.prog 28 #[.slice A l.length c, .func (.func 29) #[] #[]] w fun q w' => q = .returned (.bool (l.any misX)) ∧ Below w.heap.size w w' := by
  have HI := Lib.hid (mis_index_calls A c l w hc hl hT)
  generalize l.any misX = y at *
  generalize l.length = ln at *
  clear hc hl hT
  go_enter Tryd.func28, Tryd.ntmps28
  go_wp2_with fail
  refine HI.out.mono ?_
  rintro q w2 ⟨⟨i, rfl, hi⟩, hb⟩
  have HB := Lib.hid hb
  subst hi
  clear hb
  dsimp only
  go_wp2
  go_ret
  exact ⟨rfl, HB.out⟩

set_option maxHeartbeats 4000000 in
theorem long_index_calls (A : Option Addr) (c : Nat) (l : List Ex) (w : World) (hc : CellsG enX w A c l) (hl : l.length ≤ 1000) : Calls Tryd.prog 44 #[.slice A l.length c, .func (.func 30) #[] #[]] w fun q w' => (∃ i : Int, q = .returned (.int .i64 i) ∧ decide (0 ≤ i) = l.any longX) ∧ Below w.heap.size w w' := by
  have HC := Lib.hid hc
  have HF := Lib.hid (fun (x : Ex) (W : World) (hW : Below w.heap.size w W) => long_calls x W)
  obtain ⟨ln, hln⟩ : ∃ ln, ln = l.length := ⟨_, rfl⟩
  have HLN := Lib.hid hln
  rw [← hln]
  rw [← hln] at hl
  clear hc hln
  go_enter Tryd.func44, Tryd.ntmps44
  go_wp2_with fail
  go_loopw [8] (RelIf longX l w) (fun i _ => 1001 - (intOf i).toNat)
  case atStart => exact ⟨0, rfl, Nat.zero_le _, Lib.hid (by simp), Below.refl _ _⟩
  case round =>
    obtain ⟨j, rfl, hj, hno, hbr⟩ := hrel
    rw [← HLN.out] at hj
    have HBR := Lib.hid hbr
    have HNO := Lib.hid hno.out
    clear hbr hno
    by_cases hlt : j < ln
    · obtain ⟨x, hx⟩ : ∃ x, l[j]? = some x := ⟨l[j]'(by rw [← HLN.out]; exact hlt), by simp⟩
      obtain ⟨b, o, hA, hb, hck⟩ := arg_cells HC.out (by rw [← HLN.out]; omega)
      subst hA
      obtain ⟨a0, a1, a2, a3, a4⟩ := hck j x hx wr HBR.out
      have HX := Lib.hid hx
      have HM := Lib.hid (List.mem_of_getElem? hx)
      have HCC := Lib.hid (HF.out x wr HBR.out)
      have h1i : (j : Int) < (ln : Int) := by omega
      obtain ⟨y, hy⟩ : ∃ y, y = longX x := ⟨_, rfl⟩
      rw [← hy] at HCC
      have HY := Lib.hid hy
      unfold Ex.v at HCC
      generalize x.op = p0 at *
      generalize x.vl.k = p1 at *
      generalize x.vl.n = p2 at *
      generalize x.vl.s = p3 at *
      generalize x.adr = p4 at *
      generalize x.args.length = p5 at *
      generalize x.cp = p6 at *
      clear hck hx hy hb hj
      go_wp2_with fail
      refine HCC.out.mono ?_
      rintro q w2 ⟨rfl, hb2⟩
      have HB2 := Lib.hid (HBR.out.trans (hb2.mono HBR.out.size))
      clear hb2
      dsimp only
      cases y with
      | false =>
        go_wp2
        go_roundw
        case rel => exact ⟨j + 1, by go_num, by rw [← HLN.out]; omega, Lib.hid (fun z hz => by
          rw [take_snoc HX.out] at hz
          rcases List.mem_append.1 hz with hz | hz
          · exact HNO.out z hz
          · simp only [List.mem_singleton] at hz; subst hz; exact HY.out.symm), HB2.out⟩
        case measure => simp [intOf]; omega
      | true =>
        go_wp2
        go_ret
        exact ⟨⟨j, rfl, by rw [List.any_eq_true.2 ⟨x, HM.out, HY.out.symm⟩]; simp⟩, HB2.out⟩
    · have h1i : ¬ (j : Int) < (ln : Int) := by omega
      have hall : l.any longX = false := any_false (fun x hx => HNO.out x (by
        have : j = l.length := by rw [← HLN.out]; omega
        rw [this, List.take_length]; exact hx))
      have HALL := Lib.hid hall
      clear hall
      go_wp2
      go_ret
      exact ⟨⟨-1, rfl, by rw [HALL.out]; rfl⟩, HBR.out⟩
theorem long_contains_calls (A : Option Addr) (c : Nat) (l : List Ex) (w : World) (hc : CellsG enX w A c l) (hl : l.length ≤ 1000) : Calls Tryd.prog 28 #[.slice A l.length c, .func (.func 30) #[] #[]] w fun q w' => q = .returned (.bool (l.any longX)) ∧ Below w.heap.size w w' := by
  have HI := Lib.hid (long_index_calls A c l w hc hl)
  generalize l.any longX = y at *
  generalize l.length = ln at *
  clear hc hl
  go_enter Tryd.func28, Tryd.ntmps28
  go_wp2_with fail
  refine HI.out.mono ?_
  rintro q w2 ⟨⟨i, rfl, hi⟩, hb⟩
  have HB := Lib.hid hb
  subst hi
  clear hb
  dsimp only
  go_wp2
  go_ret
  exact ⟨rfl, HB.out⟩
end Go.Proofs.YtkaapfakalojaaaDoor
namespace Go.Proofs.YtkaapfakalojaaaDoor
open Go.ChangeShapes Go.WideShapes Go.ChangeAt Go.RowKit Go.Shelf
set_option linter.unusedVariables false
attribute [local go_sem] Oper.semAt_some
theorem walk_mis : ∀ (e : Ex) (d : Int), ((e.walk d).map (·.2)).any misX = !e.shaped := by
  intro e
  induction e using Ex.ind with
  | h op v A c l ih =>
    intro d
    have key : ∀ l : List Ex, (∀ e ∈ l, ∀ d, ((e.walk d).map (·.2)).any misX = !e.shaped) → ∀ d, ((walkL d l).map (·.2)).any misX = !shapedL l := by
      intro l
      induction l with
      | nil => intro _ d; simp [walkL, shapedL]
      | cons e l ihl =>
        intro h d
        rw [walkL, List.map_append, List.any_append, h e (by simp), ihl (fun x hx => h x (by simp [hx])), shapedL, Bool.not_and]
    simp only [Ex.walk, List.map_cons, List.any_cons, key l ih, misX, Ex.args, Ex.op, Ex.shaped, Bool.not_and]
    rfl
theorem walk_long : ∀ (e : Ex) (d : Int), ((e.walk d).map (·.2)).any longX = e.wide := by
  intro e
  induction e using Ex.ind with
  | h op v A c l ih =>
    intro d
    have key : ∀ l : List Ex, (∀ e ∈ l, ∀ d, ((e.walk d).map (·.2)).any longX = e.wide) → ∀ d, ((walkL d l).map (·.2)).any longX = wideL l := by
      intro l
      induction l with
      | nil => intro _ d; simp [walkL, wideL]
      | cons e l ihl =>
        intro h d
        rw [walkL, List.map_append, List.any_append, h e (by simp), ihl (fun x hx => h x (by simp [hx])), wideL]
    simp only [Ex.walk, List.map_cons, List.any_cons, key l ih, longX, Ex.vl, Ex.op, Ex.wide]
    rfl
theorem lv31 {w : World} {a : Addr} {v : Value} (h : w.cell? a = some v) : (loadVar 31 a).run Tryd.prog w = .ok v w := by
  go_simp
/-- A function whose result lies in a cell returns behind a range loop. -/
theorem ret_cell {N : Nat} {f : Func} {R : Ending → World → Prop} {p : Tmp} (hres : f.results = #[.cell p 31]) {a : Act} {W : World} {D B : Nat} {v : Value} (hdef : a.defers = [{ target := .collected D, args := #[] }]) (hp : a.tmps.getD p undef = .pointer (some ⟨B, 0, none⟩))
    (hK : W.heap[D]? = some (.deferred (some []))) (hb : Blk W B #[v] 31) (hR : R (.returned v) (W.putObj D (.deferred none))) : bodyPostM Fence.wide N Tryd.prog f R Exit.ret a W := by
  show LeavesInM _ _ _ _ _ _ a.defers _ _
  rw [hdef]
  refine ⟨by simp, .inl ⟨_, _, rfl, run_takeDeferred hK, ?_⟩⟩
  have hs : Stays D W (W.putObj D (.deferred none)) := Stays.putObj _ hK rfl (Nat.le_refl _)
  have hb2 : Blk (W.putObj D (.deferred none)) B #[v] 31 := hs.cells _ _ hb rfl
  exact ⟨_, results_cell1 hres _ _ _ _ _ hp (lv31 (hb2.cell 0)), hR⟩
end Go.Proofs.YtkaapfakalojaaaDoor
