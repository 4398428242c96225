/-
  Slices of values of any element type (of one cell or several), told as a list: what it means that one lies in memory, or is the call's own; append, index, cut. Conditions: as in the premises.
-/
import Derived.Test.YtdgdkkapikopnaaDoorLL
import Derived.OwnWalkIn
namespace Go.Proofs.YtdgdkkapikopnaaDoor
open Go.ChangeShapes Go.WideShapes Go.ChangeAt Go.RowKit
set_option linter.unusedVariables false
variable {α : Type}

/-- An element type of the program: its zero value, its cells, its bytes; how an element is laid in cells. -/
structure El (e : TypeId) (sz bt : Nat) (z : Value) (en : α → List Value) : Prop where
  info : (Tryd.prog.info? e).map (fun i => (i.zero, i.size, i.bytes)) = some (some z, sz, bt)
  zero : z.cells.size = sz
  pos : 0 < sz
  len : ∀ x, (en x).length = sz
  one : ∀ x, ∀ u ∈ en x, u.oneCell' = true

def cellsG (en : α → List Value) (xs : List α) : List Value := xs.flatMap en
theorem cellsG_append (en : α → List Value) (a b : List α) : cellsG en (a ++ b) = cellsG en a ++ cellsG en b := by simp [cellsG]
theorem cellsG_nil (en : α → List Value) : cellsG en [] = [] := rfl
theorem cellsG_length {e : TypeId} {sz bt : Nat} {z : Value} {en : α → List Value} (E : El e sz bt z en) : ∀ xs : List α, (cellsG en xs).length = xs.length * sz
  | [] => by simp [cellsG]
  | x :: xs => by
    have ih := cellsG_length E xs
    simp only [cellsG] at ih
    simp only [cellsG, List.flatMap_cons, List.length_append, E.len x, ih, List.length_cons]
    rw [Nat.add_mul, Nat.one_mul, Nat.add_comm]
theorem cellsG_one {e : TypeId} {sz bt : Nat} {z : Value} {en : α → List Value} (E : El e sz bt z en) (xs : List α) : ∀ u ∈ cellsG en xs, u.oneCell' = true := fun u hu => by
  obtain ⟨x, _, h⟩ := List.mem_flatMap.1 hu
  exact E.one x u h
/-- The cells of element i. -/
theorem cellsG_get {e : TypeId} {sz bt : Nat} {z : Value} {en : α → List Value} (E : El e sz bt z en) : ∀ (xs : List α) (i j : Nat) (x : α), xs[i]? = some x → j < sz → (cellsG en xs)[i * sz + j]? = (en x)[j]?
  | [], i, j, x, h, _ => by simp at h
  | y :: xs, 0, j, x, h, hj => by
    simp at h
    subst h
    simp only [cellsG, List.flatMap_cons, Nat.zero_mul, Nat.zero_add]
    rw [List.getElem?_append_left (by rw [E.len]; exact hj)]
  | y :: xs, i + 1, j, x, h, hj => by
    simp only [List.getElem?_cons_succ] at h
    have ih := cellsG_get E xs i j x h hj
    simp only [cellsG] at ih
    simp only [cellsG, List.flatMap_cons]
    rw [List.getElem?_append_right (by rw [E.len, Nat.add_mul]; omega), E.len, show (i + 1) * sz + j - sz = i * sz + j by rw [Nat.add_mul]; omega, ih]

/-- A slice that holds these elements. -/
def CellsG (en : α → List Value) (w : World) (A : Option Addr) (c : Nat) (xs : List α) : Prop :=
  (A = none ∧ c = 0 ∧ xs = []) ∨ ∃ a, A = some a ∧ ∀ j u, (cellsG en xs)[j]? = some u → w.cell? (a.add j) = some u
theorem CellsG.nil (en : α → List Value) (w : World) : CellsG en w none 0 [] := .inl ⟨rfl, rfl, rfl⟩
theorem CellsG.below {en : α → List Value} {w w' : World} {A : Option Addr} {c : Nat} {xs : List α} (h : CellsG en w A c xs) (hb : Below w.heap.size w w') : CellsG en w' A c xs := by
  rcases h with h | ⟨a, ha, h⟩
  · exact .inl h
  · refine .inr ⟨a, ha, fun j u hu => ?_⟩
    have h1 := h j u hu
    exact (hb.cell (p := a.add j) (World.block_lt_of_cell? _ _ h1)).trans h1
theorem CellsG.at_ {e : TypeId} {sz bt : Nat} {z : Value} {en : α → List Value} (E : El e sz bt z en) {w : World} {A : Option Addr} {c : Nat} {xs : List α} (h : CellsG en w A c xs) (hl : 0 < xs.length) :
    ∃ b o, A = some ⟨b, o, none⟩ ∧ b < w.heap.size ∧ ∀ i j x, xs[i]? = some x → j < sz → w.cell? ⟨b, o + (i * sz + j), none⟩ = (en x)[j]? := by
  rcases h with ⟨_, _, rfl⟩ | ⟨a, rfl, h⟩
  · simp at hl
  · have hx0 : ∃ x, xs[0]? = some x := ⟨xs[0], by simp [hl]⟩
    obtain ⟨x0, hx0⟩ := hx0
    have h0 := cellsG_get E xs 0 0 x0 hx0 E.pos
    have hu0 : ∃ u, (en x0)[0]? = some u := ⟨(en x0)[0]'(by rw [E.len]; exact E.pos), by simp [E.len, E.pos]⟩
    obtain ⟨u0, hu0⟩ := hu0
    have hc0 := h 0 u0 (by rw [show (0 : Nat) = 0 * sz + 0 by simp, h0]; exact hu0)
    obtain ⟨b, o, hs⟩ : ∃ b o, a = ⟨b, o, none⟩ := by
      rw [show a.add 0 = a by unfold Addr.add; rw [if_pos rfl]] at hc0
      obtain ⟨b, o, sp⟩ := a
      cases sp with
      | none => exact ⟨b, o, rfl⟩
      | some q => exact absurd hc0 (by unfold World.cell?; split <;> simp)
    subst hs
    refine ⟨b, o, rfl, ?_, fun i j x hx hj => ?_⟩
    · have := World.block_lt_of_cell? _ _ hc0
      rw [show (⟨b, o, none⟩ : Addr).add 0 = ⟨b, o, none⟩ by unfold Addr.add; rw [if_pos rfl]] at this
      exact this
    · have hg := cellsG_get E xs i j x hx hj
      have hu : ∃ u, (en x)[j]? = some u := ⟨(en x)[j]'(by rw [E.len]; exact hj), by simp [E.len, hj]⟩
      obtain ⟨u, hu⟩ := hu
      have := h (i * sz + j) u (by rw [hg]; exact hu)
      rw [hu, ← this]
      unfold Addr.add
      split
      · rename_i hz; rw [hz]; rfl
      · rfl

/-- A slice of the call own that holds these elements. -/
def OwnG (e : TypeId) (sz : Nat) (en : α → List Value) (B : Nat) (w : World) (A : Option Addr) (c : Nat) (xs : List α) : Prop := w.ownsRow B e sz (.slice A xs.length c) xs.length (cellsG en xs)
variable {e : TypeId} {sz bt : Nat} {z : Value} {en : α → List Value}
theorem OwnG.nil (B : Nat) (w : World) : OwnG e sz en B w none 0 [] := World.ownsRow_nil w B e sz
theorem OwnG.cells {B : Nat} {w : World} {A : Option Addr} {c : Nat} {xs : List α} (h : OwnG e sz en B w A c xs) : CellsG en w A c xs := by
  rcases h.2 with ⟨hv, h0⟩ | ⟨g, cap, cur, hv, _⟩
  · simp only [Value.slice.injEq] at hv
    obtain ⟨rfl, _, rfl⟩ := hv
    exact .inl ⟨rfl, rfl, List.eq_nil_of_length_eq_zero h0⟩
  · simp only [Value.slice.injEq] at hv
    obtain ⟨rfl, _, rfl⟩ := hv
    exact .inr ⟨_, rfl, World.ownsRow.cells h (g := g) rfl⟩
theorem OwnG.mono {B B' : Nat} {w : World} {A : Option Addr} {c : Nat} {xs : List α} (h : OwnG e sz en B w A c xs) (hb : B' ≤ B) : OwnG e sz en B' w A c xs :=
  ⟨h.1, h.2.elim Or.inl (fun ⟨g, cap, cur, hv, hg, r⟩ => Or.inr ⟨g, cap, cur, hv, Nat.le_trans hb hg, r⟩)⟩
theorem OwnG.below {B : Nat} {w w' : World} {A : Option Addr} {c : Nat} {xs : List α} (h : OwnG e sz en B w A c xs) (hb : Below w.heap.size w w') : OwnG e sz en B w' A c xs := by
  refine ⟨h.1, ?_⟩
  rcases h.2 with h2 | ⟨g, cap, cur, hv, hg, hh, r⟩
  · exact .inl h2
  · refine .inr ⟨g, cap, cur, hv, hg, ?_, r⟩
    rw [hb.block g (lt_of_block hh)]
    exact hh
theorem OwnG.alloc {B : Nat} {w : World} {A : Option Addr} {c : Nat} {xs : List α} (h : OwnG e sz en B w A c xs) (o : Obj) : OwnG e sz en B (w.alloc o) A c xs := World.ownsRow.alloc h o
theorem OwnG.grow {B : Nat} {w0 w w' : World} {A : Option Addr} {c : Nat} {xs : List α} (h : OwnG e sz en B w A c xs) (hb : Below B w0 w) (hg : w.grownBy w' (Value.slice A xs.length c).ownBlock) (hB : B ≤ w.heap.size) : Below B w0 w' :=
  hb.grown hg hB (fun k hk => (World.ownsRow.lt h k hk).1)
theorem OwnG.cap {B : Nat} {w : World} {A : Option Addr} {c : Nat} {xs : List α} (h : OwnG e sz en B w A c xs) : xs.length ≤ c := by
  rcases h.2 with ⟨hv, h0⟩ | ⟨g, cap, cur, hv, hg, hh, hn, r⟩
  · omega
  · simp only [Value.slice.injEq] at hv
    omega
theorem OwnG.row {B : Nat} {W : World} {A : Option Addr} {c : Nat} {xs : List α} (h : OwnG e sz en B W A c xs) : ∀ g, (Value.slice A xs.length c).ownBlock = some g → B ≤ g ∧ ∃ cur q, W.heap[g]? = some (.cells cur e q) := fun g hg => by
  rcases h.2 with ⟨h1, _⟩ | ⟨g', cap, cur, h1, hb, hgg, _⟩
  · rw [h1] at hg; simp [Value.ownBlock] at hg
  · rw [h1] at hg
    simp [Value.ownBlock] at hg
    subst hg
    exact ⟨hb, cur, _, hgg⟩

theorem run_append_vals (E : El e sz bt z en) (T ty : TypeId) (hT : Tryd.prog.underlying T = some (.slice e)) (w : World) (base : Nat) (A : Option Addr) (c : Nat) (xs : List α) (hown : OwnG e sz en base w A c xs) (B : Option Addr) (d : Nat) (ns : List α) (hr : CellsG en w B d ns)
    (h63 : xs.length + ns.length ≤ 1000000000) (hbt : bt ≤ 1000) (hbase : base ≤ w.heap.size) :
    ∃ A' c' w', (Builtin.append_ #[T, T] ty #[.slice A xs.length c, .slice B ns.length d]).run Tryd.prog w = .ok (.slice A' (xs ++ ns).length c') w' ∧ OwnG e sz en base w' A' c' (xs ++ ns) ∧ w.grownBy w' (Value.slice A xs.length c).ownBlock := by
  obtain ⟨i0, hi, hz0, hz1, hz2⟩ := info_parts E.info
  have hmul : (xs.length + ns.length) * bt ≤ 1000000000 * 1000 := Nat.mul_le_mul h63 hbt
  unfold OwnG at *
  rw [List.length_append, cellsG_append]
  rcases hr with ⟨rfl, rfl, rfl⟩ | ⟨a, rfl, hr⟩
  · refine ⟨A, c, w, run_append_owned_none w base T ty e i0 sz hT hi _ _ _ hown, ?_, World.grownBy.refl _ _⟩
    simpa [cellsG] using hown
  · obtain ⟨v', w', hrun, h2, h3, _, h5⟩ := run_append_own_at (P := Tryd.prog) w base T ty e i0 z sz bt hT hi hz0 hz1 hz2 E.zero E.pos _ _ _ hown a ns.length d (cellsG en ns) (cellsG_length E ns) hr (cellsG_one E ns) (by unfold maxLen; omega) (by omega) hbase
    rcases h2.2 with ⟨hv, h0⟩ | ⟨g, cap, cur, hv, _⟩
    · subst hv
      refine ⟨none, 0, w', ?_, ?_, h3⟩
      · rw [h0]; exact hrun
      · rw [h0] at h2 ⊢; exact h2
    · subst hv
      exact ⟨_, cap, w', hrun, h2, h3⟩

theorem wpList_append_vals (E : El e sz bt z en) {w : World} {ops : Array Oper} {rest : List Oper} {o : Oper} {a : Act} {Q : Exit → Act → World → Prop} (hgd : o.guard = none) (s x : Operand) (T : TypeId) (hT : Tryd.prog.underlying T = some (.slice e))
    (ho : o.op = .call { callee := .builtin .append, args := #[s, x], argTypes := #[T, T] })
    (base : Nat) (A : Option Addr) (c : Nat) (xs : List α) (hs : a.eval s = .slice A xs.length c) (hown : OwnG e sz en base w A c xs)
    (B : Option Addr) (d : Nat) (ns : List α) (hx : a.eval x = .slice B ns.length d) (hr : CellsG en w B d ns) (h63 : xs.length + ns.length ≤ 1000000000) (hbt : bt ≤ 1000) (hbase : base ≤ w.heap.size)
    (h : ∀ A' c' w' R, Hid (R = xs ++ ns) → OwnG e sz en base w' A' c' R → w.grownBy w' (Value.slice A xs.length c).ownBlock → wpList Tryd.prog ops Q rest (a.put o.dst (.slice A' R.length c')) w') : wpList Tryd.prog ops Q (o :: rest) a w := by
  obtain ⟨A', c', w', hrun, h2, h3⟩ := run_append_vals E T o.type hT w base A c xs hown B d ns hr h63 hbt hbase
  refine wpList_plain hgd fun K hK => ?_
  unfold Oper.wp execOp
  simp only [ho, resolve, invoke, builtin, Sem.run_bind, Sem.run_pure, Result.andThen_ok, List.map_toArray, List.map_cons, List.map_nil, hs, hx, hrun]
  exact hK _ _ (h A' c' w' _ (Lib.hid rfl) h2 h3)

/-- The same inside a fence. -/
theorem wpListIn_append_vals (E : El e sz bt z en) {F : Fence} {n : Nat} {w : World} {ops : Array Oper} {rest : List Oper} {o : Oper} {a : Act} {Q : Exit → Act → World → Prop} (hgd : o.guard = none) (s x : Operand) (T : TypeId) (hT : Tryd.prog.underlying T = some (.slice e))
    (ho : o.op = .call { callee := .builtin .append, args := #[s, x], argTypes := #[T, T] })
    (base : Nat) (A : Option Addr) (c : Nat) (xs : List α) (hs : a.eval s = .slice A xs.length c) (hown : OwnG e sz en base w A c xs)
    (B : Option Addr) (d : Nat) (ns : List α) (hx : a.eval x = .slice B ns.length d) (hr : CellsG en w B d ns) (h63 : xs.length + ns.length ≤ 1000000000) (hbt : bt ≤ 1000) (hbase : base ≤ w.heap.size)
    (h : ∀ A' c' w' R, Hid (R = xs ++ ns) → OwnG e sz en base w' A' c' R → w.grownBy w' (Value.slice A xs.length c).ownBlock → wpListIn F n Tryd.prog ops Q rest (a.put o.dst (.slice A' R.length c')) w') : wpListIn F n Tryd.prog ops Q (o :: rest) a w := by
  obtain ⟨A', c', w', hrun, h2, h3⟩ := run_append_vals E T o.type hT w base A c xs hown B d ns hr h63 hbt hbase
  refine wpListIn_plain hgd fun K hK' => ?_
  unfold Oper.wpIn
  refine ⟨?_, ?_⟩
  · simp [Oper.about, ho, resolve, Target.leads, Sem.run_pure]
  · rw [Oper.semAt_plain F _ _ (by rw [ho]; intro c hc'; cases hc')]
    simp [execOp, ho, resolve, invoke, builtin, hs, hx, hrun, Result.andThen]
    have := h A' c' w' _ (Lib.hid rfl) h2 h3
    simp at this
    exact hK' _ _ this

/-- One element, laid by a literal. -/
theorem cells_one_val (E : El e sz bt z en) (w : World) (x : α) (cs : Array Value) (hcs : cs.toList = en x) : CellsG en (w.alloc (.cells cs e)) (some ⟨w.heap.size, 0, none⟩) 1 [x] := by
  refine .inr ⟨_, rfl, fun j u hu => ?_⟩
  simp only [cellsG, List.flatMap_cons, List.flatMap_nil, List.append_nil] at hu
  have hb := heap_alloc_new w (.cells cs e)
  have hc : cs[j]? = some u := by rw [← Array.getElem?_toList, hcs]; exact hu
  have e1 : (⟨w.heap.size, 0, none⟩ : Addr).add j = ⟨w.heap.size, j, none⟩ := by
    unfold Addr.add
    split
    · rename_i hz; rw [hz]
    · simp
  rw [e1]
  unfold World.cell?
  simp only [hb]
  simpa using hc
end Go.Proofs.YtdgdkkapikopnaaDoor
