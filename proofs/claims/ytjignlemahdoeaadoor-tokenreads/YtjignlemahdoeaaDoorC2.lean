/-
  Slices of byte slices in memory, as lists of lists of bytes: they stay, grow, and are cut. No function of the program in sight; T is the number of the type of slices of byte slices. Conditions: each theorem names its own.
  Slices of values of any element type (of one cell or several), told as a list: what it means that one lies in memory, or is the call's own; append, index, cut. Conditions: as in the premises.
  An argument that is a slice of values (strings, structs of two strings, or any that can be read one by one), as the contracts take it. No conditions.
  Arguments that are slices of strings, of structs of two strings, or such a struct, with the bounds on what an input may take. No conditions.
  The order of values, plain: by the document; it is a total order. Of no program. No conditions.
  The contract of the document's Number of layer 5 (a number in decimal). Conditions: a number of 64 bits.
  A number written in decimal is read as that number; the plain facts on digits that the document's reading wants. Plain, of no program. Conditions: numbers of 64 bits.
  Expressions as trees: size, depth, shape, text, sameness, by the document. Plain, of no program. No conditions.
  Two expressions of right shape have the same text just if they are the same. Plain, of no program. Conditions: strings of bytes (they are).
-/
import Derived.Deep.Matrix
import Derived.OwnWalkIn
import Derived.SliceStrings
import Derived.ChangeSame
import Derived.SizedLaws
import Derived.Lib.ItoaLen
import Derived.Lib.AppendIntMem
import Derived.Lib.ItoaNum
import Derived.Test.YtjignlemahdoeaaDoorC1
namespace Go.Proofs.YtjignlemahdoeaaDoor
open Go.ChangeShapes Go.WideShapes Go.ChangeAt Go.RowKit
set_option linter.unusedVariables false

/-- A byte slice as an element: its address, its capacity, the bytes that it reads as. -/
abbrev Elt := Option Addr × Nat × List Int
def eltVal (r : Elt) : Value := .slice r.1 r.2.2.length r.2.1
def cellsL (rs : List Elt) : List Value := rs.map eltVal
/-- The bytes alone. -/
def listsOf (rs : List Elt) : List (List Int) := rs.map (·.2.2)
theorem cellsL_length (rs : List Elt) : (cellsL rs).length = rs.length := by simp [cellsL]
theorem cellsL_one (rs : List Elt) : ∀ u ∈ cellsL rs, u.oneCell' = true := by
  intro u hu
  obtain ⟨r, _, rfl⟩ := List.mem_map.1 hu
  rfl
theorem cellsL_append (a b : List Elt) : cellsL (a ++ b) = cellsL a ++ cellsL b := by simp [cellsL]
theorem cellsL_get {rs : List Elt} {i : Nat} (h : i < rs.length) : (cellsL rs)[i]? = some (eltVal rs[i]) := by simp [cellsL, h]
theorem listsOf_append (a b : List Elt) : listsOf (a ++ b) = listsOf a ++ listsOf b := by simp [listsOf]
theorem listsOf_length (rs : List Elt) : (listsOf rs).length = rs.length := by simp [listsOf]

/-- The elements of a slice of byte slices: where their values lie. -/
def CellsL (w : World) (A : Option Addr) (c : Nat) (rs : List Elt) : Prop :=
  (A = none ∧ c = 0 ∧ rs = []) ∨ ∃ a, A = some a ∧ ∀ j u, (cellsL rs)[j]? = some u → w.cell? (a.add j) = some u
/-- .. and that each reads as its bytes. -/
def EachL (w : World) (rs : List Elt) : Prop := ∀ r ∈ rs, Lies w r.1 r.2.1 r.2.2

theorem EachL.below {w w' : World} {rs : List Elt} (h : EachL w rs) (hb : Below w.heap.size w w') : EachL w' rs := fun r hr => (h r hr).below hb
theorem EachL.append {w : World} {a b : List Elt} (ha : EachL w a) (hb : EachL w b) : EachL w (a ++ b) := fun r hr => (List.mem_append.1 hr).elim (ha r) (hb r)
theorem EachL.nil (w : World) : EachL w [] := fun r hr => by simp at hr
theorem EachL.one {w : World} {A : Option Addr} {c : Nat} {l : List Int} (h : Lies w A c l) : EachL w [(A, c, l)] := fun r hr => by simp at hr; subst hr; exact h
theorem CellsL.nil (w : World) : CellsL w none 0 [] := .inl ⟨rfl, rfl, rfl⟩
theorem CellsL.below {w w' : World} {A : Option Addr} {c : Nat} {rs : List Elt} (h : CellsL w A c rs) (hb : Below w.heap.size w w') : CellsL w' A c rs := by
  rcases h with h | ⟨a, rfl, h⟩
  · exact .inl h
  · refine .inr ⟨a, rfl, fun j u hu => ?_⟩
    have h1 := h j u hu
    rw [hb.cell (block_lt_of_cell h1)]
    exact h1
theorem CellsL.at_ {w : World} {A : Option Addr} {c : Nat} {rs : List Elt} (h : CellsL w A c rs) (hl : 0 < rs.length) :
    ∃ b o, A = some ⟨b, o, none⟩ ∧ b < w.heap.size ∧ ∀ i (hi : i < rs.length), w.cell? ⟨b, o + i, none⟩ = some (eltVal rs[i]) := by
  rcases h with ⟨_, _, rfl⟩ | ⟨⟨b, o, spot⟩, rfl, h⟩
  · simp at hl
  · have h0 := h 0 _ (cellsL_get hl)
    have hs : spot = none := by simpa [Addr.add] using World.cell?_spot h0
    subst hs
    refine ⟨b, o, rfl, block_lt_of_cell (a := ⟨b, o, none⟩) (by simpa [Addr.add] using h0), fun i hi => ?_⟩
    have h1 := h i _ (cellsL_get hi)
    by_cases e : i = 0
    · subst e; simpa [Addr.add] using h1
    · simpa [Addr.add, e] using h1

theorem Tryd.info22 : (Tryd.prog.info? 65).map (fun i => (i.zero, i.size, i.bytes)) = some (some (.slice none 0 0), 1, 24) := by kernel_rfl
theorem size22 (w : World) : (Go.sizeOf 65).run Tryd.prog w = .ok 1 w := by kernel_rfl

/-- A slice of byte slices of the call own. -/
def OwnL (B : Nat) (w : World) (A : Option Addr) (c : Nat) (rs : List Elt) : Prop := w.ownsRow B 65 1 (.slice A rs.length c) rs.length (cellsL rs)
theorem OwnL.nil (B : Nat) (w : World) : OwnL B w none 0 [] := World.ownsRow_nil w B 65 1
theorem OwnL.cells {B : Nat} {w : World} {A : Option Addr} {c : Nat} {rs : List Elt} (h : OwnL B w A c rs) : CellsL w A c rs := by
  rcases h.2 with ⟨hv, h0⟩ | ⟨g, cap, cur, hv, _⟩
  · simp only [Value.slice.injEq] at hv
    obtain ⟨rfl, _, rfl⟩ := hv
    exact .inl ⟨rfl, rfl, List.eq_nil_of_length_eq_zero h0⟩
  · simp only [Value.slice.injEq] at hv
    obtain ⟨rfl, _, rfl⟩ := hv
    exact .inr ⟨_, rfl, World.ownsRow.cells h (g := g) rfl⟩
theorem OwnL.mono {B B' : Nat} {w : World} {A : Option Addr} {c : Nat} {rs : List Elt} (h : OwnL B w A c rs) (hb : B' ≤ B) : OwnL B' w A c rs :=
  ⟨h.1, h.2.elim Or.inl (fun ⟨g, cap, cur, hv, hg, r⟩ => Or.inr ⟨g, cap, cur, hv, Nat.le_trans hb hg, r⟩)⟩
theorem OwnL.below {B : Nat} {w w' : World} {A : Option Addr} {c : Nat} {rs : List Elt} (h : OwnL B w A c rs) (hb : Below w.heap.size w w') : OwnL B w' A c rs := by
  refine ⟨h.1, ?_⟩
  rcases h.2 with h2 | ⟨g, cap, cur, hv, hg, hh, r⟩
  · exact .inl h2
  · refine .inr ⟨g, cap, cur, hv, hg, ?_, r⟩
    rw [hb.block g (lt_of_block hh)]
    exact hh
theorem OwnL.alloc {B : Nat} {w : World} {A : Option Addr} {c : Nat} {rs : List Elt} (h : OwnL B w A c rs) (o : Obj) : OwnL B (w.alloc o) A c rs := World.ownsRow.alloc h o
theorem OwnL.grow {B : Nat} {w0 w w' : World} {A : Option Addr} {c : Nat} {rs : List Elt} (h : OwnL B w A c rs) (hb : Below B w0 w) (hg : w.grownBy w' (Value.slice A rs.length c).ownBlock) (hB : B ≤ w.heap.size) : Below B w0 w' :=
  hb.grown hg hB (fun k hk => (World.ownsRow.lt h k hk).1)
theorem OwnL.cap {B : Nat} {w : World} {A : Option Addr} {c : Nat} {rs : List Elt} (h : OwnL B w A c rs) : rs.length ≤ c := by
  rcases h.2 with ⟨hv, h0⟩ | ⟨g, cap, cur, hv, hg, hh, hn, r⟩
  · omega
  · simp only [Value.slice.injEq] at hv
    omega

theorem run_append_rows (T ty : TypeId) (hT : Tryd.prog.underlying T = some (.slice 65)) (w : World) (base : Nat) (A : Option Addr) (c : Nat) (rs : List Elt) (hown : OwnL base w A c rs) (B : Option Addr) (d : Nat) (ns : List Elt) (hr : CellsL w B d ns)
    (h63 : rs.length + ns.length ≤ 1000000000) (hbase : base ≤ w.heap.size) :
    ∃ A' c' w', (Builtin.append_ #[T, T] ty #[.slice A rs.length c, .slice B ns.length d]).run Tryd.prog w = .ok (.slice A' (rs ++ ns).length c') w' ∧ OwnL base w' A' c' (rs ++ ns) ∧ w.grownBy w' (Value.slice A rs.length c).ownBlock := by
  obtain ⟨i0, hi, hz0, hz1, hz2⟩ := info_parts Tryd.info22
  unfold OwnL at *
  rw [List.length_append, cellsL_append]
  rcases hr with ⟨rfl, rfl, rfl⟩ | ⟨a, rfl, hr⟩
  · refine ⟨A, c, w, run_append_owned_none w base T ty 65 i0 1 hT hi _ _ _ hown, ?_, World.grownBy.refl _ _⟩
    simpa [cellsL] using hown
  · obtain ⟨v', w', hrun, h2, h3, _, h5⟩ := run_append_own_at (P := Tryd.prog) w base T ty 65 i0 (.slice none 0 0) 1 24 hT hi hz0 hz1 hz2 rfl (by decide) _ _ _ hown a ns.length d (cellsL ns) (by rw [cellsL_length]; omega) hr (cellsL_one ns) (by unfold maxLen; omega) (by omega) hbase
    rcases h2.2 with ⟨hv, h0⟩ | ⟨g, cap, cur, hv, _⟩
    · subst hv
      refine ⟨none, 0, w', ?_, ?_, h3⟩
      · rw [h0]; exact hrun
      · rw [h0] at h2 ⊢; exact h2
    · subst hv
      exact ⟨_, cap, w', hrun, h2, h3⟩

/-- At an operation of a region that does not draw. -/
theorem wpList_append_rows {w : World} {ops : Array Oper} {rest : List Oper} {o : Oper} {a : Act} {Q : Exit → Act → World → Prop} (hgd : o.guard = none) (s x : Operand) (T : TypeId) (hT : Tryd.prog.underlying T = some (.slice 65))
    (ho : o.op = .call { callee := .builtin .append, args := #[s, x], argTypes := #[T, T] })
    (base : Nat) (A : Option Addr) (c : Nat) (rs : List Elt) (hs : a.eval s = .slice A rs.length c) (hown : OwnL base w A c rs)
    (B : Option Addr) (d : Nat) (ns : List Elt) (hx : a.eval x = .slice B ns.length d) (hr : CellsL w B d ns) (h63 : rs.length + ns.length ≤ 1000000000) (hbase : base ≤ w.heap.size)
    (h : ∀ A' c' w' R, Hid (R = rs ++ ns) → OwnL base w' A' c' R → w.grownBy w' (Value.slice A rs.length c).ownBlock → wpList Tryd.prog ops Q rest (a.put o.dst (.slice A' R.length c')) w') : wpList Tryd.prog ops Q (o :: rest) a w := by
  obtain ⟨A', c', w', hrun, h2, h3⟩ := run_append_rows T o.type hT w base A c rs hown B d ns hr h63 hbase
  refine wpList_plain hgd fun K hK => ?_
  unfold Oper.wp execOp
  simp only [ho, resolve, invoke, builtin, Sem.run_bind, Sem.run_pure, Result.andThen_ok, List.map_toArray, List.map_cons, List.map_nil, hs, hx, hrun]
  exact hK _ _ (h A' c' w' _ (Lib.hid rfl) h2 h3)

/-- The row that the literal of one element lays. -/
theorem cells_one_row (w : World) (r : Elt) : CellsL (w.alloc (.cells #[eltVal r] 65)) (some ⟨w.heap.size, 0, none⟩) 1 [r] := by
  refine .inr ⟨_, rfl, fun j u hu => ?_⟩
  cases j with
  | zero => simp [cellsL] at hu; subst hu; simp [Addr.add]
  | succ j => simp [cellsL] at hu

/-- l[:hi]. -/
theorem cut_rows_h (T : TypeId) (hT : Tryd.prog.underlying T = some (.slice 65)) {w : World} {A : Option Addr} {c : Nat} {rs : List Elt} (h : CellsL w A c rs) (hc : rs.length ≤ c) (hi : Nat) (H : Int) (hH : H = hi) (hn : hi ≤ rs.length) :
    ∃ A' C', (∀ W, (Instr.slice T (.slice A rs.length c) none (some (.int .i64 H)) none).run Tryd.prog W = .ok (.slice A' (rs.take hi).length C') W) ∧ (∀ W, Below w.heap.size w W → CellsL W A' C' (rs.take hi)) ∧ (rs.take hi).length ≤ C' := by
  subst hH
  have hel : Tryd.prog.elem T = 65 := by simp [Program.elem, hT]
  have hun : Tryd.prog.underlying T = some (.slice (Tryd.prog.elem T)) := by rw [hel]; exact hT
  have e : (rs.take hi).length = hi := by rw [List.length_take]; omega
  refine ⟨if c = 0 then A else A.map (·.add (0 * 1)), c - 0, fun W => ?_, fun W hb => ?_, by rw [e]; omega⟩
  · rw [run_slice_h W T _ _ _ hun .i64 _ (by omega) (by omega), hel, size22]
    simp only [Result.andThen, Go.sliced]
    rw [e, Int.toNat_natCast, Nat.sub_zero]
  · rcases A with _ | a
    · rcases h with ⟨_, rfl, rfl⟩ | ⟨a, ha, _⟩
      · simpa using CellsL.nil W
      · cases ha
    · have hcl := (h.below hb)
      have e2 : (if c = 0 then some a else (some a).map (·.add (0 * 1))) = some a := by split <;> simp [Addr.add]
      rw [e2]
      rcases hcl with ⟨ha, _⟩ | ⟨a', ha, hcl⟩
      · cases ha
      · injection ha with ha
        subst ha
        refine .inr ⟨_, rfl, fun j u hu => hcl j u ?_⟩
        have hj : j < (rs.take hi).length := by
          rcases Nat.lt_or_ge j (rs.take hi).length with h | h
          · exact h
          · rw [List.getElem?_eq_none (by rw [cellsL_length]; exact h)] at hu; cases hu
        rw [cellsL_get hj] at hu
        rw [cellsL_get (by rw [e] at hj; omega), ← hu]
        simp

/-- An argument [][]byte, as the contracts take it. -/
theorem rows_of_arg {H : Type} {encH : TypeId × Value → H} {W : World} {base : Nat} {held : Bool} (T : TypeId) (hT : Tryd.prog.underlying T = some (.slice 65)) {fuel : Nat} {a : Option Addr} {len cap : Nat} {x : DataW H × List MemPlace}
    (h : DataW.trod encH Tryd.prog W base (fun _ => true) held fuel T [.slice a len cap] = some x) :
    ∃ rs : List Elt, rs.length = len ∧ rs.length ≤ cap ∧ rs.length ≤ maxLen ∧ CellsL W a cap rs ∧ EachL W rs ∧ ∀ r ∈ rs, IsB r.2.2 ∧ r.2.2.length ≤ r.2.1 ∧ r.2.2.length ≤ maxLen := by
  rcases Deep.open_int_rows hT Tryd.underlying65 Tryd.underlying5 (by kernel_rfl) (by kernel_rfl) h with ⟨hcs, _⟩ | ⟨ad, l, c, A, L, C, Z, hcs, _, hl, hm, _, hrow⟩
  · simp only [List.cons.injEq, Value.slice.injEq, and_true] at hcs
    obtain ⟨rfl, rfl, rfl⟩ := hcs
    exact ⟨[], rfl, by simp, by simp, CellsL.nil W, EachL.nil W, by simp⟩
  · simp only [List.cons.injEq, Value.slice.injEq, and_true] at hcs
    obtain ⟨rfl, rfl, rfl⟩ := hcs
    have hlen : ∀ i, i < cap → ((Z i).take (L i)).length = L i := fun i hi => by
      obtain ⟨_, h1, _, h3, _⟩ := hrow i hi
      rw [List.length_take]; omega
    refine ⟨(List.range len).map fun i => (A i, C i, (Z i).take (L i)), by simp, by simp; omega, by simp; omega, .inr ⟨ad, rfl, fun j u hu => ?_⟩, fun r hr => ?_, fun r hr => ?_⟩
    · have hj : j < len := by
        rcases Nat.lt_or_ge j len with h | h
        · exact h
        · rw [List.getElem?_eq_none (by rw [cellsL_length]; simpa using h)] at hu; cases hu
      rw [cellsL_get (by simpa using hj)] at hu
      simp only [List.getElem_map, List.getElem_range, eltVal, Option.some.injEq] at hu
      rw [hlen j (by omega)] at hu
      rw [(hrow j (by omega)).1, hu]
    · obtain ⟨i, hi, rfl⟩ := List.mem_map.1 hr
      have hi' : i < len := by simpa using hi
      obtain ⟨_, h1, h2, h3, h4, h5, h6⟩ := hrow i (by omega)
      show Lies W (A i) (C i) ((Z i).take (L i))
      rcases hA : A i with _ | a'
      · have hc0 := h5 hA
        refine .inl ⟨rfl, hc0, ?_⟩
        have : (Z i).length = 0 := by omega
        rw [List.eq_nil_of_length_eq_zero this]
        simp
      · refine .inr ⟨a', rfl, fun j u hu => ?_⟩
        have hj : j < ((Z i).take (L i)).length := by
          rcases Nat.lt_or_ge j ((Z i).take (L i)).length with h | h
          · exact h
          · rw [List.getElem?_eq_none (by rw [cellsOf_length]; exact h)] at hu; cases hu
        have hj2 : j < L i := by rw [hlen i (by omega)] at hj; exact hj
        rw [cellsOf_get hj, show ((Z i).take (L i)).getD j 0 = (Z i).getD j 0 by simp [List.getD, hj2]] at hu
        rw [(h6 a' hA).2 j (by omega), hu]
    · obtain ⟨i, hi, rfl⟩ := List.mem_map.1 hr
      have hi' : i < len := by simpa using hi
      obtain ⟨_, h1, h2, h3, h4, h5, h6⟩ := hrow i (by omega)
      refine ⟨fun z hz => ?_, ?_, ?_⟩
      · have := bounds_u8 (h4 z (List.mem_of_mem_take hz))
        omega
      · show ((Z i).take (L i)).length ≤ C i
        rw [hlen i (by omega)]; exact h1
      · show ((Z i).take (L i)).length ≤ maxLen
        rw [hlen i (by omega)]; omega
end Go.Proofs.YtjignlemahdoeaaDoor
namespace Go.Proofs.YtjignlemahdoeaaDoor
open Go.ChangeShapes Go.WideShapes Go.ChangeAt Go.RowKit
set_option linter.unusedVariables false
variable {α : Type}

/-- An element type of the program: its zero value, its cells, its bytes; how an element is laid in cells. -/
structure El (e : TypeId) (sz bt : Nat) (z : Value) (en : α → List Value) : Prop where
  info : (Tryd.prog.info? e).map (fun i => (i.zero, i.size, i.bytes)) = some (some z, sz, bt)
  zero : z.cells.size = sz
  pos : 0 < sz
  len : ∀ x, (en x).length = sz
  one : ∀ x, ∀ u ∈ en x, u.oneCell' = true

def cellsG (en : α → List Value) (xs : List α) : List Value := xs.flatMap en
theorem cellsG_append (en : α → List Value) (a b : List α) : cellsG en (a ++ b) = cellsG en a ++ cellsG en b := by simp [cellsG]
theorem cellsG_nil (en : α → List Value) : cellsG en [] = [] := rfl
theorem cellsG_length {e : TypeId} {sz bt : Nat} {z : Value} {en : α → List Value} (E : El e sz bt z en) : ∀ xs : List α, (cellsG en xs).length = xs.length * sz
  | [] => by simp [cellsG]
  | x :: xs => by
    have ih := cellsG_length E xs
    simp only [cellsG] at ih
    simp only [cellsG, List.flatMap_cons, List.length_append, E.len x, ih, List.length_cons]
    rw [Nat.add_mul, Nat.one_mul, Nat.add_comm]
theorem cellsG_one {e : TypeId} {sz bt : Nat} {z : Value} {en : α → List Value} (E : El e sz bt z en) (xs : List α) : ∀ u ∈ cellsG en xs, u.oneCell' = true := fun u hu => by
  obtain ⟨x, _, h⟩ := List.mem_flatMap.1 hu
  exact E.one x u h
/-- The cells of element i. -/
theorem cellsG_get {e : TypeId} {sz bt : Nat} {z : Value} {en : α → List Value} (E : El e sz bt z en) : ∀ (xs : List α) (i j : Nat) (x : α), xs[i]? = some x → j < sz → (cellsG en xs)[i * sz + j]? = (en x)[j]?
  | [], i, j, x, h, _ => by simp at h
  | y :: xs, 0, j, x, h, hj => by
    simp at h
    subst h
    simp only [cellsG, List.flatMap_cons, Nat.zero_mul, Nat.zero_add]
    rw [List.getElem?_append_left (by rw [E.len]; exact hj)]
  | y :: xs, i + 1, j, x, h, hj => by
    simp only [List.getElem?_cons_succ] at h
    have ih := cellsG_get E xs i j x h hj
    simp only [cellsG] at ih
    simp only [cellsG, List.flatMap_cons]
    rw [List.getElem?_append_right (by rw [E.len, Nat.add_mul]; omega), E.len, show (i + 1) * sz + j - sz = i * sz + j by rw [Nat.add_mul]; omega, ih]

/-- A slice that holds these elements. -/
def CellsG (en : α → List Value) (w : World) (A : Option Addr) (c : Nat) (xs : List α) : Prop :=
  (A = none ∧ c = 0 ∧ xs = []) ∨ ∃ a, A = some a ∧ ∀ j u, (cellsG en xs)[j]? = some u → w.cell? (a.add j) = some u
theorem CellsG.nil (en : α → List Value) (w : World) : CellsG en w none 0 [] := .inl ⟨rfl, rfl, rfl⟩
theorem CellsG.below {en : α → List Value} {w w' : World} {A : Option Addr} {c : Nat} {xs : List α} (h : CellsG en w A c xs) (hb : Below w.heap.size w w') : CellsG en w' A c xs := by
  rcases h with h | ⟨a, ha, h⟩
  · exact .inl h
  · refine .inr ⟨a, ha, fun j u hu => ?_⟩
    have h1 := h j u hu
    exact (hb.cell (p := a.add j) (World.block_lt_of_cell? _ _ h1)).trans h1
theorem CellsG.at_ {e : TypeId} {sz bt : Nat} {z : Value} {en : α → List Value} (E : El e sz bt z en) {w : World} {A : Option Addr} {c : Nat} {xs : List α} (h : CellsG en w A c xs) (hl : 0 < xs.length) :
    ∃ b o, A = some ⟨b, o, none⟩ ∧ b < w.heap.size ∧ ∀ i j x, xs[i]? = some x → j < sz → w.cell? ⟨b, o + (i * sz + j), none⟩ = (en x)[j]? := by
  rcases h with ⟨_, _, rfl⟩ | ⟨a, rfl, h⟩
  · simp at hl
  · have hx0 : ∃ x, xs[0]? = some x := ⟨xs[0], by simp [hl]⟩
    obtain ⟨x0, hx0⟩ := hx0
    have h0 := cellsG_get E xs 0 0 x0 hx0 E.pos
    have hu0 : ∃ u, (en x0)[0]? = some u := ⟨(en x0)[0]'(by rw [E.len]; exact E.pos), by simp [E.len, E.pos]⟩
    obtain ⟨u0, hu0⟩ := hu0
    have hc0 := h 0 u0 (by rw [show (0 : Nat) = 0 * sz + 0 by simp, h0]; exact hu0)
    obtain ⟨b, o, hs⟩ : ∃ b o, a = ⟨b, o, none⟩ := by
      rw [show a.add 0 = a by unfold Addr.add; rw [if_pos rfl]] at hc0
      obtain ⟨b, o, sp⟩ := a
      cases sp with
      | none => exact ⟨b, o, rfl⟩
      | some q => exact absurd hc0 (by unfold World.cell?; split <;> simp)
    subst hs
    refine ⟨b, o, rfl, ?_, fun i j x hx hj => ?_⟩
    · have := World.block_lt_of_cell? _ _ hc0
      rw [show (⟨b, o, none⟩ : Addr).add 0 = ⟨b, o, none⟩ by unfold Addr.add; rw [if_pos rfl]] at this
      exact this
    · have hg := cellsG_get E xs i j x hx hj
      have hu : ∃ u, (en x)[j]? = some u := ⟨(en x)[j]'(by rw [E.len]; exact hj), by simp [E.len, hj]⟩
      obtain ⟨u, hu⟩ := hu
      have := h (i * sz + j) u (by rw [hg]; exact hu)
      rw [hu, ← this]
      unfold Addr.add
      split
      · rename_i hz; rw [hz]; rfl
      · rfl

/-- A slice of the call own that holds these elements. -/
def OwnG (e : TypeId) (sz : Nat) (en : α → List Value) (B : Nat) (w : World) (A : Option Addr) (c : Nat) (xs : List α) : Prop := w.ownsRow B e sz (.slice A xs.length c) xs.length (cellsG en xs)
variable {e : TypeId} {sz bt : Nat} {z : Value} {en : α → List Value}
theorem OwnG.nil (B : Nat) (w : World) : OwnG e sz en B w none 0 [] := World.ownsRow_nil w B e sz
theorem OwnG.cells {B : Nat} {w : World} {A : Option Addr} {c : Nat} {xs : List α} (h : OwnG e sz en B w A c xs) : CellsG en w A c xs := by
  rcases h.2 with ⟨hv, h0⟩ | ⟨g, cap, cur, hv, _⟩
  · simp only [Value.slice.injEq] at hv
    obtain ⟨rfl, _, rfl⟩ := hv
    exact .inl ⟨rfl, rfl, List.eq_nil_of_length_eq_zero h0⟩
  · simp only [Value.slice.injEq] at hv
    obtain ⟨rfl, _, rfl⟩ := hv
    exact .inr ⟨_, rfl, World.ownsRow.cells h (g := g) rfl⟩
theorem OwnG.mono {B B' : Nat} {w : World} {A : Option Addr} {c : Nat} {xs : List α} (h : OwnG e sz en B w A c xs) (hb : B' ≤ B) : OwnG e sz en B' w A c xs :=
  ⟨h.1, h.2.elim Or.inl (fun ⟨g, cap, cur, hv, hg, r⟩ => Or.inr ⟨g, cap, cur, hv, Nat.le_trans hb hg, r⟩)⟩
theorem OwnG.below {B : Nat} {w w' : World} {A : Option Addr} {c : Nat} {xs : List α} (h : OwnG e sz en B w A c xs) (hb : Below w.heap.size w w') : OwnG e sz en B w' A c xs := by
  refine ⟨h.1, ?_⟩
  rcases h.2 with h2 | ⟨g, cap, cur, hv, hg, hh, r⟩
  · exact .inl h2
  · refine .inr ⟨g, cap, cur, hv, hg, ?_, r⟩
    rw [hb.block g (lt_of_block hh)]
    exact hh
theorem OwnG.alloc {B : Nat} {w : World} {A : Option Addr} {c : Nat} {xs : List α} (h : OwnG e sz en B w A c xs) (o : Obj) : OwnG e sz en B (w.alloc o) A c xs := World.ownsRow.alloc h o
theorem OwnG.grow {B : Nat} {w0 w w' : World} {A : Option Addr} {c : Nat} {xs : List α} (h : OwnG e sz en B w A c xs) (hb : Below B w0 w) (hg : w.grownBy w' (Value.slice A xs.length c).ownBlock) (hB : B ≤ w.heap.size) : Below B w0 w' :=
  hb.grown hg hB (fun k hk => (World.ownsRow.lt h k hk).1)
theorem OwnG.cap {B : Nat} {w : World} {A : Option Addr} {c : Nat} {xs : List α} (h : OwnG e sz en B w A c xs) : xs.length ≤ c := by
  rcases h.2 with ⟨hv, h0⟩ | ⟨g, cap, cur, hv, hg, hh, hn, r⟩
  · omega
  · simp only [Value.slice.injEq] at hv
    omega
theorem OwnG.row {B : Nat} {W : World} {A : Option Addr} {c : Nat} {xs : List α} (h : OwnG e sz en B W A c xs) : ∀ g, (Value.slice A xs.length c).ownBlock = some g → B ≤ g ∧ ∃ cur q, W.heap[g]? = some (.cells cur e q) := fun g hg => by
  rcases h.2 with ⟨h1, _⟩ | ⟨g', cap, cur, h1, hb, hgg, _⟩
  · rw [h1] at hg; simp [Value.ownBlock] at hg
  · rw [h1] at hg
    simp [Value.ownBlock] at hg
    subst hg
    exact ⟨hb, cur, _, hgg⟩

theorem run_append_vals (E : El e sz bt z en) (T ty : TypeId) (hT : Tryd.prog.underlying T = some (.slice e)) (w : World) (base : Nat) (A : Option Addr) (c : Nat) (xs : List α) (hown : OwnG e sz en base w A c xs) (B : Option Addr) (d : Nat) (ns : List α) (hr : CellsG en w B d ns)
    (h63 : xs.length + ns.length ≤ 1000000000) (hbt : bt ≤ 1000) (hbase : base ≤ w.heap.size) :
    ∃ A' c' w', (Builtin.append_ #[T, T] ty #[.slice A xs.length c, .slice B ns.length d]).run Tryd.prog w = .ok (.slice A' (xs ++ ns).length c') w' ∧ OwnG e sz en base w' A' c' (xs ++ ns) ∧ w.grownBy w' (Value.slice A xs.length c).ownBlock := by
  obtain ⟨i0, hi, hz0, hz1, hz2⟩ := info_parts E.info
  have hmul : (xs.length + ns.length) * bt ≤ 1000000000 * 1000 := Nat.mul_le_mul h63 hbt
  unfold OwnG at *
  rw [List.length_append, cellsG_append]
  rcases hr with ⟨rfl, rfl, rfl⟩ | ⟨a, rfl, hr⟩
  · refine ⟨A, c, w, run_append_owned_none w base T ty e i0 sz hT hi _ _ _ hown, ?_, World.grownBy.refl _ _⟩
    simpa [cellsG] using hown
  · obtain ⟨v', w', hrun, h2, h3, _, h5⟩ := run_append_own_at (P := Tryd.prog) w base T ty e i0 z sz bt hT hi hz0 hz1 hz2 E.zero E.pos _ _ _ hown a ns.length d (cellsG en ns) (cellsG_length E ns) hr (cellsG_one E ns) (by unfold maxLen; omega) (by omega) hbase
    rcases h2.2 with ⟨hv, h0⟩ | ⟨g, cap, cur, hv, _⟩
    · subst hv
      refine ⟨none, 0, w', ?_, ?_, h3⟩
      · rw [h0]; exact hrun
      · rw [h0] at h2 ⊢; exact h2
    · subst hv
      exact ⟨_, cap, w', hrun, h2, h3⟩

theorem wpList_append_vals (E : El e sz bt z en) {w : World} {ops : Array Oper} {rest : List Oper} {o : Oper} {a : Act} {Q : Exit → Act → World → Prop} (hgd : o.guard = none) (s x : Operand) (T : TypeId) (hT : Tryd.prog.underlying T = some (.slice e))
    (ho : o.op = .call { callee := .builtin .append, args := #[s, x], argTypes := #[T, T] })
    (base : Nat) (A : Option Addr) (c : Nat) (xs : List α) (hs : a.eval s = .slice A xs.length c) (hown : OwnG e sz en base w A c xs)
    (B : Option Addr) (d : Nat) (ns : List α) (hx : a.eval x = .slice B ns.length d) (hr : CellsG en w B d ns) (h63 : xs.length + ns.length ≤ 1000000000) (hbt : bt ≤ 1000) (hbase : base ≤ w.heap.size)
    (h : ∀ A' c' w' R, Hid (R = xs ++ ns) → OwnG e sz en base w' A' c' R → w.grownBy w' (Value.slice A xs.length c).ownBlock → wpList Tryd.prog ops Q rest (a.put o.dst (.slice A' R.length c')) w') : wpList Tryd.prog ops Q (o :: rest) a w := by
  obtain ⟨A', c', w', hrun, h2, h3⟩ := run_append_vals E T o.type hT w base A c xs hown B d ns hr h63 hbt hbase
  refine wpList_plain hgd fun K hK => ?_
  unfold Oper.wp execOp
  simp only [ho, resolve, invoke, builtin, Sem.run_bind, Sem.run_pure, Result.andThen_ok, List.map_toArray, List.map_cons, List.map_nil, hs, hx, hrun]
  exact hK _ _ (h A' c' w' _ (Lib.hid rfl) h2 h3)

/-- The same inside a fence. -/
theorem wpListIn_append_vals (E : El e sz bt z en) {F : Fence} {n : Nat} {w : World} {ops : Array Oper} {rest : List Oper} {o : Oper} {a : Act} {Q : Exit → Act → World → Prop} (hgd : o.guard = none) (s x : Operand) (T : TypeId) (hT : Tryd.prog.underlying T = some (.slice e))
    (ho : o.op = .call { callee := .builtin .append, args := #[s, x], argTypes := #[T, T] })
    (base : Nat) (A : Option Addr) (c : Nat) (xs : List α) (hs : a.eval s = .slice A xs.length c) (hown : OwnG e sz en base w A c xs)
    (B : Option Addr) (d : Nat) (ns : List α) (hx : a.eval x = .slice B ns.length d) (hr : CellsG en w B d ns) (h63 : xs.length + ns.length ≤ 1000000000) (hbt : bt ≤ 1000) (hbase : base ≤ w.heap.size)
    (h : ∀ A' c' w' R, Hid (R = xs ++ ns) → OwnG e sz en base w' A' c' R → w.grownBy w' (Value.slice A xs.length c).ownBlock → wpListIn F n Tryd.prog ops Q rest (a.put o.dst (.slice A' R.length c')) w') : wpListIn F n Tryd.prog ops Q (o :: rest) a w := by
  obtain ⟨A', c', w', hrun, h2, h3⟩ := run_append_vals E T o.type hT w base A c xs hown B d ns hr h63 hbt hbase
  refine wpListIn_plain hgd fun K hK' => ?_
  unfold Oper.wpIn
  refine ⟨?_, ?_⟩
  · simp [Oper.about, ho, resolve, Target.leads, Sem.run_pure]
  · rw [Oper.semAt_plain F _ _ (by rw [ho]; intro c hc'; cases hc')]
    simp [execOp, ho, resolve, invoke, builtin, hs, hx, hrun, Result.andThen]
    have := h A' c' w' _ (Lib.hid rfl) h2 h3
    simp at this
    exact hK' _ _ this

/-- One element, laid by a literal. -/
theorem cells_one_val (E : El e sz bt z en) (w : World) (x : α) (cs : Array Value) (hcs : cs.toList = en x) : CellsG en (w.alloc (.cells cs e)) (some ⟨w.heap.size, 0, none⟩) 1 [x] := by
  refine .inr ⟨_, rfl, fun j u hu => ?_⟩
  simp only [cellsG, List.flatMap_cons, List.flatMap_nil, List.append_nil] at hu
  have hb := heap_alloc_new w (.cells cs e)
  have hc : cs[j]? = some u := by rw [← Array.getElem?_toList, hcs]; exact hu
  have e1 : (⟨w.heap.size, 0, none⟩ : Addr).add j = ⟨w.heap.size, j, none⟩ := by
    unfold Addr.add
    split
    · rename_i hz; rw [hz]
    · simp
  rw [e1]
  unfold World.cell?
  simp only [hb]
  simpa using hc
end Go.Proofs.YtjignlemahdoeaaDoor
namespace Go.Proofs.YtjignlemahdoeaaDoor
open Go.ChangeShapes Go.WideShapes Go.ChangeAt Go.RowKit
set_option linter.unusedVariables false

theorem vals_of_arg {α : Type} {H : Type} {encH : TypeId × Value → H} {W : World} {base : Nat} {held : Bool} (T e : TypeId) (hT : Tryd.prog.underlying T = some (.slice e)) (sz : Nat) (hsz : Tryd.prog.cellsOf e = sz) (hpos : 0 < sz) (en : α → List Value) (hen : ∀ x, (en x).length = sz) (G : α → Prop)
    (hread : ∀ n cs y, DataW.trod encH Tryd.prog W base (fun _ => true) held n e cs = some y → cs.length = sz → ∃ x, cs = en x ∧ G x)
    {fuel : Nat} {a : Option Addr} {len cap : Nat} {x : DataW H × List MemPlace} (h : DataW.trod encH Tryd.prog W base (fun _ => true) held fuel T [.slice a len cap] = some x) :
    ∃ xs : List α, xs.length = len ∧ xs.length ≤ cap ∧ xs.length ≤ maxLen ∧ CellsG en W a cap xs ∧ ∀ x ∈ xs, G x := by
  rcases DataW.trod_slice hT h with ⟨hcs, _⟩ | ⟨ad, l, c, elems, rest, n, _, hcs, _, _, hl, hm, hlen, hel, _, _⟩
  · simp only [List.cons.injEq, Value.slice.injEq, and_true] at hcs
    obtain ⟨rfl, rfl, rfl⟩ := hcs
    exact ⟨[], rfl, by simp, by simp, CellsG.nil en W, by simp⟩
  · simp only [List.cons.injEq, Value.slice.injEq, and_true] at hcs
    obtain ⟨rfl, rfl, rfl⟩ := hcs
    have each : ∀ i, i < len → ∃ x : α, G x ∧ ∀ j, j < sz → W.cell? (ad.add (i * sz + j)) = (en x)[j]? := fun i hi => by
      have h1 := hel i hi
      rw [List.getElem?_eq_getElem (by omega), hsz, Option.bind_eq_some_iff] at h1
      obtain ⟨cs, hc, hy⟩ := h1
      obtain ⟨_, hcl, hcell⟩ := World.cells?_some hc
      obtain ⟨x, hx, hG⟩ := hread n cs _ hy hcl
      refine ⟨x, hG, fun j hj => ?_⟩
      rw [← hx]
      have := hcell j hj
      rw [← this]
      refine congrArg W.cell? ?_
      unfold Addr.add
      by_cases h0 : i * sz = 0
      · simp [h0]
      · by_cases hj0 : j = 0
        · simp [h0, hj0]
        · simp [h0, hj0, Nat.add_assoc]
    have hx : ∃ xs : List α, xs.length = len ∧ ∀ i x, xs[i]? = some x → G x ∧ ∀ j, j < sz → W.cell? (ad.add (i * sz + j)) = (en x)[j]? := by
      have : ∀ m, m ≤ len → ∃ xs : List α, xs.length = m ∧ ∀ i x, xs[i]? = some x → G x ∧ ∀ j, j < sz → W.cell? (ad.add (i * sz + j)) = (en x)[j]? := by
        intro m
        induction m with
        | zero => exact fun _ => ⟨[], rfl, fun i x h => by simp at h⟩
        | succ m ih =>
          intro hm
          obtain ⟨xs, h1, h2⟩ := ih (by omega)
          obtain ⟨x, h3, h4⟩ := each m (by omega)
          refine ⟨xs ++ [x], by simp [h1], fun i y hy => ?_⟩
          rcases Nat.lt_or_ge i xs.length with h | h
          · rw [List.getElem?_append_left h] at hy
            exact h2 i y hy
          · rw [List.getElem?_append_right h] at hy
            have h0 : i - xs.length = 0 := by
              rcases Nat.eq_zero_or_pos (i - xs.length) with h | h
              · exact h
              · rw [List.getElem?_eq_none (by simp; omega)] at hy; cases hy
            rw [h0] at hy
            simp at hy
            subst hy
            rw [show i = m by omega]
            exact ⟨h3, h4⟩
      exact this len (Nat.le_refl _)
    obtain ⟨xs, h1, h2⟩ := hx
    refine ⟨xs, h1, by omega, by omega, .inr ⟨ad, rfl, fun k u hu => ?_⟩, fun x hx => ?_⟩
    · have hk : k < xs.length * sz := by
        have h3 : ∀ xs : List α, (cellsG en xs).length = xs.length * sz := by
          intro xs
          induction xs with
          | nil => simp [cellsG]
          | cons y xs ih =>
            simp only [cellsG] at ih
            simp only [cellsG, List.flatMap_cons, List.length_append, hen, ih, List.length_cons]
            rw [Nat.add_mul, Nat.one_mul, Nat.add_comm]
        rw [← h3 xs]
        exact (List.getElem?_eq_some_iff.1 hu).1
      have hi : k / sz < xs.length := Nat.div_lt_of_lt_mul (by rw [Nat.mul_comm]; exact hk)
      have hj : k % sz < sz := Nat.mod_lt _ hpos
      have hk2 : k / sz * sz + k % sz = k := Nat.div_add_mod' k sz
      have hxi : xs[k / sz]? = some xs[k / sz] := by simp [hi]
      have h4 := (h2 (k / sz) xs[k / sz] hxi).2 (k % sz) hj
      rw [hk2] at h4
      rw [h4]
      have h5 : ∀ (xs : List α) (i j : Nat) (x : α), xs[i]? = some x → j < sz → (cellsG en xs)[i * sz + j]? = (en x)[j]? := by
        intro xs
        induction xs with
        | nil => intro i j x h; simp at h
        | cons y xs ih =>
          intro i j x h hj
          cases i with
          | zero =>
            simp at h
            subst h
            simp only [cellsG, List.flatMap_cons, Nat.zero_mul, Nat.zero_add]
            rw [List.getElem?_append_left (by rw [hen]; exact hj)]
          | succ i =>
            simp only [List.getElem?_cons_succ] at h
            have ih := ih i j x h hj
            simp only [cellsG] at ih
            simp only [cellsG, List.flatMap_cons]
            rw [List.getElem?_append_right (by rw [hen, Nat.add_mul]; omega), hen, show (i + 1) * sz + j - sz = i * sz + j by rw [Nat.add_mul]; omega, ih]
      have h6 := h5 xs (k / sz) (k % sz) _ hxi hj
      rw [hk2, hu] at h6
      exact h6.symm
    · obtain ⟨i, hi⟩ := List.getElem?_of_mem hx
      exact (h2 i x hi).1

/-- Strings. -/
def enS (s : ByteArray) : List Value := [.string s]
theorem strs_of_arg {H : Type} {encH : TypeId × Value → H} {W : World} {base : Nat} {held : Bool} (T e : TypeId) (hT : Tryd.prog.underlying T = some (.slice e)) (he : Tryd.prog.underlying e = some .string) (hc : Tryd.prog.cellsOf e = 1)
    {fuel : Nat} {a : Option Addr} {len cap : Nat} {x : DataW H × List MemPlace} (h : DataW.trod encH Tryd.prog W base (fun _ => true) held fuel T [.slice a len cap] = some x) :
    ∃ ss : List ByteArray, ss.length = len ∧ ss.length ≤ cap ∧ ss.length ≤ maxLen ∧ CellsG enS W a cap ss ∧ ∀ s ∈ ss, s.size ≤ maxLen :=
  vals_of_arg T e hT 1 hc (by omega) enS (fun _ => rfl) (fun s => s.size ≤ maxLen) (fun n cs y hy _ => by
    obtain ⟨s, rfl, _, hs⟩ := DataW.trod_string he hy
    exact ⟨s, rfl, hs⟩) h

/-- Structs of two strings. -/
def enP (p : ByteArray × ByteArray) : List Value := [.string p.1, .string p.2]
theorem pairs_of_arg {H : Type} {encH : TypeId × Value → H} {W : World} {base : Nat} {held : Bool} (T e : TypeId) (hT : Tryd.prog.underlying T = some (.slice e)) {f0 f1 : Field} (he : Tryd.prog.underlying e = some (.struct #[f0, f1])) (hc : Tryd.prog.cellsOf e = 2)
    (h0 : Tryd.prog.underlying f0.type = some .string) (h1 : Tryd.prog.underlying f1.type = some .string) (c0 : Tryd.prog.cellsOf f0.type = 1) (c1 : Tryd.prog.cellsOf f1.type = 1) (o0 : f0.offset = 0) (o1 : f1.offset = 1)
    {fuel : Nat} {a : Option Addr} {len cap : Nat} {x : DataW H × List MemPlace} (h : DataW.trod encH Tryd.prog W base (fun _ => true) held fuel T [.slice a len cap] = some x) :
    ∃ ps : List (ByteArray × ByteArray), ps.length = len ∧ ps.length ≤ cap ∧ ps.length ≤ maxLen ∧ CellsG enP W a cap ps ∧ ∀ p ∈ ps, p.1.size ≤ maxLen ∧ p.2.size ≤ maxLen :=
  vals_of_arg T e hT 2 hc (by omega) enP (fun _ => rfl) (fun p => p.1.size ≤ maxLen ∧ p.2.size ≤ maxLen) (fun n cs y hy hl => by
    obtain ⟨y0, y1, m, _, _, g0, g1⟩ := trod_struct2 he hy
    rw [o0, c0] at g0
    rw [o1, c1] at g1
    obtain ⟨s0, e0, _, hs0⟩ := DataW.trod_string h0 g0
    obtain ⟨s1, e1, _, hs1⟩ := DataW.trod_string h1 g1
    match cs, hl with
    | [u, v], _ =>
      simp at e0 e1
      subst e0 e1
      exact ⟨(s0, s1), rfl, hs0, hs1⟩) h
end Go.Proofs.YtjignlemahdoeaaDoor
namespace Go.Proofs.YtjignlemahdoeaaDoor
open Go.ChangeShapes Go.WideShapes Go.ChangeAt Go.RowKit
set_option linter.unusedVariables false

theorem weights_all {H : Type} {e : TypeId} {d : DataW H} {m : Nat} : ∀ {l : List (DataW H)}, d ∈ l → m ∈ d.weights Tryd.prog e → m ∈ DataW.weightsAll Tryd.prog e l
  | [], h, _ => by simp at h
  | x :: l, h, hm => by
    simp only [DataW.weightsAll, List.mem_append]
    rcases List.mem_cons.1 h with rfl | h
    · exact .inl hm
    · exact .inr (weights_all h hm)
theorem weights_of_each {H : Type} {ts : List TypeId} {ds : List (DataW H)} (h : (DataW.weightsEach Tryd.prog ts ds).all (· ≤ reachBytes) = true) {j : Nat} {t : TypeId} {d : DataW H} (ht : ts[j]? = some t) (hd : ds[j]? = some d) : ∀ m ∈ d.weights Tryd.prog t, m ≤ reachBytes := fun m hm => by
  simpa using List.all_eq_true.1 h _ (DataW.weights_mem_each ht hd m hm)

theorem vals_of_arg_sized {α : Type} {H : Type} {encH : TypeId × Value → H} {W : World} {base : Nat} {held : Bool} (T e : TypeId) (hT : Tryd.prog.underlying T = some (.slice e)) (sz : Nat) (hsz : Tryd.prog.cellsOf e = sz) (hpos : 0 < sz) (en : α → List Value) (hen : ∀ x, (en x).length = sz) (G : α → Prop)
    (hread : ∀ n cs y, DataW.trod encH Tryd.prog W base (fun _ => true) held n e cs = some y → (∀ m ∈ y.1.weights Tryd.prog e, m ≤ reachBytes) → cs.length = sz → ∃ x, cs = en x ∧ G x)
    {fuel : Nat} {a : Option Addr} {len cap : Nat} {x : DataW H × List MemPlace} (h : DataW.trod encH Tryd.prog W base (fun _ => true) held fuel T [.slice a len cap] = some x) (hW : ∀ m ∈ x.1.weights Tryd.prog T, m ≤ reachBytes) :
    ∃ xs : List α, xs.length = len ∧ xs.length ≤ cap ∧ xs.length ≤ maxLen ∧ CellsG en W a cap xs ∧ ∀ x ∈ xs, G x := by
  rcases DataW.trod_slice hT h with ⟨hcs, _⟩ | ⟨ad, l, c, elems, rest, n, _, hcs, hxx, _, hl, hm, hlen, hel, _, _⟩
  · simp only [List.cons.injEq, Value.slice.injEq, and_true] at hcs
    obtain ⟨rfl, rfl, rfl⟩ := hcs
    exact ⟨[], rfl, by simp, by simp, CellsG.nil en W, by simp⟩
  · simp only [List.cons.injEq, Value.slice.injEq, and_true] at hcs
    obtain ⟨rfl, rfl, rfl⟩ := hcs
    have each : ∀ i, i < len → ∃ x : α, G x ∧ ∀ j, j < sz → W.cell? (ad.add (i * sz + j)) = (en x)[j]? := fun i hi => by
      have h1 := hel i hi
      rw [List.getElem?_eq_getElem (by omega), hsz, Option.bind_eq_some_iff] at h1
      obtain ⟨cs, hc, hy⟩ := h1
      obtain ⟨_, hcl, hcell⟩ := World.cells?_some hc
      obtain ⟨x, hx, hG⟩ := hread n cs _ hy (fun m hm' => hW m (by
        rw [hxx]
        simp only [DataW.weights, hT, List.mem_cons, List.mem_append]
        exact .inr (.inl (weights_all (List.mem_map.2 ⟨_, List.getElem_mem _, rfl⟩) hm')))) hcl
      refine ⟨x, hG, fun j hj => ?_⟩
      rw [← hx]
      have := hcell j hj
      rw [← this]
      refine congrArg W.cell? ?_
      unfold Addr.add
      by_cases h0 : i * sz = 0
      · simp [h0]
      · by_cases hj0 : j = 0
        · simp [h0, hj0]
        · simp [h0, hj0, Nat.add_assoc]
    have hx : ∃ xs : List α, xs.length = len ∧ ∀ i x, xs[i]? = some x → G x ∧ ∀ j, j < sz → W.cell? (ad.add (i * sz + j)) = (en x)[j]? := by
      have : ∀ m, m ≤ len → ∃ xs : List α, xs.length = m ∧ ∀ i x, xs[i]? = some x → G x ∧ ∀ j, j < sz → W.cell? (ad.add (i * sz + j)) = (en x)[j]? := by
        intro m
        induction m with
        | zero => exact fun _ => ⟨[], rfl, fun i x h => by simp at h⟩
        | succ m ih =>
          intro hm
          obtain ⟨xs, h1, h2⟩ := ih (by omega)
          obtain ⟨x, h3, h4⟩ := each m (by omega)
          refine ⟨xs ++ [x], by simp [h1], fun i y hy => ?_⟩
          rcases Nat.lt_or_ge i xs.length with h | h
          · rw [List.getElem?_append_left h] at hy
            exact h2 i y hy
          · rw [List.getElem?_append_right h] at hy
            have h0 : i - xs.length = 0 := by
              rcases Nat.eq_zero_or_pos (i - xs.length) with h | h
              · exact h
              · rw [List.getElem?_eq_none (by simp; omega)] at hy; cases hy
            rw [h0] at hy
            simp at hy
            subst hy
            rw [show i = m by omega]
            exact ⟨h3, h4⟩
      exact this len (Nat.le_refl _)
    obtain ⟨xs, h1, h2⟩ := hx
    refine ⟨xs, h1, by omega, by omega, .inr ⟨ad, rfl, fun k u hu => ?_⟩, fun x hx => ?_⟩
    · have hk : k < xs.length * sz := by
        have h3 : ∀ xs : List α, (cellsG en xs).length = xs.length * sz := by
          intro xs
          induction xs with
          | nil => simp [cellsG]
          | cons y xs ih =>
            simp only [cellsG] at ih
            simp only [cellsG, List.flatMap_cons, List.length_append, hen, ih, List.length_cons]
            rw [Nat.add_mul, Nat.one_mul, Nat.add_comm]
        rw [← h3 xs]
        exact (List.getElem?_eq_some_iff.1 hu).1
      have hi : k / sz < xs.length := Nat.div_lt_of_lt_mul (by rw [Nat.mul_comm]; exact hk)
      have hj : k % sz < sz := Nat.mod_lt _ hpos
      have hk2 : k / sz * sz + k % sz = k := Nat.div_add_mod' k sz
      have hxi : xs[k / sz]? = some xs[k / sz] := by simp [hi]
      have h4 := (h2 (k / sz) xs[k / sz] hxi).2 (k % sz) hj
      rw [hk2] at h4
      rw [h4]
      have h5 : ∀ (xs : List α) (i j : Nat) (x : α), xs[i]? = some x → j < sz → (cellsG en xs)[i * sz + j]? = (en x)[j]? := by
        intro xs
        induction xs with
        | nil => intro i j x h; simp at h
        | cons y xs ih =>
          intro i j x h hj
          cases i with
          | zero =>
            simp at h
            subst h
            simp only [cellsG, List.flatMap_cons, Nat.zero_mul, Nat.zero_add]
            rw [List.getElem?_append_left (by rw [hen]; exact hj)]
          | succ i =>
            simp only [List.getElem?_cons_succ] at h
            have ih := ih i j x h hj
            simp only [cellsG] at ih
            simp only [cellsG, List.flatMap_cons]
            rw [List.getElem?_append_right (by rw [hen, Nat.add_mul]; omega), hen, show (i + 1) * sz + j - sz = i * sz + j by rw [Nat.add_mul]; omega, ih]
      have h6 := h5 xs (k / sz) (k % sz) _ hxi hj
      rw [hk2, hu] at h6
      exact h6.symm
    · obtain ⟨i, hi⟩ := List.getElem?_of_mem hx
      exact (h2 i x hi).1


theorem strs_of_arg_sized {H : Type} {encH : TypeId × Value → H} {W : World} {base : Nat} {held : Bool} (T e : TypeId) (hT : Tryd.prog.underlying T = some (.slice e)) (he : Tryd.prog.underlying e = some .string) (hc : Tryd.prog.cellsOf e = 1)
    {fuel : Nat} {a : Option Addr} {len cap : Nat} {x : DataW H × List MemPlace} (h : DataW.trod encH Tryd.prog W base (fun _ => true) held fuel T [.slice a len cap] = some x) (hW : ∀ m ∈ x.1.weights Tryd.prog T, m ≤ reachBytes) :
    ∃ ss : List ByteArray, ss.length = len ∧ ss.length ≤ cap ∧ ss.length ≤ maxLen ∧ CellsG enS W a cap ss ∧ ∀ s ∈ ss, s.size ≤ reachBytes :=
  vals_of_arg_sized T e hT 1 hc (by omega) enS (fun _ => rfl) (fun s => s.size ≤ reachBytes) (fun n cs y hy hw _ => by
    obtain ⟨s, rfl, rfl, hs⟩ := DataW.trod_string he hy
    refine ⟨s, rfl, ?_⟩
    have := hw s.data.toList.length (by simp [DataW.weights])
    simpa using this) h hW

theorem pairs_of_arg_sized {H : Type} {encH : TypeId × Value → H} {W : World} {base : Nat} {held : Bool} (T e : TypeId) (hT : Tryd.prog.underlying T = some (.slice e)) {f0 f1 : Field} (he : Tryd.prog.underlying e = some (.struct #[f0, f1])) (hc : Tryd.prog.cellsOf e = 2)
    (h0 : Tryd.prog.underlying f0.type = some .string) (h1 : Tryd.prog.underlying f1.type = some .string) (c0 : Tryd.prog.cellsOf f0.type = 1) (c1 : Tryd.prog.cellsOf f1.type = 1) (o0 : f0.offset = 0) (o1 : f1.offset = 1)
    {fuel : Nat} {a : Option Addr} {len cap : Nat} {x : DataW H × List MemPlace} (h : DataW.trod encH Tryd.prog W base (fun _ => true) held fuel T [.slice a len cap] = some x) (hW : ∀ m ∈ x.1.weights Tryd.prog T, m ≤ reachBytes) :
    ∃ ps : List (ByteArray × ByteArray), ps.length = len ∧ ps.length ≤ cap ∧ ps.length ≤ maxLen ∧ CellsG enP W a cap ps ∧ ∀ p ∈ ps, p.1.size ≤ reachBytes ∧ p.2.size ≤ reachBytes :=
  vals_of_arg_sized T e hT 2 hc (by omega) enP (fun _ => rfl) (fun p => p.1.size ≤ reachBytes ∧ p.2.size ≤ reachBytes) (fun n cs y hy hw hl => by
    obtain ⟨y0, y1, m, hy1, _, g0, g1⟩ := trod_struct2 he hy
    rw [o0, c0] at g0
    rw [o1, c1] at g1
    obtain ⟨s0, e0, ey0, hs0⟩ := DataW.trod_string h0 g0
    obtain ⟨s1, e1, ey1, hs1⟩ := DataW.trod_string h1 g1
    have q0 := hw s0.data.toList.length (by rw [hy1, ey0]; simp [DataW.weights, he, DataW.weightsEach])
    have q1 := hw s1.data.toList.length (by rw [hy1, ey1]; simp [DataW.weights, he, DataW.weightsEach])
    match cs, hl with
    | [u, v], _ =>
      simp at e0 e1
      subst e0 e1
      exact ⟨(s0, s1), rfl, by simpa using q0, by simpa using q1⟩) h hW
end Go.Proofs.YtjignlemahdoeaaDoor
namespace Go.Proofs.YtjignlemahdoeaaDoor
open Go.ChangeShapes Go.WideShapes Go.ChangeAt Go.RowKit
set_option linter.unusedVariables false
/-- A value: kind, number, text. -/
structure Vl where
  k : Int
  n : Int
  s : ByteArray
def Vl.v (a : Vl) : Value := .agg #[.int .u8 a.k, .int .i64 a.n, .string a.s]
structure Vl.Good (a : Vl) : Prop where
  k0 : 0 ≤ a.k
  k1 : a.k ≤ 255
  n0 : -9223372036854775808 ≤ a.n
  n1 : a.n ≤ 9223372036854775807
  s1 : a.s.size ≤ reachBytes
def cmpI (m n : Int) : Int := if m < n then -1 else if n < m then 1 else 0
def ordV (a b : Vl) : Int :=
  if a.k = 0 then (if b.k = 0 then cmpI a.n b.n else -1)
  else if b.k = 0 then 1 else cmpT (sl a.s) (sl b.s)
theorem cmpI_neg (m n : Int) : cmpI n m = - cmpI m n := by unfold cmpI; split <;> split <;> omega
theorem ordV_neg (a b : Vl) : ordV b a = - ordV a b := by
  unfold ordV
  by_cases h1 : a.k = 0
  · by_cases h2 : b.k = 0
    · rw [if_pos h2, if_pos h1, if_pos h1, if_pos h2]; exact cmpI_neg _ _
    · rw [if_neg h2, if_pos h1, if_pos h1, if_neg h2]; rfl
  · by_cases h2 : b.k = 0
    · rw [if_pos h2, if_neg h1, if_neg h1, if_pos h2]
    · rw [if_neg h2, if_neg h1, if_neg h1, if_neg h2]; exact cmpT_neg _ _
theorem ltT_trans : ∀ a b c : List Int, ltT a b = true → ltT b c = true → ltT a c = true
  | [], b, [], h1, h2 => by cases b <;> simp [ltT] at h2
  | [], _, _ :: _, _, _ => rfl
  | _ :: _, [], _, h1, _ => by simp [ltT] at h1
  | _ :: _, _ :: _, [], _, h2 => by simp [ltT] at h2
  | x :: a, y :: b, z :: c, h1, h2 => by
    have ih := ltT_trans a b c
    unfold ltT at h1 h2 ⊢
    by_cases e1 : x = y
    · by_cases e2 : y = z
      · rw [if_pos e1] at h1; rw [if_pos e2] at h2; rw [if_pos (e1.trans e2)]; exact ih h1 h2
      · rw [if_neg e2] at h2; rw [if_neg (by rw [e1]; exact e2)]; rw [e1]; exact h2
    · rw [if_neg e1] at h1
      by_cases e2 : y = z
      · rw [if_neg (by rw [← e2]; exact e1), ← e2]; exact h1
      · rw [if_neg e2] at h2
        simp only [decide_eq_true_eq] at h1 h2
        rw [if_neg (by omega)]; simp; omega
theorem cmpT_le {a b : List Int} : cmpT a b ≤ 0 ↔ ltT b a = false := by
  unfold cmpT
  by_cases h : ltT a b = true
  · rw [if_pos h, ltT_asymm a b h]; simp
  · rw [if_neg h]
    by_cases h2 : ltT b a = true
    · rw [if_pos h2, h2]; simp
    · rw [if_neg h2]; simpa using h2
theorem cmpT_trans {a b c : List Int} (h1 : cmpT a b ≤ 0) (h2 : cmpT b c ≤ 0) : cmpT a c ≤ 0 := by
  rw [cmpT_le] at *
  rcases Bool.eq_false_or_eq_true (ltT c a) with h | h
  · exfalso
    rcases Bool.eq_false_or_eq_true (ltT b c) with h3 | h3
    · rw [ltT_trans b c a h3 h] at h1; cases h1
    · have e := ltT_total _ _ h3 h2
      rw [e] at h1; rw [h1] at h; cases h
  · exact h
theorem cmpI_trans {a b c : Int} (h1 : cmpI a b ≤ 0) (h2 : cmpI b c ≤ 0) : cmpI a c ≤ 0 := by
  unfold cmpI at *
  split at h1
  · split at h2
    · rw [if_pos (by omega)]; omega
    · split at h2
      · omega
      · rw [if_pos (by omega)]; omega
  · split at h1
    · omega
    · split at h2
      · rw [if_pos (by omega)]; omega
      · split at h2
        · omega
        · rw [if_neg (by omega), if_neg (by omega)]; omega
theorem ordV_trans {a b c : Vl} (h1 : ordV a b ≤ 0) (h2 : ordV b c ≤ 0) : ordV a c ≤ 0 := by
  unfold ordV at *
  by_cases ha : a.k = 0 <;> by_cases hb : b.k = 0 <;> by_cases hc : c.k = 0 <;> simp only [ha, hb, hc, if_true, if_false] at h1 h2 ⊢ <;> try omega
  · exact cmpI_trans h1 h2
  · exact cmpT_trans h1 h2
theorem cmpI_small (m n : Int) : -1 ≤ cmpI m n ∧ cmpI m n ≤ 1 := by unfold cmpI; split <;> (try split) <;> omega
theorem cmpT_small (x y : List Int) : -1 ≤ cmpT x y ∧ cmpT x y ≤ 1 := by unfold cmpT; split <;> (try split) <;> omega
theorem ordV_small (a b : Vl) : -1 ≤ ordV a b ∧ ordV a b ≤ 1 := by
  unfold ordV
  split
  · split
    · exact cmpI_small _ _
    · omega
  · split
    · omega
    · exact cmpT_small _ _
end Go.Proofs.YtjignlemahdoeaaDoor
namespace Go.Proofs.YtjignlemahdoeaaDoor
open Go.ChangeShapes Go.WideShapes Go.ChangeAt Go.RowKit
set_option linter.unusedVariables false

def I64 (n : Int) : Prop := -9223372036854775808 ≤ n ∧ n ≤ 9223372036854775807

/-- A number in decimal, as bytes. -/
def num10 (n : Int) : List Int := (Lib.itoa n).map fun b => (b.toNat : Int)
theorem num10_cells (n : Int) : Lib.byteCells (Lib.itoa n) = cellsOf (num10 n) := by simp [Lib.byteCells, cellsOf, num10]
theorem num10_len {n : Int} (h : I64 n) : (num10 n).length ≤ 21 := by
  rw [num10, List.length_map]; exact Lib.itoa_length_le n h.1 h.2
theorem num10_isB (n : Int) : IsB (num10 n) := by
  intro x hx
  simp only [num10, List.mem_map] at hx
  obtain ⟨b, _, rfl⟩ := hx
  have := b.toNat_lt
  omega

/-- Decimal digits as bytes. -/
def dgs (u : Nat) : List Int := (Lib.decDigits u).map fun b => (b.toNat : Int)
theorem dgs_small {u : Nat} (h : u < 10) : dgs u = [48 + (u : Int)] := by
  have h2 : (48 + u) % 256 = 48 + u := Nat.mod_eq_of_lt (by omega)
  rw [dgs, Lib.decDigits_one h]
  simp [UInt8.toNat_ofNat', h2]
theorem dgs_big {u : Nat} (h : ¬ u < 10) : dgs u = dgs (u / 10) ++ [48 + ((u % 10 : Nat) : Int)] := by
  have h1 : u % 10 < 10 := Nat.mod_lt _ (by omega)
  have h2 : (48 + u % 10) % 256 = 48 + u % 10 := Nat.mod_eq_of_lt (by omega)
  rw [dgs, Lib.decDigits, dif_neg h, dgs]
  simp [UInt8.toNat_ofNat', h2]
theorem num10_neg {n : Int} (h : n < 0) : num10 n = 45 :: dgs n.natAbs := by
  rw [num10, Lib.itoa, if_pos h]; rfl
theorem num10_pos {n : Int} (h : ¬ n < 0) : num10 n = dgs n.natAbs := by
  rw [num10, Lib.itoa, if_neg h, show n.toNat = n.natAbs by omega]; rfl

/-- What is still ahead of the digits. -/
def ahead (k : Int) : List Int := if k = 0 then [] else dgs k.natAbs
theorem ahead_step {k : Int} (hk : k ≠ 0) : ahead k = ahead (k.tdiv 10) ++ [48 + ((k.natAbs % 10 : Nat) : Int)] := by
  have h1 : (k.tdiv 10).natAbs = k.natAbs / 10 := by rw [Int.natAbs_tdiv]; rfl
  unfold ahead
  rw [if_neg hk]
  by_cases hs : k.natAbs < 10
  · have h0 : k.tdiv 10 = 0 := by
      have : (k.tdiv 10).natAbs = 0 := by rw [h1]; omega
      omega
    rw [if_pos h0, dgs_small hs, Nat.mod_eq_of_lt hs]; rfl
  · have h0 : k.tdiv 10 ≠ 0 := fun he => by rw [he] at h1; simp at h1; omega
    rw [if_neg h0, h1, dgs_big hs]
theorem ahead_zero : dgs 0 = [48] := by rw [dgs_small (by omega)]; rfl

theorem digit0 (w : World) : (Instr.slice 9 (.string ⟨#[48, 49, 50, 51, 52, 53, 54, 55, 56, 57]⟩) (some (.int .i64 0)) (some (.int .i64 1)) none).run Tryd.prog w = .ok (.string (str [48])) w := by kernel_rfl
theorem digit1 (w : World) : (Instr.slice 9 (.string ⟨#[48, 49, 50, 51, 52, 53, 54, 55, 56, 57]⟩) (some (.int .i64 1)) (some (.int .i64 2)) none).run Tryd.prog w = .ok (.string (str [49])) w := by kernel_rfl
theorem digit2 (w : World) : (Instr.slice 9 (.string ⟨#[48, 49, 50, 51, 52, 53, 54, 55, 56, 57]⟩) (some (.int .i64 2)) (some (.int .i64 3)) none).run Tryd.prog w = .ok (.string (str [50])) w := by kernel_rfl
theorem digit3 (w : World) : (Instr.slice 9 (.string ⟨#[48, 49, 50, 51, 52, 53, 54, 55, 56, 57]⟩) (some (.int .i64 3)) (some (.int .i64 4)) none).run Tryd.prog w = .ok (.string (str [51])) w := by kernel_rfl
theorem digit4 (w : World) : (Instr.slice 9 (.string ⟨#[48, 49, 50, 51, 52, 53, 54, 55, 56, 57]⟩) (some (.int .i64 4)) (some (.int .i64 5)) none).run Tryd.prog w = .ok (.string (str [52])) w := by kernel_rfl
theorem digit5 (w : World) : (Instr.slice 9 (.string ⟨#[48, 49, 50, 51, 52, 53, 54, 55, 56, 57]⟩) (some (.int .i64 5)) (some (.int .i64 6)) none).run Tryd.prog w = .ok (.string (str [53])) w := by kernel_rfl
theorem digit6 (w : World) : (Instr.slice 9 (.string ⟨#[48, 49, 50, 51, 52, 53, 54, 55, 56, 57]⟩) (some (.int .i64 6)) (some (.int .i64 7)) none).run Tryd.prog w = .ok (.string (str [54])) w := by kernel_rfl
theorem digit7 (w : World) : (Instr.slice 9 (.string ⟨#[48, 49, 50, 51, 52, 53, 54, 55, 56, 57]⟩) (some (.int .i64 7)) (some (.int .i64 8)) none).run Tryd.prog w = .ok (.string (str [55])) w := by kernel_rfl
theorem digit8 (w : World) : (Instr.slice 9 (.string ⟨#[48, 49, 50, 51, 52, 53, 54, 55, 56, 57]⟩) (some (.int .i64 8)) (some (.int .i64 9)) none).run Tryd.prog w = .ok (.string (str [56])) w := by kernel_rfl
theorem digit9 (w : World) : (Instr.slice 9 (.string ⟨#[48, 49, 50, 51, 52, 53, 54, 55, 56, 57]⟩) (some (.int .i64 9)) (some (.int .i64 10)) none).run Tryd.prog w = .ok (.string (str [57])) w := by kernel_rfl
theorem digit_cut (d : Int) (h0 : 0 ≤ d) (h1 : d ≤ 9) (w : World) : (Instr.slice 9 (.string ⟨#[48, 49, 50, 51, 52, 53, 54, 55, 56, 57]⟩) (some (.int .i64 d)) (some (.int .i64 (d + 1))) none).run Tryd.prog w = .ok (.string (str [48 + d])) w := by
  have h : d = 0 ∨ d = 1 ∨ d = 2 ∨ d = 3 ∨ d = 4 ∨ d = 5 ∨ d = 6 ∨ d = 7 ∨ d = 8 ∨ d = 9 := by omega
  rcases h with rfl | rfl | rfl | rfl | rfl | rfl | rfl | rfl | rfl | rfl
  · exact digit0 w
  · exact digit1 w
  · exact digit2 w
  · exact digit3 w
  · exact digit4 w
  · exact digit5 w
  · exact digit6 w
  · exact digit7 w
  · exact digit8 w
  · exact digit9 w

/-- The loop: the digits that were written. -/
def RelDec (w : World) (n : Int) (s k : Value) (wr : World) : Prop :=
  ∃ (L : List Int) (x : Int), s = .string (str L) ∧ k = .int .i64 x ∧ I64 x ∧ wr = w ∧ ((L = [] ∧ x = n) ∨ (L ≠ [] ∧ dgs n.natAbs = ahead x ++ L))
def measDec (s k : Value) : Nat := (intOf k).natAbs + (match s with | .string b => if b.size = 0 then 1 else 0 | _ => 0)

theorem dgs_len {n : Int} (h : I64 n) : (dgs n.natAbs).length ≤ 20 := by
  rw [dgs, List.length_map, Lib.decDigits_length]
  exact Lib.nDigits_le20 _ (by unfold I64 at h; omega)
/-- One digit more. -/
theorem relDec_step {w : World} {n x q d : Int} {L : List Int} (hx : I64 x) (hq : x.tdiv 10 = q) (hd : d = ((x.natAbs % 10 : Nat) : Int)) (hor : (L = [] ∧ x = n) ∨ (L ≠ [] ∧ dgs n.natAbs = ahead x ++ L)) (hgo : x ≠ 0 ∨ L = []) :
    RelDec w n (.string (str [48 + d] ++ str L)) (.int .i64 q) w ∧ measDec (.string (str [48 + d] ++ str L)) (.int .i64 q) < measDec (.string (str L)) (.int .i64 x) := by
  have h1 : q.natAbs = x.natAbs / 10 := by rw [← hq, Int.natAbs_tdiv]; rfl
  refine ⟨⟨[48 + d] ++ L, q, by rw [str_append], rfl, ?_, rfl, .inr ⟨by simp, ?_⟩⟩, ?_⟩
  · unfold I64 at hx ⊢; omega
  · by_cases hx0 : x = 0
    · subst hx0
      obtain rfl : L = [] := by rcases hgo with h | h; exact absurd rfl h; exact h
      rcases hor with ⟨_, h⟩ | ⟨h, _⟩
      · subst h
        have hq0 : q = 0 := by omega
        subst hq0 hd
        simp [ahead, ahead_zero]
      · exact absurd rfl h
    · have e : ahead x ++ L = ahead q ++ ([48 + d] ++ L) := by rw [ahead_step hx0, hq, hd, List.append_assoc]
      rw [← e]
      rcases hor with ⟨rfl, rfl⟩ | ⟨_, h⟩
      · simp [ahead, hx0]
      · exact h
  · unfold measDec
    rw [str_append]
    have e1 : (str ([48 + d] ++ L)).size = L.length + 1 := by rw [str_size]; simp
    simp only [e1, str_size, intOf]
    rw [if_neg (by omega)]
    split
    · omega
    · rename_i hl
      have hx0 : x ≠ 0 := by
        rcases hgo with h | h
        · exact h
        · subst h; exact absurd rfl hl
      omega

set_option maxRecDepth 100000 in
set_option maxHeartbeats 2000000 in
theorem rnum10_calls (n : Int) (hn : I64 n) (w : World) : Calls Tryd.prog 31 #[.int .i64 n] w fun e w' => e = .returned (.string (str (num10 n))) ∧ w' = w := by
  have HN := Lib.hid hn
  clear hn
  go_enter Tryd.func31, Tryd.ntmps31
  go_wp2
  go_loopw [3, 4] (RelDec w n) (fun s k _ => measDec s k)
  case atStart => exact ⟨[], n, rfl, rfl, HN.out, rfl, .inl ⟨rfl, rfl⟩⟩
  case round =>
    obtain ⟨L, x, rfl, rfl, hx, rfl, hor⟩ := hrel
    have hsz : (str L).size ≤ 20 := by
      rw [str_size]
      rcases hor with ⟨rfl, _⟩ | ⟨_, h⟩
      · simp
      · have h1 := dgs_len HN.out
        rw [h, List.length_append] at h1
        omega
    have hz1 : ¬ 9223372036854775807 < 1 + (str L).size := by omega
    by_cases hx0 : x = 0
    · subst hx0
      by_cases hL : L = []
      · subst hL
        have HS := Lib.hid (relDec_step (w := wr) hx (show (0 : Int).tdiv 10 = 0 by decide) (d := 0) rfl hor (.inr rfl))
        have k1 := digit_cut 0 (by omega) (by omega)
        have e0 : str ([] : List Int) = ⟨#[]⟩ := rfl
        clear hor hx
        rw [e0] at HS ⊢
        go_wp2
        go_roundw
        case rel => exact HS.out.1
        case measure => exact HS.out.2
      · have hne : ¬ (str L).toList = [] := fun e => by
          have h3 : (str L).toList.length = 0 := by rw [e]; rfl
          rw [ByteArray.toList_eq] at h3
          have h4 : L.length = 0 := by rw [← str_size]; simpa using h3
          exact hL (List.eq_nil_of_length_eq_zero h4)
        have hbe : ((str L).toList == []) = false := by simpa using hne
        have hfin : dgs n.natAbs = L := by
          rcases hor with ⟨h, _⟩ | ⟨_, h⟩
          · exact absurd h hL
          · simpa [ahead] using h
        have HF := Lib.hid hfin
        clear hfin hor hx
        by_cases hneg : n < 0
        · go_wp2
          go_ret
          rw [num10_neg hneg, HF.out]
          exact ⟨by rw [show (⟨#[45]⟩ : ByteArray) = str [45] from rfl, str_append]; rfl, rfl⟩
        · go_wp2
          go_ret
          rw [num10_pos (by omega), HF.out]
          exact ⟨rfl, rfl⟩
    · have hxb : (x != 0) = true := by simpa using hx0
      obtain ⟨r, hr⟩ : ∃ r, x.tmod 10 = r := ⟨_, rfl⟩
      obtain ⟨q, hq⟩ : ∃ q, x.tdiv 10 = q := ⟨_, rfl⟩
      obtain ⟨d, hd⟩ : ∃ d : Int, d = ((x.natAbs % 10 : Nat) : Int) := ⟨_, rfl⟩
      have hra : r.natAbs = x.natAbs % 10 := by rw [← hr, Int.natAbs_tmod]; rfl
      have hqa : q.natAbs = x.natAbs / 10 := by rw [← hq, Int.natAbs_tdiv]; rfl
      have HS := Lib.hid (relDec_step (w := wr) hx hq hd hor (.inl hx0))
      have hd0 : 0 ≤ d := by omega
      have hd9 : d ≤ 9 := by omega
      have k1 := digit_cut d hd0 hd9
      have hz2 : ¬ 9223372036854775807 < (str [48 + d]).size + (str L).size := by rw [str_size [48 + d]]; simp only [List.length_cons, List.length_nil]; omega
      have w1 : wrap64 (d + 1) = d + 1 := by unfold wrap64; omega
      have w2 : wrap64 q = q := by unfold wrap64; unfold I64 at hx; omega
      by_cases hneg : r < 0
      · have w3 : wrap64 (-r) = d := by unfold wrap64; omega
        clear hd hra hqa hor hx hx0
        go_wp2
        go_roundw
        case rel => rw [w2]; exact HS.out.1
        case measure => rw [w2]; exact HS.out.2
      · obtain rfl : r = d := by omega
        clear hd hra hqa hor hx hx0
        go_wp2
        go_roundw
        case rel => rw [w2]; exact HS.out.1
        case measure => rw [w2]; exact HS.out.2
end Go.Proofs.YtjignlemahdoeaaDoor
namespace Go.Proofs.YtjignlemahdoeaaDoor
set_option linter.unusedVariables false
theorem dval_append : ∀ (l r : List UInt8) (a : Nat), dval a (l ++ r) = dval (dval a l) r
  | [], _, _ => rfl
  | c :: l, r, a => dval_append l r (a * 10 + (c.toNat - 48))
theorem dval_snoc (l : List UInt8) (c : UInt8) (a : Nat) : dval a (l ++ [c]) = dval a l * 10 + (c.toNat - 48) := by rw [dval_append]; rfl
theorem dval_take_le (l : List UInt8) (k : Nat) : dval 0 (l.take k) ≤ dval 0 l := by
  have h := dval_append (l.take k) (l.drop k) 0
  rw [List.take_append_drop] at h
  rw [h]
  exact dval_le _ _
theorem dval_take_succ {l : List UInt8} {k : Nat} {c : UInt8} (h : l[k]? = some c) : dval 0 (l.take (k + 1)) = dval 0 (l.take k) * 10 + (c.toNat - 48) := by
  rw [List.take_add_one, h]; exact dval_snoc _ _ _
theorem digit_facts (d : Nat) (h : d < 10) : (UInt8.ofNat (48 + d)).toNat = 48 + d := by
  simp only [UInt8.toNat_ofNat']; omega
theorem decDigits_dval (u : Nat) : dval 0 (Lib.decDigits u) = u ∧ (Lib.decDigits u).all isDig = true ∧ Lib.decDigits u ≠ [] ∧ minusOf (Lib.decDigits u) = false := by
  induction u using Nat.strongRecOn with
  | _ u ih =>
    by_cases h : u < 10
    · rw [Lib.decDigits_one h]
      have e := digit_facts u h
      refine ⟨?_, ?_, by simp, ?_⟩
      · show 0 * 10 + ((UInt8.ofNat (48 + u)).toNat - 48) = u
        rw [e]; omega
      · simp only [List.all_cons, List.all_nil, Bool.and_true, isDig, e]
        simp; omega
      · show decide ((UInt8.ofNat (48 + u)).toNat = 45) = false
        rw [e]; simp; omega
    · have hlt : u / 10 < u := by omega
      obtain ⟨i1, i2, i3, i4⟩ := ih (u / 10) hlt
      have hr : u % 10 < 10 := Nat.mod_lt _ (by omega)
      have e := digit_facts (u % 10) hr
      have hd : Lib.decDigits u = Lib.decDigits (u / 10) ++ [UInt8.ofNat (48 + u % 10)] := by
        rw [Lib.decDigits, dif_neg h]
      rw [hd]
      refine ⟨?_, ?_, by simp, ?_⟩
      · rw [dval_snoc, i1, e]; omega
      · rw [List.all_append, i2]
        simp only [List.all_cons, List.all_nil, Bool.and_true, Bool.true_and, isDig, e]
        simp; omega
      · cases hc : Lib.decDigits (u / 10) with
        | nil => exact absurd hc i3
        | cons x r => rw [hc] at i4; exact i4
theorem digitsOf_plain {l : List UInt8} (h : minusOf l = false) : digitsOf l = l := by
  cases l with
  | nil => rfl
  | cons c r =>
    show (if c.toNat = 45 then r else c :: r) = c :: r
    rw [if_neg]
    intro hc
    unfold minusOf at h
    simp [hc] at h
theorem numD_itoa (n : Int) (h0 : -9223372036854775808 ≤ n) (h1 : n ≤ 9223372036854775807) : numD (Lib.itoa n) = (n, 0) := by
  obtain ⟨i1, i2, i3, i4⟩ := decDigits_dval n.natAbs
  by_cases h : n < 0
  · have e : Lib.itoa n = 45 :: Lib.decDigits n.natAbs := by unfold Lib.itoa; rw [if_pos h]
    have e1 : digitsOf (Lib.itoa n) = Lib.decDigits n.natAbs := by
      rw [e]; rfl
    have e2 : minusOf (Lib.itoa n) = true := by rw [e]; rfl
    unfold numD
    rw [e1, e2, if_neg (fun h => by rcases h with h | h; exact i3 h; rw [i2] at h; cases h), if_pos rfl, i1, if_pos (by omega)]
    exact Prod.ext (by show -(n.natAbs : Int) = n; omega) rfl
  · have e : Lib.itoa n = Lib.decDigits n.natAbs := by unfold Lib.itoa; rw [if_neg h, show n.toNat = n.natAbs by omega]
    have e1 : digitsOf (Lib.itoa n) = Lib.decDigits n.natAbs := by rw [e]; exact digitsOf_plain i4
    have e2 : minusOf (Lib.itoa n) = false := by rw [e]; exact i4
    unfold numD
    rw [e1, e2, if_neg (fun h => by rcases h with h | h; exact i3 h; rw [i2] at h; cases h), if_neg (by decide), i1, if_pos (by omega)]
    exact Prod.ext (by show (n.natAbs : Int) = n; omega) rfl
end Go.Proofs.YtjignlemahdoeaaDoor
namespace Go.Proofs.YtjignlemahdoeaaDoor
open Go.ChangeShapes Go.WideShapes Go.ChangeAt Go.RowKit
set_option linter.unusedVariables false
/-- An expression: operation, value, where its arguments lie, its arguments. -/
inductive Ex where
  | node (op : Int) (v : Vl) (A : Option Addr) (c : Nat) (args : List Ex)
def Ex.op : Ex → Int | .node op _ _ _ _ => op
def Ex.vl : Ex → Vl | .node _ v _ _ _ => v
def Ex.adr : Ex → Option Addr | .node _ _ A _ _ => A
def Ex.cp : Ex → Nat | .node _ _ _ c _ => c
def Ex.args : Ex → List Ex | .node _ _ _ _ l => l
theorem Ex.eta (e : Ex) : e = .node e.op e.vl e.adr e.cp e.args := by cases e; rfl
theorem Ex.ind {P : Ex → Prop} (h : ∀ op v A c l, (∀ e ∈ l, P e) → P (.node op v A c l)) (e : Ex) : P e :=
  Ex.rec (motive_1 := P) (motive_2 := fun l => ∀ e ∈ l, P e) (fun op v A c l ih => h op v A c l ih) (fun e he => by cases he) (fun a l ha hl e he => by
    rcases List.mem_cons.1 he with rfl | he
    · exact ha
    · exact hl e he) e
mutual
def Ex.size : Ex → Int | .node _ _ _ _ l => 1 + sizeL l
def sizeL : List Ex → Int | [] => 0 | e :: l => e.size + sizeL l
end
mutual
def Ex.deep : Ex → Int | .node _ _ _ _ l => deepL l + 1
def deepL : List Ex → Int | [] => 0 | e :: l => max e.deep (deepL l)
end
/-- How many arguments an operation has. -/
def arity (op : Int) : Int := if op < 0 ∨ 27 < op then -1 else if op < 8 then 0 else if op = 13 ∨ op = 18 ∨ op = 20 ∨ op = 23 ∨ op = 24 ∨ op = 26 then 1 else if op = 19 ∨ op = 22 ∨ op = 25 then 3 else 2
mutual
def Ex.shaped : Ex → Bool | .node op _ _ _ l => decide ((l.length : Int) = arity op) && shapedL l
def shapedL : List Ex → Bool | [] => true | e :: l => e.shaped && shapedL l
end
mutual
def Ex.wide : Ex → Bool | .node op v _ _ l => (decide (op = 0) && (decide (v.k ≠ 0) && decide (65536 < v.s.size))) || wideL l
def wideL : List Ex → Bool | [] => false | e :: l => e.wide || wideL l
end
mutual
def Ex.same : Ex → Ex → Bool | .node op v _ _ l, .node op' v' _ _ l' => (decide (op = op') && (decide (l.length = l'.length) && (decide (op ≠ 0) || decide (ordV v v' = 0)))) && sameL l l'
def sameL : List Ex → List Ex → Bool | e :: l, e' :: l' => e.same e' && sameL l l' | _, _ => true
end
def hexd (d : Int) : Int := if d < 10 then 48 + d else 87 + d
/-- A byte in a quoted string. -/
def qch (c : Int) : List Int := if c < 32 ∨ 126 < c then [92, 120, hexd (c / 16), hexd (c % 16)] else if c = 34 ∨ c = 92 then [92, c] else [c]
def quote (s : List Int) : List Int := [34] ++ (s.flatMap qch ++ [34])
/-- The names of the operations. -/
def names : List (List Int) := [[99, 111, 110, 115, 116], [108, 105, 110, 101], [111, 102, 102], [119, 111, 114, 100], [110, 117, 109], [107, 101, 121], [97, 99, 99], [99, 111, 117, 110, 116], [97, 100, 100], [115, 117, 98], [109, 117, 108], [100, 105, 118], [109, 111, 100], [110, 101, 103], [101, 113], [108, 116], [97, 110, 100], [111, 114], [110, 111, 116], [105, 102], [108, 101, 110], [99, 97, 116], [99, 117, 116], [105, 110, 116], [115, 116, 114], [102, 105, 101, 108, 100], [117, 112, 112, 101, 114], [102, 105, 110, 100]]
def nameOf (op : Int) : List Int := if 0 ≤ op then names.getD op.toNat [] else []
mutual
def Ex.text : Ex → List Int | .node op v _ _ l => if op = 0 then (if v.k = 0 then num10 v.n else quote (sl v.s)) else if l.length = 0 then nameOf op else [40] ++ nameOf op ++ textL l ++ [41]
def textL : List Ex → List Int | [] => [] | e :: l => [32] ++ e.text ++ textL l
end
mutual
def Ex.weigh : Ex → Int → Int | .node _ v _ _ l, left => weighL l (left - 1 - v.s.size)
def weighL : List Ex → Int → Int | [], left => left | e :: l, left => if left < 0 then left else weighL l (e.weigh left)
end
def Ex.right (e : Ex) : Int := if 200 < e.size then 9 else if 20 < e.deep then 8 else if e.shaped = false then 3 else if e.wide = true then 5 else 0
theorem sizeL_append (a b : List Ex) : sizeL (a ++ b) = sizeL a + sizeL b := by
  induction a with
  | nil => simp [sizeL]
  | cons e a ih => rw [List.cons_append, sizeL, sizeL, ih]; omega
theorem deepL_append (a b : List Ex) : deepL (a ++ b) = max (deepL a) (deepL b) := by
  induction a with
  | nil =>
    have : 0 ≤ deepL b := by
      induction b with
      | nil => simp [deepL]
      | cons e b ih => rw [deepL]; omega
    rw [List.nil_append, deepL]; omega
  | cons e a ih => rw [List.cons_append, deepL, deepL, ih]; omega
theorem shapedL_append (a b : List Ex) : shapedL (a ++ b) = (shapedL a && shapedL b) := by
  induction a with
  | nil => simp [shapedL]
  | cons e a ih => rw [List.cons_append, shapedL, shapedL, ih, Bool.and_assoc]
theorem wideL_append (a b : List Ex) : wideL (a ++ b) = (wideL a || wideL b) := by
  induction a with
  | nil => simp [wideL]
  | cons e a ih => rw [List.cons_append, wideL, wideL, ih, Bool.or_assoc]
theorem textL_append (a b : List Ex) : textL (a ++ b) = textL a ++ textL b := by
  induction a with
  | nil => simp [textL]
  | cons e a ih => rw [List.cons_append, textL, textL, ih]; simp
end Go.Proofs.YtjignlemahdoeaaDoor
namespace Go.Proofs.YtjignlemahdoeaaDoor
open Go.ChangeShapes Go.WideShapes Go.ChangeAt Go.RowKit
set_option linter.unusedVariables false
theorem same_text : ∀ x y : Ex, x.shaped = true → y.shaped = true → x.same y = true → x.text = y.text := by
  intro x
  induction x using Ex.ind with
  | h op v A c l ih =>
    intro y hx hy hs
    obtain ⟨op', v', A', c', l'⟩ := y
    simp only [Ex.same, Bool.and_eq_true, decide_eq_true_eq, Bool.or_eq_true] at hs
    obtain ⟨⟨rfl, hl, hv⟩, hsl⟩ := hs
    simp only [Ex.shaped, Bool.and_eq_true] at hx hy
    have key : ∀ l l' : List Ex, (∀ e ∈ l, ∀ y, e.shaped = true → y.shaped = true → e.same y = true → e.text = y.text) → l.length = l'.length → shapedL l = true → shapedL l' = true → sameL l l' = true → textL l = textL l' := by
      intro l
      induction l with
      | nil => intro l' _ h _ _ _; cases l' with | nil => rfl | cons _ _ => simp at h
      | cons e l ihl =>
        intro l' hh h h1 h2 h3
        cases l' with
        | nil => simp at h
        | cons e' l' =>
          simp only [shapedL, Bool.and_eq_true] at h1 h2
          simp only [sameL, Bool.and_eq_true] at h3
          simp only [textL]
          rw [hh e (by simp) e' h1.1 h2.1 h3.1, ihl l' (fun x hx => hh x (by simp [hx])) (by simpa using h) h1.2 h2.2 h3.2]
    have ht := key l l' ih hl hx.2 hy.2 hsl
    simp only [Ex.text, hl, ht]
    by_cases h0 : op = 0
    · rw [if_pos h0, if_pos h0]
      have ho : ordV v v' = 0 := by rcases hv with h | h; exact absurd h0 h; exact h
      unfold ordV at ho
      by_cases hk : v.k = 0
      · by_cases hk' : v'.k = 0
        · rw [if_pos hk, if_pos hk']
          rw [if_pos hk, if_pos hk'] at ho
          unfold cmpI at ho
          have : v.n = v'.n := by split at ho; omega; split at ho; omega; omega
          rw [this]
        · rw [if_pos hk, if_neg hk'] at ho; omega
      · by_cases hk' : v'.k = 0
        · rw [if_neg hk, if_pos hk'] at ho; omega
        · rw [if_neg hk, if_neg hk']
          rw [if_neg hk, if_neg hk'] at ho
          have : sl v.s = sl v'.s := by
            unfold cmpT at ho
            split at ho
            · omega
            · split at ho
              · omega
              · rename_i h1 h2
                exact ltT_total _ _ (by simpa using h1) (by simpa using h2)
          rw [this]
    · rw [if_neg h0, if_neg h0]
/-- What may come behind an expression: nothing, a blank or a closing bracket. -/
def Delim (r : List Int) : Prop := r = [] ∨ ∃ q, r = 32 :: q ∨ r = 41 :: q
theorem span_eq {P : Int → Prop} : ∀ (a b r r' : List Int), (∀ x ∈ a, P x) → (∀ x ∈ b, P x) → (∀ x q, r = x :: q → ¬ P x) → (∀ x q, r' = x :: q → ¬ P x) → a ++ r = b ++ r' → a = b ∧ r = r'
  | [], [], r, r', _, _, _, _, h => ⟨rfl, h⟩
  | [], y :: b, r, r', _, hb, hr, _, h => absurd (hb y (by simp)) (hr y (b ++ r') (by simpa using h))
  | x :: a, [], r, r', ha, _, _, hr', h => absurd (ha x (by simp)) (hr' x (a ++ r) (by simpa using h.symm))
  | x :: a, y :: b, r, r', ha, hb, hr, hr', h => by
    simp only [List.cons_append, List.cons.injEq] at h
    obtain ⟨h1, h2⟩ := h
    obtain ⟨h3, h4⟩ := span_eq a b r r' (fun z hz => ha z (by simp [hz])) (fun z hz => hb z (by simp [hz])) hr hr' h2
    exact ⟨by rw [h1, h3], h4⟩
theorem Delim.not {P : Int → Prop} {r : List Int} (h : Delim r) (h1 : ¬ P 32) (h2 : ¬ P 41) : ∀ x q, r = x :: q → ¬ P x := by
  intro x q e
  rcases h with rfl | ⟨q', rfl | rfl⟩
  · cases e
  · injection e with e1 _; rw [← e1]; exact h1
  · injection e with e1 _; rw [← e1]; exact h2
/-- Characters of numbers. -/
def NumC (x : Int) : Prop := x = 45 ∨ (48 ≤ x ∧ x ≤ 57)
theorem num10_chars (n : Int) : (∀ x ∈ num10 n, NumC x) ∧ num10 n ≠ [] := by
  obtain ⟨i1, i2, i3, i4⟩ := decDigits_dval n.natAbs
  have hd : ∀ x ∈ dgs n.natAbs, NumC x := by
    intro x hx
    simp only [dgs, List.mem_map] at hx
    obtain ⟨b, hb, rfl⟩ := hx
    have := List.all_eq_true.1 i2 b hb
    unfold isDig at this
    simp only [Bool.and_eq_true, decide_eq_true_eq] at this
    right; omega
  have hne : dgs n.natAbs ≠ [] := by unfold dgs; simpa using i3
  by_cases h : n < 0
  · rw [num10_neg h]
    exact ⟨fun x hx => by rcases List.mem_cons.1 hx with rfl | hx; exact .inl rfl; exact hd x hx, by simp⟩
  · rw [num10_pos h]; exact ⟨hd, hne⟩
theorem num10_inj {n m : Int} (h : num10 n = num10 m) : n = m := by
  have e : Lib.itoa n = Lib.itoa m := by
    have key : ∀ a b : List UInt8, (a.map fun b => (b.toNat : Int)) = (b.map fun b => (b.toNat : Int)) → a = b := fun a b h => nums_inj h
    exact key _ _ h
  obtain ⟨i1, i2, i3, i4⟩ := decDigits_dval n.natAbs
  obtain ⟨j1, j2, j3, j4⟩ := decDigits_dval m.natAbs
  unfold Lib.itoa at e
  by_cases hn : n < 0
  · by_cases hm : m < 0
    · rw [if_pos hn, if_pos hm] at e
      injection e with _ e
      rw [e] at i1; omega
    · rw [if_pos hn, if_neg hm, show m.toNat = m.natAbs by omega] at e
      rw [← e] at j4; cases j4
  · by_cases hm : m < 0
    · rw [if_neg hn, if_pos hm, show n.toNat = n.natAbs by omega] at e
      rw [e] at i4; cases i4
    · rw [if_neg hn, if_neg hm, show n.toNat = n.natAbs by omega, show m.toNat = m.natAbs by omega] at e
      rw [e] at i1; omega
theorem hexd_inj {a b : Int} (ha : 0 ≤ a ∧ a < 16) (hb : 0 ≤ b ∧ b < 16) (h : hexd a = hexd b) : a = b := by
  unfold hexd at h
  split at h <;> split at h <;> omega
theorem qch_inj {c d : Int} (hc : 0 ≤ c ∧ c ≤ 255) (hd : 0 ≤ d ∧ d ≤ 255) {X Y : List Int} (h : qch c ++ X = qch d ++ Y) : c = d ∧ X = Y := by
  unfold qch at h
  split at h
  · split at h
    · simp only [List.cons_append, List.nil_append, List.cons.injEq, true_and] at h
      obtain ⟨h1, h2, h3⟩ := h
      have e1 := hexd_inj (by omega) (by omega) h1
      have e2 := hexd_inj (by omega) (by omega) h2
      exact ⟨by omega, h3⟩
    · split at h
      · simp only [List.cons_append, List.nil_append, List.cons.injEq, true_and] at h; omega
      · simp only [List.cons_append, List.nil_append, List.cons.injEq] at h; omega
  · split at h
    · split at h
      · simp only [List.cons_append, List.nil_append, List.cons.injEq, true_and] at h; omega
      · split at h
        · simp only [List.cons_append, List.nil_append, List.cons.injEq, true_and] at h; exact h
        · simp only [List.cons_append, List.nil_append, List.cons.injEq] at h; omega
    · split at h
      · simp only [List.cons_append, List.nil_append, List.cons.injEq] at h; omega
      · split at h
        · simp only [List.cons_append, List.nil_append, List.cons.injEq] at h; omega
        · simp only [List.cons_append, List.nil_append, List.cons.injEq] at h; exact h
theorem qch_head {c : Int} {X Y : List Int} (h : qch c ++ X = 34 :: Y) : False := by
  unfold qch at h
  split at h
  · simp only [List.cons_append, List.cons.injEq] at h; omega
  · split at h
    · simp only [List.cons_append, List.cons.injEq] at h; omega
    · simp only [List.cons_append, List.cons.injEq] at h; omega
theorem qs_inj : ∀ (s t : List Int), IsB s → IsB t → ∀ {X Y : List Int}, s.flatMap qch ++ (34 :: X) = t.flatMap qch ++ (34 :: Y) → s = t ∧ X = Y
  | [], [], _, _, X, Y, h => by simpa using h
  | [], d :: t, _, _, X, Y, h => by
    rw [List.flatMap_nil, List.nil_append, List.flatMap_cons, List.append_assoc] at h
    exact (qch_head h.symm).elim
  | c :: s, [], _, _, X, Y, h => by
    rw [List.flatMap_nil, List.nil_append, List.flatMap_cons, List.append_assoc] at h
    exact (qch_head h).elim
  | c :: s, d :: t, hs, ht, X, Y, h => by
    rw [List.flatMap_cons, List.flatMap_cons, List.append_assoc, List.append_assoc] at h
    obtain ⟨e1, e2⟩ := qch_inj (hs c (by simp)) (ht d (by simp)) h
    obtain ⟨e3, e4⟩ := qs_inj s t (fun x hx => hs x (by simp [hx])) (fun x hx => ht x (by simp [hx])) e2
    exact ⟨by rw [e1, e3], e4⟩
theorem quote_inj {s t : List Int} (hs : IsB s) (ht : IsB t) {X Y : List Int} (h : quote s ++ X = quote t ++ Y) : s = t ∧ X = Y := by
  unfold quote at h
  simp only [List.cons_append, List.nil_append, List.append_assoc, List.cons.injEq, true_and] at h
  exact qs_inj s t hs ht h
def LetC (x : Int) : Prop := 97 ≤ x ∧ x ≤ 122
theorem names_chars : ∀ k : Fin 28, (∀ x ∈ names.getD k.val [], LetC x) ∧ names.getD k.val [] ≠ [] := by unfold LetC; decide +kernel
theorem names_inj : ∀ k j : Fin 28, names.getD k.val [] = names.getD j.val [] → k = j := by decide +kernel
theorem nameOf_ok {op : Int} (h0 : 0 ≤ op) (h1 : op ≤ 27) : (∀ x ∈ nameOf op, LetC x) ∧ nameOf op ≠ [] := by
  unfold nameOf; rw [if_pos h0]
  exact names_chars ⟨op.toNat, by omega⟩
theorem nameOf_inj {a b : Int} (a0 : 0 ≤ a) (a1 : a ≤ 27) (b0 : 0 ≤ b) (b1 : b ≤ 27) (h : nameOf a = nameOf b) : a = b := by
  unfold nameOf at h; rw [if_pos a0, if_pos b0] at h
  have := names_inj ⟨a.toNat, by omega⟩ ⟨b.toNat, by omega⟩ h
  have := congrArg Fin.val this
  simp at this; omega
theorem arity_op {op : Int} (h : 0 ≤ arity op) : 0 ≤ op ∧ op ≤ 27 := by
  unfold arity at h
  split at h
  · omega
  · rename_i hn; omega
end Go.Proofs.YtjignlemahdoeaaDoor
