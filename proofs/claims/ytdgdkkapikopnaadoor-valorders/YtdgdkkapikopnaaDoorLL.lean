/-
  Slices of byte slices in memory, as lists of lists of bytes: they stay, grow, and are cut. No function of the program in sight; T is the number of the type of slices of byte slices. Conditions: each theorem names its own.
-/
import Derived.Test.YtdgdkkapikopnaaDoorCut
import Derived.Deep.Matrix
namespace Go.Proofs.YtdgdkkapikopnaaDoor
open Go.ChangeShapes Go.WideShapes Go.ChangeAt Go.RowKit
set_option linter.unusedVariables false

/-- A byte slice as an element: its address, its capacity, the bytes that it reads as. -/
abbrev Elt := Option Addr × Nat × List Int
def eltVal (r : Elt) : Value := .slice r.1 r.2.2.length r.2.1
def cellsL (rs : List Elt) : List Value := rs.map eltVal
/-- The bytes alone. -/
def listsOf (rs : List Elt) : List (List Int) := rs.map (·.2.2)
theorem cellsL_length (rs : List Elt) : (cellsL rs).length = rs.length := by simp [cellsL]
theorem cellsL_one (rs : List Elt) : ∀ u ∈ cellsL rs, u.oneCell' = true := by
  intro u hu
  obtain ⟨r, _, rfl⟩ := List.mem_map.1 hu
  rfl
theorem cellsL_append (a b : List Elt) : cellsL (a ++ b) = cellsL a ++ cellsL b := by simp [cellsL]
theorem cellsL_get {rs : List Elt} {i : Nat} (h : i < rs.length) : (cellsL rs)[i]? = some (eltVal rs[i]) := by simp [cellsL, h]
theorem listsOf_append (a b : List Elt) : listsOf (a ++ b) = listsOf a ++ listsOf b := by simp [listsOf]
theorem listsOf_length (rs : List Elt) : (listsOf rs).length = rs.length := by simp [listsOf]

/-- The elements of a slice of byte slices: where their values lie. -/
def CellsL (w : World) (A : Option Addr) (c : Nat) (rs : List Elt) : Prop :=
  (A = none ∧ c = 0 ∧ rs = []) ∨ ∃ a, A = some a ∧ ∀ j u, (cellsL rs)[j]? = some u → w.cell? (a.add j) = some u
/-- .. and that each reads as its bytes. -/
def EachL (w : World) (rs : List Elt) : Prop := ∀ r ∈ rs, Lies w r.1 r.2.1 r.2.2

theorem EachL.below {w w' : World} {rs : List Elt} (h : EachL w rs) (hb : Below w.heap.size w w') : EachL w' rs := fun r hr => (h r hr).below hb
theorem EachL.append {w : World} {a b : List Elt} (ha : EachL w a) (hb : EachL w b) : EachL w (a ++ b) := fun r hr => (List.mem_append.1 hr).elim (ha r) (hb r)
theorem EachL.nil (w : World) : EachL w [] := fun r hr => by simp at hr
theorem EachL.one {w : World} {A : Option Addr} {c : Nat} {l : List Int} (h : Lies w A c l) : EachL w [(A, c, l)] := fun r hr => by simp at hr; subst hr; exact h
theorem CellsL.nil (w : World) : CellsL w none 0 [] := .inl ⟨rfl, rfl, rfl⟩
theorem CellsL.below {w w' : World} {A : Option Addr} {c : Nat} {rs : List Elt} (h : CellsL w A c rs) (hb : Below w.heap.size w w') : CellsL w' A c rs := by
  rcases h with h | ⟨a, rfl, h⟩
  · exact .inl h
  · refine .inr ⟨a, rfl, fun j u hu => ?_⟩
    have h1 := h j u hu
    rw [hb.cell (block_lt_of_cell h1)]
    exact h1
theorem CellsL.at_ {w : World} {A : Option Addr} {c : Nat} {rs : List Elt} (h : CellsL w A c rs) (hl : 0 < rs.length) :
    ∃ b o, A = some ⟨b, o, none⟩ ∧ b < w.heap.size ∧ ∀ i (hi : i < rs.length), w.cell? ⟨b, o + i, none⟩ = some (eltVal rs[i]) := by
  rcases h with ⟨_, _, rfl⟩ | ⟨⟨b, o, spot⟩, rfl, h⟩
  · simp at hl
  · have h0 := h 0 _ (cellsL_get hl)
    have hs : spot = none := by simpa [Addr.add] using World.cell?_spot h0
    subst hs
    refine ⟨b, o, rfl, block_lt_of_cell (a := ⟨b, o, none⟩) (by simpa [Addr.add] using h0), fun i hi => ?_⟩
    have h1 := h i _ (cellsL_get hi)
    by_cases e : i = 0
    · subst e; simpa [Addr.add] using h1
    · simpa [Addr.add, e] using h1

theorem Tryd.info22 : (Tryd.prog.info? 24).map (fun i => (i.zero, i.size, i.bytes)) = some (some (.slice none 0 0), 1, 24) := by kernel_rfl
theorem size22 (w : World) : (Go.sizeOf 24).run Tryd.prog w = .ok 1 w := by kernel_rfl

/-- A slice of byte slices of the call own. -/
def OwnL (B : Nat) (w : World) (A : Option Addr) (c : Nat) (rs : List Elt) : Prop := w.ownsRow B 24 1 (.slice A rs.length c) rs.length (cellsL rs)
theorem OwnL.nil (B : Nat) (w : World) : OwnL B w none 0 [] := World.ownsRow_nil w B 24 1
theorem OwnL.cells {B : Nat} {w : World} {A : Option Addr} {c : Nat} {rs : List Elt} (h : OwnL B w A c rs) : CellsL w A c rs := by
  rcases h.2 with ⟨hv, h0⟩ | ⟨g, cap, cur, hv, _⟩
  · simp only [Value.slice.injEq] at hv
    obtain ⟨rfl, _, rfl⟩ := hv
    exact .inl ⟨rfl, rfl, List.eq_nil_of_length_eq_zero h0⟩
  · simp only [Value.slice.injEq] at hv
    obtain ⟨rfl, _, rfl⟩ := hv
    exact .inr ⟨_, rfl, World.ownsRow.cells h (g := g) rfl⟩
theorem OwnL.mono {B B' : Nat} {w : World} {A : Option Addr} {c : Nat} {rs : List Elt} (h : OwnL B w A c rs) (hb : B' ≤ B) : OwnL B' w A c rs :=
  ⟨h.1, h.2.elim Or.inl (fun ⟨g, cap, cur, hv, hg, r⟩ => Or.inr ⟨g, cap, cur, hv, Nat.le_trans hb hg, r⟩)⟩
theorem OwnL.below {B : Nat} {w w' : World} {A : Option Addr} {c : Nat} {rs : List Elt} (h : OwnL B w A c rs) (hb : Below w.heap.size w w') : OwnL B w' A c rs := by
  refine ⟨h.1, ?_⟩
  rcases h.2 with h2 | ⟨g, cap, cur, hv, hg, hh, r⟩
  · exact .inl h2
  · refine .inr ⟨g, cap, cur, hv, hg, ?_, r⟩
    rw [hb.block g (lt_of_block hh)]
    exact hh
theorem OwnL.alloc {B : Nat} {w : World} {A : Option Addr} {c : Nat} {rs : List Elt} (h : OwnL B w A c rs) (o : Obj) : OwnL B (w.alloc o) A c rs := World.ownsRow.alloc h o
theorem OwnL.grow {B : Nat} {w0 w w' : World} {A : Option Addr} {c : Nat} {rs : List Elt} (h : OwnL B w A c rs) (hb : Below B w0 w) (hg : w.grownBy w' (Value.slice A rs.length c).ownBlock) (hB : B ≤ w.heap.size) : Below B w0 w' :=
  hb.grown hg hB (fun k hk => (World.ownsRow.lt h k hk).1)
theorem OwnL.cap {B : Nat} {w : World} {A : Option Addr} {c : Nat} {rs : List Elt} (h : OwnL B w A c rs) : rs.length ≤ c := by
  rcases h.2 with ⟨hv, h0⟩ | ⟨g, cap, cur, hv, hg, hh, hn, r⟩
  · omega
  · simp only [Value.slice.injEq] at hv
    omega

theorem run_append_rows (T ty : TypeId) (hT : Tryd.prog.underlying T = some (.slice 24)) (w : World) (base : Nat) (A : Option Addr) (c : Nat) (rs : List Elt) (hown : OwnL base w A c rs) (B : Option Addr) (d : Nat) (ns : List Elt) (hr : CellsL w B d ns)
    (h63 : rs.length + ns.length ≤ 1000000000) (hbase : base ≤ w.heap.size) :
    ∃ A' c' w', (Builtin.append_ #[T, T] ty #[.slice A rs.length c, .slice B ns.length d]).run Tryd.prog w = .ok (.slice A' (rs ++ ns).length c') w' ∧ OwnL base w' A' c' (rs ++ ns) ∧ w.grownBy w' (Value.slice A rs.length c).ownBlock := by
  obtain ⟨i0, hi, hz0, hz1, hz2⟩ := info_parts Tryd.info22
  unfold OwnL at *
  rw [List.length_append, cellsL_append]
  rcases hr with ⟨rfl, rfl, rfl⟩ | ⟨a, rfl, hr⟩
  · refine ⟨A, c, w, run_append_owned_none w base T ty 24 i0 1 hT hi _ _ _ hown, ?_, World.grownBy.refl _ _⟩
    simpa [cellsL] using hown
  · obtain ⟨v', w', hrun, h2, h3, _, h5⟩ := run_append_own_at (P := Tryd.prog) w base T ty 24 i0 (.slice none 0 0) 1 24 hT hi hz0 hz1 hz2 rfl (by decide) _ _ _ hown a ns.length d (cellsL ns) (by rw [cellsL_length]; omega) hr (cellsL_one ns) (by unfold maxLen; omega) (by omega) hbase
    rcases h2.2 with ⟨hv, h0⟩ | ⟨g, cap, cur, hv, _⟩
    · subst hv
      refine ⟨none, 0, w', ?_, ?_, h3⟩
      · rw [h0]; exact hrun
      · rw [h0] at h2 ⊢; exact h2
    · subst hv
      exact ⟨_, cap, w', hrun, h2, h3⟩

/-- At an operation of a region that does not draw. -/
theorem wpList_append_rows {w : World} {ops : Array Oper} {rest : List Oper} {o : Oper} {a : Act} {Q : Exit → Act → World → Prop} (hgd : o.guard = none) (s x : Operand) (T : TypeId) (hT : Tryd.prog.underlying T = some (.slice 24))
    (ho : o.op = .call { callee := .builtin .append, args := #[s, x], argTypes := #[T, T] })
    (base : Nat) (A : Option Addr) (c : Nat) (rs : List Elt) (hs : a.eval s = .slice A rs.length c) (hown : OwnL base w A c rs)
    (B : Option Addr) (d : Nat) (ns : List Elt) (hx : a.eval x = .slice B ns.length d) (hr : CellsL w B d ns) (h63 : rs.length + ns.length ≤ 1000000000) (hbase : base ≤ w.heap.size)
    (h : ∀ A' c' w' R, Hid (R = rs ++ ns) → OwnL base w' A' c' R → w.grownBy w' (Value.slice A rs.length c).ownBlock → wpList Tryd.prog ops Q rest (a.put o.dst (.slice A' R.length c')) w') : wpList Tryd.prog ops Q (o :: rest) a w := by
  obtain ⟨A', c', w', hrun, h2, h3⟩ := run_append_rows T o.type hT w base A c rs hown B d ns hr h63 hbase
  refine wpList_plain hgd fun K hK => ?_
  unfold Oper.wp execOp
  simp only [ho, resolve, invoke, builtin, Sem.run_bind, Sem.run_pure, Result.andThen_ok, List.map_toArray, List.map_cons, List.map_nil, hs, hx, hrun]
  exact hK _ _ (h A' c' w' _ (Lib.hid rfl) h2 h3)

/-- The row that the literal of one element lays. -/
theorem cells_one_row (w : World) (r : Elt) : CellsL (w.alloc (.cells #[eltVal r] 24)) (some ⟨w.heap.size, 0, none⟩) 1 [r] := by
  refine .inr ⟨_, rfl, fun j u hu => ?_⟩
  cases j with
  | zero => simp [cellsL] at hu; subst hu; simp [Addr.add]
  | succ j => simp [cellsL] at hu

/-- l[:hi]. -/
theorem cut_rows_h (T : TypeId) (hT : Tryd.prog.underlying T = some (.slice 24)) {w : World} {A : Option Addr} {c : Nat} {rs : List Elt} (h : CellsL w A c rs) (hc : rs.length ≤ c) (hi : Nat) (H : Int) (hH : H = hi) (hn : hi ≤ rs.length) :
    ∃ A' C', (∀ W, (Instr.slice T (.slice A rs.length c) none (some (.int .i64 H)) none).run Tryd.prog W = .ok (.slice A' (rs.take hi).length C') W) ∧ (∀ W, Below w.heap.size w W → CellsL W A' C' (rs.take hi)) ∧ (rs.take hi).length ≤ C' := by
  subst hH
  have hel : Tryd.prog.elem T = 24 := by simp [Program.elem, hT]
  have hun : Tryd.prog.underlying T = some (.slice (Tryd.prog.elem T)) := by rw [hel]; exact hT
  have e : (rs.take hi).length = hi := by rw [List.length_take]; omega
  refine ⟨if c = 0 then A else A.map (·.add (0 * 1)), c - 0, fun W => ?_, fun W hb => ?_, by rw [e]; omega⟩
  · rw [run_slice_h W T _ _ _ hun .i64 _ (by omega) (by omega), hel, size22]
    simp only [Result.andThen, Go.sliced]
    rw [e, Int.toNat_natCast, Nat.sub_zero]
  · rcases A with _ | a
    · rcases h with ⟨_, rfl, rfl⟩ | ⟨a, ha, _⟩
      · simpa using CellsL.nil W
      · cases ha
    · have hcl := (h.below hb)
      have e2 : (if c = 0 then some a else (some a).map (·.add (0 * 1))) = some a := by split <;> simp [Addr.add]
      rw [e2]
      rcases hcl with ⟨ha, _⟩ | ⟨a', ha, hcl⟩
      · cases ha
      · injection ha with ha
        subst ha
        refine .inr ⟨_, rfl, fun j u hu => hcl j u ?_⟩
        have hj : j < (rs.take hi).length := by
          rcases Nat.lt_or_ge j (rs.take hi).length with h | h
          · exact h
          · rw [List.getElem?_eq_none (by rw [cellsL_length]; exact h)] at hu; cases hu
        rw [cellsL_get hj] at hu
        rw [cellsL_get (by rw [e] at hj; omega), ← hu]
        simp

/-- An argument [][]byte, as the contracts take it. -/
theorem rows_of_arg {H : Type} {encH : TypeId × Value → H} {W : World} {base : Nat} {held : Bool} (T : TypeId) (hT : Tryd.prog.underlying T = some (.slice 24)) {fuel : Nat} {a : Option Addr} {len cap : Nat} {x : DataW H × List MemPlace}
    (h : DataW.trod encH Tryd.prog W base (fun _ => true) held fuel T [.slice a len cap] = some x) :
    ∃ rs : List Elt, rs.length = len ∧ rs.length ≤ cap ∧ rs.length ≤ maxLen ∧ CellsL W a cap rs ∧ EachL W rs ∧ ∀ r ∈ rs, IsB r.2.2 ∧ r.2.2.length ≤ r.2.1 ∧ r.2.2.length ≤ maxLen := by
  rcases Deep.open_int_rows hT Tryd.underlying24 Tryd.underlying5 (by kernel_rfl) (by kernel_rfl) h with ⟨hcs, _⟩ | ⟨ad, l, c, A, L, C, Z, hcs, _, hl, hm, _, hrow⟩
  · simp only [List.cons.injEq, Value.slice.injEq, and_true] at hcs
    obtain ⟨rfl, rfl, rfl⟩ := hcs
    exact ⟨[], rfl, by simp, by simp, CellsL.nil W, EachL.nil W, by simp⟩
  · simp only [List.cons.injEq, Value.slice.injEq, and_true] at hcs
    obtain ⟨rfl, rfl, rfl⟩ := hcs
    have hlen : ∀ i, i < cap → ((Z i).take (L i)).length = L i := fun i hi => by
      obtain ⟨_, h1, _, h3, _⟩ := hrow i hi
      rw [List.length_take]; omega
    refine ⟨(List.range len).map fun i => (A i, C i, (Z i).take (L i)), by simp, by simp; omega, by simp; omega, .inr ⟨ad, rfl, fun j u hu => ?_⟩, fun r hr => ?_, fun r hr => ?_⟩
    · have hj : j < len := by
        rcases Nat.lt_or_ge j len with h | h
        · exact h
        · rw [List.getElem?_eq_none (by rw [cellsL_length]; simpa using h)] at hu; cases hu
      rw [cellsL_get (by simpa using hj)] at hu
      simp only [List.getElem_map, List.getElem_range, eltVal, Option.some.injEq] at hu
      rw [hlen j (by omega)] at hu
      rw [(hrow j (by omega)).1, hu]
    · obtain ⟨i, hi, rfl⟩ := List.mem_map.1 hr
      have hi' : i < len := by simpa using hi
      obtain ⟨_, h1, h2, h3, h4, h5, h6⟩ := hrow i (by omega)
      show Lies W (A i) (C i) ((Z i).take (L i))
      rcases hA : A i with _ | a'
      · have hc0 := h5 hA
        refine .inl ⟨rfl, hc0, ?_⟩
        have : (Z i).length = 0 := by omega
        rw [List.eq_nil_of_length_eq_zero this]
        simp
      · refine .inr ⟨a', rfl, fun j u hu => ?_⟩
        have hj : j < ((Z i).take (L i)).length := by
          rcases Nat.lt_or_ge j ((Z i).take (L i)).length with h | h
          · exact h
          · rw [List.getElem?_eq_none (by rw [cellsOf_length]; exact h)] at hu; cases hu
        have hj2 : j < L i := by rw [hlen i (by omega)] at hj; exact hj
        rw [cellsOf_get hj, show ((Z i).take (L i)).getD j 0 = (Z i).getD j 0 by simp [List.getD, hj2]] at hu
        rw [(h6 a' hA).2 j (by omega), hu]
    · obtain ⟨i, hi, rfl⟩ := List.mem_map.1 hr
      have hi' : i < len := by simpa using hi
      obtain ⟨_, h1, h2, h3, h4, h5, h6⟩ := hrow i (by omega)
      refine ⟨fun z hz => ?_, ?_, ?_⟩
      · have := bounds_u8 (h4 z (List.mem_of_mem_take hz))
        omega
      · show ((Z i).take (L i)).length ≤ C i
        rw [hlen i (by omega)]; exact h1
      · show ((Z i).take (L i)).length ≤ maxLen
        rw [hlen i (by omega)]; omega
end Go.Proofs.YtdgdkkapikopnaaDoor
