/-
  Slices of ints of the call's own: append, and what a store elsewhere leaves. Conditions: as in the premises.
-/
import Derived.Test.YtdgdkkapikopnaaDoorLL
namespace Go.Proofs.YtdgdkkapikopnaaDoor
open Go.ChangeShapes Go.WideShapes Go.ChangeAt Go.RowKit
set_option linter.unusedVariables false

def cellsI (es : List Int) : List Value := es.map (Value.int .i64)
theorem cellsI_length (es : List Int) : (cellsI es).length = es.length := by simp [cellsI]
theorem cellsI_one (es : List Int) : ∀ u ∈ cellsI es, u.oneCell' = true := by
  intro u hu
  obtain ⟨n, _, rfl⟩ := List.mem_map.1 hu
  rfl
theorem cellsI_append (a b : List Int) : cellsI (a ++ b) = cellsI a ++ cellsI b := by simp [cellsI]
theorem Tryd.info3 : (Tryd.prog.info? 3).map (fun i => (i.zero, i.size, i.bytes)) = some (some (.int .i64 0), 1, 8) := by kernel_rfl
theorem size3 (w : World) : (Go.sizeOf 3).run Tryd.prog w = .ok 1 w := by kernel_rfl

/-- A slice of ints of the call own. -/
def OwnI (B : Nat) (w : World) (A : Option Addr) (c : Nat) (es : List Int) : Prop := w.ownsRow B 3 1 (.slice A es.length c) es.length (cellsI es)
theorem OwnI.nil (B : Nat) (w : World) : OwnI B w none 0 [] := World.ownsRow_nil w B 3 1
theorem OwnI.below {B : Nat} {w w' : World} {A : Option Addr} {c : Nat} {es : List Int} (h : OwnI B w A c es) (hb : Below w.heap.size w w') : OwnI B w' A c es := by
  refine ⟨h.1, ?_⟩
  rcases h.2 with h2 | ⟨g, cap, cur, hv, hg, hh, r⟩
  · exact .inl h2
  · refine .inr ⟨g, cap, cur, hv, hg, ?_, r⟩
    rw [hb.block g (lt_of_block hh)]
    exact hh
theorem OwnI.alloc {B : Nat} {w : World} {A : Option Addr} {c : Nat} {es : List Int} (h : OwnI B w A c es) (o : Obj) : OwnI B (w.alloc o) A c es := World.ownsRow.alloc h o
theorem OwnI.grow {B : Nat} {w0 w w' : World} {A : Option Addr} {c : Nat} {es : List Int} (h : OwnI B w A c es) (hb : Below B w0 w) (hg : w.grownBy w' (Value.slice A es.length c).ownBlock) (hB : B ≤ w.heap.size) : Below B w0 w' :=
  hb.grown hg hB (fun k hk => (World.ownsRow.lt h k hk).1)
theorem OwnI.row {B : Nat} {W : World} {A : Option Addr} {c : Nat} {es : List Int} (h : OwnI B W A c es) : ∀ g, (Value.slice A es.length c).ownBlock = some g → B ≤ g ∧ ∃ cur z, W.heap[g]? = some (.cells cur 3 z) := fun g hg => by
  rcases h.2 with ⟨h1, _⟩ | ⟨g', cap, cur, h1, hb, hgg, _⟩
  · rw [h1] at hg; simp [Value.ownBlock] at hg
  · rw [h1] at hg
    simp [Value.ownBlock] at hg
    subst hg
    exact ⟨hb, cur, _, hgg⟩
/-- Where its elements lie. -/
theorem OwnI.at_ {B : Nat} {W : World} {A : Option Addr} {c : Nat} {es : List Int} (h : OwnI B W A c es) (hl : 0 < es.length) :
    ∃ g, A = some ⟨g, 0, none⟩ ∧ g < W.heap.size ∧ ∀ j, j < es.length → W.cell? ⟨g, j, none⟩ = some (.int .i64 (es.getD j 0)) := by
  rcases h.2 with ⟨_, h0⟩ | ⟨g, cap, cur, hv, hb, hg, _⟩
  · omega
  · have hA : A = some ⟨g, 0, none⟩ := by injection hv
    subst hA
    refine ⟨g, rfl, lt_of_block hg, fun j hj => ?_⟩
    rw [World.ownsRow.cellAt h j (by omega)]
    simp [cellsI, List.getD, hj]

theorem run_append_ints (T ty : TypeId) (hT : Tryd.prog.underlying T = some (.slice 3)) (w : World) (base : Nat) (A : Option Addr) (c : Nat) (es : List Int) (hown : OwnI base w A c es) (a : Addr) (d : Nat) (ns : List Int) (hr : ∀ j u, (cellsI ns)[j]? = some u → w.cell? (a.add j) = some u)
    (h63 : es.length + ns.length ≤ 1000000000) (hbase : base ≤ w.heap.size) :
    ∃ A' c' w', (Builtin.append_ #[T, T] ty #[.slice A es.length c, .slice (some a) ns.length d]).run Tryd.prog w = .ok (.slice A' (es ++ ns).length c') w' ∧ OwnI base w' A' c' (es ++ ns) ∧ w.grownBy w' (Value.slice A es.length c).ownBlock := by
  obtain ⟨i0, hi, hz0, hz1, hz2⟩ := info_parts Tryd.info3
  unfold OwnI at *
  rw [List.length_append, cellsI_append]
  obtain ⟨v', w', hrun, h2, h3, _, h5⟩ := run_append_own_at (P := Tryd.prog) w base T ty 3 i0 (.int .i64 0) 1 8 hT hi hz0 hz1 hz2 rfl (by decide) _ _ _ hown a ns.length d (cellsI ns) (by rw [cellsI_length]; omega) hr (cellsI_one ns) (by unfold maxLen; omega) (by omega) hbase
  rcases h2.2 with ⟨hv, h0⟩ | ⟨g, cap, cur, hv, _⟩
  · subst hv
    refine ⟨none, 0, w', ?_, ?_, h3⟩
    · rw [h0]; exact hrun
    · rw [h0] at h2 ⊢; exact h2
  · subst hv
    exact ⟨_, cap, w', hrun, h2, h3⟩

theorem wpList_append_ints {w : World} {ops : Array Oper} {rest : List Oper} {o : Oper} {a : Act} {Q : Exit → Act → World → Prop} (hgd : o.guard = none) (s x : Operand) (T : TypeId) (hT : Tryd.prog.underlying T = some (.slice 3))
    (ho : o.op = .call { callee := .builtin .append, args := #[s, x], argTypes := #[T, T] })
    (base : Nat) (A : Option Addr) (c : Nat) (es : List Int) (hs : a.eval s = .slice A es.length c) (hown : OwnI base w A c es)
    (p : Addr) (d : Nat) (ns : List Int) (hx : a.eval x = .slice (some p) ns.length d) (hr : ∀ j u, (cellsI ns)[j]? = some u → w.cell? (p.add j) = some u) (h63 : es.length + ns.length ≤ 1000000000) (hbase : base ≤ w.heap.size)
    (h : ∀ A' c' w' R, Hid (R = es ++ ns) → OwnI base w' A' c' R → w.grownBy w' (Value.slice A es.length c).ownBlock → wpList Tryd.prog ops Q rest (a.put o.dst (.slice A' R.length c')) w') : wpList Tryd.prog ops Q (o :: rest) a w := by
  obtain ⟨A', c', w', hrun, h2, h3⟩ := run_append_ints T o.type hT w base A c es hown p d ns hr h63 hbase
  refine wpList_plain hgd fun K hK => ?_
  unfold Oper.wp execOp
  simp only [ho, resolve, invoke, builtin, Sem.run_bind, Sem.run_pure, Result.andThen_ok, List.map_toArray, List.map_cons, List.map_nil, hs, hx, hrun]
  exact hK _ _ (h A' c' w' _ (Lib.hid rfl) h2 h3)

theorem cells_one_int (w : World) (x : Int) : ∀ j u, (cellsI [x])[j]? = some u → (w.alloc (.cells #[.int .i64 x] 3)).cell? ((⟨w.heap.size, 0, none⟩ : Addr).add j) = some u := by
  intro j u hu
  cases j with
  | zero => simp [cellsI] at hu; subst hu; simp [Addr.add]
  | succ j => simp [cellsI] at hu
end Go.Proofs.YtdgdkkapikopnaaDoor
