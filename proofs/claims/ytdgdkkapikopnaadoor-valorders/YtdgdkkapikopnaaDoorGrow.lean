/-
  Slices of the call own grow: append of whatever bytes, nil and empty ones let in; a slice of the call own stays while later calls make memory of theirs. No function of the program in sight. Conditions: the sizes that each theorem names.
-/
import Derived.Test.YtdgdkkapikopnaaDoorBase
namespace Go.Proofs.YtdgdkkapikopnaaDoor
open Go.ChangeShapes Go.WideShapes Go.ChangeAt Go.RowKit
set_option linter.unusedVariables false

/-- A slice of the call own with the bytes l, no block of it below B. -/
def OwnS (B : Nat) (w : World) (A : Option Addr) (c : Nat) (l : List Int) : Prop := w.ownsRow B 5 1 (.slice A l.length c) l.length (cellsOf l)

theorem OwnS.lies {B : Nat} {w : World} {A : Option Addr} {c : Nat} {l : List Int} (h : OwnS B w A c l) : Lies w A c l := Lies.of_own h
theorem OwnS.nil (B : Nat) (w : World) : OwnS B w none 0 [] := World.ownsRow_nil w B 5 1
theorem OwnS.mono {B B' : Nat} {w : World} {A : Option Addr} {c : Nat} {l : List Int} (h : OwnS B w A c l) (hb : B' ≤ B) : OwnS B' w A c l :=
  ⟨h.1, h.2.elim Or.inl (fun ⟨g, cap, cur, hv, hg, r⟩ => Or.inr ⟨g, cap, cur, hv, Nat.le_trans hb hg, r⟩)⟩
theorem OwnS.below {B : Nat} {w w' : World} {A : Option Addr} {c : Nat} {l : List Int} (h : OwnS B w A c l) (hb : Below w.heap.size w w') : OwnS B w' A c l := by
  refine ⟨h.1, ?_⟩
  rcases h.2 with h2 | ⟨g, cap, cur, hv, hg, hh, r⟩
  · exact .inl h2
  · refine .inr ⟨g, cap, cur, hv, hg, ?_, r⟩
    rw [hb.block g (lt_of_block hh)]
    exact hh
/-- Its capacity holds it. -/
theorem OwnS.cap {B : Nat} {w : World} {A : Option Addr} {c : Nat} {l : List Int} (h : OwnS B w A c l) : l.length ≤ c := by
  rcases h.2 with ⟨hv, h0⟩ | ⟨g, cap, cur, hv, hg, hh, hn, r⟩
  · omega
  · simp only [Value.slice.injEq] at hv
    omega

theorem run_append_bytes (ty : TypeId) (w : World) (base : Nat) (A : Option Addr) (c : Nat) (l : List Int) (hown : OwnS base w A c l) (B : Option Addr) (d : Nat) (r : List Int) (hr : Lies w B d r)
    (h63 : l.length + r.length ≤ 100000000000) (hbase : base ≤ w.heap.size) :
    ∃ A' c' w', (Builtin.append_ #[24, 24] ty #[.slice A l.length c, .slice B r.length d]).run Tryd.prog w = .ok (.slice A' (l ++ r).length c') w' ∧ OwnS base w' A' c' (l ++ r) ∧ w.grownBy w' (Value.slice A l.length c).ownBlock := by
  obtain ⟨i0, hi, hz0, hz1, hz2⟩ := info_parts Tryd.info5
  unfold OwnS at *
  rw [List.length_append, cellsOf_append]
  rcases hr with ⟨rfl, rfl, rfl⟩ | ⟨a, rfl, hr⟩
  · refine ⟨A, c, w, run_append_owned_none w base 24 ty 5 i0 1 Tryd.underlying24 hi _ _ _ hown, ?_, World.grownBy.refl _ _⟩
    simpa [cellsOf] using hown
  · obtain ⟨v', w', hrun, h2, h3, _, h5⟩ := run_append_own_at (P := Tryd.prog) w base 24 ty 5 i0 (.int .u8 0) 1 1 Tryd.underlying24 hi hz0 hz1 hz2 rfl (by decide) _ _ _ hown a r.length d (cellsOf r) (by rw [cellsOf_length]; omega) hr (cellsOf_one r) (by unfold maxLen; omega) (by omega) hbase
    rcases h2.2 with ⟨hv, h0⟩ | ⟨g, cap, cur, hv, _⟩
    · subst hv
      refine ⟨none, 0, w', ?_, ?_, h3⟩
      · rw [h0]; exact hrun
      · rw [h0] at h2 ⊢; exact h2
    · subst hv
      exact ⟨_, cap, w', hrun, h2, h3⟩

/-- At an operation of a region that does not draw: what is appended is nil, empty or not. -/
theorem wpList_append_bytes {w : World} {ops : Array Oper} {rest : List Oper} {o : Oper} {a : Act} {Q : Exit → Act → World → Prop} (hgd : o.guard = none) (s x : Operand)
    (ho : o.op = .call { callee := .builtin .append, args := #[s, x], argTypes := #[24, 24] })
    (base : Nat) (A : Option Addr) (c : Nat) (l : List Int) (hs : a.eval s = .slice A l.length c) (hown : OwnS base w A c l)
    (B : Option Addr) (d : Nat) (r : List Int) (hx : a.eval x = .slice B r.length d) (hr : Lies w B d r) (h63 : l.length + r.length ≤ 100000000000) (hbase : base ≤ w.heap.size)
    (h : ∀ A' c' w' L, Hid (L = l ++ r) → OwnS base w' A' c' L → w.grownBy w' (Value.slice A l.length c).ownBlock → wpList Tryd.prog ops Q rest (a.put o.dst (.slice A' L.length c')) w') : wpList Tryd.prog ops Q (o :: rest) a w := by
  obtain ⟨A', c', w', hrun, h2, h3⟩ := run_append_bytes o.type w base A c l hown B d r hr h63 hbase
  refine wpList_plain hgd fun K hK => ?_
  unfold Oper.wp execOp
  simp only [ho, resolve, invoke, builtin, Sem.run_bind, Sem.run_pure, Result.andThen_ok, List.map_toArray, List.map_cons, List.map_nil, hs, hx, hrun]
  exact hK _ _ (h A' c' w' _ (Lib.hid rfl) h2 h3)

/-- What an append leaves below. -/
theorem OwnS.grow {B : Nat} {w0 w w' : World} {A : Option Addr} {c : Nat} {l : List Int} (h : OwnS B w A c l) (hb : Below B w0 w) (hg : w.grownBy w' (Value.slice A l.length c).ownBlock) (hB : B ≤ w.heap.size) : Below B w0 w' :=
  hb.grown hg hB (fun k hk => (World.ownsRow.lt h k hk).1)

/-- A slice of the call own and a number. -/
def OwnE (B : Nat) (w : World) (r : List Int × Int) (e : Ending) (w' : World) : Prop :=
  ∃ A c, e = .returned (.tuple #[.slice A r.1.length c, .int .i64 r.2]) ∧ OwnS B w' A c r.1 ∧ Below B w w'
/-- A slice that reads so, and a number. -/
def LiesE (w : World) (r : List Int × Int) (e : Ending) (w' : World) : Prop :=
  ∃ A c, e = .returned (.tuple #[.slice A r.1.length c, .int .i64 r.2]) ∧ Lies w' A c r.1 ∧ Below w.heap.size w w'
end Go.Proofs.YtdgdkkapikopnaaDoor
