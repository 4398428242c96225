/-
  The contracts of frame.frames and frame.All: the answer allF. Conditions: slices of at most 900,000 bytes, each from 0 to 255.
-/
import Derived.Test.YtikeebgclplphaaFIter
namespace Go.Proofs.Ytikeebgclplphaa
open Go.ChangeShapes Go.WideShapes Go.ChangeAt Go.RowKit Go.Shelf
set_option linter.unusedVariables false
attribute [local go_sem] Oper.semAt_some

theorem frames_calls (A : Option Addr) (c n : Nat) (w : World) :
    Calls Try.prog 26 #[.slice A n c] w fun e w' => e = .returned (.func (.func 40) #[] #[.pointer (some ⟨w.heap.size, 0, none⟩)]) ∧ w' = w.alloc (.cells #[.slice A n c] 22) := by
  have hmf : ∀ (fn : Fn) (first cap : Array Value) (w : World), (Instr.makeFunc fn first cap).run Try.prog w = .ok (.func fn first cap) w := fun _ _ _ _ => rfl
  go_enter Try.func26, Try.ntmps26
  go_wp2
  go_ret
  exact ⟨rfl, rfl⟩

/-- Blocks of bytes lie as they lay. -/
def K5 (W W' : World) : Prop := ∀ (k : Nat) (cur : Array Value) (z : Nat × Nat), W.heap[k]? = some (Obj.cells cur 5 z) → W'.heap[k]? = some (Obj.cells cur 5 z)
theorem K5.refl (W : World) : K5 W W := fun _ _ _ h => h
theorem K5.trans {A B C : World} (h : K5 A B) (k : K5 B C) : K5 A C := fun i c z hi => k i c z (h i c z hi)
theorem K5.stays {n : Nat} {W W' : World} (h : Stays n W W') : K5 W W' := fun k c z hk => h.cells k _ hk rfl
theorem K5.alloc (W : World) (o : Obj) : K5 W (W.alloc o) := fun k c z hk => (Below.heap_alloc W o k (Array.getElem?_eq_some_iff.1 hk).1).trans hk
theorem K5.drew (W : World) : K5 W W.drew := fun _ _ _ h => h
theorem K5.grown {W W' : World} {row : Option Nat} (hg : W.grownBy W' row) (hr : ∀ g, row = some g → ∃ cur z, W.heap[g]? = some (.cells cur 22 z)) : K5 W W' := fun k c z hk => by
  refine (hg.block k (Array.getElem?_eq_some_iff.1 hk).1 fun e => ?_).trans hk
  obtain ⟨cur, z', h2⟩ := hr k e.symm
  rw [hk] at h2
  injection h2 with h2
  injection h2 with _ h3
  cases h3
theorem K5.box {W : World} {B : Nat} {t : TypeId} {v : Value} (h : Boxed W B t v) (ht : t ≠ 5) (u : Value) : K5 W (W.setCell ⟨B, 0, none⟩ u) := fun k c z hk => by
  refine (Below.heap_setCell W ⟨B, 0, none⟩ u k fun e => ?_).trans hk
  have e' : k = B := e
  subst e'
  rw [show W.heap[k]? = _ from h] at hk
  injection hk with hk
  injection hk with _ h3
  exact ht h3

/-- A slice that reads so, in blocks of bytes. -/
def LT (W : World) (r : Elt) : Prop := Lies W r.1 r.2.1 r.2.2 ∧ T5 W r.1
theorem LT.k5 {W W' : World} {r : Elt} (h : LT W r) (hk : K5 W W') : LT W' r := by
  obtain ⟨h1, h2⟩ := h
  refine ⟨?_, fun a ha => ?_⟩
  · rcases h1 with h1 | ⟨a, ha, h1⟩
    · exact .inl h1
    · refine .inr ⟨a, ha, fun j u hu => ?_⟩
      obtain ⟨cur, z, hb⟩ := h2 a ha
      have e : (a.add j).block = a.block := by unfold Addr.add; split <;> rfl
      exact (World.cell?_of_block (by rw [e]; exact (hk _ _ _ hb).trans hb.symm)).trans (h1 j u hu)
  · obtain ⟨cur, z, hb⟩ := h2 a ha
    exact ⟨cur, z, hk _ _ _ hb⟩

theorem Boxed.stays {n : Nat} {W W' : World} {B : Nat} {t : TypeId} {v : Value} (h : Boxed W B t v) (hs : Stays n W W') : Boxed W' B t v := hs.cells _ _ h rfl
theorem OwnL.stays {B n : Nat} {W W' : World} {A : Option Addr} {c : Nat} {rs : List Elt} (h : OwnL B W A c rs) (hs : Stays n W W') : OwnL B W' A c rs := by
  refine ⟨h.1, ?_⟩
  rcases h.2 with hn | ⟨g, cap, cur, hv, hb, hg, rest⟩
  · exact .inl hn
  · exact .inr ⟨g, cap, cur, hv, hb, hs.cells _ _ hg rfl, rest⟩
theorem OwnL.row {B : Nat} {W : World} {A : Option Addr} {c : Nat} {rs : List Elt} (h : OwnL B W A c rs) : ∀ g, (Value.slice A rs.length c).ownBlock = some g → B ≤ g ∧ ∃ cur z, W.heap[g]? = some (.cells cur 22 z) := fun g hg => by
  rcases h.2 with ⟨h1, _⟩ | ⟨g', cap, cur, h1, hb, hgg, _⟩
  · rw [h1] at hg; simp [Value.ownBlock] at hg
  · rw [h1] at hg
    simp [Value.ownBlock] at hg
    subst hg
    exact ⟨hb, cur, _, hgg⟩
/-- A store into a box that is no row of slices. -/
theorem OwnL.box {B Bx : Nat} {t : TypeId} {v : Value} {W : World} {A : Option Addr} {c : Nat} {rs : List Elt} (h : OwnL B W A c rs) (hb : Boxed W Bx t v) (ht : t ≠ 22) (u : Value) : OwnL B (W.setCell ⟨Bx, 0, none⟩ u) A c rs :=
  World.ownsRow.kept h (grownBy_setCell' W Bx u) (.inr (hb.not_row ht h).symm)

/-- What lies in memory between two rounds: the variables l, good, e, the captured slice. -/
def AllI (w : World) (A : Option Addr) (c : Nat) (l : List Int) (pre : List Fr) (W : World) : Prop :=
  (∃ A3 c3, Boxed W w.heap.size 35 (.slice A3 (eltsOf pre).length c3) ∧ OwnL (w.heap.size + 1 + 1 + 1 + 1) W A3 c3 (eltsOf pre)) ∧ Boxed W (w.heap.size + 1) 3 (.int .i64 (posOf pre)) ∧ Boxed W (w.heap.size + 1 + 1) 24 (.int .i64 0) ∧
    Boxed W (w.heap.size + 1 + 1 + 1) 22 (.slice A l.length c) ∧ Below w.heap.size w W ∧ (∀ x ∈ pre, LT W x.1 ∧ x.2.2 = 0)
/-- .. and behind a round that has left. -/
def AllX (w : World) (cd : Code) (pre : List Fr) (W : World) : Prop :=
  cd = .ret ∧ ∃ ys x, pre = ys ++ [x] ∧ x.2.2 ≠ 0 ∧ (∃ A3 c3, Boxed W w.heap.size 35 (.slice A3 (eltsOf ys).length c3) ∧ OwnL (w.heap.size + 1 + 1 + 1 + 1) W A3 c3 (eltsOf ys)) ∧ Boxed W (w.heap.size + 1) 3 (.int .i64 (posOf ys)) ∧ Boxed W (w.heap.size + 1 + 1) 24 (.int .i64 x.2.2) ∧
    Below w.heap.size w W ∧ (∀ y ∈ ys, LT W y.1)

theorem AllI.stays {w : World} {A : Option Addr} {c : Nat} {l : List Int} (pre : List Fr) (X Y : World) (hs : Stays w.heap.size X Y) (h : AllI w A c l pre X) : AllI w A c l pre Y := by
  obtain ⟨⟨A3, c3, h1, h2⟩, h3, h4, h5, h6, h7⟩ := h
  exact ⟨⟨A3, c3, Boxed.stays h1 hs, h2.stays hs⟩, Boxed.stays h3 hs, Boxed.stays h4 hs, Boxed.stays h5 hs, h6.trans hs.below, fun x hx => ⟨(h7 x hx).1.k5 (K5.stays hs), (h7 x hx).2⟩⟩
theorem AllX.stays {w : World} (cd : Code) (pre : List Fr) (X Y : World) (hs : Stays w.heap.size X Y) (h : AllX w cd pre X) : AllX w cd pre Y := by
  obtain ⟨hc, ys, x, hp, hx, ⟨A3, c3, h1, h2⟩, h3, h4, h6, h7⟩ := h
  exact ⟨hc, ys, x, hp, hx, ⟨A3, c3, Boxed.stays h1 hs, h2.stays hs⟩, Boxed.stays h3 hs, Boxed.stays h4 hs, h6.trans hs.below, fun y hy => (h7 y hy).k5 (K5.stays hs)⟩

/-- The append of the rows, in a round. -/
theorem wpListIn_append_rows {F : Fence} {n : Nat} {w : World} {ops : Array Oper} {rest : List Oper} {o : Oper} {a : Act} {Q : Exit → Act → World → Prop} (hgd : o.guard = none) (s x : Operand) (T : TypeId) (hT : Try.prog.underlying T = some (.slice 22))
    (ho : o.op = .call { callee := .builtin .append, args := #[s, x], argTypes := #[T, T] })
    (base : Nat) (A : Option Addr) (c : Nat) (rs : List Elt) (hs : a.eval s = .slice A rs.length c) (hown : OwnL base w A c rs)
    (B : Option Addr) (d : Nat) (ns : List Elt) (hx : a.eval x = .slice B ns.length d) (hr : CellsL w B d ns) (h63 : rs.length + ns.length ≤ 1000000000) (hbase : base ≤ w.heap.size)
    (h : ∀ A' c' w' R, Hid (R = rs ++ ns) → OwnL base w' A' c' R → w.grownBy w' (Value.slice A rs.length c).ownBlock → wpListIn F n Try.prog ops Q rest (a.put o.dst (.slice A' R.length c')) w') : wpListIn F n Try.prog ops Q (o :: rest) a w := by
  obtain ⟨A', c', w', hrun, h2, h3⟩ := run_append_rows T o.type hT w base A c rs hown B d ns hr h63 hbase
  refine wpListIn_plain hgd fun K hK' => ?_
  unfold Oper.wpIn
  refine ⟨?_, ?_⟩
  · simp [Oper.about, ho, resolve, Target.leads, Sem.run_pure]
  · rw [Oper.semAt_plain F _ _ (by rw [ho]; intro c hc'; cases hc')]
    simp [execOp, ho, resolve, invoke, builtin, hs, hx, hrun, Result.andThen]
    have := h A' c' w' _ (Lib.hid rfl) h2 h3
    simp at this
    exact hK' _ _ this

theorem FxF.stays {n : Nat} {l : List Int} {pre : List Fr} {x : Fr} {X Y : World} (hs : Stays n X Y) (h : FxF l pre x X) : FxF l pre x Y := by
  obtain ⟨h1, h2, h3, h4, h5⟩ := h
  obtain ⟨h6, h7⟩ := LT.k5 (r := x.1) ⟨h4, h5⟩ (K5.stays hs)
  exact ⟨h1, h2, h3, h6, h7⟩

/-- The frame of a round behind the assignment. -/
def AllAct (w : World) (A : Option Addr) (c : Nat) (l : List Int) (x : Fr) (Bf : Nat) : Act :=
  { tmps := #[.slice A l.length c, undef, .pointer (some ⟨w.heap.size, 0, none⟩), .pointer (some ⟨w.heap.size + 1, 0, none⟩), .pointer (some ⟨w.heap.size + 1 + 1, 0, none⟩), .pointer (some ⟨Bf, 0, none⟩), .int .i64 x.2.2, .slice A l.length c,
      .func (.func 40) #[] #[.pointer (some ⟨w.heap.size + 1 + 1 + 1, 0, none⟩)], .agg #[.slice x.1.1 x.1.2.2.length x.1.2.1, .int .i64 x.2.1], .int .i64 x.2.2, undef, undef, undef, undef, undef, undef, undef, undef, undef, undef, undef, undef, undef, undef], defers := [] }
def AllA (w : World) (A : Option Addr) (c : Nat) (l : List Int) (pre : List Fr) (x : Fr) (a' : Act) (W : World) : Prop :=
  ∃ Bf, w.heap.size + 1 + 1 + 1 < Bf ∧ W.heap[Bf]? = some (.cells #[.slice x.1.1 x.1.2.2.length x.1.2.1, .int .i64 x.2.1] 60 (0, 0)) ∧ FxF l pre x W ∧ a' = AllAct w A c l x Bf
theorem AllA.stays {w : World} {A : Option Addr} {c : Nat} {l : List Int} (pre : List Fr) (x : Fr) (a' : Act) (X Y : World) (hs : Stays w.heap.size X Y) (h : AllA w A c l pre x a' X) : AllA w A c l pre x a' Y := by
  obtain ⟨Bf, h1, h2, h3, h4⟩ := h
  exact ⟨Bf, h1, hs.cells _ _ h2 rfl, h3.stays hs, h4⟩

theorem AllI.start (w : World) (A : Option Addr) (c : Nat) (l : List Int) : AllI w A c l [] ((((w.alloc (Obj.cells #[Value.slice none 0 0] 35)).alloc (Obj.cells #[Value.int IntKind.i64 0] 3)).alloc (Obj.cells #[Value.int IntKind.i64 0] 24)).alloc (Obj.cells #[Value.slice A l.length c] 22)) := by
  have b1 := Boxed.new w 35 (.slice none 0 0)
  have b2 := Boxed.new (w.alloc (Obj.cells #[Value.slice none 0 0] 35)) 3 (.int .i64 0)
  have b3 := Boxed.new ((w.alloc (Obj.cells #[Value.slice none 0 0] 35)).alloc (Obj.cells #[Value.int IntKind.i64 0] 3)) 24 (.int .i64 0)
  have b4 := Boxed.new (((w.alloc (Obj.cells #[Value.slice none 0 0] 35)).alloc (Obj.cells #[Value.int IntKind.i64 0] 3)).alloc (Obj.cells #[Value.int IntKind.i64 0] 24)) 22 (.slice A l.length c)
  simp only [World.size_alloc] at b2 b3 b4
  exact ⟨⟨none, 0, ((b1.alloc _).alloc _).alloc _, OwnL.nil _ _⟩, (b2.alloc _).alloc _, b3.alloc _, b4, ((((Below.refl _ w).alloc (Nat.le_refl _) _).alloc (by simp) _).alloc (by simp; omega) _).alloc (by simp; omega) _, by simp⟩

theorem cell_of_heap {W : World} {B j : Nat} {cur : Array Value} {t : TypeId} {v : Value} (h : W.heap[B]? = some (.cells cur t (0, 0))) (hj : cur[j]? = some v) : W.cell? ⟨B, j, none⟩ = some v := by
  simp [World.cell?, h, hj]

/-- What a round that goes on does to memory. -/
theorem AllI.step {w W w1 : World} {A A3 A4 A7 : Option Addr} {c c3 c4 c7 Bf : Nat} {l d : List Int} {pre : List Fr} {nx : Int} {R : List Elt} {tmp : Obj}
    (hb2 : Boxed W w.heap.size 35 (.slice A3 (eltsOf pre).length c3)) (hrow : OwnL (w.heap.size + 1 + 1 + 1 + 1) W A3 c3 (eltsOf pre)) (hb3 : Boxed W (w.heap.size + 1) 3 (.int .i64 (posOf pre))) (hb4 : Boxed W (w.heap.size + 1 + 1) 24 (.int .i64 0))
    (hb5 : Boxed W (w.heap.size + 1 + 1 + 1) 22 (.slice A l.length c)) (hB : Below w.heap.size w W) (hpre : ∀ x ∈ pre, LT W x.1 ∧ x.2.2 = 0) (hBf : w.heap.size + 1 + 1 + 1 < Bf)
    (hbf : W.heap[Bf]? = some (.cells #[.slice A4 d.length c4, .int .i64 nx] 60 (0, 0))) (hlt : LT W (A4, c4, d)) (hR : R = eltsOf pre ++ [(A4, c4, d)])
    (hown : OwnL (w.heap.size + 1 + 1 + 1 + 1) w1 A7 c7 R) (hgrow : (W.alloc tmp).grownBy w1 (Value.slice A3 (eltsOf pre).length c3).ownBlock) :
    (w1.cell? ⟨w.heap.size, 0, none⟩ = some (.slice A3 (eltsOf pre).length c3) ∧ w1.frozen? ⟨w.heap.size, 0, none⟩ = false) ∧
    ((w1.setCell ⟨w.heap.size, 0, none⟩ (.slice A7 R.length c7)).cell? ⟨Bf, 1, none⟩ = some (.int .i64 nx) ∧ (w1.setCell ⟨w.heap.size, 0, none⟩ (.slice A7 R.length c7)).cell? ⟨w.heap.size + 1, 0, none⟩ = some (.int .i64 (posOf pre)) ∧
      (w1.setCell ⟨w.heap.size, 0, none⟩ (.slice A7 R.length c7)).frozen? ⟨w.heap.size + 1, 0, none⟩ = false) ∧
    KeepsOthers W ((w1.setCell ⟨w.heap.size, 0, none⟩ (.slice A7 R.length c7)).setCell ⟨w.heap.size + 1, 0, none⟩ (.int .i64 nx)) ∧
    AllI w A c l (pre ++ [((A4, c4, d), nx, 0)]) ((w1.setCell ⟨w.heap.size, 0, none⟩ (.slice A7 R.length c7)).setCell ⟨w.heap.size + 1, 0, none⟩ (.int .i64 nx)) := by
  obtain ⟨q1, q2, _, q4, q5⟩ := hb2.appended (by decide) (hrow.mono (B' := w.heap.size) (by omega)) hB.size (Nat.le_refl _) (hown.mono (B' := w.heap.size) (by omega)) hgrow
  have q3 := OwnL.box hown q1 (by decide) (.slice A7 R.length c7)
  have r3 : Boxed w1 (w.heap.size + 1) 3 (.int .i64 (posOf pre)) := (hb3.alloc tmp).kept hgrow (hb3.not_row (by decide) hrow)
  have r4 : Boxed w1 (w.heap.size + 1 + 1) 24 (.int .i64 0) := (hb4.alloc tmp).kept hgrow (hb4.not_row (by decide) hrow)
  have r5 : Boxed w1 (w.heap.size + 1 + 1 + 1) 22 (.slice A l.length c) := (hb5.alloc tmp).kept hgrow (fun e => by have := (hrow.row _ e.symm).1; omega)
  have rf : w1.heap[Bf]? = some (.cells #[.slice A4 d.length c4, .int .i64 nx] 60 (0, 0)) := by
    have hlt' := (Array.getElem?_eq_some_iff.1 hbf).1
    refine (hgrow.block Bf (by simp; omega) fun e => ?_).trans ((Below.heap_alloc W tmp Bf hlt').trans hbf)
    obtain ⟨_, cur, z, hg⟩ := hrow.row Bf e.symm
    rw [hbf] at hg
    injection hg with hg
    injection hg with _ h3
    cases h3
  have s3 := r3.other (B' := w.heap.size) (by omega) (.slice A7 R.length c7)
  have s4 := r4.other (B' := w.heap.size) (by omega) (.slice A7 R.length c7)
  have s5 := r5.other (B' := w.heap.size) (by omega) (.slice A7 R.length c7)
  have sf : (w1.setCell ⟨w.heap.size, 0, none⟩ (.slice A7 R.length c7)).heap[Bf]? = some (.cells #[.slice A4 d.length c4, .int .i64 nx] 60 (0, 0)) := (Below.heap_setCell _ _ _ Bf (by show Bf ≠ w.heap.size; omega)).trans rf
  have k1 : K5 W w1 := (K5.alloc W tmp).trans (K5.grown hgrow fun g hg => by
    obtain ⟨_, cur, z, h1⟩ := hrow.row g hg
    exact ⟨cur, z, (Below.heap_alloc W tmp g (Array.getElem?_eq_some_iff.1 h1).1).trans h1⟩)
  have k3 := (k1.trans (K5.box q1 (by decide) (.slice A7 R.length c7))).trans (K5.box s3 (by decide) (.int .i64 nx))
  refine ⟨⟨q1.cell, q1.frozen⟩, ⟨cell_of_heap sf rfl, s3.cell, s3.frozen⟩, q4.trans (KeepsOthers.setCell _ _ _), ?_⟩
  have hel : eltsOf (pre ++ [((A4, c4, d), nx, 0)]) = R := by rw [eltsOf_snoc, hR]
  refine ⟨⟨A7, c7, ?_, ?_⟩, ?_, s4.other (by omega) _, s5.other (by omega) _, (hB.trans q5).setCell (p := ⟨w.heap.size + 1, 0, none⟩) (by show w.heap.size ≤ w.heap.size + 1; omega) _, fun x hx => ?_⟩
  · rw [hel]; exact q2.other (by omega) _
  · rw [hel]; exact OwnL.box q3 s3 (by decide) _
  · rw [posOf_snoc]; exact s3.set _
  · rcases List.mem_append.1 hx with hx | hx
    · exact ⟨(hpre x hx).1.k5 k3, (hpre x hx).2⟩
    · simp only [List.mem_singleton] at hx
      subst hx
      exact ⟨hlt.k5 k3, rfl⟩

/-- The three variables written once more, and the error. -/
theorem three_set {w W : World} {A3 : Option Addr} {n c3 : Nat} {g e0 : Value} (e : Value) (hb2 : Boxed W w.heap.size 35 (.slice A3 n c3)) (hb3 : Boxed W (w.heap.size + 1) 3 g) (hb4 : Boxed W (w.heap.size + 1 + 1) 24 e0) (hB : Below w.heap.size w W) :
    ((W.drew.setCell ⟨w.heap.size, 0, none⟩ (.slice A3 n c3)).cell? ⟨w.heap.size + 1, 0, none⟩ = some g ∧ (W.drew.setCell ⟨w.heap.size, 0, none⟩ (.slice A3 n c3)).frozen? ⟨w.heap.size + 1, 0, none⟩ = false) ∧
    (((W.drew.setCell ⟨w.heap.size, 0, none⟩ (.slice A3 n c3)).setCell ⟨w.heap.size + 1, 0, none⟩ g).cell? ⟨w.heap.size + 1 + 1, 0, none⟩ = some e0 ∧ ((W.drew.setCell ⟨w.heap.size, 0, none⟩ (.slice A3 n c3)).setCell ⟨w.heap.size + 1, 0, none⟩ g).frozen? ⟨w.heap.size + 1 + 1, 0, none⟩ = false) ∧
    (∀ W', W' = ((W.drew.setCell ⟨w.heap.size, 0, none⟩ (.slice A3 n c3)).setCell ⟨w.heap.size + 1, 0, none⟩ g).setCell ⟨w.heap.size + 1 + 1, 0, none⟩ e →
      KeepsOthers W W' ∧ Boxed W' w.heap.size 35 (.slice A3 n c3) ∧ Boxed W' (w.heap.size + 1) 3 g ∧ Boxed W' (w.heap.size + 1 + 1) 24 e ∧ Below w.heap.size w W' ∧ K5 W W' ∧ (∀ rs, rs.length = n → OwnL (w.heap.size + 1 + 1 + 1 + 1) W A3 c3 rs → OwnL (w.heap.size + 1 + 1 + 1 + 1) W' A3 c3 rs)) := by
  have d2 : Boxed W.drew w.heap.size 35 (.slice A3 n c3) := hb2
  have d3 : Boxed W.drew (w.heap.size + 1) 3 g := hb3
  have d4 : Boxed W.drew (w.heap.size + 1 + 1) 24 e0 := hb4
  have p2 := d2.set (.slice A3 n c3)
  have p3 := d3.other (B' := w.heap.size) (by omega) (.slice A3 n c3)
  have p4 := d4.other (B' := w.heap.size) (by omega) (.slice A3 n c3)
  have q2 := p2.other (B' := w.heap.size + 1) (by omega) g
  have q3 := p3.set g
  have q4 := p4.other (B' := w.heap.size + 1) (by omega) g
  refine ⟨⟨p3.cell, p3.frozen⟩, ⟨q4.cell, q4.frozen⟩, ?_⟩
  rintro W' rfl
  refine ⟨(((KeepsOthers.drew W).trans (KeepsOthers.setCell _ _ _)).trans (KeepsOthers.setCell _ _ _)).trans (KeepsOthers.setCell _ _ _), q2.other (by omega) _, q3.other (by omega) _, q4.set e,
    ((hB.drew.setCell (p := ⟨w.heap.size, 0, none⟩) (Nat.le_refl _) _).setCell (p := ⟨w.heap.size + 1, 0, none⟩) (by show w.heap.size ≤ w.heap.size + 1; omega) _).setCell (p := ⟨w.heap.size + 1 + 1, 0, none⟩) (by show w.heap.size ≤ w.heap.size + 1 + 1; omega) _,
    (((K5.drew W).trans (K5.box d2 (by decide) _)).trans (K5.box p3 (by decide) _)).trans (K5.box q4 (by decide) _), fun rs hn hrow => ?_⟩
  have o0 : OwnL (w.heap.size + 1 + 1 + 1 + 1) W.drew A3 c3 rs := hrow
  exact ((o0.box d2 (by decide) _).box p3 (by decide) _).box q4 (by decide) _

theorem lv35 {w : World} {a : Addr} {v : Value} (h : w.cell? a = some v) : (loadVar 35 a).run Try.prog w = .ok v w := by
  go_simp
theorem lv3 {w : World} {a : Addr} {v : Value} (h : w.cell? a = some v) : (loadVar 3 a).run Try.prog w = .ok v w := by
  go_simp
theorem lv24 {w : World} {a : Addr} {v : Value} (h : w.cell? a = some v) : (loadVar 24 a).run Try.prog w = .ok v w := by
  go_simp
theorem results_cell3 {fn : Func} {p q r : Tmp} {t1 t2 t3 : TypeId} (h : fn.results = #[.cell p t1, .cell q t2, .cell r t3]) (tmps : Array Value) (P : Program) (w : World) (a1 a2 a3 : Addr) (v1 v2 v3 : Value)
    (hp : tmps.getD p undef = .pointer (some a1)) (hq : tmps.getD q undef = .pointer (some a2)) (hr : tmps.getD r undef = .pointer (some a3))
    (l1 : (loadVar t1 a1).run P w = .ok v1 w) (l2 : (loadVar t2 a2).run P w = .ok v2 w) (l3 : (loadVar t3 a3).run P w = .ok v3 w) :
    (results fn tmps).run P w = .ok (.tuple #[v1, v2, v3]) w := by
  rw [Array.getD_eq_getD_getElem?] at hp hq hr
  simp only [results, h]
  simp [Sem.run_bind, Result.andThen, hp, hq, hr, asAddr, l1, l2, l3]

/-- The function returns what its three variables hold. -/
theorem all_ret {w W : World} {D : Nat} {A3 : Option Addr} {c3 : Nat} {rs : List Elt} {g e : Int} {r : List (List Int) × Int × Int} {a : Act} (hdef : a.defers = [{ target := .collected D, args := #[] }])
    (h2 : a.tmps.getD 2 undef = .pointer (some ⟨w.heap.size, 0, none⟩)) (h3 : a.tmps.getD 3 undef = .pointer (some ⟨w.heap.size + 1, 0, none⟩)) (h4 : a.tmps.getD 4 undef = .pointer (some ⟨w.heap.size + 1 + 1, 0, none⟩))
    (hK : W.heap[D]? = some (.deferred (some []))) (hD : w.heap.size ≤ D) (hb2 : Boxed W w.heap.size 35 (.slice A3 rs.length c3)) (hb3 : Boxed W (w.heap.size + 1) 3 (.int .i64 g)) (hb4 : Boxed W (w.heap.size + 1 + 1) 24 (.int .i64 e))
    {B : Nat} (hrow : OwnL B W A3 c3 rs) (hB : Below w.heap.size w W) (hall : ∀ q ∈ rs, LT W q) (hr : r = (listsOf rs, g, e)) :
    bodyPostM Fence.wide 4 Try.prog Try.f14 (AllE w r) Exit.ret a W := by
  subst hr
  have hs : Stays w.heap.size W (W.putObj D (.deferred none)) := Stays.putObj _ hK rfl hD
  show LeavesInM _ _ _ _ _ _ a.defers _ _
  rw [hdef]
  refine ⟨by simp, .inl ⟨_, _, rfl, run_takeDeferred hK, ?_⟩⟩
  exact ⟨_, results_cell3 rfl _ _ _ _ _ _ _ _ _ h2 h3 h4 (lv35 (Boxed.stays hb2 hs).cell) (lv3 (Boxed.stays hb3 hs).cell) (lv24 (Boxed.stays hb4 hs).cell), A3, c3, rs, rfl, (hrow.stays hs).cells, fun q hq => ((hall q hq).k5 (K5.stays hs)).1, rfl, hB.trans hs.below⟩

theorem mem_elts {xs : List Fr} {q : Elt} (h : q ∈ eltsOf xs) : ∃ x ∈ xs, x.1 = q := List.mem_map.1 h

set_option maxRecDepth 100000 in
set_option maxHeartbeats 4000000 in
theorem fall_calls (A : Option Addr) (c : Nat) (l : List Int) (w : World) (h : Lies w A c l) (hb : IsB l) (hc : l.length ≤ c) (hl : l.length ≤ 900000) :
    Calls Try.prog 14 #[.slice A l.length c] w (AllE w (allF l)) := by
  refine (callsIn_wide (n := 4)).1 ?_
  refine callsIn_of_wp_marks Try.func14 rfl trivial ?_ rfl
  simp only [Try.ntmps14, List.size_toArray, List.length_cons, List.length_nil, Nat.reduceAdd, Nat.reduceSub, Array.replicate_succ, Array.replicate_zero, List.push_toArray, List.append_toArray, List.nil_append, List.cons_append]
  gi_wp2
  refine ⟨trivial, ?_⟩
  refine (callsIn_wide.2 (frames_calls A c l.length _)).mono ?_
  rintro e w' ⟨rfl, rfl⟩
  gi_wp2
  have hst := AllI.start w A c l
  refine range_law (α := Fr) rfl (by omega) (gf := 40) (lb := #[.pointer (some ⟨w.heap.size + 1 + 1 + 1, 0, none⟩)]) rfl trivial (enters_of Try.func40 (by kernel_rfl) rfl)
    (iter_stops 3 w _ A c l h hb hc hl (w.heap.size + 1 + 1 + 1)) (fun _ => rfl) w.heap.size (by simp; omega) (AllI w A c l) (AllX w) (AllA w A c l) AllI.stays AllX.stays AllA.stays
    (fun pre W hi => ⟨hi.2.2.2.2.1, hi.2.2.2.1, fun x hx => (hi.2.2.2.2.2 x hx).2⟩) hst ?assign ?body ?done ?stop
  case assign =>
    rintro L pre ⟨⟨A4, c4, d⟩, nx, er⟩ W K hi hfx hK
    dsimp only [frVals]
    clear hst h hb
    gi_wp2
    have hst := Stays.of_below (n := w.heap.size) ((Below.refl _ W).alloc (Nat.le_refl _) (Obj.cells #[Value.slice A4 d.length c4, Value.int IntKind.i64 nx] 60)) hi.2.2.2.2.1.size
    exact hK _ _ (KeepsOthers.alloc _ _) (hi.stays _ _ _ hst) ⟨W.heap.size, Boxed.lt hi.2.2.2.1, heap_alloc_new _ _, hfx.stays hst, rfl⟩
  case body =>
    rintro L pre ⟨⟨A4, c4, d⟩, nx, er⟩ a' W hi ⟨Bf, hBf, hbf, hfx, rfl⟩
    dsimp only [AllAct]
    obtain ⟨⟨A3, c3, hb2, hrow⟩, hb3, hb4, hb5, hB, hpre⟩ := hi
    have hc2 := hb2.cell
    have hf2 := hb2.frozen
    have hc3 := hb3.cell
    have hf3 := hb3.frozen
    have hc4 := hb4.cell
    have hf4 := hb4.frozen
    have hcf0 : W.cell? ⟨Bf, 0, none⟩ = some (.slice A4 d.length c4) := by simp [World.cell?, hbf]
    have hcf1 : W.cell? ⟨Bf, 1, none⟩ = some (.int .i64 nx) := by simp [World.cell?, hbf]
    have hlen : (eltsOf pre).length ≤ 900000 := by obtain ⟨⟨k, f, _, hkl, hpk, _⟩, _⟩ := hfx; simp [eltsOf]; omega
    have HFX := Lib.hid hfx
    have HBF := Lib.hid hbf
    have HPre := Lib.hid hpre
    have HRow := Lib.hid hrow
    have hsz := hB.size
    clear hst h hb hfx hbf hpre hrow
    by_cases her : er = 0
    · subst her
      have hsz4 : w.heap.size + 1 + 1 + 1 + 1 ≤ W.heap.size := Boxed.lt hb5
      gi_wp2_with (gi_at_builtin; refine wpListIn_append_rows rfl _ _ 35 Try.underlying35 rfl (w.heap.size + 1 + 1 + 1 + 1) A3 c3 (eltsOf pre) rfl (HRow.out.alloc _) (some ⟨W.heap.size, 0, none⟩) 1 [(A4, c4, d)] rfl (cells_one_row W (A4, c4, d)) (by simp; omega) (by simp; omega) ?_; intro A7 c7 w1 R hR hown7 hgrow7; obtain ⟨⟨z1, z2⟩, ⟨z3, z4, z5⟩, z6, z7⟩ := AllI.step (l := l) hb2 HRow.out hb3 hb4 hb5 hB HPre.out hBf HBF.out ⟨HFX.out.2.2.2.1, HFX.out.2.2.2.2⟩ hR.out hown7 hgrow7; replace z7 := Lib.hid z7; clear hown7 hgrow7)
      exact ⟨z6, z7.out⟩
    · have hne : (er == 0) = false := by simpa using her
      obtain ⟨⟨t1, t2⟩, ⟨t3, t4⟩, t5⟩ := three_set (.int .i64 er) hb2 hb3 hb4 hB
      have HT := Lib.hid t5
      have HER := Lib.hid her
      have hm : Try.prog.follows .mixedOrders = true := by kernel_rfl
      clear t5 her
      gi_wp2
      gi_region_with_o fail
      all_goals gi_wp2
      all_goals
        obtain ⟨u1, u2, u3, u4, u5, u6, u7⟩ := HT.out _ rfl
        exact ⟨u1, rfl, pre, _, rfl, HER.out, ⟨A3, c3, u2, u7 _ rfl HRow.out⟩, u3, u4, u5, fun y hy => ((HPre.out y hy).1).k5 u6⟩
  case done =>
    rintro D xs W hD hS hi hK
    obtain ⟨⟨A3, c3, hb2, hrow⟩, hb3, hb4, hb5, hB, hpre⟩ := hi
    have hc2 := hb2.cell
    have hf2 := hb2.frozen
    have hc3 := hb3.cell
    have hf3 := hb3.frozen
    have hc4 := hb4.cell
    have hf4 := hb4.frozen
    obtain ⟨⟨t1, t2⟩, ⟨t3, t4⟩, t5⟩ := three_set (.int .i64 0) hb2 hb3 hb4 hB
    have HT := Lib.hid t5
    have HRow := Lib.hid hrow
    have HPre := Lib.hid hpre
    have HS := Lib.hid hS
    have HK := Lib.hid hK
    have hm : Try.prog.follows .mixedOrders = true := by kernel_rfl
    clear t5 hst h hb hrow hpre hS hK
    gi_wp2
    gi_region_with_o fail
    all_goals gi_wp2
    all_goals
      obtain ⟨u1, u2, u3, u4, u5, u6, u7⟩ := HT.out _ rfl
      have hK := u1.same _ _ HK.out rfl
    all_goals
      exact all_ret rfl rfl rfl rfl hK (by simp at hD; omega) u2 u3 u4 (u7 _ rfl HRow.out) u5 (fun q hq => by obtain ⟨x, hx, rfl⟩ := mem_elts hq; exact ((HPre.out x hx).1).k5 u6) HS.out.all
  case stop =>
    rintro D cd pre W hD ⟨ys', x', hp', hrun, hlt, hg⟩ ⟨rfl, ys, x, hp, hx, ⟨A3, c3, hb2, hrow⟩, hb3, hb4, hB, hys⟩ hK
    obtain ⟨rfl, hxx⟩ := List.append_inj' (hp'.symm.trans hp) rfl
    cases hxx
    have hres := RunP.stop hrun hlt hg hx
    have hfin : ∀ a : Act, a.defers = [{ target := .collected D, args := #[] }] → a.tmps.getD 2 undef = .pointer (some ⟨w.heap.size, 0, none⟩) → a.tmps.getD 3 undef = .pointer (some ⟨w.heap.size + 1, 0, none⟩) → a.tmps.getD 4 undef = .pointer (some ⟨w.heap.size + 1 + 1, 0, none⟩) →
        bodyPostM Fence.wide 4 Try.prog Try.f14 (AllE w (allF l)) Exit.ret a W := fun a h1 h2 h3 h4 =>
      all_ret h1 h2 h3 h4 hK (by simp at hD; omega) hb2 hb3 hb4 hrow hB (fun q hq => by obtain ⟨x, hx, rfl⟩ := mem_elts hq; exact hys x hx) hres
    clear hst h hb hrow hys hres hrun hg
    gi_wp2
    exact hfin _ rfl rfl rfl rfl
end Go.Proofs.Ytikeebgclplphaa
