/-
  The statement 'for x := range seq' over an iterator that makes memory as it goes and whose values point into it: a law of any program. The iterator is told what the body keeps of its own memory; the body is told what the value that it is handed reads as. Conditions: as in the premises.
-/
import Derived.RangeFuncNested
import Derived.RangeFuncLeaves
import Derived.RangeFuncCalls
namespace Go.Proofs.Ytikeebgclplphaa
open Go.RowKit
set_option linter.unusedVariables false

/-- All cells lie as they lay, and so does all that lay below n. -/
structure Stays (n : Nat) (W W' : World) : Prop where
  below : Below n W W'
  cells : ∀ (k : Nat) (o : Obj), W.heap[k]? = some o → o.isCells = true → W'.heap[k]? = some o

theorem Stays.refl (n : Nat) (W : World) : Stays n W W := ⟨Below.refl _ _, fun _ _ h _ => h⟩
theorem Stays.trans {n : Nat} {A B C : World} (h : Stays n A B) (k : Stays n B C) : Stays n A C := ⟨h.below.trans k.below, fun i o hi ho => k.cells i o (h.cells i o hi ho) ho⟩
theorem Stays.of_below {n : Nat} {W W' : World} (h : Below W.heap.size W W') (hn : n ≤ W.heap.size) : Stays n W W' :=
  ⟨h.mono hn, fun k o hk _ => (h.block k (Array.getElem?_eq_some_iff.1 hk).1).trans hk⟩
theorem Stays.putObj {n : Nat} {W : World} {l : Nat} {o : Obj} (o' : Obj) (h : W.heap[l]? = some o) (ho : o.isCells = false) (hl : n ≤ l) : Stays n W (W.putObj l o') :=
  ⟨(Below.refl n W).grown (grownBy_putObj' W l o') (by have := (Array.getElem?_eq_some_iff.1 h).1; omega) (fun k e => by cases e; omega), fun k o2 hk hc => by
    by_cases e : k = l
    · subst e; rw [h] at hk; cases hk; rw [ho] at hc; cases hc
    · exact (World.putObj_heap_other e).trans hk⟩

variable {F : Fence} {n : Nat} {P : Program}

/-- What an iterator owes: for every loop body. J: between two rounds; Jx: a round has said no more; Kq: what the rounds keep; Fx: what is known of a value that is handed over. -/
def SeqW {α : Type} (F : Fence) (n : Nat) (P : Program) (g : Nat) (lb : Array Value) (encs : α → Array Value) (Kq : List α → World → Prop) (Fx : List α → α → World → Prop) (S Sp : List α → Prop) (w : World) : Prop :=
  ∀ (l : Nat) (J Jx : List α → World → Prop) (W : World), Below w.heap.size w W →
    (∀ pre A B, Below A.heap.size A B → J pre A → J pre B) → (∀ pre A B, Below A.heap.size A B → Jx pre A → Jx pre B) → (∀ pre A, J pre A → Kq pre A) →
    (∀ pre x W1, J pre W1 → Fx pre x W1 → YieldAt F (n - 1) P l (encs x) W1 fun e W' => (e = .returned (.bool true) ∧ J (pre ++ [x]) W') ∨ (e = .returned (.bool false) ∧ Jx (pre ++ [x]) W')) →
    J [] W →
    CallsIn F n P g (#[.func (.yield l) #[] #[]] ++ lb) W fun e W' => (∃ v, e = .returned v) ∧ ((∃ xs, S xs ∧ J xs W') ∨ (∃ pre, Sp pre ∧ Jx pre W'))

/-- Where the loop stands: the block of its deferred calls, and its record behind it. -/
structure Stands (d : Nat) (r : Loop) (W : World) : Prop where
  mark : W.heap[d]? = some (.deferred (some []))
  here : W.heap[d + 1]? = some (.loop r)

theorem Stands.lt {d : Nat} {r : Loop} {W : World} (h : Stands d r W) : d + 1 < W.heap.size := (Array.getElem?_eq_some_iff.1 h.here).1
theorem Stands.up {d : Nat} {r : Loop} {A B : World} (h : Stands d r A) (hb : Below A.heap.size A B) : Stands d r B :=
  ⟨(hb.block _ (Nat.lt_of_succ_lt h.lt)).trans h.mark, (hb.block _ h.lt).trans h.here⟩
theorem Stands.others {d : Nat} {r : Loop} {A B : World} (h : Stands d r A) (hk : KeepsOthers A B) : Stands d r B := ⟨hk.same _ _ h.mark rfl, hk.same _ _ h.here rfl⟩
theorem Stands.turn {d : Nat} {r : Loop} {W : World} (h : Stands d r W) (r' : Loop) : Stands d r' (W.putObj (d + 1) (.loop r')) :=
  ⟨(World.putObj_heap_other (Nat.ne_of_lt (Nat.lt_succ_self d))).trans h.mark, World.putObj_heap_same h.lt⟩
theorem Stands.stays {d m : Nat} {r : Loop} {W : World} (h : Stands d r W) (hm : m ≤ d) (r' : Loop) : Stays m W (W.putObj (d + 1) (.loop r')) := Stays.putObj _ h.here rfl (Nat.le_succ_of_le hm)
theorem Stands.new (w : World) (r : Loop) : Stands w.heap.size r ((w.alloc (.deferred (some []))).alloc (.loop r)) ∧ Below w.heap.size w ((w.alloc (.deferred (some []))).alloc (.loop r)) := by
  have h2 := World.alloc_heap_new (w.alloc (.deferred (some []))) (.loop r)
  rw [World.size_alloc] at h2
  exact ⟨⟨(Below.heap_alloc _ _ _ (by simp)).trans (World.alloc_heap_new w _), h2⟩, ((Below.refl _ w).alloc (Nat.le_refl _) _).alloc (by simp) _⟩

/-- The jump that a body's end leaves pending, if it is one that a round takes. -/
def leaves : Exit → Option (Option Code)
  | .normal => some none
  | .ret => some (some .ret)
  | .exit id => some (some (.exit id))
  | .goto t => some (some (.goto t))
  | _ => none

/-- The record behind a round. -/
def Loop.behind (r : Loop) (j : Option Code) : Loop := { r with state := if j.isNone then .ready else .done, pending := j }

/-- One round: the assignment, then the body, each walked once. -/
theorem one_round {d k : Nat} {r : Loop} {args : Array Value} {W : World} {R : Ending → World → Prop} {G : Act → World → Prop} (hr : r.state = .ready) (hF : F.fn r.fn) (hs : args.size = r.params.size) (hat : Stands d r W)
    (ha : r.assign.wpIn (F.inRound (d + 1)) k P (Exit.then G (fun _ _ _ => False)) { tmps := (r.params.zip args).foldl (fun t (p, v) => t.setIfInBounds p v) r.tmps, defers := [] } W)
    (hG : ∀ a A, G a A → Stands d r A ∧ r.body.wpIn (F.inRound (d + 1)) k P (fun e _ B => ∃ j, leaves e = some j ∧ Stands d { r with state := .busy } B ∧ R (.returned (.bool j.isNone)) (B.putObj (d + 1) (.loop (Loop.behind r j)))) a (A.putObj (d + 1) (.loop { r with state := .busy }))) :
    YieldAt F k P (d + 1) args W R := by
  refine ⟨_, _, _, _, run_yield hat.here hs, roundIn_of_wpIn hF (wpIn_mono ha ?_)⟩
  intro e a A h
  cases e with
  | normal =>
    obtain ⟨hst, hbody⟩ := hG a A h
    refine ⟨_, run_beginRound hst.here hr, wpIn_mono hbody ?_⟩
    rintro e _ B ⟨j, hj, hB, hR⟩
    have hend := run_endRound (P := P) j hB.here
    cases e with
    | normal => cases hj; exact ⟨_, _, hend, hR⟩
    | ret => cases hj; exact ⟨_, _, hend, hR⟩
    | exit id => cases hj; exact ⟨_, _, hend, hR⟩
    | goto t => cases hj; exact ⟨_, _, hend, hR⟩
    | panic c => cases hj
    | outgrown => cases hj
  | ret => exact h.elim
  | exit id => exact h.elim
  | goto t => exact h.elim
  | panic c => exact h.elim
  | outgrown => exact h.elim

/-- The statement: an invariant of the caller's cells, the assignment and the body walked once, what follows the loop. -/
theorem range_law {α : Type} {g : Operand} {ps : Array Tmp} {assign body : Code} {Q : Exit → Act → World → Prop} {a : Act} {w : World}
    (hro : F.round = none) (h1 : 1 ≤ n) {gf : Nat} {lb : Array Value} (hg : a.eval g = .func (.func gf) #[] lb) (hFg : F.fn gf) (eg : ∀ args w, (callFunc gf args).run P w = .ok (.enter gf args) w)
    {encs : α → Array Value} {Kq : List α → World → Prop} {Fx : List α → α → World → Prop} {S Sp : List α → Prop} (hseq : SeqW F (n - 1) P gf lb encs Kq Fx S Sp w) (hps : ∀ x, (encs x).size = ps.size)
    (m : Nat) (hm : m ≤ w.heap.size)
    (I : List α → World → Prop) (Ix : Code → List α → World → Prop) (Ax : List α → α → Act → World → Prop)
    (hI : ∀ pre A B, Stays m A B → I pre A → I pre B) (hIx : ∀ c pre A B, Stays m A B → Ix c pre A → Ix c pre B) (hAx : ∀ pre x a' A B, Stays m A B → Ax pre x a' A → Ax pre x a' B) (hIK : ∀ pre A, I pre A → Kq pre A) (h0 : I [] w)
    (hassign : ∀ (l : Nat) (pre : List α) (x : α) (W : World) (K : Act → World → Prop), I pre W → Fx pre x W → (∀ a' W', KeepsOthers W W' → I pre W' → Ax pre x a' W' → K a' W') →
      assign.wpIn (F.inRound l) (n - 1 - 1) P (Exit.then K (fun _ _ _ => False)) { tmps := (ps.zip (encs x)).foldl (fun t (p, v) => t.setIfInBounds p v) a.tmps, defers := [] } W)
    (hbody : ∀ (l : Nat) (pre : List α) (x : α) (a' : Act) (W : World), I pre W → Ax pre x a' W → body.wpIn (F.inRound l) (n - 1 - 1) P (ownPost I Ix (pre ++ [x]) W) a' W)
    (hdone : ∀ (D : Nat) (xs : List α) (W : World), w.heap.size ≤ D → S xs → I xs W → W.heap[D]? = some (.deferred (some [])) → Q .normal { a with defers := { target := .collected D, args := #[] } :: a.defers } W)
    (hstop : ∀ (D : Nat) (c : Code) (pre : List α) (W : World), w.heap.size ≤ D → Sp pre → Ix c pre W → W.heap[D]? = some (.deferred (some [])) → c.wpIn F n P Q { a with defers := { target := .collected D, args := #[] } :: a.defers } W) :
    (Code.rangeFunc g ps assign body).wpIn F n P Q a w := by
  refine wpIn_rangeFunc fun fn hfn => ?_
  obtain ⟨r, hr⟩ : ∃ r : Loop, r = { state := .ready, pending := none, fn := fn, tmps := a.tmps, params := ps, assign := assign, body := body, defers := w.heap.size } := ⟨_, rfl⟩
  obtain ⟨hat, hb⟩ := Stands.new w r
  obtain ⟨W0, hW0⟩ : ∃ W0, W0 = (w.alloc (.deferred (some []))).alloc (.loop r) := ⟨_, rfl⟩
  rw [← hW0] at hat hb
  refine ⟨w.heap.size + 1, [{ target := .collected w.heap.size, args := #[] }], W0, { target := .fn (.func gf) lb, args := #[.func (.yield (w.heap.size + 1)) #[] #[]] }, W0, gf, #[.func (.yield (w.heap.size + 1)) #[] #[]] ++ lb, W0,
    (by rw [hro, hW0, hr]; exact run_enterLoop_outer _ _ _ _ _), (by simp only [resolve, hg]; simp [go_sem]), (fun f' h => by simp [Target.leads] at h; subst h; exact hFg), (by simp [invoke, go_sem, eg]), fun _ => h1, ?_⟩
  obtain ⟨e0, e1, e2, e3, e4, e5, e6⟩ : r.state = .ready ∧ r.fn = fn ∧ r.params = ps ∧ r.tmps = a.tmps ∧ r.assign = assign ∧ r.body = body ∧ r.pending = none := by rw [hr]; exact ⟨rfl, rfl, rfl, rfl, rfl, rfl, rfl⟩
  have hup : ∀ {r' : Loop} {A B : World}, Stands w.heap.size r' A → Below A.heap.size A B → Stays m A B := fun h hb => Stays.of_below hb (by have := h.lt; omega)
  refine (hseq (w.heap.size + 1) (fun pre W => I pre W ∧ Stands w.heap.size r W) (fun pre W => ∃ c, Ix c pre W ∧ Stands w.heap.size (Loop.behind r (some c)) W) _ hb
    (fun pre A B hb h => ⟨hI _ _ _ (hup h.2 hb) h.1, h.2.up hb⟩) (fun pre A B hb h => h.elim fun c h => ⟨c, hIx _ _ _ _ (hup h.2 hb) h.1, h.2.up hb⟩) (fun pre A h => hIK _ _ h.1) ?_
    ⟨hI _ _ _ (Stays.of_below hb hm) h0, hat⟩).mono ?_
  · rintro pre x W ⟨hi, hst⟩ hfx
    have hass := hassign (w.heap.size + 1) pre x W (fun a' A => I pre A ∧ Ax pre x a' A ∧ Stands w.heap.size r A) hi hfx (fun a' A hk hiA hax => ⟨hiA, hax, hst.others hk⟩)
    refine one_round (r := r) (G := fun a' A => I pre A ∧ Ax pre x a' A ∧ Stands w.heap.size r A) e0 (by rw [e1]; exact hfn) (by rw [e2]; exact hps x) hst (by rw [e2, e3, e4]; exact hass) ?_
    rintro a' A ⟨hiA, hax, hstA⟩
    refine ⟨hstA, ?_⟩
    have hs1 := hstA.stays hm { r with state := .busy }
    have hbd := hbody (w.heap.size + 1) pre x a' _ (hI _ _ _ hs1 hiA) (hAx _ _ _ _ _ hs1 hax)
    rw [← e5] at hbd
    refine wpIn_mono hbd ?_
    have hgo : ∀ (B : World), KeepsOthers (A.putObj (w.heap.size + 1) (.loop { r with state := .busy })) B → Stands w.heap.size { r with state := .busy } B := fun B hk => (hstA.turn _).others hk
    have hno : Loop.behind r none = r := by rw [hr]; rfl
    rintro e a3 B hp
    cases e with
    | normal =>
      refine ⟨none, rfl, hgo B hp.1, .inl ⟨rfl, ?_⟩⟩
      have hB := hgo B hp.1
      have ht := hB.turn (Loop.behind r none)
      rw [hno] at ht ⊢
      exact ⟨hI _ _ _ (hB.stays hm _) hp.2, ht⟩
    | ret => exact ⟨some .ret, rfl, hgo B hp.1, .inr ⟨rfl, .ret, hIx _ _ _ _ ((hgo B hp.1).stays hm _) hp.2, (hgo B hp.1).turn _⟩⟩
    | exit id => exact ⟨some (.exit id), rfl, hgo B hp.1, .inr ⟨rfl, .exit id, hIx _ _ _ _ ((hgo B hp.1).stays hm _) hp.2, (hgo B hp.1).turn _⟩⟩
    | goto t => exact ⟨some (.goto t), rfl, hgo B hp.1, .inr ⟨rfl, .goto t, hIx _ _ _ _ ((hgo B hp.1).stays hm _) hp.2, (hgo B hp.1).turn _⟩⟩
    | panic c => exact hp.elim
    | outgrown => exact hp.elim
  · rintro e W2 ⟨⟨v, rfl⟩, (⟨xs, hS, hi, hst⟩ | ⟨pre, hSp, c, hi, hst⟩)⟩
    · have he := run_endLoop (P := P) hst.here (by rw [e0]; simp)
      rw [e6] at he
      exact ⟨none, _, he, hdone _ xs _ (Nat.le_refl _) hS (hI _ _ _ (hst.stays hm _) hi) (hst.turn _).mark⟩
    · have he := run_endLoop (P := P) hst.here (by simp [Loop.behind])
      exact ⟨some c, _, he, hstop _ c pre _ (Nat.le_refl _) hSp (hIx _ _ _ _ (hst.stays hm _) hi) (hst.turn _).mark⟩

end Go.Proofs.Ytikeebgclplphaa
