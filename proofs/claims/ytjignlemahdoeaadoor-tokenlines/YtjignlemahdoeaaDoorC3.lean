/-
  Two expressions of right shape that have the same text are the same. Plain, of no program. No further conditions.
  Blocks of the call's own: what they hold, and what leaves them as they are. No function of the program in sight. Conditions: as in the premises.
  A block that has just been made. No conditions.
  Blocks of three cells: what they hold, what three stores leave, what a struct variable of three cells is loaded as; results in a cell. No function of the program in sight. Conditions: as in the premises.
  What it means that an expression lies in memory. Conditions: as in the premises.
  Contract of the document's Size. Conditions: the expression lies in memory; at most 3,000 parts.
  Contract of the document's Arity. No conditions.
  (no types by number)
  Contracts of the document's Deep, shaped and wide. Conditions: the expression lies in memory; at most 3,000 parts.
  Contracts of the document's wide, weigh and Big. Conditions: the expression lies in memory, its numbers and texts are such as an input can have.
  Contracts of the document's weigh and Big. Conditions: the expression lies in memory, its numbers and texts are such as an input can have.
  Contract of the document's Quote. Conditions: a text of at most 1,000,000 bytes.
-/
import Derived.Lib.OthersKept
import Derived.Deep.RegionLaw
import Derived.Deep.Cut
import Derived.Deep.CutBlock
import Derived.Deep.CutRange
import Derived.Test.YtjignlemahdoeaaDoorC2
namespace Go.Proofs.YtjignlemahdoeaaDoor
open Go.ChangeShapes Go.WideShapes Go.ChangeAt Go.RowKit
set_option linter.unusedVariables false
/-- The four kinds of texts, by their first byte. -/
theorem text_cases (op : Int) (v : Vl) (A : Option Addr) (c : Nat) (l : List Ex) (h : (Ex.node op v A c l).shaped = true) :
    (op = 0 ∧ l = [] ∧ v.k = 0 ∧ (Ex.node op v A c l).text = num10 v.n) ∨ (op = 0 ∧ l = [] ∧ v.k ≠ 0 ∧ (Ex.node op v A c l).text = quote (sl v.s)) ∨
    (op ≠ 0 ∧ 0 ≤ op ∧ op ≤ 27 ∧ l = [] ∧ (Ex.node op v A c l).text = nameOf op) ∨ (op ≠ 0 ∧ 0 ≤ op ∧ op ≤ 27 ∧ l ≠ [] ∧ (Ex.node op v A c l).text = 40 :: (nameOf op ++ (textL l ++ [41]))) := by
  simp only [Ex.shaped, Bool.and_eq_true, decide_eq_true_eq] at h
  have ho := arity_op (op := op) (by omega)
  by_cases h0 : op = 0
  · have hl : l = [] := by
      have : (l.length : Int) = 0 := by rw [h.1, h0]; rfl
      exact List.eq_nil_of_length_eq_zero (by omega)
    by_cases hk : v.k = 0
    · exact .inl ⟨h0, hl, hk, by simp only [Ex.text]; rw [if_pos h0, if_pos hk]⟩
    · exact .inr (.inl ⟨h0, hl, hk, by simp only [Ex.text]; rw [if_pos h0, if_neg hk]⟩)
  · by_cases hl : l = []
    · exact .inr (.inr (.inl ⟨h0, ho.1, ho.2, hl, by simp only [Ex.text]; rw [if_neg h0, if_pos (by rw [hl]; rfl)]⟩))
    · exact .inr (.inr (.inr ⟨h0, ho.1, ho.2, hl, by
        simp only [Ex.text]
        rw [if_neg h0, if_neg (fun e => hl (List.eq_nil_of_length_eq_zero e))]
        simp⟩))
theorem textL_head {l : List Ex} (h : l ≠ []) (X : List Int) : ∃ q, textL l ++ X = 32 :: q := by
  cases l with
  | nil => exact absurd rfl h
  | cons e l => exact ⟨e.text ++ textL l ++ X, by simp [textL]⟩
theorem textL_delim (l : List Ex) (r : List Int) : Delim (textL l ++ (41 :: r)) := by
  cases l with
  | nil => exact .inr ⟨r, .inr rfl⟩
  | cons e l => exact .inr ⟨e.text ++ textL l ++ (41 :: r), .inl (by simp [textL])⟩
theorem letC_not : ¬ LetC 32 ∧ ¬ LetC 41 := by unfold LetC; omega
theorem numC_not : ¬ NumC 32 ∧ ¬ NumC 41 := by unfold NumC; omega
/-- The first byte of a list all of whose members are such. -/
theorem head_of {P : Int → Prop} {a : List Int} (h : ∀ x ∈ a, P x) (hn : a ≠ []) (X : List Int) : ∃ x q, a ++ X = x :: q ∧ P x := by
  cases a with
  | nil => exact absurd rfl hn
  | cons x a => exact ⟨x, a ++ X, rfl, h x (by simp)⟩
theorem text_inj : ∀ x y : Ex, ∀ r r' : List Int, x.shaped = true → y.shaped = true → Delim r → Delim r' → x.text ++ r = y.text ++ r' → x.same y = true ∧ r = r' := by
  intro x
  induction x using Ex.ind with
  | h op v A c l ih =>
    intro y r r' hx hy hr hr' he
    obtain ⟨op', v', A', c', l'⟩ := y
    have hx0 := hx
    have hy0 := hy
    simp only [Ex.shaped, Bool.and_eq_true, decide_eq_true_eq] at hx0 hy0
    rcases text_cases op v A c l hx with ⟨h0, hl, hk, ht⟩ | ⟨h0, hl, hk, ht⟩ | ⟨h0, o0, o1, hl, ht⟩ | ⟨h0, o0, o1, hl, ht⟩ <;>
    rcases text_cases op' v' A' c' l' hy with ⟨g0, gl, gk, gt⟩ | ⟨g0, gl, gk, gt⟩ | ⟨g0, p0, p1, gl, gt⟩ | ⟨g0, p0, p1, gl, gt⟩ <;>
    rw [ht, gt] at he
    · obtain ⟨e1, e2⟩ := span_eq _ _ _ _ (num10_chars v.n).1 (num10_chars v'.n).1 (hr.not numC_not.1 numC_not.2) (hr'.not numC_not.1 numC_not.2) he
      have e3 := num10_inj e1
      refine ⟨?_, e2⟩
      subst h0 hl g0 gl
      have : ordV v v' = 0 := by unfold ordV; rw [if_pos hk, if_pos gk, e3]; unfold cmpI; rw [if_neg (by omega), if_neg (by omega)]
      simp [Ex.same, sameL, this]
    · obtain ⟨x, q, e, hP⟩ := head_of (num10_chars v.n).1 (num10_chars v.n).2 r
      rw [e] at he
      simp only [quote, List.cons_append, List.nil_append, List.cons.injEq] at he
      unfold NumC at hP; omega
    · obtain ⟨x, q, e, hP⟩ := head_of (num10_chars v.n).1 (num10_chars v.n).2 r
      obtain ⟨x', q', e', hP'⟩ := head_of (nameOf_ok p0 p1).1 (nameOf_ok p0 p1).2 r'
      rw [e, e'] at he
      injection he with he _
      unfold NumC at hP; unfold LetC at hP'; omega
    · obtain ⟨x, q, e, hP⟩ := head_of (num10_chars v.n).1 (num10_chars v.n).2 r
      rw [e] at he
      simp only [List.cons_append, List.cons.injEq] at he
      unfold NumC at hP; omega
    · obtain ⟨x, q, e, hP⟩ := head_of (num10_chars v'.n).1 (num10_chars v'.n).2 r'
      rw [e] at he
      simp only [quote, List.cons_append, List.nil_append, List.cons.injEq] at he
      unfold NumC at hP; omega
    · obtain ⟨e1, e2⟩ := quote_inj (sl_bytes _) (sl_bytes _) he
      have e3 := sl_inj e1
      refine ⟨?_, e2⟩
      subst h0 hl g0 gl
      have : ordV v v' = 0 := by unfold ordV; rw [if_neg hk, if_neg gk, e3]; exact cmpT_same _
      simp [Ex.same, sameL, this]
    · obtain ⟨x, q, e, hP⟩ := head_of (nameOf_ok p0 p1).1 (nameOf_ok p0 p1).2 r'
      rw [e] at he
      simp only [quote, List.cons_append, List.nil_append, List.cons.injEq] at he
      unfold LetC at hP; omega
    · simp only [quote, List.cons_append, List.nil_append, List.cons.injEq] at he; omega
    · obtain ⟨x, q, e, hP⟩ := head_of (nameOf_ok o0 o1).1 (nameOf_ok o0 o1).2 r
      obtain ⟨x', q', e', hP'⟩ := head_of (num10_chars v'.n).1 (num10_chars v'.n).2 r'
      rw [e, e'] at he
      injection he with he _
      unfold LetC at hP; unfold NumC at hP'; omega
    · obtain ⟨x, q, e, hP⟩ := head_of (nameOf_ok o0 o1).1 (nameOf_ok o0 o1).2 r
      rw [e] at he
      simp only [quote, List.cons_append, List.nil_append, List.cons.injEq] at he
      unfold LetC at hP; omega
    · obtain ⟨e1, e2⟩ := span_eq _ _ _ _ (nameOf_ok o0 o1).1 (nameOf_ok p0 p1).1 (hr.not letC_not.1 letC_not.2) (hr'.not letC_not.1 letC_not.2) he
      have e3 := nameOf_inj o0 o1 p0 p1 e1
      refine ⟨?_, e2⟩
      subst e3 hl gl
      simp [Ex.same, sameL, h0]
    · obtain ⟨x, q, e, hP⟩ := head_of (nameOf_ok o0 o1).1 (nameOf_ok o0 o1).2 r
      rw [e] at he
      simp only [List.cons_append, List.cons.injEq] at he
      unfold LetC at hP; omega
    · obtain ⟨x, q, e, hP⟩ := head_of (num10_chars v'.n).1 (num10_chars v'.n).2 r'
      rw [e] at he
      simp only [List.cons_append, List.cons.injEq] at he
      unfold NumC at hP; omega
    · simp only [quote, List.cons_append, List.nil_append, List.cons.injEq] at he; omega
    · obtain ⟨x, q, e, hP⟩ := head_of (nameOf_ok p0 p1).1 (nameOf_ok p0 p1).2 r'
      rw [e] at he
      simp only [List.cons_append, List.cons.injEq] at he
      unfold LetC at hP; omega
    · simp only [List.cons_append, List.append_assoc, List.nil_append, List.cons.injEq, true_and] at he
      obtain ⟨q, hq⟩ := textL_head hl (41 :: r)
      obtain ⟨q', hq'⟩ := textL_head gl (41 :: r')
      obtain ⟨e1, e2⟩ := span_eq _ _ _ _ (nameOf_ok o0 o1).1 (nameOf_ok p0 p1).1 (fun x z hz => by rw [hq] at hz; injection hz with hz _; rw [← hz]; exact letC_not.1) (fun x z hz => by rw [hq'] at hz; injection hz with hz _; rw [← hz]; exact letC_not.1) he
      have e3 := nameOf_inj o0 o1 p0 p1 e1
      subst e3
      have hll : l.length = l'.length := by have := hx0.1; have := hy0.1; omega
      have key : ∀ l l' : List Ex, (∀ e ∈ l, ∀ y : Ex, ∀ r r' : List Int, e.shaped = true → y.shaped = true → Delim r → Delim r' → e.text ++ r = y.text ++ r' → e.same y = true ∧ r = r') → l.length = l'.length → shapedL l = true → shapedL l' = true → textL l ++ (41 :: r) = textL l' ++ (41 :: r') → sameL l l' = true ∧ r = r' := by
        intro l
        induction l with
        | nil =>
          intro l' _ h _ _ he
          cases l' with
          | nil => simp only [textL, List.nil_append, List.cons.injEq, true_and] at he; exact ⟨rfl, he⟩
          | cons _ _ => simp at h
        | cons e l ihl =>
          intro l' hh h h1 h2 he
          cases l' with
          | nil => simp at h
          | cons e' l' =>
            simp only [shapedL, Bool.and_eq_true] at h1 h2
            simp only [textL, List.cons_append, List.nil_append, List.append_assoc, List.cons.injEq, true_and] at he
            obtain ⟨s1, s2⟩ := hh e (by simp) e' _ _ h1.1 h2.1 (textL_delim l r) (textL_delim l' r') he
            obtain ⟨s3, s4⟩ := ihl l' (fun x hx => hh x (by simp [hx])) (by simpa using h) h1.2 h2.2 s2
            exact ⟨by simp [sameL, s1, s3], s4⟩
      obtain ⟨s1, s2⟩ := key l l' ih hll hx0.2 hy0.2 e2
      refine ⟨?_, s2⟩
      simp [Ex.same, h0, hll, s1]
/-- Valid expressions have the same text just if they are the same. -/
theorem text_iff (x y : Ex) (hx : x.shaped = true) (hy : y.shaped = true) : x.text = y.text ↔ x.same y = true :=
  ⟨fun h => (text_inj x y [] [] hx hy (.inl rfl) (.inl rfl) (by rw [h])).1, same_text x y hx hy⟩
theorem same_refl : ∀ x : Ex, x.same x = true := by
  intro x
  induction x using Ex.ind with
  | h op v A c l ih =>
    have key : ∀ l : List Ex, (∀ e ∈ l, e.same e = true) → sameL l l = true := by
      intro l
      induction l with
      | nil => intro _; rfl
      | cons e l ihl => intro h; simp [sameL, h e (by simp), ihl (fun x hx => h x (by simp [hx]))]
    have ho : ordV v v = 0 := by have := ordV_neg v v; omega
    simp [Ex.same, key l ih, ho]
theorem right_ok {x : Ex} (h : x.right = 0) : x.shaped = true := by
  unfold Ex.right at h
  split at h
  · omega
  · split at h
    · omega
    · split at h
      · omega
      · rename_i h1; simpa using h1
end Go.Proofs.YtjignlemahdoeaaDoor
namespace Go.Proofs.YtjignlemahdoeaaDoor
open Go.ChangeShapes Go.WideShapes Go.ChangeAt Go.RowKit
set_option linter.unusedVariables false

def Blk (W : World) (g : Nat) (cs : Array Value) (t : TypeId) : Prop := W.heap[g]? = some (.cells cs t (0, 0))
section
variable {W W' : World} {g : Nat} {cs : Array Value} {t e : TypeId}
theorem Blk.cell (h : Blk W g cs t) (k : Nat) : W.cell? ⟨g, k, none⟩ = cs[k]? := by simp [World.cell?, show W.heap[g]? = _ from h]
theorem Blk.free (h : Blk W g cs t) (k : Nat) : W.frozen? ⟨g, k, none⟩ = false := by simp [World.frozen?, show W.heap[g]? = _ from h]
theorem Blk.lt (h : Blk W g cs t) : g < W.heap.size := (Array.getElem?_eq_some_iff.1 h).1
theorem Blk.new (w : World) (cs : Array Value) (t : TypeId) : Blk (w.alloc (.cells cs t)) w.heap.size cs t := heap_alloc_new w _
theorem Blk.alloc (h : Blk W g cs t) (o : Obj) : Blk (W.alloc o) g cs t := (Below.heap_alloc W o g h.lt).trans h
theorem Blk.grown {row : Option Nat} (h : Blk W g cs t) (hg : W.grownBy W' row) (hr : row ≠ some g) : Blk W' g cs t := (hg.block g h.lt fun e => hr e.symm).trans h
theorem Blk.kept (h : Blk W g cs t) (hk : Lib.OthersKept e none W W') (hne : t ≠ e) : Blk W' g cs t := hk g _ h (by intro hc; cases hc) (fun c fz ho => by injection ho with _ h2; exact hne h2)
theorem Blk.below {n : Nat} (h : Blk W g cs t) (hb : Below n W W') (hg : g < n) : Blk W' g cs t := (hb.block g hg).trans h
theorem Blk.belowAll (h : Blk W g cs t) (hb : Below W.heap.size W W') : Blk W' g cs t := h.below hb h.lt
theorem Blk.other (h : Blk W g cs t) {a : Addr} (hne : g ≠ a.block) (v : Value) : Blk (W.setCell a v) g cs t := (Below.heap_setCell W a v g hne).trans h
theorem Blk.set (h : Blk W g cs t) (k : Nat) (v : Value) : Blk (W.setCell ⟨g, k, none⟩ v) g (cs.setIfInBounds k v) t := by
  unfold Blk at *
  have hl := (Array.getElem?_eq_some_iff.1 h).1
  have he := (Array.getElem?_eq_some_iff.1 h).2
  simp [World.setCell, hl, Array.getElem_modify, he]
theorem Blk.drew (h : Blk W g cs t) : Blk W.drew g cs t := h
end

theorem kept_alloc (e : TypeId) (W : World) (o : Obj) : Lib.OthersKept e none W (W.alloc o) := fun k x hk _ _ => (Below.heap_alloc W o k (Array.getElem?_eq_some_iff.1 hk).1).trans hk
theorem kept_grown {W W' : World} {row : Option Nat} {e : TypeId} (hg : W.grownBy W' row) (hr : ∀ g, row = some g → ∃ cur z, W.heap[g]? = some (.cells cur e z)) : Lib.OthersKept e none W W' := fun k x hk _ hx => by
  refine (hg.block k (Array.getElem?_eq_some_iff.1 hk).1 fun he => ?_).trans hk
  obtain ⟨cur, z, h2⟩ := hr k he.symm
  rw [hk] at h2
  exact hx cur z (Option.some.inj h2)
theorem kept_below {W W' : World} (e : TypeId) (hb : Below W.heap.size W W') : Lib.OthersKept e none W W' := fun k x hk _ _ => (hb.block k (Array.getElem?_eq_some_iff.1 hk).1).trans hk
theorem kept_set {W : World} {g : Nat} {cs : Array Value} {t : TypeId} (h : Blk W g cs t) (k : Nat) (v : Value) : Lib.OthersKept t none W (W.setCell ⟨g, k, none⟩ v) := fun i x hi _ hx => by
  refine (Below.heap_setCell W _ v i fun he => ?_).trans hi
  have he' : i = g := he
  subst he'
  rw [show W.heap[i]? = _ from h] at hi
  exact hx _ _ (Option.some.inj hi).symm

variable {α : Type} {e : TypeId} {sz bt : Nat} {z : Value} {en : α → List Value}
theorem OwnG.other {B : Nat} {w : World} {A : Option Addr} {c : Nat} {xs : List α} (h : OwnG e sz en B w A c xs) {g : Nat} {cs : Array Value} {t : TypeId} (hb : Blk w g cs t) (hne : t ≠ e) (k : Nat) (v : Value) : OwnG e sz en B (w.setCell ⟨g, k, none⟩ v) A c xs := by
  refine ⟨h.1, ?_⟩
  rcases h.2 with h2 | ⟨g', cap, cur, hv, hg, hh, r⟩
  · exact .inl h2
  · refine .inr ⟨g', cap, cur, hv, hg, ?_, r⟩
    rw [Below.heap_setCell w _ v g' (fun he => ?_)]
    · exact hh
    · have he' : g' = g := he
      subst he'
      rw [show w.heap[g']? = _ from hb] at hh
      injection hh with hh
      injection hh with _ h3
      exact hne h3
theorem OwnG.kept {B : Nat} {w w' : World} {A : Option Addr} {c : Nat} {xs : List α} (h : OwnG e sz en B w A c xs) {e' : TypeId} (hk : Lib.OthersKept e' none w w') (hne : e ≠ e') : OwnG e sz en B w' A c xs := by
  refine ⟨h.1, ?_⟩
  rcases h.2 with h2 | ⟨g', cap, cur, hv, hg, hh, r⟩
  · exact .inl h2
  · exact .inr ⟨g', cap, cur, hv, hg, hk g' _ hh (by intro hc; cases hc) (fun c fz ho => by injection ho with _ h2; exact hne h2), r⟩
theorem OwnS.kept {B : Nat} {w w' : World} {A : Option Addr} {c : Nat} {l : List Int} (h : OwnS B w A c l) {e' : TypeId} (hk : Lib.OthersKept e' none w w') (hne : 5 ≠ e') : OwnS B w' A c l := by
  refine ⟨h.1, ?_⟩
  rcases h.2 with h2 | ⟨g', cap, cur, hv, hg, hh, r⟩
  · exact .inl h2
  · exact .inr ⟨g', cap, cur, hv, hg, hk g' _ hh (by intro hc; cases hc) (fun c fz ho => by injection ho with _ h2; exact hne h2), r⟩
theorem OwnS.row {B : Nat} {W : World} {A : Option Addr} {c : Nat} {l : List Int} (h : OwnS B W A c l) : ∀ g, (Value.slice A l.length c).ownBlock = some g → ∃ cur q, W.heap[g]? = some (.cells cur 5 q) := fun g hg => by
  rcases h.2 with ⟨h1, _⟩ | ⟨g', cap, cur, h1, hb, hgg, _⟩
  · rw [h1] at hg; simp [Value.ownBlock] at hg
  · rw [h1] at hg
    simp [Value.ownBlock] at hg
    subst hg
    exact ⟨cur, _, hgg⟩
theorem OwnS.alloc {B : Nat} {w : World} {A : Option Addr} {c : Nat} {l : List Int} (h : OwnS B w A c l) (o : Obj) : OwnS B (w.alloc o) A c l := World.ownsRow.alloc h o
/-- A slice of the call own that was made with room. -/
theorem OwnG.room {B : Nat} {w : World} {g cap : Nat} {cs : Array Value} (h : Blk w g cs e) (hB : B ≤ g) (hc : cap ≤ maxLen) (hs : cs.size = cap * sz) : OwnG e sz en B w (some ⟨g, 0, none⟩) cap [] :=
  ⟨by simp [cellsG], .inr ⟨g, cap, cs, rfl, hB, h, Nat.zero_le _, hc, hs, by simp [cellsG]⟩⟩
/-- Where the elements of a slice of the call own lie. -/
theorem OwnG.at0 (E : El e sz bt z en) {B : Nat} {w : World} {A : Option Addr} {c : Nat} {xs : List α} (h : OwnG e sz en B w A c xs) (hl : 0 < xs.length) :
    ∃ g, A = some ⟨g, 0, none⟩ ∧ B ≤ g ∧ g < w.heap.size ∧ ∀ i j x, xs[i]? = some x → j < sz → w.cell? ⟨g, i * sz + j, none⟩ = (en x)[j]? := by
  rcases h.2 with ⟨_, h0⟩ | ⟨g, cap, cur, hv, hb, hg, _⟩
  · omega
  · have hA : A = some ⟨g, 0, none⟩ := by injection hv
    subst hA
    obtain ⟨b, o, hbo, hlt, hc⟩ := CellsG.at_ E h.cells hl
    obtain ⟨rfl, rfl⟩ : g = b ∧ 0 = o := by simpa using hbo
    exact ⟨g, rfl, hb, hlt, fun i j x hx hj => by have := hc i j x hx hj; rwa [Nat.zero_add] at this⟩
end Go.Proofs.YtjignlemahdoeaaDoor
namespace Go.Proofs.YtjignlemahdoeaaDoor
theorem Blk.newAt (w : World) (cs : Array Value) (t : TypeId) {g : Nat} (hg : g = w.heap.size) : Blk (w.alloc (.cells cs t)) g cs t := by subst hg; exact Blk.new w cs t
end Go.Proofs.YtjignlemahdoeaaDoor
namespace Go.Proofs.YtjignlemahdoeaaDoor
open Go.ChangeShapes Go.WideShapes Go.ChangeAt Go.RowKit
set_option linter.unusedVariables false
theorem results_cell1 {fn : Func} {p : Tmp} {ty : TypeId} (h : fn.results = #[.cell p ty]) (tmps : Array Value) (P : Program) (w : World) (a1 : Addr) (x : Value)
    (hp : tmps.getD p undef = .pointer (some a1)) (l1 : (loadVar ty a1).run P w = .ok x w) :
    (results fn tmps).run P w = .ok x w := by
  rw [Array.getD_eq_getD_getElem?] at hp
  simp only [results, h]
  simp [hp, asAddr, l1]
theorem results_cell_tmp2 {fn : Func} {p u v : Tmp} {ty : TypeId} (h : fn.results = #[.cell p ty, .tmp u, .tmp v]) (tmps : Array Value) (P : Program) (w : World) (a1 : Addr) (x : Value)
    (hp : tmps.getD p undef = .pointer (some a1)) (l1 : (loadVar ty a1).run P w = .ok x w) :
    (results fn tmps).run P w = .ok (.tuple #[x, tmps.getD u undef, tmps.getD v undef]) w := by
  rw [Array.getD_eq_getD_getElem?] at hp
  simp only [results, h]
  simp [Result.andThen, hp, asAddr, l1]
theorem below_one (w : World) (o : Obj) : Below w.heap.size w (w.alloc o) := (Below.refl _ _).alloc (Nat.le_refl _) _
theorem below_two (w : World) (o p : Obj) : Below w.heap.size w ((w.alloc o).alloc p) := ((Below.refl _ _).alloc (Nat.le_refl _) _).alloc (by simp) _
theorem below_drew (w : World) : Below w.heap.size w w.drew := (Below.refl _ _).drew
theorem Blk.cells3 {W : World} {g : Nat} {a b c : Value} {t : TypeId} (h : Blk W g #[a, b, c] t) : W.cell? ⟨g, 0, none⟩ = some a ∧ W.cell? ⟨g, 1, none⟩ = some b ∧ W.cell? ⟨g, 2, none⟩ = some c := ⟨h.cell 0, h.cell 1, h.cell 2⟩
theorem Blk.free3 {W : World} {g : Nat} {cs : Array Value} {t : TypeId} (h : Blk W g cs t) : W.frozen? ⟨g, 0, none⟩ = false ∧ W.frozen? ⟨g, 1, none⟩ = false ∧ W.frozen? ⟨g, 2, none⟩ = false := ⟨h.free 0, h.free 1, h.free 2⟩
theorem Blk.set3 {W : World} {g : Nat} {a b c : Value} {t : TypeId} (h : Blk W g #[a, b, c] t) (x y z : Value) : Blk (((W.setCell ⟨g, 0, none⟩ x).setCell ⟨g, 1, none⟩ y).setCell ⟨g, 2, none⟩ z) g #[x, y, z] t := by
  have := ((h.set 0 x).set 1 y).set 2 z
  simpa using this
theorem below_set3 {n : Nat} {w W : World} {g : Nat} (h : Below n w W) (hg : n ≤ g) (x y z : Value) : Below n w (((W.setCell ⟨g, 0, none⟩ x).setCell ⟨g, 1, none⟩ y).setCell ⟨g, 2, none⟩ z) := ((h.setCell (p := ⟨g, 0, none⟩) hg x).setCell (p := ⟨g, 1, none⟩) hg y).setCell (p := ⟨g, 2, none⟩) hg z
theorem lv23 {W : World} {g : Nat} {a b c : Value} (h : Blk W g #[a, b, c] 33) : (loadVar 33 ⟨g, 0, none⟩).run Tryd.prog W = .ok (.agg #[a, b, c]) W := by
  have hl := run_loadCells_list (P := Tryd.prog) W ⟨g, 0, none⟩ [a, b, c] (fun j u hu => by
    have e1 : (⟨g, 0, none⟩ : Addr).add j = ⟨g, j, none⟩ := by
      unfold Addr.add
      split
      · rename_i hz; rw [hz]
      · simp
    rw [e1, h.cell j, ← Array.getElem?_toList]
    exact hu)
  simp at hl
  simp [loadVar, isAgg, underlying, Tryd.underlying33, hl]
end Go.Proofs.YtjignlemahdoeaaDoor
namespace Go.Proofs.YtjignlemahdoeaaDoor
open Go.ChangeShapes Go.WideShapes Go.ChangeAt Go.RowKit
set_option linter.unusedVariables false
/-- An expression's cells. -/
def enX (e : Ex) : List Value := [.int .i64 e.op, .int .u8 e.vl.k, .int .i64 e.vl.n, .string e.vl.s, .slice e.adr e.args.length e.cp]
def Ex.v (e : Ex) : Value := .agg #[.int .i64 e.op, .int .u8 e.vl.k, .int .i64 e.vl.n, .string e.vl.s, .slice e.adr e.args.length e.cp]
theorem elX : El 41 5 64 (.agg #[.int .i64 0, .int .u8 0, .int .i64 0, .string ⟨#[]⟩, .slice none 0 0]) enX where
  info := by kernel_rfl
  zero := rfl
  pos := by decide
  len := fun _ => rfl
  one := fun x u hu => by
    simp only [enX, List.mem_cons, List.not_mem_nil, or_false] at hu
    rcases hu with rfl | rfl | rfl | rfl | rfl <;> rfl
mutual
def Ex.At (W : World) : Ex → Prop | .node _ _ A c l => CellsG enX W A c l ∧ atL W l
def atL (W : World) : List Ex → Prop | [] => True | e :: l => e.At W ∧ atL W l
end
theorem atL_mem {W : World} : ∀ {l : List Ex}, atL W l → ∀ e ∈ l, e.At W
  | [], _, e, he => by cases he
  | a :: l, h, e, he => by
    simp only [atL] at h
    rcases List.mem_cons.1 he with rfl | he
    · exact h.1
    · exact atL_mem h.2 e he
theorem atL_of {W : World} : ∀ {l : List Ex}, (∀ e ∈ l, e.At W) → atL W l
  | [], _ => trivial
  | a :: l, h => by
    simp only [atL]
    exact ⟨h a (by simp), atL_of fun e he => h e (by simp [he])⟩
theorem Ex.At.below {W W' : World} (hb : Below W.heap.size W W') : ∀ e : Ex, e.At W → e.At W' := by
  intro e
  induction e using Ex.ind with
  | h op v A c l ih =>
    intro h
    simp only [Ex.At] at h ⊢
    exact ⟨h.1.below hb, atL_of fun e he => ih e he (atL_mem h.2 e he)⟩
/-- A block that holds an expression alone. -/
theorem Blk.cells5 {W : World} {g : Nat} {a b c d e : Value} {t : TypeId} (h : Blk W g #[a, b, c, d, e] t) : W.cell? ⟨g, 0, none⟩ = some a ∧ W.cell? ⟨g, 1, none⟩ = some b ∧ W.cell? ⟨g, 2, none⟩ = some c ∧ W.cell? ⟨g, 3, none⟩ = some d ∧ W.cell? ⟨g, 4, none⟩ = some e := ⟨h.cell 0, h.cell 1, h.cell 2, h.cell 3, h.cell 4⟩
/-- The five cells of the argument at index k. -/
def ArgC (W : World) (b o : Nat) (e : Ex) : Prop := W.cell? ⟨b, o, none⟩ = some (.int .i64 e.op) ∧ W.cell? ⟨b, o + 1, none⟩ = some (.int .u8 e.vl.k) ∧ W.cell? ⟨b, o + 2, none⟩ = some (.int .i64 e.vl.n) ∧ W.cell? ⟨b, o + 3, none⟩ = some (.string e.vl.s) ∧ W.cell? ⟨b, o + 4, none⟩ = some (.slice e.adr e.args.length e.cp)
theorem arg_cells {W : World} {A : Option Addr} {c : Nat} {l : List Ex} (h : CellsG enX W A c l) (hl : 0 < l.length) :
    ∃ b o, A = some ⟨b, o, none⟩ ∧ b < W.heap.size ∧ ∀ k e, l[k]? = some e → ∀ W', Below W.heap.size W W' → ArgC W' b (o + k * 5) e := by
  obtain ⟨b, o, hA, hb, hc⟩ := h.at_ elX hl
  refine ⟨b, o, hA, hb, fun k e he W' hW => ?_⟩
  have q : ∀ j, j < 5 → W'.cell? ⟨b, o + (k * 5 + j), none⟩ = (enX e)[j]? := fun j hj => (hW.cell (p := ⟨b, o + (k * 5 + j), none⟩) hb).trans (hc k j e he hj)
  exact ⟨q 0 (by omega), by have := q 1 (by omega); rwa [← Nat.add_assoc] at this, by have := q 2 (by omega); rwa [← Nat.add_assoc] at this, by have := q 3 (by omega); rwa [← Nat.add_assoc] at this, by have := q 4 (by omega); rwa [← Nat.add_assoc] at this⟩
theorem size_pos : ∀ e : Ex, 1 ≤ e.size := by
  intro e
  induction e using Ex.ind with
  | h op v A c l ih =>
    have : ∀ l : List Ex, (∀ e ∈ l, 1 ≤ e.size) → (l.length : Int) ≤ sizeL l := by
      intro l
      induction l with
      | nil => intro _; simp [sizeL]
      | cons e l ihl => intro h; have h1 := h e (by simp); have h2 := ihl fun x hx => h x (by simp [hx]); simp only [sizeL, List.length_cons]; omega
    simp only [Ex.size]
    have := this l ih
    omega
theorem sizeL_len : ∀ l : List Ex, (l.length : Int) ≤ sizeL l
  | [] => by simp [sizeL]
  | e :: l => by have h1 := size_pos e; have h2 := sizeL_len l; simp only [sizeL, List.length_cons]; omega
theorem sizeL_take (l : List Ex) (k : Nat) : sizeL (l.take k) ≤ sizeL l := by
  have h := sizeL_append (l.take k) (l.drop k)
  rw [List.take_append_drop] at h
  have h2 := sizeL_len (l.drop k)
  omega
theorem take_snoc {l : List Ex} {k : Nat} {e : Ex} (h : l[k]? = some e) : l.take (k + 1) = l.take k ++ [e] := by rw [List.take_add_one, h]; rfl
theorem sizeL_next {l : List Ex} {k : Nat} {e : Ex} (h : l[k]? = some e) : sizeL (l.take (k + 1)) = sizeL (l.take k) + e.size := by rw [take_snoc h, sizeL_append]; simp [sizeL]
end Go.Proofs.YtjignlemahdoeaaDoor
namespace Go.Proofs.YtjignlemahdoeaaDoor
open Go.ChangeShapes Go.WideShapes Go.ChangeAt Go.RowKit
set_option linter.unusedVariables false
set_option maxRecDepth 20000
def RelS (f : List Ex → Int) (l : List Ex) (w1 : World) (n i : Value) (wr : World) : Prop := ∃ (k : Nat) (x : Int), n = .int .i64 x ∧ i = .int .i64 k ∧ k ≤ l.length ∧ Hid (x = f (l.take k)) ∧ Below w1.heap.size w1 wr
set_option maxHeartbeats 2000000 in
theorem rsize_calls : ∀ (e : Ex) (w : World), e.At w → e.size ≤ 3000 → Calls Tryd.prog 16 #[e.v] w fun q w' => q = .returned (.int .i64 e.size) ∧ Below w.heap.size w w' := by
  intro e
  induction e using Ex.ind with
  | h op v A c l ih =>
    intro w hAt hs
    simp only [Ex.At] at hAt
    simp only [Ex.size] at hs ⊢
    obtain ⟨hcl, hal⟩ := hAt
    have hlen := sizeL_len l
    unfold Ex.v
    simp only [Ex.op, Ex.vl, Ex.adr, Ex.args, Ex.cp]
    obtain ⟨k, n, s⟩ := v
    dsimp only
    obtain ⟨ln, hln⟩ : ∃ ln, ln = l.length := ⟨_, rfl⟩
    have HLN := Lib.hid hln
    rw [← hln]
    have hB1 := below_one w (.cells #[.int .i64 op, .int .u8 k, .int .i64 n, .string s, .slice A ln c] 41)
    have bx := Blk.new w #[.int .i64 op, .int .u8 k, .int .i64 n, .string s, .slice A ln c] 41
    obtain ⟨W1, hW1⟩ : ∃ W1, W1 = w.alloc (.cells #[.int .i64 op, .int .u8 k, .int .i64 n, .string s, .slice A ln c] 41) := ⟨_, rfl⟩
    rw [← hW1] at hB1 bx
    have HB1 := Lib.hid hB1
    have HX := Lib.hid bx
    have HIH := Lib.hid (fun e he W hW => ih e he W (Ex.At.below hW e (atL_mem hal e he)))
    have HCL := Lib.hid hcl
    have HTK := Lib.hid (sizeL_take l)
    have HSL := Lib.hid hs
    have HNX := Lib.hid (fun k e => sizeL_next (l := l) (k := k) (e := e))
    have HEND := Lib.hid (show sizeL (l.take l.length) = sizeL l by rw [List.take_length])
    have hl3 : ln ≤ 3000 := by omega
    have HW1 := Lib.hid hW1
    clear hlen ih hal hcl hs hB1 bx hln hW1
    go_enter Tryd.func16, Tryd.ntmps16
    go_wp2_with fail
    rw [← HW1.out]
    go_loopw [3, 4] (RelS (fun t => 1 + sizeL t) l W1) (fun _ i _ => 3001 - (intOf i).toNat)
    case atStart => exact ⟨0, 1, rfl, rfl, Nat.zero_le _, Lib.hid (by simp [sizeL]), Below.refl _ _⟩
    case round =>
      obtain ⟨j, x, rfl, rfl, hj, hx, hbr⟩ := hrel
      rw [← HLN.out] at hj
      have HBR := Lib.hid hbr
      have HJ := Lib.hid hj
      obtain ⟨c0, c1, c2, c3, c4⟩ := (HX.out.belowAll hbr).cells5
      have HBW := Lib.hid (HB1.out.trans (hbr.mono HB1.out.size))
      clear hbr
      by_cases hlt : j < ln
      · obtain ⟨e, he⟩ : ∃ e, l[j]? = some e := ⟨l[j]'(by rw [← HLN.out]; exact hlt), by simp⟩
        obtain ⟨b, o, hA, hb, hck⟩ := arg_cells HCL.out (by rw [← HLN.out]; omega)
        subst hA
        obtain ⟨a0, a1, a2, a3, a4⟩ := hck j e he wr HBW.out
        have hmem := List.mem_of_getElem? he
        have hnx := HNX.out j e he
        have htk := HTK.out (j + 1)
        have hsz1 := size_pos e
        have hx2 := hx.out
        dsimp only at hx2
        have hsl := HSL.out
        obtain ⟨y, hy⟩ : ∃ y, y = e.size := ⟨_, rfl⟩
        have HC := Lib.hid (HIH.out e hmem wr HBW.out (by have := sizeL_len (l.take j); omega))
        rw [← hy] at HC hnx hsz1
        unfold Ex.v at HC
        have hx0 : 0 ≤ x := by have := sizeL_len (l.take j); omega
        have hxy : x + y ≤ 3001 := by omega
        have HNEW := Lib.hid (show x + y = 1 + sizeL (l.take (j + 1)) by rw [hnx]; omega)
        have hw1 : wrap64 (x + y) = x + y := by unfold wrap64; omega
        have h1i : (j : Int) < (ln : Int) := by omega
        generalize e.op = p0 at *
        generalize e.vl.k = p1 at *
        generalize e.vl.n = p2 at *
        generalize e.vl.s = p3 at *
        generalize e.adr = p4 at *
        generalize e.args.length = p5 at *
        generalize e.cp = p6 at *
        clear hck he hmem hnx htk hx hx2 hsl hy hb hj
        go_wp2_with fail
        refine HC.out.mono ?_
        rintro q w2 ⟨rfl, hb2⟩
        have HB2 := Lib.hid (HBR.out.trans (hb2.mono HBR.out.size))
        clear hb2
        dsimp only
        go_wp2
        go_roundw
        case rel => exact ⟨j + 1, x + y, by rfl, by go_num, by rw [← HLN.out]; omega, Lib.hid HNEW.out, HB2.out⟩
        case measure => simp [intOf]; omega
      · obtain rfl : j = ln := by omega
        have hd2 : decide ((j : Int) < (j : Int)) = false := by simp
        have hx2 : x = 1 + sizeL l := by rw [hx.out, HLN.out]; show 1 + sizeL (l.take l.length) = _; rw [HEND.out]
        clear hx
        go_wp2
        go_ret
        exact ⟨by rw [← hx2]; rfl, HBW.out⟩
end Go.Proofs.YtjignlemahdoeaaDoor
namespace Go.Proofs.YtjignlemahdoeaaDoor
open Go.ChangeShapes Go.WideShapes Go.ChangeAt Go.RowKit
set_option linter.unusedVariables false
set_option maxRecDepth 20000
def RelS2 (f : List Ex → Int) (l : List Ex) (w1 : World) (n i : Value) (wr : World) : Prop := ∃ (k : Nat) (x : Int), n = .int .i64 x ∧ i = .int .i64 k ∧ k ≤ l.length ∧ Hid (x = f (l.take k)) ∧ 0 ≤ x ∧ x ≤ 3000 ∧ Below w1.heap.size w1 wr
def RelBx (f : List Ex → Bool) (v : Bool) (l : List Ex) (w1 : World) (i : Value) (wr : World) : Prop := ∃ k : Nat, i = .int .i64 k ∧ k ≤ l.length ∧ Hid (f (l.take k) = v) ∧ Below w1.heap.size w1 wr
set_option maxHeartbeats 4000000 in
theorem rarity_calls (op : Int) (w : World) : Calls Tryd.prog 42 #[.int .i64 op] w fun q w' => q = .returned (.int .i64 (arity op)) ∧ ∃ p, w' = w.drewN p := by
  have hcase : op < 0 ∨ 27 < op ∨ (0 ≤ op ∧ op ≤ 27) := by omega
  rcases hcase with h | h | ⟨h0, h1⟩
  · have d : decide (op < 0) = true := decide_eq_true h
    have e : arity op = -1 := by unfold arity; rw [if_pos (.inl h)]
    rw [e]
    go_enter Tryd.func42, Tryd.ntmps42
    go_wp2
    go_ret
    exact ⟨rfl, 0, rfl⟩
  · have d : decide (op < 0) = false := decide_eq_false (by omega)
    have d2 : decide (27 < op) = true := decide_eq_true h
    have e : arity op = -1 := by unfold arity; rw [if_pos (.inr h)]
    rw [e]
    go_enter Tryd.func42, Tryd.ntmps42
    go_wp2
    go_ret
    exact ⟨rfl, 0, rfl⟩
  · by_cases h8 : op < 8
    · have d : decide (op < 0) = false := decide_eq_false (by omega)
      have d2 : decide (27 < op) = false := decide_eq_false (by omega)
      have d3 : decide (op < 8) = true := decide_eq_true h8
      have e : arity op = 0 := by unfold arity; rw [if_neg (by omega), if_pos h8]
      rw [e]
      go_enter Tryd.func42, Tryd.ntmps42
      go_wp2
      go_ret
      exact ⟨rfl, 0, rfl⟩
    · have hk : op = 8 ∨ op = 9 ∨ op = 10 ∨ op = 11 ∨ op = 12 ∨ op = 13 ∨ op = 14 ∨ op = 15 ∨ op = 16 ∨ op = 17 ∨ op = 18 ∨ op = 19 ∨ op = 20 ∨ op = 21 ∨ op = 22 ∨ op = 23 ∨ op = 24 ∨ op = 25 ∨ op = 26 ∨ op = 27 := by omega
      clear h0 h1 h8
      rcases hk with rfl | rfl | rfl | rfl | rfl | rfl | rfl | rfl | rfl | rfl | rfl | rfl | rfl | rfl | rfl | rfl | rfl | rfl | rfl | rfl
      all_goals
        rw [show arity _ = _ from rfl]
        go_enter Tryd.func42, Tryd.ntmps42
        go_wp2
        go_ret
        exact ⟨rfl, 0, rfl⟩
end Go.Proofs.YtjignlemahdoeaaDoor
namespace Go.Proofs.YtjignlemahdoeaaDoor
open Go.ChangeShapes Go.WideShapes Go.ChangeAt Go.RowKit
set_option linter.unusedVariables false
set_option maxRecDepth 20000
theorem deepL_nonneg : ∀ l : List Ex, 0 ≤ deepL l
  | [] => by simp [deepL]
  | e :: l => by have := deepL_nonneg l; simp only [deepL]; omega
theorem deep_le : ∀ e : Ex, 1 ≤ e.deep ∧ e.deep ≤ e.size := by
  intro e
  induction e using Ex.ind with
  | h op v A c l ih =>
    have key : ∀ l : List Ex, (∀ e ∈ l, 1 ≤ e.deep ∧ e.deep ≤ e.size) → deepL l ≤ sizeL l := by
      intro l
      induction l with
      | nil => intro _; simp [deepL, sizeL]
      | cons e l ihl =>
        intro h
        have h1 := h e (by simp)
        have h2 := ihl fun x hx => h x (by simp [hx])
        have h3 := size_pos e
        have h4 := sizeL_len l
        simp only [deepL, sizeL]; omega
    have h1 := key l ih
    have h2 := deepL_nonneg l
    simp only [Ex.deep, Ex.size]; omega
theorem size_arg {op : Int} {v : Vl} {A : Option Addr} {c : Nat} {l : List Ex} {e : Ex} (he : e ∈ l) : e.size < (Ex.node op v A c l).size := by
  have key : ∀ l : List Ex, e ∈ l → e.size ≤ sizeL l := by
    intro l
    induction l with
    | nil => intro h; cases h
    | cons a l ih =>
      intro h
      have h1 := sizeL_len l
      have h2 := size_pos a
      simp only [sizeL]
      rcases List.mem_cons.1 h with rfl | h
      · omega
      · have := ih h; omega
  have := key l he
  simp only [Ex.size]; omega
set_option maxHeartbeats 2000000 in
theorem rdeep_calls : ∀ (e : Ex) (w : World), e.size ≤ 3000 → e.At w → Calls Tryd.prog 28 #[e.v] w fun q w' => q = .returned (.int .i64 e.deep) ∧ Below w.heap.size w w' := by
  intro e
  induction e using Ex.ind with
  | h op v A c l ih =>
    intro w hsz hAt
    simp only [Ex.At] at hAt
    simp only [Ex.deep]
    obtain ⟨hcl, hal⟩ := hAt
    have hlen := sizeL_len l
    unfold Ex.v
    simp only [Ex.op, Ex.vl, Ex.adr, Ex.args, Ex.cp]
    obtain ⟨k, n, s⟩ := v
    dsimp only
    obtain ⟨ln, hln⟩ : ∃ ln, ln = l.length := ⟨_, rfl⟩
    have HLN := Lib.hid hln
    have HALL := Lib.hid (fun e he => atL_mem hal e he)
    rw [← hln]
    have hB1 := below_one w (.cells #[.int .i64 op, .int .u8 k, .int .i64 n, .string s, .slice A ln c] 41)
    have bx := Blk.new w #[.int .i64 op, .int .u8 k, .int .i64 n, .string s, .slice A ln c] 41
    obtain ⟨w0, w1, w2, w3, w4⟩ := bx.cells5
    obtain ⟨W1, hW1⟩ : ∃ W1, W1 = w.alloc (.cells #[.int .i64 op, .int .u8 k, .int .i64 n, .string s, .slice A ln c] 41) := ⟨_, rfl⟩
    rw [← hW1] at hB1 bx
    have HB1 := Lib.hid hB1
    have HX := Lib.hid bx
    have HIH := Lib.hid (fun e he W hW => ih e he W (by have := size_arg (op := op) (v := ⟨k, n, s⟩) (A := A) (c := c) he; omega) (Ex.At.below hW e (HALL.out e he)))
    have HCL := Lib.hid hcl
    have HEND := Lib.hid (show l.take l.length = l from List.take_length)
    have hl3 : ln ≤ 3000 := by
      have := hsz
      simp only [Ex.size] at this; omega
    have HDM := Lib.hid (fun e (he : e ∈ l) => show e.deep ≤ 3000 from Int.le_trans (deep_le e).2 (by have := size_arg (op := op) (v := ⟨k, n, s⟩) (A := A) (c := c) he; omega))
    have HW1 := Lib.hid hW1
    clear hlen ih hal hcl hB1 bx hln hW1 hsz
    go_enter Tryd.func28, Tryd.ntmps28
    go_wp2_with fail
    rw [← HW1.out]
    clear w0 w1 w2 w3 w4
    go_loopw [3, 4] (RelS2 deepL l W1) (fun _ i _ => 3001 - (intOf i).toNat)
    case atStart => exact ⟨0, 0, rfl, rfl, Nat.zero_le _, Lib.hid (by simp [deepL]), by omega, by omega, Below.refl _ _⟩
    case round =>
      obtain ⟨j, x, rfl, rfl, hj, hx, hx0, hx1, hbr⟩ := hrel
      have HBR := Lib.hid hbr
      obtain ⟨c0, c1, c2, c3, c4⟩ := (HX.out.belowAll hbr).cells5
      have HBW := Lib.hid (HB1.out.trans (hbr.mono HB1.out.size))
      have HJL := Lib.hid (show j ≤ ln by rw [HLN.out]; exact hj)
      clear hbr hj
      by_cases hlt : j < ln
      · obtain ⟨e, he⟩ : ∃ e, l[j]? = some e := ⟨l[j]'(by rw [← HLN.out]; exact hlt), by simp⟩
        obtain ⟨b, o, hA, hb, hck⟩ := arg_cells HCL.out (by rw [← HLN.out]; omega)
        subst hA
        obtain ⟨a0, a1, a2, a3, a4⟩ := hck j e he wr HBW.out
        have hmem := List.mem_of_getElem? he
        have hsn := take_snoc he
        have h1i : (j : Int) < (ln : Int) := by omega
        have HC := Lib.hid (HIH.out e hmem wr HBW.out)
        obtain ⟨y, hy⟩ : ∃ y, y = e.deep := ⟨_, rfl⟩
        have hy1 := HDM.out e hmem
        have hy0 := (deep_le e).1
        rw [← hy] at HC hy1 hy0
        have HNEW := Lib.hid (show max x y = deepL (l.take (j + 1)) by rw [hsn, deepL_append, hx.out]; simp only [deepL]; rw [← hy]; omega)
        unfold Ex.v at HC
        generalize e.op = p0 at *
        generalize e.vl.k = p1 at *
        generalize e.vl.n = p2 at *
        generalize e.vl.s = p3 at *
        generalize e.adr = p4 at *
        generalize e.args.length = p5 at *
        generalize e.cp = p6 at *
        clear hck he hmem hsn hb hx hy
        go_wp2_with fail
        refine HC.out.mono ?_
        rintro q w2 ⟨rfl, hb2⟩
        have HB2 := Lib.hid (HBR.out.trans (hb2.mono HBR.out.size))
        have HBW2 := Lib.hid (HBW.out.trans (hb2.mono HBW.out.size))
        clear hb2
        dsimp only
        by_cases hgt : x < y
        · have d1 : decide (x < y) = true := decide_eq_true hgt
          go_wp2
          go_roundw
          case rel => exact ⟨j + 1, y, by rfl, by go_num, by rw [← HLN.out]; omega, Lib.hid (by rw [← HNEW.out]; omega), by omega, by omega, HB2.out⟩
          case measure => simp [intOf]; omega
        · have d1 : decide (x < y) = false := decide_eq_false hgt
          go_wp2
          go_roundw
          case rel => exact ⟨j + 1, x, by rfl, by go_num, by rw [← HLN.out]; omega, Lib.hid (by rw [← HNEW.out]; omega), by omega, by omega, HB2.out⟩
          case measure => simp [intOf]; omega
      · obtain rfl : j = ln := by have := HJL.out; omega
        have hd2 : decide ((j : Int) < (j : Int)) = false := by simp
        have hx2 : x = deepL l := by rw [hx.out, HLN.out, HEND.out]
        have hw1 : wrap64 (x + 1) = x + 1 := by unfold wrap64; omega
        clear hx
        go_wp2
        go_ret
        exact ⟨by rw [← hx2]; rfl, HBW.out⟩
set_option maxHeartbeats 2000000 in
theorem rshaped_calls : ∀ (e : Ex) (w : World), e.size ≤ 3000 → e.At w → Calls Tryd.prog 29 #[e.v] w fun q w' => q = .returned (.bool e.shaped) ∧ Below w.heap.size w w' := by
  intro e
  induction e using Ex.ind with
  | h op v A c l ih =>
    intro w hsz hAt
    simp only [Ex.At] at hAt
    simp only [Ex.shaped]
    obtain ⟨hcl, hal⟩ := hAt
    have hlen := sizeL_len l
    unfold Ex.v
    simp only [Ex.op, Ex.vl, Ex.adr, Ex.args, Ex.cp]
    obtain ⟨k, n, s⟩ := v
    dsimp only
    obtain ⟨ln, hln⟩ : ∃ ln, ln = l.length := ⟨_, rfl⟩
    have HLN := Lib.hid hln
    have HALL := Lib.hid (fun e he => atL_mem hal e he)
    rw [← hln]
    have hB1 := below_one w (.cells #[.int .i64 op, .int .u8 k, .int .i64 n, .string s, .slice A ln c] 41)
    have bx := Blk.new w #[.int .i64 op, .int .u8 k, .int .i64 n, .string s, .slice A ln c] 41
    obtain ⟨w0, w1, w2, w3, w4⟩ := bx.cells5
    obtain ⟨W1, hW1⟩ : ∃ W1, W1 = w.alloc (.cells #[.int .i64 op, .int .u8 k, .int .i64 n, .string s, .slice A ln c] 41) := ⟨_, rfl⟩
    rw [← hW1] at hB1 bx
    have HB1 := Lib.hid hB1
    have HX := Lib.hid bx
    have HIH := Lib.hid (fun e he W hW => ih e he W (by have := size_arg (op := op) (v := ⟨k, n, s⟩) (A := A) (c := c) he; omega) (Ex.At.below hW e (HALL.out e he)))
    have HCL := Lib.hid hcl
    have HEND := Lib.hid (show l.take l.length = l from List.take_length)
    have hl3 : ln ≤ 3000 := by
      have := hsz
      simp only [Ex.size] at this; omega
    have HAR := Lib.hid (fun W => rarity_calls op W)
    have HW1 := Lib.hid hW1
    clear hlen ih hal hcl hB1 bx hln hW1 hsz
    by_cases har : (ln : Int) = arity op
    · rw [show decide ((ln : Int) = arity op) = true by simpa using har, Bool.true_and]
      have hne : ((ln : Int) != arity op) = false := by simpa using har
      clear har
      go_enter Tryd.func29, Tryd.ntmps29
      go_wp2_with fail
      go_quiet ((go_at_call 42; refine Calls.quiet_of (HAR.out _)))
      go_wp2_with fail
      rw [← HW1.out]
      clear w0 w1 w2 w3 w4
      go_loopw [3] (RelBx shapedL true l W1) (fun i _ => 3001 - (intOf i).toNat)
      case atStart => exact ⟨0, rfl, Nat.zero_le _, Lib.hid (by simp [shapedL]), ⟨rfl, rfl, rfl, Nat.le_refl _, fun _ _ => rfl⟩⟩
      case round =>
        obtain ⟨j, rfl, hj, hx, hbr⟩ := hrel
        have HBR := Lib.hid hbr
        obtain ⟨c0, c1, c2, c3, c4⟩ := (HX.out.belowAll hbr).cells5
        have HBW := Lib.hid (HB1.out.trans (hbr.mono HB1.out.size))
        have HJL := Lib.hid (show j ≤ ln by rw [HLN.out]; exact hj)
        clear hbr hj
        by_cases hlt : j < ln
        · obtain ⟨e, he⟩ : ∃ e, l[j]? = some e := ⟨l[j]'(by rw [← HLN.out]; exact hlt), by simp⟩
          obtain ⟨b, o, hA, hb, hck⟩ := arg_cells HCL.out (by rw [← HLN.out]; omega)
          subst hA
          obtain ⟨a0, a1, a2, a3, a4⟩ := hck j e he wr HBW.out
          have hmem := List.mem_of_getElem? he
          have hsn := take_snoc he
          have h1i : (j : Int) < (ln : Int) := by omega
          have HC := Lib.hid (HIH.out e hmem wr HBW.out)
          obtain ⟨y, hy⟩ : ∃ y, y = e.shaped := ⟨_, rfl⟩
          rw [← hy] at HC
          have HNEW := Lib.hid (show y = shapedL (l.take (j + 1)) by rw [hsn, shapedL_append, hx.out]; simp only [shapedL]; rw [← hy]; simp)
          have HNOT := Lib.hid (show y = false → shapedL l = false from fun h => by
            have h9 := shapedL_append (l.take (j + 1)) (l.drop (j + 1))
            rw [List.take_append_drop, ← HNEW.out, h] at h9
            simpa using h9)
          unfold Ex.v at HC
          generalize e.op = p0 at *
          generalize e.vl.k = p1 at *
          generalize e.vl.n = p2 at *
          generalize e.vl.s = p3 at *
          generalize e.adr = p4 at *
          generalize e.args.length = p5 at *
          generalize e.cp = p6 at *
          clear hck he hmem hsn hb hx hy
          go_wp2_with fail
          refine HC.out.mono ?_
          rintro q w2 ⟨rfl, hb2⟩
          have HB2 := Lib.hid (HBR.out.trans (hb2.mono HBR.out.size))
          have HBW2 := Lib.hid (HBW.out.trans (hb2.mono HBW.out.size))
          clear hb2
          dsimp only
          cases y with
          | true =>
            go_wp2
            go_roundw
            case rel => exact ⟨j + 1, by go_num, by rw [← HLN.out]; omega, Lib.hid HNEW.out.symm, HB2.out⟩
            case measure => simp [intOf]; omega
          | false =>
            go_wp2
            go_ret
            exact ⟨by rw [HNOT.out (by first | rfl | trivial)]; rfl, HBW2.out⟩
        · obtain rfl : j = ln := by have := HJL.out; omega
          have hd2 : decide ((j : Int) < (j : Int)) = false := by simp
          have hx2 : shapedL l = true := by rw [← hx.out, HLN.out, HEND.out]
          clear hx
          go_wp2
          go_ret
          exact ⟨by rw [hx2]; rfl, HBW.out⟩
    · rw [show decide ((ln : Int) = arity op) = false by simpa using har, Bool.false_and]
      have hne : ((ln : Int) != arity op) = true := by simpa using har
      clear har
      go_enter Tryd.func29, Tryd.ntmps29
      go_wp2_with fail
      go_quiet ((go_at_call 42; refine Calls.quiet_of (HAR.out _)))
      go_wp2
      go_ret
      refine ⟨rfl, ?_⟩
      rw [← HW1.out]
      exact HB1.out.trans ⟨rfl, rfl, rfl, Nat.le_refl _, fun _ _ => rfl⟩
end Go.Proofs.YtjignlemahdoeaaDoor
namespace Go.Proofs.YtjignlemahdoeaaDoor
open Go.ChangeShapes Go.WideShapes Go.ChangeAt Go.RowKit
set_option linter.unusedVariables false
set_option maxRecDepth 20000
mutual
def Ex.Good : Ex → Prop | .node op v _ _ l => (I64 op ∧ v.Good) ∧ l.length ≤ maxLen ∧ goodL l
def goodL : List Ex → Prop | [] => True | e :: l => e.Good ∧ goodL l
end
theorem goodL_mem : ∀ {l : List Ex}, goodL l → ∀ e ∈ l, e.Good
  | [], _, e, he => by cases he
  | a :: l, h, e, he => by
    simp only [goodL] at h
    rcases List.mem_cons.1 he with rfl | he
    · exact h.1
    · exact goodL_mem h.2 e he
theorem goodL_of : ∀ {l : List Ex}, (∀ e ∈ l, e.Good) → goodL l
  | [], _ => trivial
  | a :: l, h => by
    simp only [goodL]
    exact ⟨h a (by simp), goodL_of fun e he => h e (by simp [he])⟩
set_option maxHeartbeats 4000000 in
theorem rwide_calls : ∀ (e : Ex) (w : World), e.size ≤ 3000 → e.Good → e.At w → Calls Tryd.prog 30 #[e.v] w fun q w' => q = .returned (.bool e.wide) ∧ Below w.heap.size w w' := by
  intro e
  induction e using Ex.ind with
  | h op v A c l ih =>
    intro w hsz hgd hAt
    simp only [Ex.At] at hAt
    simp only [Ex.wide]
    obtain ⟨hcl, hal⟩ := hAt
    have hlen := sizeL_len l
    unfold Ex.v
    simp only [Ex.op, Ex.vl, Ex.adr, Ex.args, Ex.cp]
    obtain ⟨k, n, s⟩ := v
    dsimp only
    obtain ⟨ln, hln⟩ : ∃ ln, ln = l.length := ⟨_, rfl⟩
    have HLN := Lib.hid hln
    simp only [Ex.Good] at hgd
    have HGL := Lib.hid hgd.2.2
    have HALL := Lib.hid (fun e he => atL_mem hal e he)
    rw [← hln]
    have hB1 := below_one w (.cells #[.int .i64 op, .int .u8 k, .int .i64 n, .string s, .slice A ln c] 41)
    have bx := Blk.new w #[.int .i64 op, .int .u8 k, .int .i64 n, .string s, .slice A ln c] 41
    obtain ⟨w0, w1, w2, w3, w4⟩ := bx.cells5
    obtain ⟨W1, hW1⟩ : ∃ W1, W1 = w.alloc (.cells #[.int .i64 op, .int .u8 k, .int .i64 n, .string s, .slice A ln c] 41) := ⟨_, rfl⟩
    rw [← hW1] at hB1 bx
    have HB1 := Lib.hid hB1
    have HX := Lib.hid bx
    have HIH := Lib.hid (fun e he W hW => ih e he W (by have := size_arg (op := op) (v := ⟨k, n, s⟩) (A := A) (c := c) he; omega) (goodL_mem HGL.out e he) (Ex.At.below hW e (HALL.out e he)))
    have HCL := Lib.hid hcl
    have HEND := Lib.hid (show l.take l.length = l from List.take_length)
    have hl3 : ln ≤ 3000 := by
      have := hsz
      simp only [Ex.size] at this; omega
    have hs2 : s.size ≤ 140737488351232 := hgd.1.2.s1
    have HW1 := Lib.hid hW1
    clear hlen ih hal hcl hB1 bx hln hW1 hsz hgd
    by_cases h0 : op = 0
    · have e0 : (op == 0) = true := by simpa using h0
      by_cases hk : k = 0
      · have e1 : (k != 0) = false := by simpa using hk
        rw [show (decide (op = 0) && (decide (k ≠ 0) && decide (65536 < s.size))) = false by simp; omega, Bool.false_or]
        clear h0 hk
        go_enter Tryd.func30, Tryd.ntmps30
        go_wp2_with fail
        rw [← HW1.out]
        clear w0 w1 w2 w3 w4
        go_loopw [3] (RelBx wideL false l W1) (fun i _ => 3001 - (intOf i).toNat)
        case atStart => exact ⟨0, rfl, Nat.zero_le _, Lib.hid (by simp [wideL]), Below.refl _ _⟩
        case round =>
          obtain ⟨j, rfl, hj, hx, hbr⟩ := hrel
          have HBR := Lib.hid hbr
          obtain ⟨c0, c1, c2, c3, c4⟩ := (HX.out.belowAll hbr).cells5
          have HBW := Lib.hid (HB1.out.trans (hbr.mono HB1.out.size))
          have HJL := Lib.hid (show j ≤ ln by rw [HLN.out]; exact hj)
          clear hbr hj
          by_cases hlt : j < ln
          · obtain ⟨e, he⟩ : ∃ e, l[j]? = some e := ⟨l[j]'(by rw [← HLN.out]; exact hlt), by simp⟩
            obtain ⟨b, o, hA, hb, hck⟩ := arg_cells HCL.out (by rw [← HLN.out]; omega)
            subst hA
            obtain ⟨a0, a1, a2, a3, a4⟩ := hck j e he wr HBW.out
            have hmem := List.mem_of_getElem? he
            have hsn := take_snoc he
            have h1i : (j : Int) < (ln : Int) := by omega
            have HC := Lib.hid (HIH.out e hmem wr HBW.out)
            obtain ⟨y, hy⟩ : ∃ y, y = e.wide := ⟨_, rfl⟩
            rw [← hy] at HC
            have HNEW := Lib.hid (show y = wideL (l.take (j + 1)) by rw [hsn, wideL_append, hx.out]; simp only [wideL]; rw [← hy]; simp)
            have HNOT := Lib.hid (show y = true → wideL l = true from fun h => by
              have h9 := wideL_append (l.take (j + 1)) (l.drop (j + 1))
              rw [List.take_append_drop, ← HNEW.out, h] at h9
              simpa using h9)
            unfold Ex.v at HC
            generalize e.op = p0 at *
            generalize e.vl.k = p1 at *
            generalize e.vl.n = p2 at *
            generalize e.vl.s = p3 at *
            generalize e.adr = p4 at *
            generalize e.args.length = p5 at *
            generalize e.cp = p6 at *
            clear hck he hmem hsn hb hx hy
            go_wp2_with fail
            refine HC.out.mono ?_
            rintro q w2 ⟨rfl, hb2⟩
            have HB2 := Lib.hid (HBR.out.trans (hb2.mono HBR.out.size))
            have HBW2 := Lib.hid (HBW.out.trans (hb2.mono HBW.out.size))
            clear hb2
            dsimp only
            cases y with
            | false =>
              go_wp2
              go_roundw
              case rel => exact ⟨j + 1, by go_num, by rw [← HLN.out]; omega, Lib.hid HNEW.out.symm, HB2.out⟩
              case measure => simp [intOf]; omega
            | true =>
              go_wp2
              go_ret
              exact ⟨by rw [HNOT.out (by first | rfl | trivial)]; rfl, HBW2.out⟩
          · obtain rfl : j = ln := by have := HJL.out; omega
            have hd2 : decide ((j : Int) < (j : Int)) = false := by simp
            have hx2 : wideL l = false := by rw [← hx.out, HLN.out, HEND.out]
            clear hx
            go_wp2
            go_ret
            exact ⟨by rw [hx2]; rfl, HBW.out⟩
      · have e1 : (k != 0) = true := by simpa using hk
        by_cases hs : 65536 < s.size
        · rw [show (decide (op = 0) && (decide (k ≠ 0) && decide (65536 < s.size))) = true by simp; exact ⟨h0, hk, hs⟩, Bool.true_or]
          clear h0 hk
          go_enter Tryd.func30, Tryd.ntmps30
          go_wp2
          go_ret
          exact ⟨rfl, by rw [← HW1.out]; exact HB1.out⟩
        · have hsd : decide ((65536 : Int) < (s.size : Int)) = false := decide_eq_false (by omega)
          rw [show (decide (op = 0) && (decide (k ≠ 0) && decide (65536 < s.size))) = false by simp; omega, Bool.false_or]
          clear h0 hk
          go_enter Tryd.func30, Tryd.ntmps30
          go_wp2_with fail
          rw [← HW1.out]
          clear w0 w1 w2 w3 w4
          go_loopw [3] (RelBx wideL false l W1) (fun i _ => 3001 - (intOf i).toNat)
          case atStart => exact ⟨0, rfl, Nat.zero_le _, Lib.hid (by simp [wideL]), Below.refl _ _⟩
          case round =>
            obtain ⟨j, rfl, hj, hx, hbr⟩ := hrel
            have HBR := Lib.hid hbr
            obtain ⟨c0, c1, c2, c3, c4⟩ := (HX.out.belowAll hbr).cells5
            have HBW := Lib.hid (HB1.out.trans (hbr.mono HB1.out.size))
            have HJL := Lib.hid (show j ≤ ln by rw [HLN.out]; exact hj)
            clear hbr hj
            by_cases hlt : j < ln
            · obtain ⟨e, he⟩ : ∃ e, l[j]? = some e := ⟨l[j]'(by rw [← HLN.out]; exact hlt), by simp⟩
              obtain ⟨b, o, hA, hb, hck⟩ := arg_cells HCL.out (by rw [← HLN.out]; omega)
              subst hA
              obtain ⟨a0, a1, a2, a3, a4⟩ := hck j e he wr HBW.out
              have hmem := List.mem_of_getElem? he
              have hsn := take_snoc he
              have h1i : (j : Int) < (ln : Int) := by omega
              have HC := Lib.hid (HIH.out e hmem wr HBW.out)
              obtain ⟨y, hy⟩ : ∃ y, y = e.wide := ⟨_, rfl⟩
              rw [← hy] at HC
              have HNEW := Lib.hid (show y = wideL (l.take (j + 1)) by rw [hsn, wideL_append, hx.out]; simp only [wideL]; rw [← hy]; simp)
              have HNOT := Lib.hid (show y = true → wideL l = true from fun h => by
                have h9 := wideL_append (l.take (j + 1)) (l.drop (j + 1))
                rw [List.take_append_drop, ← HNEW.out, h] at h9
                simpa using h9)
              unfold Ex.v at HC
              generalize e.op = p0 at *
              generalize e.vl.k = p1 at *
              generalize e.vl.n = p2 at *
              generalize e.vl.s = p3 at *
              generalize e.adr = p4 at *
              generalize e.args.length = p5 at *
              generalize e.cp = p6 at *
              clear hck he hmem hsn hb hx hy
              go_wp2_with fail
              refine HC.out.mono ?_
              rintro q w2 ⟨rfl, hb2⟩
              have HB2 := Lib.hid (HBR.out.trans (hb2.mono HBR.out.size))
              have HBW2 := Lib.hid (HBW.out.trans (hb2.mono HBW.out.size))
              clear hb2
              dsimp only
              cases y with
              | false =>
                go_wp2
                go_roundw
                case rel => exact ⟨j + 1, by go_num, by rw [← HLN.out]; omega, Lib.hid HNEW.out.symm, HB2.out⟩
                case measure => simp [intOf]; omega
              | true =>
                go_wp2
                go_ret
                exact ⟨by rw [HNOT.out (by first | rfl | trivial)]; rfl, HBW2.out⟩
            · obtain rfl : j = ln := by have := HJL.out; omega
              have hd2 : decide ((j : Int) < (j : Int)) = false := by simp
              have hx2 : wideL l = false := by rw [← hx.out, HLN.out, HEND.out]
              clear hx
              go_wp2
              go_ret
              exact ⟨by rw [hx2]; rfl, HBW.out⟩
    · have e0 : (op == 0) = false := by simpa using h0
      rw [show (decide (op = 0) && (decide (k ≠ 0) && decide (65536 < s.size))) = false by simp; omega, Bool.false_or]
      clear h0
      go_enter Tryd.func30, Tryd.ntmps30
      go_wp2_with fail
      rw [← HW1.out]
      clear w0 w1 w2 w3 w4
      go_loopw [3] (RelBx wideL false l W1) (fun i _ => 3001 - (intOf i).toNat)
      case atStart => exact ⟨0, rfl, Nat.zero_le _, Lib.hid (by simp [wideL]), Below.refl _ _⟩
      case round =>
        obtain ⟨j, rfl, hj, hx, hbr⟩ := hrel
        have HBR := Lib.hid hbr
        obtain ⟨c0, c1, c2, c3, c4⟩ := (HX.out.belowAll hbr).cells5
        have HBW := Lib.hid (HB1.out.trans (hbr.mono HB1.out.size))
        have HJL := Lib.hid (show j ≤ ln by rw [HLN.out]; exact hj)
        clear hbr hj
        by_cases hlt : j < ln
        · obtain ⟨e, he⟩ : ∃ e, l[j]? = some e := ⟨l[j]'(by rw [← HLN.out]; exact hlt), by simp⟩
          obtain ⟨b, o, hA, hb, hck⟩ := arg_cells HCL.out (by rw [← HLN.out]; omega)
          subst hA
          obtain ⟨a0, a1, a2, a3, a4⟩ := hck j e he wr HBW.out
          have hmem := List.mem_of_getElem? he
          have hsn := take_snoc he
          have h1i : (j : Int) < (ln : Int) := by omega
          have HC := Lib.hid (HIH.out e hmem wr HBW.out)
          obtain ⟨y, hy⟩ : ∃ y, y = e.wide := ⟨_, rfl⟩
          rw [← hy] at HC
          have HNEW := Lib.hid (show y = wideL (l.take (j + 1)) by rw [hsn, wideL_append, hx.out]; simp only [wideL]; rw [← hy]; simp)
          have HNOT := Lib.hid (show y = true → wideL l = true from fun h => by
            have h9 := wideL_append (l.take (j + 1)) (l.drop (j + 1))
            rw [List.take_append_drop, ← HNEW.out, h] at h9
            simpa using h9)
          unfold Ex.v at HC
          generalize e.op = p0 at *
          generalize e.vl.k = p1 at *
          generalize e.vl.n = p2 at *
          generalize e.vl.s = p3 at *
          generalize e.adr = p4 at *
          generalize e.args.length = p5 at *
          generalize e.cp = p6 at *
          clear hck he hmem hsn hb hx hy
          go_wp2_with fail
          refine HC.out.mono ?_
          rintro q w2 ⟨rfl, hb2⟩
          have HB2 := Lib.hid (HBR.out.trans (hb2.mono HBR.out.size))
          have HBW2 := Lib.hid (HBW.out.trans (hb2.mono HBW.out.size))
          clear hb2
          dsimp only
          cases y with
          | false =>
            go_wp2
            go_roundw
            case rel => exact ⟨j + 1, by go_num, by rw [← HLN.out]; omega, Lib.hid HNEW.out.symm, HB2.out⟩
            case measure => simp [intOf]; omega
          | true =>
            go_wp2
            go_ret
            exact ⟨by rw [HNOT.out (by first | rfl | trivial)]; rfl, HBW2.out⟩
        · obtain rfl : j = ln := by have := HJL.out; omega
          have hd2 : decide ((j : Int) < (j : Int)) = false := by simp
          have hx2 : wideL l = false := by rw [← hx.out, HLN.out, HEND.out]
          clear hx
          go_wp2
          go_ret
          exact ⟨by rw [hx2]; rfl, HBW.out⟩
end Go.Proofs.YtjignlemahdoeaaDoor
namespace Go.Proofs.YtjignlemahdoeaaDoor
open Go.ChangeShapes Go.WideShapes Go.ChangeAt Go.RowKit
set_option linter.unusedVariables false
set_option maxRecDepth 20000
theorem weighL_neg : ∀ (l : List Ex) (x : Int), x < 0 → weighL l x = x
  | [], x, _ => by simp [weighL]
  | e :: l, x, h => by rw [weighL, if_pos h]
theorem weighL_append : ∀ (a b : List Ex) (x : Int), weighL (a ++ b) x = weighL b (weighL a x)
  | [], b, x => by simp [weighL]
  | e :: a, b, x => by
    rw [List.cons_append, weighL, weighL]
    by_cases h : x < 0
    · rw [if_pos h, if_pos h, weighL_neg b x h]
    · rw [if_neg h, if_neg h, weighL_append a b]
mutual
def Ex.txt : Ex → Int | .node _ v _ _ l => v.s.size + txtL l
def txtL : List Ex → Int | [] => 0 | e :: l => e.txt + txtL l
end
theorem txt_nonneg : ∀ e : Ex, 0 ≤ e.txt := by
  intro e
  induction e using Ex.ind with
  | h op v A c l ih =>
    have key : ∀ l : List Ex, (∀ e ∈ l, 0 ≤ e.txt) → 0 ≤ txtL l := by
      intro l
      induction l with
      | nil => intro _; simp [txtL]
      | cons e l ihl => intro h; have h1 := h e (by simp); have h2 := ihl fun x hx => h x (by simp [hx]); simp only [txtL]; omega
    have := key l ih
    simp only [Ex.txt]; omega
/-- The least that weigh comes to, and what is left. -/
theorem weigh_bounds : ∀ (e : Ex), e.Good → ∀ x : Int, 0 ≤ x → -140737488351233 ≤ e.weigh x ∧ e.weigh x ≤ x := by
  intro e
  induction e using Ex.ind with
  | h op v A c l ih =>
    intro hg x hx
    simp only [Ex.Good] at hg
    have hs : v.s.size ≤ 140737488351232 := hg.1.2.s1
    have key : ∀ l : List Ex, (∀ e ∈ l, ∀ x : Int, 0 ≤ x → -140737488351233 ≤ e.weigh x ∧ e.weigh x ≤ x) → ∀ x : Int, -140737488351233 ≤ x → -140737488351233 ≤ weighL l x ∧ weighL l x ≤ x := by
      intro l
      induction l with
      | nil => intro _ x hx; simp only [weighL]; omega
      | cons e l ihl =>
        intro h x hx
        rw [weighL]
        split
        · omega
        · rename_i hn
          have h1 := h e (by simp) x (by omega)
          have h2 := ihl (fun y hy => h y (by simp [hy])) (e.weigh x) h1.1
          omega
    have h1 := key l (fun e he => ih e he (goodL_mem hg.2.2 e he)) (x - 1 - v.s.size) (by omega)
    simp only [Ex.weigh]; omega
theorem weigh_eq : ∀ (e : Ex) (x : Int), 0 ≤ e.weigh x → e.weigh x = x - e.size - e.txt := by
  intro e
  induction e using Ex.ind with
  | h op v A c l ih =>
    intro x hx
    have key : ∀ l : List Ex, (∀ e ∈ l, ∀ x : Int, 0 ≤ e.weigh x → e.weigh x = x - e.size - e.txt) → ∀ x : Int, 0 ≤ weighL l x → weighL l x = x - sizeL l - txtL l := by
      intro l
      induction l with
      | nil => intro _ x hx; simp [weighL, sizeL, txtL]
      | cons e l ihl =>
        intro h x hx
        rw [weighL] at hx ⊢
        split at hx
        · omega
        · rename_i hn
          rw [if_neg hn]
          have h2 := ihl (fun y hy => h y (by simp [hy])) (e.weigh x) hx
          have h3 : 0 ≤ e.weigh x := by
            rcases Int.lt_or_le (e.weigh x) 0 with h9 | h9
            · rw [weighL_neg l _ h9] at hx; omega
            · exact h9
          have h1 := h e (by simp) x h3
          simp only [sizeL, txtL]; omega
    simp only [Ex.weigh] at hx ⊢
    have := key l ih _ hx
    simp only [Ex.size, Ex.txt]; omega
theorem not_big {e : Ex} (h : ¬ e.weigh 3000 < 0) : e.size + e.txt ≤ 3000 := by
  have h1 := weigh_eq e 3000 (by omega)
  omega
def RelW (l : List Ex) (S : Int) (w1 : World) (n i : Value) (wr : World) : Prop := ∃ (k : Nat) (x : Int), n = .int .i64 x ∧ i = .int .i64 k ∧ k ≤ l.length ∧ Hid (x = weighL (l.take k) S) ∧ -140737488351233 ≤ x ∧ x ≤ 3000 ∧ Below w1.heap.size w1 wr
set_option maxHeartbeats 4000000 in
theorem rweigh_calls : ∀ (e : Ex) (w : World) (left : Int), 0 ≤ left → left ≤ 3000 → e.Good → e.At w → Calls Tryd.prog 27 #[e.v, .int .i64 left] w fun q w' => q = .returned (.int .i64 (e.weigh left)) ∧ Below w.heap.size w w' := by
  intro e
  induction e using Ex.ind with
  | h op v A c l ih =>
    intro w left hl0 hl9 hgd hAt
    simp only [Ex.At] at hAt
    simp only [Ex.weigh]
    obtain ⟨hcl, hal⟩ := hAt
    have hlen := sizeL_len l
    unfold Ex.v
    simp only [Ex.op, Ex.vl, Ex.adr, Ex.args, Ex.cp]
    obtain ⟨k, n, s⟩ := v
    dsimp only
    obtain ⟨ln, hln⟩ : ∃ ln, ln = l.length := ⟨_, rfl⟩
    have HLN := Lib.hid hln
    simp only [Ex.Good] at hgd
    have HGL := Lib.hid hgd.2.2
    have HALL := Lib.hid (fun e he => atL_mem hal e he)
    rw [← hln]
    have hB1 := below_one w (.cells #[.int .i64 op, .int .u8 k, .int .i64 n, .string s, .slice A ln c] 41)
    have bx := Blk.new w #[.int .i64 op, .int .u8 k, .int .i64 n, .string s, .slice A ln c] 41
    obtain ⟨w0, w1, w2, w3, w4⟩ := bx.cells5
    obtain ⟨W1, hW1⟩ : ∃ W1, W1 = w.alloc (.cells #[.int .i64 op, .int .u8 k, .int .i64 n, .string s, .slice A ln c] 41) := ⟨_, rfl⟩
    rw [← hW1] at hB1 bx
    have HB1 := Lib.hid hB1
    have HX := Lib.hid bx
    have HIH := Lib.hid (fun e he W hW (x : Int) hx0 hx1 => ih e he W x hx0 hx1 (goodL_mem HGL.out e he) (Ex.At.below hW e (HALL.out e he)))
    have HCL := Lib.hid hcl
    have HEND := Lib.hid (show l.take l.length = l from List.take_length)
    have hm : ln ≤ 9223372036854775807 := by have := hgd.2.1; unfold maxLen at this; omega
    have hs2 : s.size ≤ 140737488351232 := hgd.1.2.s1
    have HWB := Lib.hid (fun e he => weigh_bounds e (goodL_mem HGL.out e he))
    obtain ⟨S, hS⟩ : ∃ S : Int, S = left - 1 - s.size := ⟨_, rfl⟩
    rw [← hS]
    have HS := Lib.hid hS
    have hS0 : -140737488351233 ≤ S := by omega
    have hS1 : S ≤ 3000 := by omega
    have HW1 := Lib.hid hW1
    clear hlen ih hal hcl hB1 bx hln hW1 hgd hS
    go_enter Tryd.func27, Tryd.ntmps27
    go_wp2_with fail
    rw [← HW1.out]

    clear w0 w1 w2 w3 w4
    go_loopw [1, 5] (RelW l S W1) (fun _ i _ => ln + 1 - (intOf i).toNat)
    case atStart => exact ⟨0, S, by rw [HS.out], rfl, Nat.zero_le _, Lib.hid (by simp [weighL]), hS0, hS1, Below.refl _ _⟩
    case round =>
      obtain ⟨j, x, rfl, rfl, hj, hx, hx0, hx1, hbr⟩ := hrel
      have HBR := Lib.hid hbr
      obtain ⟨c0, c1, c2, c3, c4⟩ := (HX.out.belowAll hbr).cells5
      have HBW := Lib.hid (HB1.out.trans (hbr.mono HB1.out.size))
      have HJL := Lib.hid (show j ≤ ln by rw [HLN.out]; exact hj)
      clear hbr hj
      by_cases hlt : j < ln
      · by_cases hneg : x < 0
        · have h1i : (j : Int) < (ln : Int) := by omega
          have d1 : decide (0 ≤ x) = false := decide_eq_false (by omega)
          have hfin : weighL l S = x := by
            have h9 := weighL_append (l.take j) (l.drop j) S
            rw [List.take_append_drop, ← hx.out, weighL_neg _ x hneg] at h9
            exact h9
          clear hx
          go_wp2
          go_ret
          exact ⟨by rw [hfin]; rfl, HBW.out⟩
        · have d1 : decide (0 ≤ x) = true := decide_eq_true (by omega)
          obtain ⟨e, he⟩ : ∃ e, l[j]? = some e := ⟨l[j]'(by rw [← HLN.out]; exact hlt), by simp⟩
          obtain ⟨b, o, hA, hb, hck⟩ := arg_cells HCL.out (by rw [← HLN.out]; omega)
          subst hA
          obtain ⟨a0, a1, a2, a3, a4⟩ := hck j e he wr HBW.out
          have hmem := List.mem_of_getElem? he
          have hsn := take_snoc he
          have h1i : (j : Int) < (ln : Int) := by omega
          have HC := Lib.hid (HIH.out e hmem wr HBW.out x (by omega) hx1)
          obtain ⟨y, hy⟩ : ∃ y, y = e.weigh x := ⟨_, rfl⟩
          have hyb := HWB.out e hmem x (by omega)
          rw [← hy] at HC hyb
          have HNEW := Lib.hid (show y = weighL (l.take (j + 1)) S by rw [hsn, weighL_append, ← hx.out]; simp only [weighL]; rw [if_neg hneg, hy])
          obtain ⟨hy0, hy1⟩ := hyb
          unfold Ex.v at HC
          generalize e.op = p0 at *
          generalize e.vl.k = p1 at *
          generalize e.vl.n = p2 at *
          generalize e.vl.s = p3 at *
          generalize e.adr = p4 at *
          generalize e.args.length = p5 at *
          generalize e.cp = p6 at *
          clear hck he hmem hsn hb hx hy
          go_wp2_with fail
          refine HC.out.mono ?_
          rintro q w2 ⟨rfl, hb2⟩
          have HB2 := Lib.hid (HBR.out.trans (hb2.mono HBR.out.size))
          have HBW2 := Lib.hid (HBW.out.trans (hb2.mono HBW.out.size))
          clear hb2
          dsimp only
          go_wp2
          go_roundw
          case rel => exact ⟨j + 1, y, by rfl, by go_num, by rw [← HLN.out]; omega, Lib.hid HNEW.out, hy0, by omega, HB2.out⟩
          case measure => simp [intOf]; omega
      · obtain rfl : j = ln := by have := HJL.out; omega
        have hd2 : decide ((j : Int) < (j : Int)) = false := by simp
        have hx2 : weighL l S = x := by rw [hx.out, HLN.out, HEND.out]
        clear hx
        go_wp2
        go_ret
        exact ⟨by rw [hx2]; rfl, HBW.out⟩
theorem rbig_calls (e : Ex) (w : World) (hg : e.Good) (hA : e.At w) : Calls Tryd.prog 13 #[e.v] w fun q w' => q = .returned (.bool (decide (e.weigh 3000 < 0))) ∧ Below w.heap.size w w' := by
  have hb := weigh_bounds e hg 3000 (by omega)
  have hB1 := below_one w (.cells #[.int .i64 e.op, .int .u8 e.vl.k, .int .i64 e.vl.n, .string e.vl.s, .slice e.adr e.args.length e.cp] 41)
  have bx := Blk.new w #[.int .i64 e.op, .int .u8 e.vl.k, .int .i64 e.vl.n, .string e.vl.s, .slice e.adr e.args.length e.cp] 41
  obtain ⟨x0, x1, x2, x3, x4⟩ := bx.cells5
  have HC := Lib.hid (rweigh_calls e (w.alloc (.cells #[.int .i64 e.op, .int .u8 e.vl.k, .int .i64 e.vl.n, .string e.vl.s, .slice e.adr e.args.length e.cp] 41)) 3000 (by omega) (by omega) hg (hA.below hB1))
  have HB1 := Lib.hid hB1
  unfold Ex.v at HC ⊢
  generalize e.weigh 3000 = y at *
  generalize e.op = p0 at *
  generalize e.vl.k = p1 at *
  generalize e.vl.n = p2 at *
  generalize e.vl.s = p3 at *
  generalize e.adr = p4 at *
  generalize e.args.length = p5 at *
  generalize e.cp = p6 at *
  clear hg hA hB1 bx
  go_enter Tryd.func13, Tryd.ntmps13
  go_wp2_with fail
  refine HC.out.mono ?_
  rintro q w2 ⟨rfl, hb2⟩
  have HB2 := Lib.hid (HB1.out.trans (hb2.mono HB1.out.size))
  clear hb2
  dsimp only
  go_wp2
  go_ret
  exact ⟨rfl, HB2.out⟩
end Go.Proofs.YtjignlemahdoeaaDoor
namespace Go.Proofs.YtjignlemahdoeaaDoor
open Go.ChangeShapes Go.WideShapes Go.ChangeAt Go.RowKit
set_option linter.unusedVariables false
set_option maxRecDepth 20000
theorem sl_get (a : ByteArray) (k : Nat) (h : k < a.size) : (sl a)[k]? = some ((a[k].toNat : Nat) : Int) := by
  have : k < a.data.toList.length := by simpa using h
  simp only [sl, List.getElem?_map, List.getElem?_eq_getElem this]
  rfl
def hexs : ByteArray := ⟨#[48, 49, 50, 51, 52, 53, 54, 55, 56, 57, 97, 98, 99, 100, 101, 102]⟩
theorem hexc0 (w : World) : (Instr.slice 9 (.string ⟨#[48, 49, 50, 51, 52, 53, 54, 55, 56, 57, 97, 98, 99, 100, 101, 102]⟩) (some (.int .i64 0)) (some (.int .i64 1)) none).run Tryd.prog w = .ok (.string (str [48])) w := by kernel_rfl
theorem hexc1 (w : World) : (Instr.slice 9 (.string ⟨#[48, 49, 50, 51, 52, 53, 54, 55, 56, 57, 97, 98, 99, 100, 101, 102]⟩) (some (.int .i64 1)) (some (.int .i64 2)) none).run Tryd.prog w = .ok (.string (str [49])) w := by kernel_rfl
theorem hexc2 (w : World) : (Instr.slice 9 (.string ⟨#[48, 49, 50, 51, 52, 53, 54, 55, 56, 57, 97, 98, 99, 100, 101, 102]⟩) (some (.int .i64 2)) (some (.int .i64 3)) none).run Tryd.prog w = .ok (.string (str [50])) w := by kernel_rfl
theorem hexc3 (w : World) : (Instr.slice 9 (.string ⟨#[48, 49, 50, 51, 52, 53, 54, 55, 56, 57, 97, 98, 99, 100, 101, 102]⟩) (some (.int .i64 3)) (some (.int .i64 4)) none).run Tryd.prog w = .ok (.string (str [51])) w := by kernel_rfl
theorem hexc4 (w : World) : (Instr.slice 9 (.string ⟨#[48, 49, 50, 51, 52, 53, 54, 55, 56, 57, 97, 98, 99, 100, 101, 102]⟩) (some (.int .i64 4)) (some (.int .i64 5)) none).run Tryd.prog w = .ok (.string (str [52])) w := by kernel_rfl
theorem hexc5 (w : World) : (Instr.slice 9 (.string ⟨#[48, 49, 50, 51, 52, 53, 54, 55, 56, 57, 97, 98, 99, 100, 101, 102]⟩) (some (.int .i64 5)) (some (.int .i64 6)) none).run Tryd.prog w = .ok (.string (str [53])) w := by kernel_rfl
theorem hexc6 (w : World) : (Instr.slice 9 (.string ⟨#[48, 49, 50, 51, 52, 53, 54, 55, 56, 57, 97, 98, 99, 100, 101, 102]⟩) (some (.int .i64 6)) (some (.int .i64 7)) none).run Tryd.prog w = .ok (.string (str [54])) w := by kernel_rfl
theorem hexc7 (w : World) : (Instr.slice 9 (.string ⟨#[48, 49, 50, 51, 52, 53, 54, 55, 56, 57, 97, 98, 99, 100, 101, 102]⟩) (some (.int .i64 7)) (some (.int .i64 8)) none).run Tryd.prog w = .ok (.string (str [55])) w := by kernel_rfl
theorem hexc8 (w : World) : (Instr.slice 9 (.string ⟨#[48, 49, 50, 51, 52, 53, 54, 55, 56, 57, 97, 98, 99, 100, 101, 102]⟩) (some (.int .i64 8)) (some (.int .i64 9)) none).run Tryd.prog w = .ok (.string (str [56])) w := by kernel_rfl
theorem hexc9 (w : World) : (Instr.slice 9 (.string ⟨#[48, 49, 50, 51, 52, 53, 54, 55, 56, 57, 97, 98, 99, 100, 101, 102]⟩) (some (.int .i64 9)) (some (.int .i64 10)) none).run Tryd.prog w = .ok (.string (str [57])) w := by kernel_rfl
theorem hexc10 (w : World) : (Instr.slice 9 (.string ⟨#[48, 49, 50, 51, 52, 53, 54, 55, 56, 57, 97, 98, 99, 100, 101, 102]⟩) (some (.int .i64 10)) (some (.int .i64 11)) none).run Tryd.prog w = .ok (.string (str [97])) w := by kernel_rfl
theorem hexc11 (w : World) : (Instr.slice 9 (.string ⟨#[48, 49, 50, 51, 52, 53, 54, 55, 56, 57, 97, 98, 99, 100, 101, 102]⟩) (some (.int .i64 11)) (some (.int .i64 12)) none).run Tryd.prog w = .ok (.string (str [98])) w := by kernel_rfl
theorem hexc12 (w : World) : (Instr.slice 9 (.string ⟨#[48, 49, 50, 51, 52, 53, 54, 55, 56, 57, 97, 98, 99, 100, 101, 102]⟩) (some (.int .i64 12)) (some (.int .i64 13)) none).run Tryd.prog w = .ok (.string (str [99])) w := by kernel_rfl
theorem hexc13 (w : World) : (Instr.slice 9 (.string ⟨#[48, 49, 50, 51, 52, 53, 54, 55, 56, 57, 97, 98, 99, 100, 101, 102]⟩) (some (.int .i64 13)) (some (.int .i64 14)) none).run Tryd.prog w = .ok (.string (str [100])) w := by kernel_rfl
theorem hexc14 (w : World) : (Instr.slice 9 (.string ⟨#[48, 49, 50, 51, 52, 53, 54, 55, 56, 57, 97, 98, 99, 100, 101, 102]⟩) (some (.int .i64 14)) (some (.int .i64 15)) none).run Tryd.prog w = .ok (.string (str [101])) w := by kernel_rfl
theorem hexc15 (w : World) : (Instr.slice 9 (.string ⟨#[48, 49, 50, 51, 52, 53, 54, 55, 56, 57, 97, 98, 99, 100, 101, 102]⟩) (some (.int .i64 15)) (some (.int .i64 16)) none).run Tryd.prog w = .ok (.string (str [102])) w := by kernel_rfl
theorem hex_cut (d : Int) (h0 : 0 ≤ d) (h1 : d < 16) (w : World) : (Instr.slice 9 (.string ⟨#[48, 49, 50, 51, 52, 53, 54, 55, 56, 57, 97, 98, 99, 100, 101, 102]⟩) (some (.int .i64 d)) (some (.int .i64 (d + 1))) none).run Tryd.prog w = .ok (.string (str [hexd d])) w := by
  have h : d = 0 ∨ d = 1 ∨ d = 2 ∨ d = 3 ∨ d = 4 ∨ d = 5 ∨ d = 6 ∨ d = 7 ∨ d = 8 ∨ d = 9 ∨ d = 10 ∨ d = 11 ∨ d = 12 ∨ d = 13 ∨ d = 14 ∨ d = 15 := by omega
  rcases h with rfl | rfl | rfl | rfl | rfl | rfl | rfl | rfl | rfl | rfl | rfl | rfl | rfl | rfl | rfl | rfl
  · exact hexc0 w
  · exact hexc1 w
  · exact hexc2 w
  · exact hexc3 w
  · exact hexc4 w
  · exact hexc5 w
  · exact hexc6 w
  · exact hexc7 w
  · exact hexc8 w
  · exact hexc9 w
  · exact hexc10 w
  · exact hexc11 w
  · exact hexc12 w
  · exact hexc13 w
  · exact hexc14 w
  · exact hexc15 w
/-- One byte of a string. -/
theorem cut_one (s : ByteArray) (k : Nat) (h : k < s.size) (w : World) : (Instr.slice 9 (.string s) (some (.int .i64 (k : Int))) (some (.int .i64 ((k : Int) + 1))) none).run Tryd.prog w = .ok (.string (str [((s[k].toNat : Nat) : Int)])) w := by
  rw [run_slice_string w 9 s .i64 .i64 (k : Int) ((k : Int) + 1) Tryd.underlying9 (by omega) (by omega) (by omega)]
  congr 2
  apply ByteArray.ext
  apply Array.toList_inj.1
  rw [str_data, ByteArray.data_extract, Array.toList_extract]
  have e1 : ((k : Int) + 1).toNat = k + 1 := by omega
  have e2 : (k : Int).toNat = k := by omega
  rw [e1, e2]
  have e3 : s.data.toList[k]? = some s[k] := by
    have : k < s.data.toList.length := by simpa using h
    rw [List.getElem?_eq_getElem this]; rfl
  simp only [List.extract, show k + 1 - k = 1 by omega, List.map_cons, List.map_nil]
  have e4 : s.data.toList.drop k = s[k] :: s.data.toList.drop (k + 1) := by
    have : k < s.data.toList.length := by simpa using h
    rw [List.drop_eq_getElem_cons this]; rfl
  rw [e4]
  simp
/-- The loop: what is written so far. -/
def RelQ (s : ByteArray) (w : World) (t i : Value) (wr : World) : Prop := ∃ (k : Nat) (L : List Int), t = .string (str L) ∧ i = .int .i64 k ∧ k ≤ s.size ∧ Hid (L = 34 :: ((sl s).take k).flatMap qch) ∧ L.length ≤ 1 + 4 * k ∧ ∃ p, wr = w.drewN p
theorem qch_len (c : Int) : (qch c).length ≤ 4 := by unfold qch; split <;> (try split) <;> simp
theorem relQ_next {s : ByteArray} {k : Nat} {L : List Int} (h : k < s.size) (hL : L = 34 :: ((sl s).take k).flatMap qch) : L ++ qch ((s[k].toNat : Nat) : Int) = 34 :: ((sl s).take (k + 1)).flatMap qch := by
  rw [List.take_add_one, sl_get s k h, hL]
  simp
set_option maxHeartbeats 4000000 in
theorem rquote_calls (s : ByteArray) (hs : s.size ≤ 1000000) (w : World) : Calls Tryd.prog 32 #[.string s] w fun q w' => q = .returned (.string (str (quote (sl s)))) ∧ ∃ p, w' = w.drewN p := by
  go_enter Tryd.func32, Tryd.ntmps32
  go_wp2
  go_loopw [3, 4] (RelQ s w) (fun _ i _ => s.size - (intOf i).toNat)
  case atStart => exact ⟨0, [34], rfl, rfl, Nat.zero_le _, Lib.hid (by simp), by simp, 0, rfl⟩
  case round =>
    obtain ⟨j, L, rfl, rfl, hj, hL, hlen, p, rfl⟩ := hrel
    by_cases hlt : j < s.size
    · have h1i : (j : Int) < (s.size : Int) := by omega
      have HNX := Lib.hid (relQ_next hlt hL.out)
      have hq4 := qch_len ((s[j].toNat : Nat) : Int)
      have hcut := cut_one s j hlt
      have hb255 : (s[j].toNat : Int) ≤ 255 := by have := s[j].toNat_lt; omega
      obtain ⟨c, hc⟩ : ∃ c : Int, c = ((s[j].toNat : Nat) : Int) := ⟨_, rfl⟩
      have hwc : wrap64 ((s[j].toNat : Nat) : Int) = c := by rw [hc]; unfold wrap64; omega
      have hc0 : 0 ≤ c := by omega
      have hc1 : c ≤ 255 := by omega
      rw [← hc] at HNX hcut hq4
      have hsz : (str L).size = L.length := str_size L
      have hz0 : (str L).size ≤ 4000001 := by rw [hsz]; omega
      by_cases hbad : c < 32 ∨ 126 < c
      · have hqc : qch c = [92, 120] ++ ([hexd (c / 16)] ++ [hexd (c % 16)]) := by unfold qch; rw [if_pos hbad]; rfl
        rw [hqc] at HNX hq4
        obtain ⟨d, hd⟩ : ∃ d, d = c / 16 := ⟨_, rfl⟩
        obtain ⟨m, hm⟩ : ∃ m, m = c % 16 := ⟨_, rfl⟩
        have ht1 : c.tdiv 16 = d := by rw [hd]; exact Int.tdiv_eq_ediv_of_nonneg hc0
        have ht2 : c.tmod 16 = m := by rw [hm]; exact Int.tmod_eq_emod_of_nonneg hc0
        have hd0 : 0 ≤ d ∧ d < 16 := by omega
        have hm0 : 0 ≤ m ∧ m < 16 := by omega
        rw [← hd, ← hm] at HNX
        have k1 := hex_cut d hd0.1 hd0.2
        have k2 := hex_cut m hm0.1 hm0.2
        obtain ⟨hd1, hd2⟩ := hd0
        obtain ⟨hm1, hm2⟩ := hm0
        have z1 : (str [hexd d]).size = 1 := str_size _
        have z2 : (str [hexd m]).size = 1 := str_size _
        have HX := Lib.hid (show str L ++ (⟨#[92, 120]⟩ : ByteArray) ++ str [hexd d] ++ str [hexd m] = str (L ++ ([92, 120] ++ ([hexd d] ++ [hexd m]))) by
          rw [show (⟨#[92, 120]⟩ : ByteArray) = str [92, 120] from rfl, str_append, str_append, str_append]; simp)
        clear hL hc hd hm hqc hq4 hsz hcut
        have hwd : wrap64 (d + 1) = d + 1 := by unfold wrap64; omega
        have hwm : wrap64 (m + 1) = m + 1 := by unfold wrap64; omega
        clear hb255
        by_cases h32 : c < 32
        · have d1 : decide (c < 32) = true := decide_eq_true h32
          clear hbad
          go_wp2_with fail
          go_quiet (fail)
          go_wp2
          go_roundw
          case rel => exact ⟨j + 1, L ++ ([92, 120] ++ ([hexd d] ++ [hexd m])), by rw [← HX.out], by go_num, by omega, Lib.hid HNX.out, by simp; omega, _, rfl⟩
          case measure => simp [intOf]; omega
        · have d1 : decide (c < 32) = false := decide_eq_false h32
          have d2 : decide (126 < c) = true := decide_eq_true (by omega)
          clear hbad
          go_wp2_with fail
          go_quiet (fail)
          go_wp2
          go_roundw
          case rel => exact ⟨j + 1, L ++ ([92, 120] ++ ([hexd d] ++ [hexd m])), by rw [← HX.out], by go_num, by omega, Lib.hid HNX.out, by simp; omega, _, rfl⟩
          case measure => simp [intOf]; omega
      · have d1 : decide (c < 32) = false := decide_eq_false (by omega)
        have d2 : decide (126 < c) = false := decide_eq_false (by omega)
        have zc : (str [c]).size = 1 := str_size _
        clear hb255 hc hsz
        by_cases h34 : c = 34
        · have hqc : qch c = [92] ++ [c] := by unfold qch; rw [if_neg hbad, if_pos (.inl h34)]; rfl
          rw [hqc] at HNX
          have HX := Lib.hid (show str L ++ (⟨#[92]⟩ : ByteArray) ++ str [c] = str (L ++ ([92] ++ [c])) by
            rw [show (⟨#[92]⟩ : ByteArray) = str [92] from rfl, str_append, str_append]; simp)
          have e1 : (c == 34) = true := by simpa using h34
          clear hL hqc hq4 hbad h34
          go_wp2
          go_roundw
          case rel => exact ⟨j + 1, L ++ ([92] ++ [c]), by rw [← HX.out], by go_num, by omega, Lib.hid HNX.out, by simp; omega, _, rfl⟩
          case measure => simp [intOf]; omega
        · have e1 : (c == 34) = false := by simpa using h34
          by_cases h92 : c = 92
          · have hqc : qch c = [92] ++ [c] := by unfold qch; rw [if_neg hbad, if_pos (.inr h92)]; rfl
            rw [hqc] at HNX
            have HX := Lib.hid (show str L ++ (⟨#[92]⟩ : ByteArray) ++ str [c] = str (L ++ ([92] ++ [c])) by
              rw [show (⟨#[92]⟩ : ByteArray) = str [92] from rfl, str_append, str_append]; simp)
            have e2 : (c == 92) = true := by simpa using h92
            clear hL hqc hq4 hbad h34 h92
            go_wp2
            go_roundw
            case rel => exact ⟨j + 1, L ++ ([92] ++ [c]), by rw [← HX.out], by go_num, by omega, Lib.hid HNX.out, by simp; omega, _, rfl⟩
            case measure => simp [intOf]; omega
          · have hqc : qch c = [c] := by unfold qch; rw [if_neg hbad, if_neg (by omega)]
            rw [hqc] at HNX
            have HX := Lib.hid (show str L ++ str [c] = str (L ++ [c]) by rw [str_append])
            have e2 : (c == 92) = false := by simpa using h92
            clear hL hqc hq4 hbad h34 h92
            go_wp2
            go_roundw
            case rel => exact ⟨j + 1, L ++ [c], by rw [← HX.out], by go_num, by omega, Lib.hid HNX.out, by simp; omega, _, rfl⟩
            case measure => simp [intOf]; omega
    · have hd2 : decide ((j : Int) < (s.size : Int)) = false := decide_eq_false (by omega)
      have hz0 : (str L).size ≤ 4000001 := by rw [str_size]; omega
      have HE := Lib.hid (show str L ++ (⟨#[34]⟩ : ByteArray) = str (quote (sl s)) by
        rw [show (⟨#[34]⟩ : ByteArray) = str [34] from rfl, str_append, hL.out, List.take_of_length_le (by rw [sl_length]; omega)]
        unfold quote
        simp)
      clear hL
      go_wp2
      go_ret
      exact ⟨by rw [← HE.out]; rfl, _, rfl⟩
end Go.Proofs.YtjignlemahdoeaaDoor
