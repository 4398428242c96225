/-
  The document's errors (gristmillref05): what it means that one lies in memory; contracts of fresh, both, Do. No conditions.
-/
import Derived.Test.YtgpaedknonkioaaDoorET
import Derived.Test.YtgpaedknonkioaaDoorEB2
import Derived.Test.YtgpaedknonkioaaDoorEJ
namespace Go.Proofs.YtgpaedknonkioaaDoor
open Go.ChangeShapes Go.WideShapes Go.ChangeAt Go.RowKit
set_option linter.unusedVariables false

/-- The five cells of an error of the document. -/
def IsR (w : World) : Er → List Value → Prop
  | .num n, v => v = [.int .i64 1, .int .i64 n, .string ⟨#[]⟩, .int .i64 0, .slice none 0 0]
  | .stage s no t, v => ∃ q c, v = [.int .i64 2, .int .i64 0, .string s, .int .i64 no, .slice (some ⟨q, 0, none⟩) 1 c] ∧ ∃ u, IsR w t u ∧ ∀ j x, u[j]? = some x → w.cell? ⟨q, j, none⟩ = some x
  | .two a b, v => ∃ q c, v = [.int .i64 3, .int .i64 0, .string ⟨#[]⟩, .int .i64 0, .slice (some ⟨q, 0, none⟩) 2 c] ∧ ∃ u u', IsR w a u ∧ IsR w b u' ∧ (∀ j x, u[j]? = some x → w.cell? ⟨q, j, none⟩ = some x) ∧ ∀ j x, u'[j]? = some x → w.cell? ⟨q, 5 + j, none⟩ = some x
theorem IsR.below {w w' : World} (hb : Below w.heap.size w w') : ∀ {t : Er} {v : List Value}, IsR w t v → IsR w' t v
  | .num n, v, h => h
  | .stage s no t, v, ⟨q, c, h1, u, h2, h3⟩ => ⟨q, c, h1, u, IsR.below hb h2, fun j x hx => (hb.cell (block_lt_of_cell (h3 j x hx))).trans (h3 j x hx)⟩
  | .two a b, v, ⟨q, c, h1, u, u', h2, h2', h3, h4⟩ => ⟨q, c, h1, u, u', IsR.below hb h2, IsR.below hb h2', fun j x hx => (hb.cell (block_lt_of_cell (h3 j x hx))).trans (h3 j x hx), fun j x hx => (hb.cell (block_lt_of_cell (h4 j x hx))).trans (h4 j x hx)⟩
def Er.kind : Er → Int
  | .num _ => 1
  | .stage _ _ _ => 2
  | .two _ _ => 3
theorem IsR.form {w : World} : ∀ {t : Er} {v : List Value}, IsR w t v → ∃ n s no A l c, v = [.int .i64 t.kind, .int .i64 n, .string s, .int .i64 no, .slice A l c]
  | .num n, v, h => ⟨_, _, _, _, _, _, h⟩
  | .stage s no t, v, ⟨q, c, h, _⟩ => ⟨_, _, _, _, _, _, h⟩
  | .two a b, v, ⟨q, c, h, _⟩ => ⟨_, _, _, _, _, _, h⟩
/-- .. or none. -/
def IsRO (w : World) : Option Er → List Value → Prop
  | none, v => v = [.int .i64 0, .int .i64 0, .string ⟨#[]⟩, .int .i64 0, .slice none 0 0]
  | some t, v => IsR w t v
theorem IsRO.below {w w' : World} (hb : Below w.heap.size w w') : ∀ {t : Option Er} {v : List Value}, IsRO w t v → IsRO w' t v
  | none, v, h => h
  | some t, v, h => IsR.below hb (t := t) h
def kindO : Option Er → Int
  | none => 0
  | some t => t.kind
theorem IsRO.form {w : World} : ∀ {t : Option Er} {v : List Value}, IsRO w t v → ∃ n s no A l c, v = [.int .i64 (kindO t), .int .i64 n, .string s, .int .i64 no, .slice A l c]
  | none, v, h => ⟨_, _, _, _, _, _, h⟩
  | some t, v, h => IsR.form (t := t) h

/-- What a function of the document hands back: an error. -/
def RefOf (w : World) (t : Option Er) (e : Ending) (w' : World) : Prop := ∃ v : List Value, e = .returned (.agg v.toArray) ∧ IsRO w' t v ∧ Below w.heap.size w w'

theorem lv29 {W : World} {g : Nat} {a b c d f : Value} (h : Blk W g #[a, b, c, d, f] 29) : (loadVar 29 ⟨g, 0, none⟩).run Tryd.prog W = .ok (.agg #[a, b, c, d, f]) W := by
  have hl := run_loadCells_list (P := Tryd.prog) W ⟨g, 0, none⟩ [a, b, c, d, f] (fun j u hu => by
    have e1 : (⟨g, 0, none⟩ : Addr).add j = ⟨g, j, none⟩ := by
      unfold Addr.add
      split
      · rename_i hz; rw [hz]
      · simp
    rw [e1, h.cell j, ← Array.getElem?_toList]
    exact hu)
  simp at hl
  simp [loadVar, isAgg, underlying, Tryd.underlying29, hl]
theorem results_cell1 {fn : Func} {p : Tmp} {ty : TypeId} (h : fn.results = #[.cell p ty]) (tmps : Array Value) (P : Program) (w : World) (a1 : Addr) (x : Value)
    (hp : tmps.getD p undef = .pointer (some a1)) (l1 : (loadVar ty a1).run P w = .ok x w) :
    (results fn tmps).run P w = .ok x w := by
  rw [Array.getD_eq_getD_getElem?] at hp
  simp only [results, h]
  simp [hp, asAddr, l1]

def freshO (n : Int) : Option Er := if n = 0 then none else some (.num n)
theorem fresh_calls (n : Int) (w : World) : Calls Tryd.prog 39 #[.int .i64 n] w (RefOf w (freshO n)) := by
  by_cases hn : n = 0
  · subst hn
    go_enter Tryd.func39, Tryd.ntmps39
    go_wp2
    refine bodyPost_ret (results_cell1 rfl _ _ _ _ _ rfl (lv29 (Blk.new w _ 29))) rfl ⟨[.int .i64 0, .int .i64 0, .string ⟨#[]⟩, .int .i64 0, .slice none 0 0], rfl, rfl, (Below.refl _ _).alloc (Nat.le_refl _) _⟩
  · have hf : freshO n = some (.num n) := by simp [freshO, hn]
    rw [hf]
    have hn' : (n == 0) = false := by simpa using hn
    clear hn hf
    go_enter Tryd.func39, Tryd.ntmps39
    go_wp2
    refine bodyPost_ret (results_cell1 rfl _ _ _ _ _ rfl (lv29 (Blk.new w _ 29))) rfl ⟨[.int .i64 1, .int .i64 n, .string ⟨#[]⟩, .int .i64 0, .slice none 0 0], rfl, rfl, (Below.refl _ _).alloc (Nat.le_refl _) _⟩

def bothO : Option Er → Option Er → Option Er
  | none, b => b
  | a, none => a
  | some a, some b => some (.two a b)

theorem both_first (k1 n1 m1 k2 n2 m2 : Int) (s1 s2 : ByteArray) (A1 A2 : Option Addr) (l1 c1 l2 c2 : Nat) (w : World) (h1 : k1 = 0) :
    Calls Tryd.prog 40 #[.agg #[.int .i64 k1, .int .i64 n1, .string s1, .int .i64 m1, .slice A1 l1 c1], .agg #[.int .i64 k2, .int .i64 n2, .string s2, .int .i64 m2, .slice A2 l2 c2]] w fun e w' => e = .returned (.agg #[.int .i64 k2, .int .i64 n2, .string s2, .int .i64 m2, .slice A2 l2 c2]) ∧ Below w.heap.size w w' := by
  subst h1
  go_enter Tryd.func40, Tryd.ntmps40
  go_wp2
  refine bodyPost_ret (results_cell1 rfl _ _ _ _ _ rfl (lv29 (Blk.newAt _ _ _ (by simp)))) rfl ⟨rfl, (((Below.refl _ _).alloc (Nat.le_refl _) _).alloc (by simp) _).alloc (by simp; omega) _⟩
theorem both_second (k1 n1 m1 k2 n2 m2 : Int) (s1 s2 : ByteArray) (A1 A2 : Option Addr) (l1 c1 l2 c2 : Nat) (w : World) (h1 : (k1 == 0) = false) (h2 : k2 = 0) :
    Calls Tryd.prog 40 #[.agg #[.int .i64 k1, .int .i64 n1, .string s1, .int .i64 m1, .slice A1 l1 c1], .agg #[.int .i64 k2, .int .i64 n2, .string s2, .int .i64 m2, .slice A2 l2 c2]] w fun e w' => e = .returned (.agg #[.int .i64 k1, .int .i64 n1, .string s1, .int .i64 m1, .slice A1 l1 c1]) ∧ Below w.heap.size w w' := by
  subst h2
  go_enter Tryd.func40, Tryd.ntmps40
  go_wp2
  refine bodyPost_ret (results_cell1 rfl _ _ _ _ _ rfl (lv29 (Blk.newAt _ _ _ (by simp)))) rfl ⟨rfl, (((Below.refl _ _).alloc (Nat.le_refl _) _).alloc (by simp) _).alloc (by simp; omega) _⟩
theorem both_third (k1 n1 m1 k2 n2 m2 : Int) (s1 s2 : ByteArray) (A1 A2 : Option Addr) (l1 c1 l2 c2 : Nat) (w : World) (h1 : (k1 == 0) = false) (h2 : (k2 == 0) = false) :
    Calls Tryd.prog 40 #[.agg #[.int .i64 k1, .int .i64 n1, .string s1, .int .i64 m1, .slice A1 l1 c1], .agg #[.int .i64 k2, .int .i64 n2, .string s2, .int .i64 m2, .slice A2 l2 c2]] w fun e w' => ∃ q, e = .returned (.agg #[.int .i64 3, .int .i64 0, .string ⟨#[]⟩, .int .i64 0, .slice (some ⟨q, 0, none⟩) 2 2]) ∧ Blk w' q (#[.int .i64 k1, .int .i64 n1, .string s1, .int .i64 m1, .slice A1 l1 c1] ++ #[.int .i64 k2, .int .i64 n2, .string s2, .int .i64 m2, .slice A2 l2 c2]) 29 ∧ w.heap.size ≤ q ∧ Below w.heap.size w w' := by
  go_enter Tryd.func40, Tryd.ntmps40
  go_wp2
  exact bodyPost_ret (results_cell1 rfl _ _ _ _ _ rfl (lv29 ((Blk.newAt _ _ _ (by simp)).alloc _))) rfl ⟨_, rfl, Blk.newAt _ _ _ (by simp), by omega, ((((Below.refl _ _).alloc (Nat.le_refl _) _).alloc (by simp) _).alloc (by simp; omega) _).alloc (by simp; omega) _⟩

theorem Er.kind_ne (t : Er) : (t.kind == 0) = false := by cases t <;> rfl
/-- Two worlds that agree on the blocks of one of them. -/
theorem IsR.agree {w w' : World} (hb : ∀ k, k < w.heap.size → w'.heap[k]? = w.heap[k]?) : ∀ {t : Er} {v : List Value}, IsR w t v → IsR w' t v
  | .num n, v, h => h
  | .stage s no t, v, ⟨q, c, h1, u, h2, h3⟩ => ⟨q, c, h1, u, IsR.agree hb h2, fun j x hx => (World.cell?_of_block (hb _ (block_lt_of_cell (h3 j x hx)))).trans (h3 j x hx)⟩
  | .two a b, v, ⟨q, c, h1, u, u', h2, h2', h3, h4⟩ => ⟨q, c, h1, u, u', IsR.agree hb h2, IsR.agree hb h2', fun j x hx => (World.cell?_of_block (hb _ (block_lt_of_cell (h3 j x hx)))).trans (h3 j x hx), fun j x hx => (World.cell?_of_block (hb _ (block_lt_of_cell (h4 j x hx)))).trans (h4 j x hx)⟩
theorem IsRO.agree {w w' : World} (hb : ∀ k, k < w.heap.size → w'.heap[k]? = w.heap[k]?) : ∀ {t : Option Er} {v : List Value}, IsRO w t v → IsRO w' t v
  | none, v, h => h
  | some t, v, h => IsR.agree hb (t := t) h
theorem fresh_any {w : World} {n : Int} {v : List Value} (h : IsRO w (freshO n) v) (w' : World) : IsRO w' (freshO n) v := by
  unfold freshO at h ⊢
  split at h
  · rename_i hn; rw [if_pos hn]; exact h
  · rename_i hn; rw [if_neg hn]; exact h

def BothOf (w W : World) (t : Option Er) (e : Ending) (w' : World) : Prop := ∃ v : List Value, e = .returned (.agg v.toArray) ∧ (∃ k n s no A l c, v = [.int .i64 k, .int .i64 n, .string s, .int .i64 no, .slice A l c]) ∧ Mk w W w' (fun W'' => IsRO W'' t v) ∧ Below W.heap.size W w'

theorem both_calls (a b : Option Er) (u v : List Value) (w W : World) (ha : IsRO w a u) (hb : IsRO w b v) : Calls Tryd.prog 40 #[.agg u.toArray, .agg v.toArray] W (BothOf w W (bothO a b)) := by
  obtain ⟨n1, s1, m1, A1, l1, c1, rfl⟩ := ha.form
  obtain ⟨n2, s2, m2, A2, l2, c2, rfl⟩ := hb.form
  cases a with
  | none =>
    refine (both_first _ n1 m1 _ n2 m2 s1 s2 A1 A2 l1 c1 l2 c2 W rfl).mono ?_
    rintro e w' ⟨rfl, hB⟩
    exact ⟨_, rfl, ⟨_, _, _, _, _, _, _, rfl⟩, fun W'' h1 h2 => hb.agree h1, hB⟩
  | some a =>
    cases b with
    | none =>
      refine (both_second _ n1 m1 _ n2 m2 s1 s2 A1 A2 l1 c1 l2 c2 W a.kind_ne rfl).mono ?_
      rintro e w' ⟨rfl, hB⟩
      exact ⟨_, rfl, ⟨_, _, _, _, _, _, _, rfl⟩, fun W'' h1 h2 => ha.agree h1, hB⟩
    | some b =>
      refine (both_third _ n1 m1 _ n2 m2 s1 s2 A1 A2 l1 c1 l2 c2 W a.kind_ne b.kind_ne).mono ?_
      rintro e w' ⟨q, rfl, hq, hql, hB⟩
      refine ⟨_, rfl, ⟨_, _, _, _, _, _, _, rfl⟩, fun W'' h1 h2 => ?_, hB⟩
      have hq2 : Blk W'' q _ 29 := (h2 q hql hq.lt).trans hq
      refine ⟨q, 2, rfl, _, _, IsR.agree h1 (t := a) ha, IsR.agree h1 (t := b) hb, fun j x hx => ?_, fun j x hx => ?_⟩
      · rw [hq2.cell j, ← Array.getElem?_toList, Array.toList_append, List.getElem?_append_left (Array.getElem?_eq_some_iff.1 (by rw [← Array.getElem?_toList]; exact hx)).1]
        exact hx
      · rw [hq2.cell (5 + j), ← Array.getElem?_toList, Array.toList_append, List.getElem?_append_right (Nat.le_add_right 5 j)]
        have hj : 5 + j - (#[Value.int .i64 a.kind, .int .i64 n1, .string s1, .int .i64 m1, .slice A1 l1 c1] : Array Value).toList.length = j := Nat.add_sub_cancel_left 5 j
        rw [hj]
        exact hx
end Go.Proofs.YtgpaedknonkioaaDoor
