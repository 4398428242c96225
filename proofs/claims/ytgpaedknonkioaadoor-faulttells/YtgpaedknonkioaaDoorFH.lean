/-
  A block that is written again and again, and errors that do not lie in it; contracts of New, In and Both as one. No conditions.
-/
import Derived.Test.YtgpaedknonkioaaDoorFR
import Derived.Test.YtgpaedknonkioaaDoorEJ
namespace Go.Proofs.YtgpaedknonkioaaDoor
open Go.ChangeShapes Go.WideShapes Go.ChangeAt Go.RowKit
set_option linter.unusedVariables false

/-- The world without what the block g holds. -/
def hide (g : Nat) (w : World) : World := { w with heap := w.heap.modify g fun _ => .cells #[] 0 (0, 0) }
theorem hide_size (g : Nat) (w : World) : (hide g w).heap.size = w.heap.size := by simp [hide]
theorem hide_other {g k : Nat} (w : World) (h : k ≠ g) : (hide g w).heap[k]? = w.heap[k]? := by
  simp only [hide]
  rcases Nat.lt_or_ge k w.heap.size with hk | hk
  · rw [Array.getElem?_eq_getElem (by simpa using hk), Array.getElem?_eq_getElem hk, Array.getElem_modify, if_neg (fun e => h e.symm)]
  · rw [Array.getElem?_eq_none (by simpa using hk), Array.getElem?_eq_none hk]
theorem hide_at {g : Nat} {w : World} (h : g < w.heap.size) : (hide g w).heap[g]? = some (.cells #[] 0 (0, 0)) := by
  simp only [hide]
  rw [Array.getElem?_eq_getElem (by simpa using h), Array.getElem_modify, if_pos rfl]
theorem hide_cell {g : Nat} {w : World} {a : Addr} {x : Value} (h : (hide g w).cell? a = some x) : w.cell? a = some x := by
  by_cases hg : a.block = g
  · have hlt := block_lt_of_cell h
    rw [hide_size] at hlt
    unfold World.cell? at h
    rw [hg, hide_at (by rw [← hg]; exact hlt)] at h
    simp at h
  · rw [← World.cell?_of_block (hide_other w hg)]; exact h
theorem IsE.mono {w w' : World} (hm : ∀ a x, w.cell? a = some x → w'.cell? a = some x) : ∀ {t : Er} {v : Value}, IsE w t v → IsE w' t v
  | .num n, v, h => h
  | .stage s no t, v, ⟨u, h1, h2⟩ => ⟨u, h1, IsE.mono hm h2⟩
  | .two a b, v, ⟨p, q, c, ua, ub, h0, h1, h2, h3, h4, h5⟩ => ⟨p, q, c, ua, ub, h0, hm _ _ h1, hm _ _ h2, hm _ _ h3, IsE.mono hm h4, IsE.mono hm h5⟩
theorem IsR.mono {w w' : World} (hm : ∀ a x, w.cell? a = some x → w'.cell? a = some x) : ∀ {t : Er} {v : List Value}, IsR w t v → IsR w' t v
  | .num n, v, h => h
  | .stage s no t, v, ⟨q, c, h1, u, h2, h3⟩ => ⟨q, c, h1, u, IsR.mono hm h2, fun j x hx => hm _ _ (h3 j x hx)⟩
  | .two a b, v, ⟨q, c, h1, u, u', h2, h2', h3, h4⟩ => ⟨q, c, h1, u, u', IsR.mono hm h2, IsR.mono hm h2', fun j x hx => hm _ _ (h3 j x hx), fun j x hx => hm _ _ (h4 j x hx)⟩
theorem IsO.show {g : Nat} {w : World} : ∀ {t : Option Er} {v : Value}, IsO (hide g w) t v → IsO w t v
  | none, v, h => h
  | some t, v, h => IsE.mono (t := t) (fun _ _ => hide_cell) h
theorem IsRO.show {g : Nat} {w : World} : ∀ {t : Option Er} {v : List Value}, IsRO (hide g w) t v → IsRO w t v
  | none, v, h => h
  | some t, v, h => IsR.mono (t := t) (fun _ _ => hide_cell) h
theorem IsO.agree {w w' : World} (hb : ∀ k, k < w.heap.size → w'.heap[k]? = w.heap[k]?) : ∀ {t : Option Er} {v : Value}, IsO w t v → IsO w' t v
  | none, v, h => h
  | some t, v, h => IsE.agree hb (t := t) h
/-- Two worlds alike but for g, hidden. -/
theorem hide_agree {g : Nat} {w w' : World} (h : ∀ k, k < w.heap.size → k ≠ g → w'.heap[k]? = w.heap[k]?) (hg : g < w.heap.size) (hg' : g < w'.heap.size) : ∀ k, k < (hide g w).heap.size → (hide g w').heap[k]? = (hide g w).heap[k]? := fun k hk => by
  rw [hide_size] at hk
  by_cases e : k = g
  · subst e; rw [hide_at hg, hide_at hg']
  · rw [hide_other w e, hide_other w' e]; exact h k hk e
theorem Mk.hide {g : Nat} {w w' W : World} {P : World → Prop} (h : Mk (hide g w) w w' P) (hg : g < w.heap.size) (hW : g < W.heap.size) (h1 : ∀ k, k < w.heap.size → k ≠ g → W.heap[k]? = w.heap[k]?) (h2 : ∀ k, w.heap.size ≤ k → k < w'.heap.size → W.heap[k]? = w'.heap[k]?) : P (hide g W) :=
  h _ (hide_agree h1 hg hW) (fun k hk hk' => by rw [hide_other W (by omega)]; exact h2 k hk hk')

theorem isO_fresh (n : Int) (W : World) : IsO W (freshO n) (if n = 0 then .nilIface else .iface 39 (.int .i64 n)) := by
  unfold freshO
  split
  · rfl
  · rfl
theorem new_calls (n : Int) (w : World) : Calls Tryd.prog 19 #[.int .i64 n] w fun e w' => ∃ v, e = .returned v ∧ (∀ W, IsO W (freshO n) v) ∧ w' = w := by
  by_cases h : n = 0
  · subst h
    refine (new_zero w).mono ?_
    rintro e w' ⟨rfl, rfl⟩
    exact ⟨_, rfl, fun W => isO_fresh 0 W, rfl⟩
  · refine (new_some n h w).mono ?_
    rintro e w' ⟨rfl, rfl⟩
    exact ⟨_, rfl, fun W => by have := isO_fresh n W; rwa [if_neg h] at this, rfl⟩
def inO (s : ByteArray) (no : Int) : Option Er → Option Er
  | none => none
  | some t => some (.stage s no t)
theorem in_calls (s : ByteArray) (no : Int) (t : Option Er) (v : Value) (w0 w : World) (h : IsO w0 t v) : Calls Tryd.prog 17 #[.string s, .int .i64 no, v] w fun e w' => ∃ v', e = .returned v' ∧ Mk w0 w w' (fun W => IsO W (inO s no t) v') ∧ w' = w := by
  cases t with
  | none =>
    obtain rfl : v = .nilIface := h
    refine (in_nil s no w).mono ?_
    rintro e w' ⟨rfl, rfl⟩
    exact ⟨_, rfl, fun W _ _ => rfl, rfl⟩
  | some t =>
    obtain ⟨ty, x, rfl⟩ := IsE.iface (t := t) h
    refine (in_some s no ty x w).mono ?_
    rintro e w' ⟨rfl, rfl⟩
    exact ⟨_, rfl, fun W h1 _ => ⟨_, rfl, IsE.agree h1 (t := t) h⟩, rfl⟩
theorem both_all (a b : Option Er) (v1 v2 : Value) (w0 w : World) (h1 : IsO w0 a v1) (h2 : IsO w0 b v2) : Calls Tryd.prog 18 #[v1, v2] w fun e w' => ∃ v, e = .returned v ∧ Mk w0 w w' (fun W => IsO W (bothO a b) v) ∧ Below w.heap.size w w' := by
  cases a with
  | none =>
    obtain rfl : v1 = .nilIface := h1
    refine (both_left v2 w).mono ?_
    rintro e w' ⟨rfl, rfl⟩
    exact ⟨_, rfl, fun W g1 _ => h2.agree g1, Below.refl _ _⟩
  | some a =>
    cases b with
    | none =>
      obtain rfl : v2 = .nilIface := h2
      obtain ⟨ty, x, rfl⟩ := IsE.iface (t := a) h1
      refine (both_right ty x w).mono ?_
      rintro e w' ⟨rfl, rfl⟩
      exact ⟨_, rfl, fun W g1 _ => IsE.agree g1 (t := a) h1, Below.refl _ _⟩
    | some b => exact both_two a b v1 v2 w0 w h1 h2
end Go.Proofs.YtgpaedknonkioaaDoor
