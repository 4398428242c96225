/-
  For FrameTorn: the ends of frames, which frames a cut leaves whole, what lies in memory while the frames are put. No conditions.
-/
import Derived.Test.YtikeebgclplphaaII
import Derived.Test.YtikeebgclplphaaFSame
import Derived.Test.YtikeebgclplphaaFLive
import Derived.Deep.QuietTactic
import Derived.BigQuiet
namespace Go.Proofs.Ytikeebgclplphaa
open Go.ChangeShapes Go.WideShapes Go.ChangeAt Go.RowKit
set_option linter.unusedVariables false

def endsOf (l : List (List Int)) (k : Nat) : List Int := (List.range k).map fun j => ((flatF (l.take (j + 1))).length : Int)
theorem endsOf_succ (l : List (List Int)) (k : Nat) : endsOf l (k + 1) = endsOf l k ++ [((flatF (l.take (k + 1))).length : Int)] := by simp [endsOf, List.range_succ]
theorem endsOf_length (l : List (List Int)) (k : Nat) : (endsOf l k).length = k := by simp [endsOf]
theorem endsOf_get (l : List (List Int)) {k j : Nat} (h : j < k) : (endsOf l k).getD j 0 = ((flatF (l.take (j + 1))).length : Int) := by simp [endsOf, List.getD, h]
theorem flatF_take_succ {l : List (List Int)} {k : Nat} {d : List Int} (h : l[k]? = some d) : flatF (l.take (k + 1)) = flatF (l.take k) ++ encF d := by
  rw [List.take_add_one, h, Option.toList_some, flatF_snoc]
theorem flatF_take_mono (l : List (List Int)) {a b : Nat} (h : a ≤ b) : (flatF (l.take a)).length ≤ (flatF (l.take b)).length := by
  have e : l.take b = l.take a ++ (l.take b).drop a := by
    have := List.take_append_drop a (l.take b)
    rw [List.take_take, Nat.min_eq_left h] at this
    exact this.symm
  rw [e]
  unfold flatF
  rw [List.flatMap_append, List.length_append]
  omega
theorem flatF_bound : ∀ (l : List (List Int)), (∀ d ∈ l, d.length ≤ 300) → (flatF l).length ≤ 313 * l.length
  | [], _ => by simp [flatF]
  | d :: l, h => by
    have h1 := flatF_bound l (fun x hx => h x (by simp [hx]))
    have h2 := h d (by simp)
    have h3 := encF_length d
    have h4 := vlen_le (d.length : Int)
    rw [flatF_cons, List.length_append, List.length_cons]
    omega
theorem flatF_isB : ∀ (l : List (List Int)), (∀ d ∈ l, IsB d ∧ d.length ≤ 1048576) → IsB (flatF l)
  | [], _ => by intro x hx; simp [flatF] at hx
  | d :: l, h => by
    rw [flatF_cons]
    exact (encF_isB d (h d (by simp)).1 (h d (by simp)).2).append (flatF_isB l (fun x hx => h x (by simp [hx])))

/-- The cut decides how many frames are whole. -/
theorem torn_at (l : List (List Int)) (hl : ∀ d ∈ l, d.length ≤ 300) (k j : Nat) (hk : k ≤ (flatF l).length) (hj : j ≤ l.length) (h1 : (flatF (l.take j)).length ≤ k) (h2 : j < l.length → k < (flatF (l.take (j + 1))).length) :
    allF ((flatF l).take k) = (l.take j, ((flatF (l.take j)).length : Int), if (flatF (l.take j)).length = k then 0 else 2) := by
  obtain ⟨i, hi, g1, g2, g3⟩ := torn l (fun d hd => by have := hl d hd; omega) k hk
  have : i = j := by
    rcases Nat.lt_trichotomy i j with h | h | h
    · have := flatF_take_mono l (show i + 1 ≤ j by omega)
      have := g2 (by omega)
      omega
    · exact h
    · have := flatF_take_mono l (show j + 1 ≤ i by omega)
      have := h2 (by omega)
      omega
  subst this
  exact g3

theorem K5.grown3 {W W' : World} {row : Option Nat} (hg : W.grownBy W' row) (hr : ∀ g, row = some g → ∃ cur z, W.heap[g]? = some (.cells cur 3 z)) : K5 W W' := fun k c z hk => by
  refine (hg.block k (Array.getElem?_eq_some_iff.1 hk).1 fun e => ?_).trans hk
  obtain ⟨cur, z', h2⟩ := hr k e.symm
  rw [hk] at h2
  injection h2 with h2
  injection h2 with _ h3
  cases h3
theorem K5.below {W W' : World} (h : Below W.heap.size W W') : K5 W W' := fun k c z hk => (h.block k (Array.getElem?_eq_some_iff.1 hk).1).trans hk
theorem LT.own {B : Nat} {w : World} {A : Option Addr} {c : Nat} {l : List Int} (h : OwnS B w A c l) : LT w (A, c, l) := ⟨OwnS.lies h, T5.own h⟩
theorem LT.nil (w : World) : LT w (none, 0, []) := ⟨Lies.nil w, fun a ha => (by cases ha)⟩

/-- While the frames are put: k of them. -/
def RelT (w : World) (rs : List Elt) (v5 v6 v7 : Value) (wr : World) : Prop :=
  ∃ k : Nat, k ≤ rs.length ∧ v7 = .int .i64 k ∧ (∀ d ∈ (listsOf rs).take k, d.length ≤ 300) ∧
    (∃ A c L, v5 = .slice A (List.length L) c ∧ L = flatF ((listsOf rs).take k) ∧ LT wr (A, c, L) ∧ L.length ≤ c) ∧
    (∃ A c es, v6 = .slice A (List.length es) c ∧ es = endsOf (listsOf rs) k ∧ OwnI w.heap.size wr A c es) ∧ Below w.heap.size w wr
theorem RelT.start (w : World) (rs : List Elt) : RelT w rs (.slice none 0 0) (.slice none 0 0) (.int .i64 0) w :=
  ⟨0, by omega, rfl, by simp, ⟨none, 0, [], rfl, rfl, LT.nil w, Nat.le_refl _⟩, ⟨none, 0, [], rfl, rfl, OwnI.nil _ _⟩, Below.refl _ _⟩
theorem RelT.step {w w4 w6 : World} {rs : List Elt} {k : Nat} {A4 A6 Ae : Option Addr} {c4 c6 ce : Nat} {d L X es R : List Int} {o : Obj} {B : Nat} (hk : k < rs.length) (hd : (listsOf rs)[k]? = some d) (hdl : d.length ≤ 300) (h300 : ∀ d ∈ (listsOf rs).take k, d.length ≤ 300)
    (hL : L = flatF ((listsOf rs).take k)) (hX : X = L ++ encF d) (hown : OwnS B w4 A4 c4 X) (hes : es = endsOf (listsOf rs) k) (hR : R = es ++ [(X.length : Int)]) (howe : OwnI w.heap.size w4 Ae ce es) (hown6 : OwnI w.heap.size w6 A6 c6 R)
    (hg : (w4.alloc o).grownBy w6 (Value.slice Ae es.length ce).ownBlock) (hb : Below w.heap.size w w6) :
    RelT w rs (.slice A4 X.length c4) (.slice A6 R.length c6) (.int .i64 ((k : Int) + 1)) w6 := by
  have hf := flatF_take_succ hd
  have hlt : k < (listsOf rs).length := by rw [listsOf_length]; exact hk
  have hX' : X = flatF ((listsOf rs).take (k + 1)) := by rw [hf, hX, hL]
  refine ⟨k + 1, by omega, by go_num, fun x hx => ?_, ⟨A4, c4, X, rfl, hX', ?_, OwnS.cap hown⟩, ⟨A6, c6, R, rfl, ?_, hown6⟩, hb⟩
  · rw [List.take_add_one, hd, Option.toList_some] at hx
    rcases List.mem_append.1 hx with hx | hx
    · exact h300 x hx
    · simp only [List.mem_singleton] at hx
      rw [hx]; exact hdl
  · exact (LT.own hown).k5 ((K5.alloc w4 o).trans (K5.grown3 hg fun g hg' => by
      obtain ⟨_, cur, z, h1⟩ := howe.row g hg'
      exact ⟨cur, z, (Below.heap_alloc w4 o g (Array.getElem?_eq_some_iff.1 h1).1).trans h1⟩))
  · rw [endsOf_succ, ← hX', hR, hes]
/-- While the whole frames are counted. -/
def RelU (w : World) (l : List (List Int)) (q : Nat) (v11 v12 v13 : Value) (wr : World) : Prop :=
  ∃ j : Nat, j ≤ l.length ∧ v13 = .int .i64 j ∧ v11 = .int .i64 j ∧ v12 = .int .i64 ((flatF (l.take j)).length : Nat) ∧ (flatF (l.take j)).length ≤ q ∧ Below w.heap.size w wr
theorem listsOf_take (rs : List Elt) (j : Nat) : listsOf (rs.take j) = (listsOf rs).take j := by simp [listsOf, List.map_take]
end Go.Proofs.Ytikeebgclplphaa
