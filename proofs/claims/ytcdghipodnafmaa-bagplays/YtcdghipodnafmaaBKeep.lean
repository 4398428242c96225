/-
  The plain bag: what is taken was sent, and the counts add up. Conditions: as in the premises.
-/
import Derived.Test.YtcdghipodnafmaaBOne
import Derived.Test.YtcdghipodnafmaaBMove
import Derived.Test.YtcdghipodnafmaaBLive
import Derived.Test.YtcdghipodnafmaaBActs
namespace Go.Proofs.Ytcdghipodnafmaa
open Go.ChangeShapes Go.WideShapes Go.ChangeAt Go.RowKit
set_option linter.unusedVariables false

structure Bal (g : Bg) (ss : List Mg) (nev : Int) (k : Nat) : Prop where
  keep : ∀ m ∈ g.ms, m ∈ ss
  sum : g.sent = (g.ms.length : Int) + g.taken + g.lost - nev
  s : g.sent ≤ k
  t : g.taken ≤ k
  l : g.lost ≤ k
  n0 : 0 ≤ nev
  n1 : nev ≤ k
section
variable {g : Bg} {ss : List Mg} {nev : Int} {k : Nat}
theorem Bal.low (h : Bal g ss nev k) (hk : k ≤ 1000) : Low g := ⟨by have := h.s; omega, by have := h.t; omega, by have := h.l; omega⟩
theorem Bal.next (h : Bal g ss nev k) : Bal g ss nev (k + 1) := ⟨h.keep, h.sum, by have := h.s; omega, by have := h.t; omega, by have := h.l; omega, h.n0, by have := h.n1; omega⟩
theorem Bal.more (h : Bal g ss nev k) {ts : List Mg} (hs : ∀ m ∈ ss, m ∈ ts) : Bal g ts nev k := ⟨fun m hm => hs m (h.keep m hm), h.sum, h.s, h.t, h.l, h.n0, h.n1⟩
theorem getD_mem {l : List Mg} {i : Nat} (h : i < l.length) : l.getD i m0 ∈ l := by
  rw [List.getD_eq_getElem?_getD, List.getElem?_eq_getElem h]
  exact List.getElem_mem h
theorem Bal.lost (h : Bal g ss nev k) {i : Nat} (hi : i < g.ms.length) : Bal { g with ms := wout g.ms i, lost := g.lost + 1 } ss nev (k + 1) := by
  have h1 := h.sum
  have h2 := wout_len g.ms i hi
  have h3 := h.s
  have h4 := h.t
  have h5 := h.l
  have h6 := h.n1
  exact ⟨fun m hm => h.keep m (mem_wout hm), by show g.sent = ((wout g.ms i).length : Int) + g.taken + (g.lost + 1) - nev; omega, by show g.sent ≤ _; omega, by show g.taken ≤ _; omega, by show g.lost + 1 ≤ _; omega, h.n0, by omega⟩
theorem Bal.took (h : Bal g ss nev k) {i : Nat} (hi : i < g.ms.length) : Bal { g with ms := wout g.ms i, taken := g.taken + 1 } ss nev (k + 1) := by
  have h1 := h.sum
  have h2 := wout_len g.ms i hi
  have h3 := h.s
  have h4 := h.t
  have h5 := h.l
  have h6 := h.n1
  exact ⟨fun m hm => h.keep m (mem_wout hm), by show g.sent = ((wout g.ms i).length : Int) + (g.taken + 1) + g.lost - nev; omega, by show g.sent ≤ _; omega, by show g.taken + 1 ≤ _; omega, by show g.lost ≤ _; omega, h.n0, by omega⟩
theorem Bal.take (h : Bal g ss nev k) (i : Int) : Bal (takeS g i).1 ss nev (k + 1) ∧ ((takeS g i).2.2 = true → (takeS g i).2.1 ∈ ss) := by
  unfold takeS
  cases hi : g.has i with
  | false => exact ⟨h.next, fun e => by cases e⟩
  | true =>
    obtain ⟨j, rfl, hj⟩ := has_nat hi
    simp only [if_true, Int.toNat_natCast]
    split
    · exact ⟨h.took hj, fun _ => h.keep _ (getD_mem hj)⟩
    · exact ⟨h.lost hj, fun e => by cases e⟩
theorem Bal.lose (h : Bal g ss nev k) (i : Int) : Bal (loseS g i).1 ss nev (k + 1) := by
  unfold loseS
  cases hi : g.has i with
  | false => exact h.next
  | true =>
    obtain ⟨j, rfl, hj⟩ := has_nat hi
    simp only [if_true, Int.toNat_natCast]
    exact h.lost hj
theorem Bal.add (h : Bal g ss nev k) {m : Mg} (hm : m ∈ ss) : Bal { g with ms := g.ms ++ [m], sent := g.sent + 1 } ss nev (k + 1) := by
  have h1 := h.sum
  have h3 := h.s
  have h4 := h.t
  have h5 := h.l
  have h6 := h.n1
  exact ⟨fun x hx => by
    rcases List.mem_append.1 hx with h7 | h7
    · exact h.keep x h7
    · simp only [List.mem_singleton] at h7
      subst h7
      exact hm, by show g.sent + 1 = ((g.ms ++ [m]).length : Int) + g.taken + g.lost - nev; simp only [List.length_append, List.length_singleton]; omega, by show g.sent + 1 ≤ _; omega, by show g.taken ≤ _; omega, by show g.lost ≤ _; omega, h.n0, by omega⟩
theorem Bal.twice (h : Bal g ss nev k) (i : Int) : Bal (twiceS g i).1 ss nev (k + 1) := by
  unfold twiceS
  cases hi : g.has i with
  | false => exact h.next
  | true =>
    cases hf : g.full with
    | true => exact h.next
    | false =>
      obtain ⟨j, rfl, hj⟩ := has_nat hi
      simp only [Bool.true_and, Bool.not_false, if_true, Int.toNat_natCast]
      exact h.add (h.keep _ (getD_mem hj))
theorem Bal.move (h : Bal g ss nev k) (i j : Int) : Bal (moveS g i j).1 ss nev (k + 1) := by
  unfold moveS
  cases hi : g.has i with
  | false => exact h.next
  | true =>
    cases hj : g.has j with
    | false => exact h.next
    | true =>
      obtain ⟨a, rfl, ha⟩ := has_nat hi
      obtain ⟨b, rfl, hb⟩ := has_nat hj
      simp only [Bool.true_and, if_true, Int.toNat_natCast]
      have h1 := h.sum
      have h2 := insd_len (wout g.ms a) b (g.ms.getD a m0) (by rw [wout_len _ _ ha]; omega)
      have h3 := wout_len g.ms a ha
      have h4 := h.s
      have h5 := h.t
      have h6 := h.l
      have h7 := h.n1
      exact ⟨fun m hm => by
        rcases mem_insd hm with rfl | h8
        · exact h.keep _ (getD_mem ha)
        · exact h.keep _ (mem_wout h8), by show g.sent = ((insd (wout g.ms a) b (g.ms.getD a m0)).length : Int) + g.taken + g.lost - nev; omega, by show g.sent ≤ _; omega, by show g.taken ≤ _; omega, by show g.lost ≤ _; omega, h.n0, by omega⟩
theorem Bal.set (h : Bal g ss nev k) (n : Int) (u : Bool) : Bal (setS g n u).1 ss nev (k + 1) := by
  unfold setS
  cases g.isNode n with
  | false => exact h.next
  | true => exact ⟨h.keep, h.sum, h.next.s, h.next.t, h.next.l, h.n0, h.next.n1⟩
theorem Bal.send (h : Bal g ss nev k) (f t : Int) (b : List Int) : ((sendS g f t b).2 = 0 ∧ Bal (sendS g f t b).1 (ss ++ [⟨f, t, b⟩]) nev (k + 1)) ∨ ((sendS g f t b).2 = 9 ∧ Bal (sendS g f t b).1 ss (nev + 1) (k + 1)) ∨ ((sendS g f t b).2 ≠ 0 ∧ (sendS g f t b).2 ≠ 9 ∧ Bal (sendS g f t b).1 ss nev (k + 1)) := by
  unfold sendS
  split
  · split
    · split
      · refine .inr (.inl ⟨rfl, ?_⟩)
        have h1 := h.sum
        have h3 := h.s
        have h4 := h.t
        have h5 := h.l
        have h6 := h.n1
        have h7 := h.n0
        exact ⟨h.keep, by show g.sent = (g.ms.length : Int) + g.taken + (g.lost + 1) - (nev + 1); omega, by show g.sent ≤ _; omega, by show g.taken ≤ _; omega, by show g.lost + 1 ≤ _; omega, by omega, by omega⟩
      · exact .inl ⟨rfl, (h.more (fun m hm => List.mem_append_left _ hm)).add (List.mem_append_right _ (List.mem_singleton.2 rfl))⟩
    · exact .inr (.inr ⟨by show (6 : Int) ≠ 0; decide, by show (6 : Int) ≠ 9; decide, h.next⟩)
  · exact .inr (.inr ⟨by show (1 : Int) ≠ 0; decide, by show (1 : Int) ≠ 9; decide, h.next⟩)
theorem Bal.new (n m : Int) : Bal (newG n m) [] 0 0 := ⟨fun m hm => (by cases hm), rfl, Int.le_refl _, Int.le_refl _, Int.le_refl _, Int.le_refl _, Int.le_refl _⟩
end
/-- The law's own memory beside the bag: what was sent. -/
structure Kept (w : World) (p : Nat) (S : Nat → Prop) (g : Bg) (A : Option Addr) (c : Nat) (ss : List Mr) (ts : List Mg) (nev : Int) (k : Nat) (W : World) : Prop where
  bag : BagAt S W p g
  up : ∀ b, S b → w.heap.size ≤ b
  below : Below w.heap.size w W
  row : OwnG 48 3 enM w.heap.size W A c ss
  off : ∀ a, A = some a → ¬ S a.block
  data : ∀ s ∈ ss, Lies w s.A s.c s.m.b ∧ IsB s.m.b
  inv : Bal g ts nev k
  few : ss.length ≤ k
def RelK (n : Nat) (w : World) (p : Nat) (s5 s6 s7 : Value) (W : World) : Prop := ∃ (k : Nat) (S : Nat → Prop) (g : Bg) (A : Option Addr) (c : Nat) (ss : List Mr) (nev : Int), s5 = .slice A ss.length c ∧ s6 = .int .i64 nev ∧ s7 = .int .i64 k ∧ k ≤ n ∧ Kept w p S g A c ss (ss.map Mr.m) nev k W
section
variable {w W W1 : World} {p : Nat} {S : Nat → Prop} {g g' : Bg} {A : Option Addr} {c : Nat} {ss : List Mr} {ts ts' : List Mg} {nev nev' : Int} {k k' : Nat}
theorem Kept.on (h : Kept w p S g A c ss ts nev k W) (hb : Below W.heap.size W W1) : Kept w p S g A c ss ts nev k W1 :=
  ⟨h.bag.below hb, h.up, h.below.trans (hb.mono h.below.size), h.row.below hb, h.off, h.data, h.inv, h.few⟩
theorem Kept.done (h : Kept w p S g A c ss ts nev k W) (hd : Done S W p g' W1) (hi : Bal g' ts' nev' k') (hk : k ≤ k') : ∃ S', Kept w p S' g' A c ss ts' nev' k' W1 := by
  obtain ⟨S', h1, h2, h3⟩ := hd
  refine ⟨S', h1, fun b hb => ?_, h.below.trans (h2.below h.up h.below.size), h.row.blocks fun a ha => ?_, fun a ha hs => ?_, h.data, hi, Nat.le_trans h.few hk⟩
  · rcases h3 b hb with h4 | h4
    · exact h.up b h4
    · have := h.below.size; omega
  · obtain ⟨cur, q, hq⟩ := (h.row.row a.block (by rw [ha]; rfl)).2
    exact h2.block _ (Array.getElem?_eq_some_iff.1 hq).1 (h.off a ha)
  · obtain ⟨cur, q, hq⟩ := (h.row.row a.block (by rw [ha]; rfl)).2
    have hlt := (Array.getElem?_eq_some_iff.1 hq).1
    rcases h3 _ hs with h4 | h4
    · exact h.off a ha h4
    · omega
end
end Go.Proofs.Ytcdghipodnafmaa
