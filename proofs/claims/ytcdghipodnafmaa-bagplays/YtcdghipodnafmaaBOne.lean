/-
  Slices of one message each, and whether they hold the same. Conditions: the bytes lie in memory.
-/
import Derived.Test.YtcdghipodnafmaaBAll
namespace Go.Proofs.Ytcdghipodnafmaa
open Go.ChangeShapes Go.WideShapes Go.ChangeAt Go.RowKit
set_option linter.unusedVariables false
theorem msgs_one (w : World) (f t : Int) (A : Option Addr) (c : Nat) (b : List Int) (hl : Lies w A c b) (hb : IsB b) : Msgs (w.alloc (.cells #[.int .i64 f, .int .i64 t, .slice A b.length c] 48)) (some ⟨w.heap.size, 0, none⟩) 1 [⟨⟨f, t, b⟩, A, c⟩] :=
  ⟨cells_one_val elM w _ _ rfl, fun x hx => by simp only [List.mem_singleton] at hx; subst hx; exact ⟨hl.below (below_one w _), hb⟩⟩
theorem Msgs.below {w w' : World} {A : Option Addr} {c : Nat} {xs : List Mr} (h : Msgs w A c xs) (hb : Below w.heap.size w w') : Msgs w' A c xs := ⟨h.1.below hb, fun x hx => ⟨(h.2 x hx).1.below hb, (h.2 x hx).2⟩⟩
theorem same_zeros (w : World) : Calls Try.prog 13 #[.slice (some ⟨w.heap.size, 0, none⟩) 1 1, .slice (some ⟨w.heap.size + 1, 0, none⟩) 1 1] ((w.alloc (.cells #[.int .i64 0, .int .i64 0, .slice none 0 0] 48)).alloc (.cells #[.int .i64 0, .int .i64 0, .slice none 0 0] 48)) fun e w' => e = .returned (.bool true) ∧ Below w.heap.size w w' := by
  have h0 := msgs_one w 0 0 none 0 [] (Lies.nil w) (by intro x hx; cases hx)
  have h1 := Msgs.below h0 (below_one _ (.cells #[.int .i64 0, .int .i64 0, .slice none 0 0] 48))
  have h2 := msgs_one (w.alloc (.cells #[.int .i64 0, .int .i64 0, .slice none 0 0] 48)) 0 0 none 0 [] (Lies.nil _) (by intro x hx; cases hx)
  have e1 : (w.alloc (.cells #[.int .i64 0, .int .i64 0, .slice none 0 0] 48)).heap.size = w.heap.size + 1 := by simp
  rw [e1] at h2
  refine (same_calls h1 h2 (by decide)).mono ?_
  rintro e w' ⟨r, q, rfl, hr, rfl⟩
  exact ⟨by rw [hr.2 rfl], (below_two w _ _).trans ((below_drewN _ q).mono (by simp; omega))⟩
/-- Two slices of one message each, laid by literals. -/
theorem same_ones (w : World) (m n : Mg) (A B : Option Addr) (c d : Nat) (ha : Lies w A c m.b) (hb : Lies w B d n.b) (ia : IsB m.b) (ib : IsB n.b) :
    Calls Try.prog 13 #[.slice (some ⟨w.heap.size, 0, none⟩) 1 1, .slice (some ⟨w.heap.size + 1, 0, none⟩) 1 1] ((w.alloc (.cells #[.int .i64 m.frm, .int .i64 m.tgt, .slice A m.b.length c] 48)).alloc (.cells #[.int .i64 n.frm, .int .i64 n.tgt, .slice B n.b.length d] 48)) fun e w' => (∃ r, e = .returned (.bool r) ∧ (r = true ↔ m = n)) ∧ Below w.heap.size w w' := by
  have h0 := msgs_one w m.frm m.tgt A c m.b ha ia
  have h1 := Msgs.below h0 (below_one _ (.cells #[.int .i64 n.frm, .int .i64 n.tgt, .slice B n.b.length d] 48))
  have h2 := msgs_one (w.alloc (.cells #[.int .i64 m.frm, .int .i64 m.tgt, .slice A m.b.length c] 48)) n.frm n.tgt B d n.b (hb.below (below_one w _)) ib
  have e1 : (w.alloc (.cells #[.int .i64 m.frm, .int .i64 m.tgt, .slice A m.b.length c] 48)).heap.size = w.heap.size + 1 := by simp
  rw [e1] at h2
  refine (same_calls h1 h2 (by show 1 ≤ 100000; decide)).mono ?_
  rintro e w' ⟨r, q, rfl, hr, rfl⟩
  refine ⟨⟨r, rfl, hr.trans ⟨fun h => ?_, fun h => by rw [h]; rfl⟩⟩, (below_two w _ _).trans ((below_drewN _ q).mono (by simp; omega))⟩
  simp only [List.map_cons, List.map_nil, List.cons.injEq, and_true] at h
  exact h
end Go.Proofs.Ytcdghipodnafmaa
