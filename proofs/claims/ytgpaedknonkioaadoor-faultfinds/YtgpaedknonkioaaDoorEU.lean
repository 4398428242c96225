/-
  The contract of fault.First. Conditions: an error that New, In and Both made, or nil; the variable errors.errorType reads as its initialiser lays it.
-/
import Derived.Test.YtgpaedknonkioaaDoorER
namespace Go.Proofs.YtgpaedknonkioaaDoor
open Go.ChangeShapes Go.WideShapes Go.ChangeAt Go.RowKit
set_option linter.unusedVariables false

def firstO : Option Er → Int
  | none => 0
  | some t => t.first
theorem first1_calls (t : Option Er) (v : Value) (w W : World) (g : Nat) (h : IsO w t v) (hb : Below w.heap.size w W) (ht : EType W) (h1 : Blk W g #[v] 26) (h2 : Blk W (g + 1) #[.int .i64 0] 39) (hg : w.heap.size ≤ g) :
    Calls Tryd.prog 30 #[.pointer (some ⟨g, 0, none⟩), .pointer (some ⟨g + 1, 0, none⟩)] W fun e w' => e = .returned (.tuple #[]) ∧ (Blk w' (g + 1) #[.int .i64 (firstO t)] 39 ∧ Below w.heap.size w w') := by
  have c1 := h1.cell 0
  simp only [List.getElem?_toArray, List.getElem?_cons_zero] at c1
  cases t with
  | none =>
    obtain rfl : v = .nilIface := h
    have HC := Lib.hid (As_nil (.iface 53 (.pointer (some ⟨g + 1, 0, none⟩))) W)
    have H2 := Lib.hid h2
    clear h1 h2
    go_enter Tryd.func30, Tryd.ntmps30
    go_wp2_with (go_at_call 21; refine HC.out.mono ?_; rintro e w1 ⟨rfl, rfl⟩)
    go_end0
    exact ⟨rfl, H2.out, hb⟩
  | some t =>
    have HC := Lib.hid (As_calls w t v W (g + 1) 0 h hb ht h2 (by omega))
    unfold firstO
    dsimp only
    generalize t.first = n at *
    clear h h1 h2
    go_enter Tryd.func30, Tryd.ntmps30
    go_wp2_with (go_at_call 21; refine HC.out.mono ?_; rintro e w1 ⟨rfl, hg1, hb1⟩)
    go_end0
    exact ⟨rfl, hg1, hb.trans hb1⟩

theorem first_calls (t : Option Er) (v : Value) (w : World) (h : IsO w t v) (ht : EType w) : Calls Tryd.prog 15 #[v] w fun e w' => e = .returned (.int .i64 (firstO t)) ∧ Below w.heap.size w w' := by
  have hv : ∃ ty x, v = .nilIface ∨ v = .iface ty x := by
    cases t with
    | none => exact ⟨0, .nilIface, .inl h⟩
    | some t => obtain ⟨ty, x, hx⟩ := IsE.iface (t := t) h; exact ⟨ty, x, .inr hx⟩
  have hd : Below w.heap.size w ((w.alloc (.cells #[v] 26)).alloc (.cells #[.int .i64 0] 39)) := ((Below.refl _ _).alloc (Nat.le_refl _) _).alloc (by simp) _
  have HC := Lib.hid (calmly30 _ _ _ _ (first1_calls t v w _ w.heap.size h hd (ht.below hd) ((Blk.new w #[v] 26).alloc _) (by have := Blk.new (w.alloc (.cells #[v] 26)) #[.int .i64 0] 39; simpa using this) (Nat.le_refl _)))
  have hmf := make_func
  generalize firstO t = R at *
  clear h hd ht
  rcases hv with ⟨ty, x, rfl | rfl⟩
  all_goals
    go_enter Tryd.func15, Tryd.ntmps15
    go_wp2_with (go_at_call 23; refine HC.out.mono ?_; rintro e w1 ⟨rfl, hb, hB⟩; have f := hb.cell 0; simp only [List.getElem?_toArray, List.getElem?_cons_zero] at f)
    go_ret
    exact ⟨rfl, hB⟩
end Go.Proofs.YtgpaedknonkioaaDoor
