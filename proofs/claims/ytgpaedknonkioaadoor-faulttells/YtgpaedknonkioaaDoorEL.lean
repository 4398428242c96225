/-
  The contract of fault.All. Conditions: an error that New, In and Both made, of at most a million bytes of text, or nil.
-/
import Derived.Test.YtgpaedknonkioaaDoorEA
namespace Go.Proofs.YtgpaedknonkioaaDoor
open Go.ChangeShapes Go.WideShapes Go.ChangeAt Go.RowKit
set_option linter.unusedVariables false

/-- fault.All. -/
def AllOf (w : World) (r : List Int) (e : Ending) (w' : World) : Prop := ∃ A c, e = .returned (.slice A r.length c) ∧ CellsG enN w' A c r ∧ Below w.heap.size w w'
def allO : Option Er → List Int
  | none => []
  | some t => t.all
theorem all1_calls (t : Option Er) (v : Value) (w W : World) (g : Nat) (h : IsO w t v) (hb : Below w.heap.size w W) (ht : ∀ e, t = some e → e.wt ≤ 1000000) (h1 : Blk W g #[v] 26) (h2 : Blk W (g + 1) #[.slice none 0 0] 34) (hg : w.heap.size ≤ g) :
    Calls Tryd.prog 24 #[.pointer (some ⟨g, 0, none⟩), .pointer (some ⟨g + 1, 0, none⟩)] W fun e w' => e = .returned (.tuple #[]) ∧ ∃ A c, Blk w' (g + 1) #[.slice A (allO t).length c] 34 ∧ CellsG enN w' A c (allO t) ∧ Below w.heap.size w w' := by
  have c1 := h1.cell 0
  have HC : Hid (Calls Tryd.prog 25 #[.slice none 0 0, v] W (Nums w.heap.size W (allO t))) := by
    cases t with
    | none =>
      obtain rfl : v = .nilIface := h
      exact Lib.hid ((addNums_nil none 0 0 W).mono fun e w' ⟨he, hw⟩ => by subst he hw; exact ⟨none, 0, rfl, OwnG.nil _ _, Below.refl _ _, fun _ _ h _ _ => h⟩)
    | some t => exact Lib.hid (addNums_calls w t v W none 0 [] h hb (OwnG.nil _ _) (by have := ht t rfl; simp; omega))
  simp at c1
  have H2 := Lib.hid h2
  clear h h1 h2 ht
  generalize allO t = R at *
  go_enter Tryd.func24, Tryd.ntmps24
  go_wp2_with (go_at_call 25; refine HC.out.mono ?_; rintro e w1 ⟨A1, c1, rfl, ho, hb1, hk⟩; have hB1 := H2.out.kept hk (by decide); have f1 := hB1.cell 0; have f2 := hB1.free 0; simp at f1)
  go_end0
  refine ⟨rfl, A1, c1, ?_, (OwnG.other ho hB1 (by decide) 0 _).cells, (hb.trans hb1).setCell (by simp; omega) _⟩
  have := hB1.set 0 (.slice A1 R.length c1)
  simpa using this

theorem all_calls (t : Option Er) (v : Value) (w : World) (h : IsO w t v) (ht : ∀ e, t = some e → e.wt ≤ 1000000) : Calls Tryd.prog 10 #[v] w (AllOf w (allO t)) := by
  have hv : ∃ ty x, v = .nilIface ∨ v = .iface ty x := by
    cases t with
    | none => exact ⟨0, .nilIface, .inl h⟩
    | some t => obtain ⟨ty, x, hx⟩ := IsE.iface (t := t) h; exact ⟨ty, x, .inr hx⟩
  have hd : Below w.heap.size w ((w.alloc (.cells #[v] 26)).alloc (.cells #[.slice none 0 0] 34)) := ((Below.refl _ _).alloc (Nat.le_refl _) _).alloc (by simp) _
  have HC := Lib.hid (calmly24 _ _ _ _ (all1_calls t v w _ w.heap.size h hd ht ((Blk.new w #[v] 26).alloc _) (by have := Blk.new (w.alloc (.cells #[v] 26)) #[.slice none 0 0] 34; simpa using this) (Nat.le_refl _)))
  have hmf := make_func
  generalize allO t = R at *
  clear h ht hd
  rcases hv with ⟨ty, x, rfl | rfl⟩
  all_goals
    go_enter Tryd.func10, Tryd.ntmps10
    go_wp2_with (go_at_call 23; refine HC.out.mono ?_; rintro e w1 ⟨rfl, A, c, hb, hc, hB⟩; have f := hb.cell 0; simp at f)
    go_ret
    exact ⟨A, c, rfl, hc, hB⟩
end Go.Proofs.YtgpaedknonkioaaDoor
