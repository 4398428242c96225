/-
  Contracts of errors.Is at a number and of fault.Has. Conditions: an error that New, In and Both made, or nil.
-/
import Derived.Test.YtgpaedknonkioaaDoorEI
namespace Go.Proofs.YtgpaedknonkioaaDoor
open Go.ChangeShapes Go.WideShapes Go.ChangeAt Go.RowKit Go.Extern.Stop Go.Stop Go.Extern
set_option linter.unusedVariables false

theorem call33 (v : Value) (w : World) : (callFunc 33 #[.iface 39 v]).run Tryd.prog w = .ok (.value (.iface 90 (.agg #[.pointer (some ⟨4, 39, none⟩)]))) w := by kernel_rfl
theorem call86 (w : World) : (callFunc 86 #[.agg #[.pointer (some ⟨4, 39, none⟩)]]).run Tryd.prog w = .ok (.value (.bool true)) w := by kernel_rfl
theorem methodComparable (v : Value) (w : World) : (Go.method 249 90 v "Comparable").run Tryd.prog w = .ok (86, v) w := by kernel_rfl

def hasO (t : Option Er) (n : Int) : Bool := match t with | none => false | some t => decide (n ∈ t.all)

theorem eq0 (x : Value) (w : World) : (binOp .eql 26 .nilIface (.iface 39 x)).run Tryd.prog w = .ok (.bool false) w := run_eql_iface_nil_left w 39 x Tryd.underlying26

/-- errors.Is. -/
theorem Is_calls (n : Int) (t : Option Er) (v : Value) (w : World) (h : IsO w t v) : Calls Tryd.prog 20 #[v, .iface 39 (.int .i64 n)] w (IsOf w (hasO t n)) := by
  cases t with
  | none =>
    obtain rfl : v = .nilIface := h
    have k1 := eq0 (.int .i64 n)
    go_enter Tryd.func20, Tryd.ntmps20
    go_wp2
    go_ret
    exact ⟨rfl, Below.refl _ _⟩
  | some t =>
    have HC := Lib.hid (is_calls n t.wt t v w (Nat.le_refl _) h)
    obtain ⟨ty, x, rfl⟩ := IsE.iface (t := t) h
    unfold hasO
    dsimp only
    generalize decide (n ∈ t.all) = b at *
    clear h
    have k1 := nil_no ty x
    have k2 := nil_no 39 (.int .i64 n)
    have k3 := call33
    have k4 := call86
    have k5 := methodComparable
    go_enter Tryd.func20, Tryd.ntmps20
    go_wp2_with (go_at_call 34; refine HC.out.mono ?_; rintro e w1 ⟨rfl, hb1⟩)
    go_ret
    exact ⟨rfl, hb1⟩

theorem has1_calls (n : Int) (t : Option Er) (v : Value) (w W : World) (g : Nat) (h : IsO w t v) (hb : Below w.heap.size w W) (h1 : Blk W g #[v] 26) (h2 : Blk W (g + 1) #[.int .i64 n] 39) (h3 : Blk W (g + 1 + 1) #[.bool false] 4) (hg : w.heap.size ≤ g) :
    Calls Tryd.prog 29 #[.pointer (some ⟨g, 0, none⟩), .pointer (some ⟨g + 1, 0, none⟩), .pointer (some ⟨g + 1 + 1, 0, none⟩)] W fun e w' => e = .returned (.tuple #[]) ∧ (Blk w' (g + 1 + 1) #[.bool (hasO t n)] 4 ∧ Below w.heap.size w w') := by
  have c1 := h1.cell 0
  have c2 := h2.cell 0
  simp at c1 c2
  have HC := Lib.hid (Is_calls n t v W (h.below hb))
  have H3 := Lib.hid h3
  clear h h1 h2 h3
  generalize hasO t n = b at *
  go_enter Tryd.func29, Tryd.ntmps29
  go_wp2_with (go_at_call 20; refine HC.out.mono ?_; rintro e w1 ⟨rfl, hb1⟩; have hB1 := H3.out.belowAll hb1; have f1 := hB1.cell 0; have f2 := hB1.free 0; simp at f1)
  go_end0
  refine ⟨rfl, ?_, (Below.on hb hb1).setCell (by simp; omega) _⟩
  have := hB1.set 0 (.bool b)
  simpa using this

theorem has_calls (n : Int) (t : Option Er) (v : Value) (w : World) (h : IsO w t v) : Calls Tryd.prog 14 #[v, .int .i64 n] w (IsOf w (hasO t n)) := by
  have hv : ∃ ty x, v = .nilIface ∨ v = .iface ty x := by
    cases t with
    | none => exact ⟨0, .nilIface, .inl h⟩
    | some t => obtain ⟨ty, x, hx⟩ := IsE.iface (t := t) h; exact ⟨ty, x, .inr hx⟩
  have hd : Below w.heap.size w (((w.alloc (.cells #[v] 26)).alloc (.cells #[.int .i64 n] 39)).alloc (.cells #[.bool false] 4)) := (((Below.refl _ _).alloc (Nat.le_refl _) _).alloc (by simp) _).alloc (by simp; omega) _
  have HC := Lib.hid (calmly29 _ _ _ _ _ (has1_calls n t v w _ w.heap.size h hd (((Blk.new w #[v] 26).alloc _).alloc _) (by have := (Blk.new (w.alloc (.cells #[v] 26)) #[.int .i64 n] 39).alloc (.cells #[.bool false] 4); simpa using this) (by have := Blk.new ((w.alloc (.cells #[v] 26)).alloc (.cells #[.int .i64 n] 39)) #[.bool false] 4; simpa using this) (Nat.le_refl _)))
  have hmf := make_func
  generalize hasO t n = R at *
  clear h hd
  rcases hv with ⟨ty, x, rfl | rfl⟩
  all_goals
    go_enter Tryd.func14, Tryd.ntmps14
    go_wp2_with (go_at_call 23; refine HC.out.mono ?_; rintro e w1 ⟨rfl, hb, hB⟩; have f := hb.cell 0; simp at f)
    go_ret
    exact ⟨rfl, hB⟩
end Go.Proofs.YtgpaedknonkioaaDoor
