/-
  Contracts of errors.as, errors.As at a number, fault.First. Conditions: an error that New, In and Both made, or nil; the variable errors.errorType reads as its initialiser lays it.
-/
import Derived.Test.YtgpaedknonkioaaDoorEP
import Derived.Test.YtgpaedknonkioaaDoorEQ
namespace Go.Proofs.YtgpaedknonkioaaDoor
open Go.ChangeShapes Go.WideShapes Go.ChangeAt Go.RowKit
set_option linter.unusedVariables false

def Er.first : Er → Int
  | .num n => n
  | .stage _ _ t => t.first
  | .two a _ => a.first
theorem Er.all_first : ∀ t : Er, ∃ r, t.all = t.first :: r
  | .num n => ⟨[], rfl⟩
  | .stage _ _ t => Er.all_first t
  | .two a b => by obtain ⟨r, h⟩ := Er.all_first a; exact ⟨r ++ b.all, by rw [Er.all, h]; rfl⟩

/-- The world in which a number is looked for: the target g, the Value's own copy of its address at a. -/
def AsIn (B : Nat) (W : World) (g a : Nat) : Prop := (∃ o, Blk W g #[.int .i64 o] 39) ∧ Blk W a #[.pointer (some ⟨g, 0, none⟩)] 53 ∧ B ≤ g ∧ B ≤ W.heap.size
theorem AsIn.below {B : Nat} {W W' : World} {g a : Nat} (h : AsIn B W g a) (hb : Below W.heap.size W W') : AsIn B W' g a := by
  obtain ⟨⟨o, h1⟩, h2, h3, h4⟩ := h
  exact ⟨⟨o, h1.belowAll hb⟩, h2.belowAll hb, h3, Nat.le_trans h4 hb.size⟩
/-- It was found, and is in the target. -/
def AsOf (B g : Nat) (n : Int) (w : World) (e : Ending) (w' : World) : Prop := e = .returned (.bool true) ∧ Blk w' g #[.int .i64 n] 39 ∧ Below B w w'

def RelAs (w0 w : World) (t : Er) (v : Value) (wr : World) : Prop :=
  ∃ t' : Er, IsE w0 t' v ∧ t'.wt ≤ t.wt ∧ t'.first = t.first ∧ Below w.heap.size w wr

set_option maxRecDepth 100000 in
set_option maxHeartbeats 4000000 in
theorem as_step (w0 : World) (t : Er) (v : Value) (w : World) (g a : Nat) (h : IsE w0 t v) (hb : Below w0.heap.size w0 w) (hin : AsIn w0.heap.size w g a)
    (IH : Hid (∀ (t' : Er) (u : Value) (W : World), t'.wt < t.wt → IsE w0 t' u → Below w0.heap.size w0 W → AsIn w0.heap.size W g a → Calls Tryd.prog 38 #[u, .iface 53 (.pointer (some ⟨g, 0, none⟩)), .agg #[.pointer (some ⟨4, 53, none⟩), .pointer (some ⟨a, 0, none⟩), .int .u64 150], .iface 90 (.agg #[.pointer (some ⟨4, 39, none⟩)])] W (AsOf w0.heap.size g t'.first W))) :
    Calls Tryd.prog 38 #[v, .iface 53 (.pointer (some ⟨g, 0, none⟩)), .agg #[.pointer (some ⟨4, 53, none⟩), .pointer (some ⟨a, 0, none⟩), .int .u64 150], .iface 90 (.agg #[.pointer (some ⟨4, 39, none⟩)])] w (AsOf w0.heap.size g t.first w) := by
  have H := Lib.hid h
  have hbx := Blk.new w #[.pointer (some ⟨4, 53, none⟩), .pointer (some ⟨a, 0, none⟩), .int .u64 150] 71
  have hd : Below w.heap.size w (w.alloc (.cells #[.pointer (some ⟨4, 53, none⟩), .pointer (some ⟨a, 0, none⟩), .int .u64 150] 71)) := (Below.refl _ _).alloc (Nat.le_refl _) _
  clear h
  go_enter Tryd.func38, Tryd.ntmps38
  go_wp2
  generalize hW1 : w.alloc (.cells #[.pointer (some ⟨4, 53, none⟩), .pointer (some ⟨a, 0, none⟩), .int .u64 150] 71) = w1 at *
  have hB1 : w0.heap.size ≤ w.heap.size := hin.2.2.2
  have HI := Lib.hid (hin.below hd)
  have hb1 : Below w0.heap.size w0 w1 := hb.trans (hd.mono hB1)
  go_loopw [0] (RelAs w0 w1 t) (fun v _ => SizeOf.sizeOf v)
  case atStart => exact ⟨t, H.out, Nat.le_refl _, rfl, Below.refl _ _⟩
  case round =>
    obtain ⟨t', hv, hwt, hfirst, hbel⟩ := hrel
    obtain ⟨⟨o, i1⟩, i2, i3, i4⟩ := HI.out.below hbel
    have x2 := i2.cell 0
    have bxr := hbx.belowAll hbel
    have y0 := bxr.cell 0
    have y1 := bxr.cell 1
    have y2 := bxr.cell 2
    simp at x2 y0 y1 y2
    have hbw : Below w0.heap.size w wr := (hd.mono hB1).trans (hbel.mono hb1.size)
    cases t' with
    | num m =>
      obtain rfl := hv
      have k1 := call33
      have k2 := methodAssignable
      have k3 := asg39
      have k4 := elemV53 ⟨a, 0, none⟩ ⟨g, 0, none⟩ wr x2
      have k5 := valueOf39 m
      have j1 := i1.alloc (.cells #[.int .i64 m] 39)
      have j2 := Blk.new wr #[.int .i64 m] 39
      have k6 := set39 ⟨g, 0, none⟩ ⟨wr.heap.size, 0, none⟩ m (.int .i64 o) _ (j2.cell 0) (j1.cell 0) (j1.free 0)
      have HF := Lib.hid (show m = t.first from hfirst)
      have j3 := j1.set 0 (.int .i64 m)
      have j4 : Below w0.heap.size w ((wr.alloc (.cells #[.int .i64 m] 39)).setCell ⟨g, 0, none⟩ (.int .i64 m)) := (hbw.alloc i4 _).setCell i3 _
      clear hfirst
      go_wp2
      go_ret
      rw [← HF.out]
      exact ⟨rfl, by simpa using j3, j4⟩
    | stage s no u =>
      obtain ⟨z, rfl, hx⟩ := hv
      obtain ⟨ty, y, rfl⟩ := hx.iface
      have k1 := call33_45
      have k2 := methodAssignable
      have k3 := asg45
      have k4 := as45
      have k5 := un45
      have k6 := slipUn
      have k7 := nil_no ty y
      have HX := Lib.hid hx
      have HW := Lib.hid hwt
      have HF := Lib.hid hfirst
      have HS := Lib.hid (slip_size s no (.iface ty y))
      have HU := Lib.hid (slipUnwrap_calls s no (.iface ty y))
      clear hx hwt hfirst
      go_wp2_with (go_at_call 78; refine (HU.out _).mono ?_; rintro e w2 ⟨rfl, hb2⟩)
      go_roundw
      case rel => exact ⟨u, HX.out, by have := HW.out; simp only [Er.wt] at this; omega, HF.out, Below.on hbel hb2⟩
      case measure => exact HS.out
    | two p q =>
      obtain ⟨b, d, c, ua, uc, rfl, h0, h1, h2, ha, hc⟩ := hv
      have k1 := call33_86
      have k2 := methodAssignable
      have k3 := asg86
      have k4 := as86
      have k5 := un86
      have k6 := us86
      have k7 := joinUn
      have hbr : Below w0.heap.size w0 wr := hb1.trans (hbel.mono hb1.size)
      have e0 := (hbr.cell (block_lt_of_cell h0)).trans h0
      have e1 := (hbr.cell (block_lt_of_cell h1)).trans h1
      obtain ⟨ty, y, rfl⟩ := ha.iface
      have k8 := nil_no ty y
      have HJ := Lib.hid (joinUnwrap_calls b d c wr e0)
      simp only [Er.wt] at hwt
      have HA := Lib.hid (IH.out p _ wr (by omega) ha hbr ⟨⟨o, i1⟩, i2, i3, i4⟩)
      rw [show p.first = t.first from hfirst] at HA
      clear IH ha hc hfirst h0 h1 h2 e0 hwt
      generalize t.first = n at *
      go_wp2_with (go_at_call 83; refine HJ.out.mono ?_; rintro e w2 ⟨rfl, rfl⟩)
      refine wp_loop_rounds 1 ?_
      rw [rounds_succ]
      go_wp2_with (go_at_call 38; refine HA.out.mono ?_; rintro e w2 ⟨rfl, hg2, hb2⟩)
      go_ret
      exact ⟨rfl, hg2, hbw.trans hb2⟩

theorem as_calls (w0 : World) (g a : Nat) : ∀ (N : Nat) (t : Er) (v : Value) (w : World), t.wt ≤ N → IsE w0 t v → Below w0.heap.size w0 w → AsIn w0.heap.size w g a →
    Calls Tryd.prog 38 #[v, .iface 53 (.pointer (some ⟨g, 0, none⟩)), .agg #[.pointer (some ⟨4, 53, none⟩), .pointer (some ⟨a, 0, none⟩), .int .u64 150], .iface 90 (.agg #[.pointer (some ⟨4, 39, none⟩)])] w (AsOf w0.heap.size g t.first w)
  | 0, t, v, w, hN, h, hb, hin => by cases t <;> simp [Er.wt] at hN
  | N + 1, t, v, w, hN, h, hb, hin => as_step w0 t v w g a h hb hin (Lib.hid fun t' u W ht hu hW hi => as_calls w0 g a N t' u W (by omega) hu hW hi)

/-- errors.As(nil, target). -/
theorem As_nil (x : Value) (w : World) : Calls Tryd.prog 21 #[.nilIface, x] w fun e w' => e = .returned (.bool false) ∧ w' = w := by
  go_enter Tryd.func21, Tryd.ntmps21
  go_wp2
  go_ret
  exact ⟨rfl, rfl⟩

theorem nil_no20 (t : TypeId) (x : Value) (w : World) : (binOp .eql 20 (.iface t x) .nilIface).run Tryd.prog w = .ok (.bool false) w := by
  have h : ∀ d : Nat, (Op.equalIn (d + 1) 20 (.iface t x) .nilIface).run Tryd.prog w = .ok false w := fun d => by simp [Op.equalIn, run_underlying Tryd.underlying20]
  simp only [binOp]
  simp [Op.equal, Op.maxDepth, h 9999]

/-- What the variable errors.errorType reads as. -/
def EType (w : World) : Prop := w.cell? ⟨0, 0, none⟩ = some (.iface 90 (.agg #[.pointer (some ⟨4, 26, none⟩)]))
theorem EType.below {w w' : World} (h : EType w) (hb : Below w.heap.size w w') : EType w' := (hb.cell (block_lt_of_cell h)).trans h

set_option maxRecDepth 100000 in
set_option maxHeartbeats 4000000 in
/-- errors.As at a number. -/
theorem As_calls (w0 : World) (t : Er) (v : Value) (w : World) (g : Nat) (o : Int) (h : IsE w0 t v) (hb : Below w0.heap.size w0 w) (ht : EType w) (hg : Blk w g #[.int .i64 o] 39) (hB : w0.heap.size ≤ g) :
    Calls Tryd.prog 21 #[v, .iface 53 (.pointer (some ⟨g, 0, none⟩))] w (AsOf w0.heap.size g t.first w) := by
  have hd : Below w.heap.size w ((w.alloc (.cells #[.pointer (some ⟨g, 0, none⟩)] 53)).alloc (.cells #[.pointer (some ⟨4, 53, none⟩), .pointer (some ⟨w.heap.size, 0, none⟩), .int .u64 150] 71)) := ((Below.refl _ _).alloc (Nat.le_refl _) _).alloc (by simp) _
  have b1 := (Blk.new w #[.pointer (some ⟨g, 0, none⟩)] 53).alloc (.cells #[.pointer (some ⟨4, 53, none⟩), .pointer (some ⟨w.heap.size, 0, none⟩), .int .u64 150] 71)
  have x1 := b1.cell 0
  simp only [List.getElem?_toArray, List.getElem?_cons_zero] at x1
  have ht2 := ht.below hd
  unfold EType at ht2
  have HC := Lib.hid (as_calls w0 g w.heap.size t.wt t v _ (Nat.le_refl _) h (hb.trans (hd.mono hb.size)) ⟨⟨o, hg.belowAll hd⟩, b1, hB, Nat.le_trans hb.size hd.size⟩)
  obtain ⟨ty, y, rfl⟩ := h.iface
  have k1 := nil_no ty y
  have k2 := nil_no20 53 (.pointer (some ⟨g, 0, none⟩))
  have k3 := valueOf53
  have k4 := type53
  have k5 := methodKind
  have k6 := kind53
  have k7 := isNil53 ⟨w.heap.size, 0, none⟩ ⟨g, 0, none⟩ _ x1
  have k8 := methodElem
  have k9 := elem53
  have k10 := kind39
  have k11 := methodImplements
  have k12 := impl39
  have hbd := hd.mono hb.size
  clear h hg ht b1 x1 hd
  generalize t.first = n at *
  go_enter Tryd.func21, Tryd.ntmps21
  go_wp2_with (go_at_call 38; refine HC.out.mono ?_; rintro e w2 ⟨rfl, hg2, hb2⟩)
  go_ret
  exact ⟨rfl, hg2, hbd.trans hb2⟩
end Go.Proofs.YtgpaedknonkioaaDoor
