/-
  The contract of errors.is, errors.Is at a number, fault.Has. Conditions: an error that New, In and Both made, or nil.
-/
import Derived.Test.YtgpaedknonkioaaDoorEA
namespace Go.Proofs.YtgpaedknonkioaaDoor
open Go.ChangeShapes Go.WideShapes Go.ChangeAt Go.RowKit
set_option linter.unusedVariables false

/-- The loop of errors.is: the error that is looked at now. -/
def RelIs (w : World) (n : Int) (t : Er) (v : Value) (wr : World) : Prop :=
  ∃ t' : Er, IsE w t' v ∧ t'.wt ≤ t.wt ∧ (n ∈ t'.all ↔ n ∈ t.all) ∧ Below w.heap.size w wr

theorem slip_size (s : ByteArray) (no : Int) (u : Value) : SizeOf.sizeOf u < SizeOf.sizeOf (Value.iface 45 (.agg #[.string s, .int .i64 no, u])) := by
  simp
  omega

def IsOf (w : World) (b : Bool) (e : Ending) (w' : World) : Prop := e = .returned (.bool b) ∧ Below w.heap.size w w'

set_option maxRecDepth 100000 in
set_option maxHeartbeats 4000000 in
theorem is_step (n : Int) (t : Er) (v : Value) (w : World) (h : IsE w t v) (b : Bool) (hb : b = decide (n ∈ t.all))
    (IH : Hid (∀ (a : Er) (u : Value) (W : World), a.wt < t.wt → IsE W a u → Calls Tryd.prog 34 #[u, .iface 39 (.int .i64 n), .bool true] W (IsOf W (decide (n ∈ a.all))))) :
    Calls Tryd.prog 34 #[v, .iface 39 (.int .i64 n), .bool true] w (IsOf w b) := by
  have H := Lib.hid h
  have HB := Lib.hid hb
  clear h hb
  go_enter Tryd.func34, Tryd.ntmps34
  go_wp2
  go_loopw [0] (RelIs w n t) (fun v _ => SizeOf.sizeOf v)
  case atStart => exact ⟨t, H.out, Nat.le_refl _, Iff.rfl, Below.refl _ _⟩
  case round =>
    obtain ⟨t', hv, hwt, hiff, hbel⟩ := hrel
    cases t' with
    | num m =>
      obtain rfl := hv
      have k1 := eq39 m n
      have k2 := is39
      have k3 := un39
      have k4 := us39
      by_cases hm : m = n
      · subst hm
        have hbt : b = true := by rw [HB.out]; simp [← hiff, Er.all]
        subst hbt
        go_wp2
        go_ret
        exact ⟨rfl, hbel⟩
      · have hbf : b = false := by rw [HB.out]; simp [← hiff, Er.all]; exact fun h => hm h.symm
        have hmb : (m == n) = false := by simpa using hm
        subst hbf
        go_wp2
        go_ret
        exact ⟨rfl, hbel⟩
    | stage s no u =>
      obtain ⟨z, rfl, hx⟩ := hv
      obtain ⟨ty, y, rfl⟩ := hx.iface
      have k1 := eq45 (.agg #[.string s, .int .i64 no, .iface ty y]) (.int .i64 n)
      have k2 := is45
      have k3 := un45
      have k4 := slipUn
      have k5 := nil_no ty y
      have HX := Lib.hid hx
      have HW := Lib.hid hwt
      have HF := Lib.hid hiff
      have hsz := slip_size s no (.iface ty y)
      clear hx hwt hiff
      have HU := Lib.hid (slipUnwrap_calls s no (.iface ty y))
      have HS := Lib.hid hsz
      clear hsz
      go_wp2_with (go_at_call 78; refine (HU.out _).mono ?_; rintro e w1 ⟨rfl, hb1⟩)
      go_roundw
      case rel => exact ⟨u, HX.out, by have := HW.out; simp only [Er.wt] at this; omega, HF.out, Below.on hbel hb1⟩
      case measure => exact HS.out
    | two a c =>
      obtain ⟨p, q, d, ua, uc, rfl, h0, h1, h2, ha, hc⟩ := hv
      have k1 := eq86 (.pointer (some ⟨p, 0, none⟩)) (.int .i64 n)
      have k2 := is86
      have k3 := un86
      have k4 := us86
      have k5 := joinUn
      have e0 := (hbel.cell (block_lt_of_cell h0)).trans h0
      have e1 := (hbel.cell (block_lt_of_cell h1)).trans h1
      have HJ := Lib.hid (joinUnwrap_calls p q d wr e0)
      simp only [Er.wt] at hwt
      have HA := Lib.hid (IH.out a ua wr (by omega) (ha.below hbel))
      have HCC := Lib.hid (fun (W : World) (hW : Below w.heap.size w W) => IH.out c uc W (by omega) (hc.below hW))
      have HE := Lib.hid (fun (W : World) (hW : Below w.heap.size w W) => (hW.cell (p := ⟨q, 1, none⟩) (block_lt_of_cell h2)).trans h2)
      have HBB := Lib.hid (show b = (decide (n ∈ a.all) || decide (n ∈ c.all)) by rw [HB.out]; simp [← hiff, Er.all])
      clear HB IH ha hc hiff h0 h1 h2 e0 hwt
      generalize decide (n ∈ a.all) = ba at *
      generalize decide (n ∈ c.all) = bc at *
      go_wp2_with (go_at_call 83; refine HJ.out.mono ?_; rintro e w1 ⟨rfl, rfl⟩)
      refine wp_loop_rounds 3 ?_
      rw [rounds_succ]
      cases ba with
      | true =>
        obtain rfl : b = true := by rw [HBB.out]; rfl
        go_wp2_with (go_at_call 34; refine HA.out.mono ?_; rintro e w2 ⟨rfl, hb2⟩)
        go_ret
        exact ⟨rfl, Below.on hbel hb2⟩
      | false =>
        obtain rfl : b = bc := by rw [HBB.out]; rfl
        go_wp2_with (go_at_call 34; refine HA.out.mono ?_; rintro e w2 ⟨rfl, hb2⟩)
        have hb12 := Below.on hbel hb2
        have e2 := HE.out w2 hb12
        have HC2 := Lib.hid (HCC.out w2 hb12)
        rw [rounds_succ]
        cases b with
        | true =>
          go_wp2_with (go_at_call 34; refine HC2.out.mono ?_; rintro e w3 ⟨rfl, hb3⟩)
          go_ret
          exact ⟨rfl, Below.on hb12 hb3⟩
        | false =>
          go_wp2_with (go_at_call 34; refine HC2.out.mono ?_; rintro e w3 ⟨rfl, hb3⟩)
          rw [rounds_succ]
          go_wp2
          go_ret
          exact ⟨rfl, Below.on hb12 hb3⟩

theorem is_calls (n : Int) : ∀ (N : Nat) (t : Er) (v : Value) (w : World), t.wt ≤ N → IsE w t v → Calls Tryd.prog 34 #[v, .iface 39 (.int .i64 n), .bool true] w (IsOf w (decide (n ∈ t.all)))
  | 0, t, v, w, hN, h => by cases t <;> simp [Er.wt] at hN
  | N + 1, t, v, w, hN, h => is_step n t v w h _ rfl (Lib.hid fun a u W ha hu => is_calls n N a u W (by omega) hu)
end Go.Proofs.YtgpaedknonkioaaDoor
