/-
  Contracts of fault.stagesAround and Stages. Conditions: an error that New, In and Both made, of at most a million bytes of text, or nil.
-/
import Derived.Test.YtgpaedknonkioaaDoorEI
namespace Go.Proofs.YtgpaedknonkioaaDoor
open Go.ChangeShapes Go.WideShapes Go.ChangeAt Go.RowKit
set_option linter.unusedVariables false

def enL (x : ByteArray × Int) : List Value := [.string x.1, .int .i64 x.2, .nilIface]
theorem elL : El 45 3 40 (.agg #[.string ⟨#[]⟩, .int .i64 0, .nilIface]) enL := { info := by kernel_rfl, zero := rfl, pos := by decide, len := fun _ => rfl, one := fun x u hu => by simp [enL] at hu; rcases hu with rfl | rfl | rfl <;> rfl }
def stagesO : Option Er → List (ByteArray × Int)
  | none => []
  | some t => t.stages

def RelSt (w : World) (R : List (ByteArray × Int)) (e l : Value) (wr : World) : Prop :=
  ∃ (t : Option Er) (A : Option Addr) (c : Nat) (xs : List (ByteArray × Int)), IsO w t e ∧ l = .slice A xs.length c ∧ OwnG 45 3 enL w.heap.size wr A c xs ∧ Below w.heap.size w wr ∧ R = xs ++ stagesO t

set_option maxRecDepth 100000 in
set_option maxHeartbeats 4000000 in
theorem stagesAround_calls (t : Option Er) (v : Value) (w : World) (h : IsO w t v) (hl : (stagesO t).length ≤ 1000000) :
    Calls Tryd.prog 31 #[v] w fun e w' => ∃ A c, e = .returned (.slice A (stagesO t).length c) ∧ OwnG 45 3 enL w.heap.size w' A c (stagesO t) ∧ Below w.heap.size w w' := by
  have H := Lib.hid h
  obtain ⟨R, hR⟩ : ∃ R, R = stagesO t := ⟨_, rfl⟩
  rw [← hR] at hl ⊢
  have HR := Lib.hid hR
  clear h hR
  go_enter Tryd.func31, Tryd.ntmps31
  go_wp2
  go_loopw [0, 3] (RelSt w R) (fun v _ _ => SizeOf.sizeOf v)
  case atStart => exact ⟨t, none, 0, [], H.out, rfl, OwnG.nil _ _, Below.refl _ _, HR.out⟩
  case round =>
    obtain ⟨t', A, c, xs, hv, rfl, ho, hb, hres⟩ := hrel
    have HO := Lib.hid ho
    have HS := Lib.hid hres
    clear ho hres
    cases t' with
    | none =>
      obtain rfl : _ = Value.nilIface := hv
      have k1 := s0
      go_wp2
      go_ret
      obtain rfl : R = xs := by rw [HS.out]; simp [stagesO]
      exact ⟨A, c, rfl, HO.out, hb⟩
    | some t' =>
      cases t' with
      | num m =>
        obtain rfl := hv
        have k1 := s39
        go_wp2
        go_ret
        obtain rfl : R = xs := by rw [HS.out]; simp [stagesO, Er.stages]
        exact ⟨A, c, rfl, HO.out, hb⟩
      | two a b =>
        obtain ⟨p, q, d, ua, ub, rfl, _⟩ := hv
        have k1 := s86
        go_wp2
        go_ret
        obtain rfl : R = xs := by rw [HS.out]; simp [stagesO, Er.stages]
        exact ⟨A, c, rfl, HO.out, hb⟩
      | stage s no u =>
        obtain ⟨z, rfl, hx⟩ := hv
        obtain ⟨ty, y, rfl⟩ := hx.iface
        have k1 := s45
        have HX := Lib.hid hx
        have HZ := Lib.hid (slip_size s no (.iface ty y))
        have HN := Lib.hid (show R = xs ++ [(s, no)] ++ stagesO (some u) by rw [HS.out]; simp [stagesO, Er.stages])
        have hxl : xs.length + 1 ≤ 1000000 := by have h1 := congrArg List.length HN.out; simp only [List.length_append, List.length_cons, List.length_nil] at h1; omega
        have b1 := Blk.new wr #[.string s, .int .i64 no, .iface ty y] 45
        have hb1 : Below w.heap.size w (wr.alloc (.cells #[.string s, .int .i64 no, .iface ty y] 45)) := hb.alloc hb.size _
        have HO1 := Lib.hid ((HO.out.alloc (.cells #[.string s, .int .i64 no, .iface ty y] 45)).alloc (.cells #[.string s, .int .i64 no, .nilIface] 45))
        have hb2 := hb1.alloc hb1.size (.cells #[.string s, .int .i64 no, .nilIface] 45)
        have hrow : (Value.slice A xs.length c).ownBlock ≠ some wr.heap.size := fun he => by
          obtain ⟨_, cur, q, hh⟩ := HO.out.row _ he
          exact absurd (Array.getElem?_eq_some_iff.1 hh).1 (Nat.lt_irrefl _)
        have hcs := cells_one_val elL (wr.alloc (.cells #[.string s, .int .i64 no, .iface ty y] 45)) (s, no) #[.string s, .int .i64 no, .nilIface] rfl
        have b2 := b1.alloc (.cells #[.string s, .int .i64 no, .nilIface] 45)
        rw [show (wr.alloc (.cells #[.string s, .int .i64 no, .iface ty y] 45)).heap.size = wr.heap.size + 1 by simp] at hcs
        have HCS := Lib.hid hcs
        clear hx HS hcs
        go_wp2_with (at_builtin; go_must (refine wpList_append_vals elL rfl _ _ 42 Tryd.underlying42 rfl w.heap.size A c xs rfl HO1.out (some ⟨wr.heap.size + 1, 0, none⟩) 1 [(s, no)] rfl HCS.out (by simp; omega) (by omega) hb2.size ?_); intro A3 c3 w3 R3 hR3 hown3 hgrow3; have b3 := b2.grown hgrow3 hrow; have x3 := b3.cell 2; simp only [List.getElem?_toArray, List.getElem?_cons_succ, List.getElem?_cons_zero] at x3)
        go_roundw
        case rel =>
          refine ⟨some u, A3, c3, R3, HX.out, rfl, hown3, HO1.out.grow hb2 hgrow3 hb2.size, ?_⟩
          rw [HN.out, hR3.out]
        case measure => exact HZ.out

theorem stages_calls (t : Option Er) (v : Value) (w : World) (h : IsO w t v) (hl : (stagesO t).length ≤ 1000000) :
    Calls Tryd.prog 16 #[v] w fun e w' => ∃ A c, e = .returned (.slice A (stagesO t).length c) ∧ OwnG 45 3 enL w.heap.size w' A c (stagesO t) ∧ Below w.heap.size w w' := by
  have HC := Lib.hid (stagesAround_calls t v w h hl)
  clear h hl
  generalize stagesO t = R at *
  go_enter Tryd.func16, Tryd.ntmps16
  go_wp2_with (go_at_call 31; refine HC.out.mono ?_; rintro e w1 ⟨A, c, rfl, h1, h2⟩)
  go_ret
  exact ⟨A, c, rfl, h1, h2⟩
end Go.Proofs.YtgpaedknonkioaaDoor
