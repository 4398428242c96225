/-
  The contract of the document Get (gristmillref01.Get): the same answer as vint.Get. Conditions: as there.
-/
import Derived.Test.YtdgdkkapikopnaaDoorVGet
namespace Go.Proofs.YtdgdkkapikopnaaDoor
open Go.ChangeShapes Go.WideShapes Go.ChangeAt Go.RowKit
set_option linter.unusedVariables false
set_option maxRecDepth 20000

set_option maxHeartbeats 1000000 in
theorem rget_main (b o c : Nat) (l : List Int) (i : Nat) (x : Int) (w : World) (hcell : Hid (∀ i, i < l.length → w.cell? ⟨b, o + i, none⟩ = some (.int .u8 (l.getD i 0)))) (hb : Hid (IsB l)) (hc : l.length ≤ c) (hl : l.length ≤ 1000000)
    (hi : i < l.length) (hx : Hid (x = l.getD i 0)) (hx0 : 0 ≤ x) (hx1 : x ≤ 255) (hs : i + onesB x + 1 ≤ l.length) :
    Calls Tryd.prog 49 #[.slice (some ⟨b, o, none⟩) l.length c, .int .i64 i] w fun e w' => e = .returned (tri (getS l i)) ∧ Below w.heap.size w w' := by
  have hci : w.cell? ⟨b, o + i, none⟩ = some (.int .u8 x) := by rw [hx.out]; exact hcell.out i hi
  have hk := onesB_le x
  have hne : ((i : Int) == (l.length : Int)) = false := by simp; omega
  have hneg : decide ((i : Int) < 0) = false := by simp
  have hlong : decide ((l.length : Int) - (i : Int) < (onesB x : Int) + 1) = false := by simp; omega
  by_cases h7 : onesB x ≤ 7
  · have h7d : decide ((onesB x : Int) + 1 ≤ 8) = true := by simp; omega
    have HH := Lib.hid (show head x = x % 2 ^ (7 - onesB x) by unfold head; rw [if_pos h7])
    have hw8 : IntKind.i64.wrap (8 - ((onesB x : Int) + 1)) = 7 - (onesB x : Int) := by rw [IntWalk.i64_in _ ⟨by omega, by omega⟩]; omega
    have hwx : IntKind.u64.wrap x = x := IntWalk.u64_in x ⟨by omega, by omega⟩
    have htm : x.tmod (2 ^ (7 - (onesB x : Int)).toNat) = head x := by rw [HH.out, Int.tmod_eq_emod_of_nonneg hx0, show (7 - (onesB x : Int)).toNat = 7 - onesB x by omega]
    have hpos : (0 : Int) < 2 ^ (7 - (onesB x : Int)).toNat := Int.pow_pos (by omega)
    go_enter Tryd.func49, Tryd.ntmps49
    go_wp2_with (go_at_call 68; refine (ones_calls _ _ (by omega) (by omega)).mono ?_; rintro e w' ⟨rfl, rfl⟩)
    refine wp_region_still_lit (by kernel_rfl) (by kernel_rfl) ?_
    change wpStill _ _ w.drew _ _ _
    repeat still_step
    still_call ((power_calls _ _ (by omega) (by omega)).mono (fun e w' ⟨he, hw⟩ => ⟨he, hw.symm⟩))
    generalize (2 : Int) ^ (7 - (onesB x : Int)).toNat = p at *
    have hp0 : ¬ p = 0 := by omega
    repeat still_step
    refine wpStill_nil ?_
    change Exit.then _ _ Exit.normal _ w.drew
    clear htm hpos hp0 hw8 hwx
    go_wp2_with fail
    go_loop [8, 9] (fun v j => ∃ k : Nat, k ≤ onesB x ∧ j = .int .i64 ((i : Int) + 1 + k) ∧ v = .int .u64 (dec (head x) (((l.drop (i + 1)).take (onesB x)).take k))) (fun _ j => i + 1 + onesB x - (intOf j).toNat)
    case atStart => exact ⟨0, by omega, by go_num, rfl⟩
    case round =>
      obtain ⟨k, hkl, rfl, rfl⟩ := hrel
      by_cases hlt : k < onesB x
      · have hck : w.cell? ⟨b, o + (i + 1 + k), none⟩ = some (.int .u8 (l.getD (i + 1 + k) 0)) := hcell.out (i + 1 + k) (by omega)
        have hyb := hb.out (l.getD (i + 1 + k) 0) (by rw [getD_at (by omega)]; exact List.getElem_mem _)
        have HD := Lib.hid (take_step l (i + 1) (onesB x) k hlt (by omega))
        obtain ⟨y, hy⟩ : ∃ y, y = l.getD (i + 1 + k) 0 := ⟨_, rfl⟩
        rw [← hy] at hck hyb HD
        have HY := Lib.hid hy
        clear hy
        obtain ⟨hy0, hy1⟩ := hyb
        have hlen : (((l.drop (i + 1)).take (onesB x)).take k).length = k := by simp; omega
        obtain ⟨ha0, ha1⟩ := dec_part x (((l.drop (i + 1)).take (onesB x)).take k) hx0 hx1 (fun z hz => hb.out z (List.mem_of_mem_drop (List.mem_of_mem_take (List.mem_of_mem_take hz)))) (by omega)
        have HE := Lib.hid (dec_snoc (head x) y (((l.drop (i + 1)).take (onesB x)).take k))
        clear hlen
        generalize dec (head x) (((l.drop (i + 1)).take (onesB x)).take k) = a at *
        go_wp2
        go_round
        case rel => exact ⟨k + 1, by omega, by go_num, by rw [HD.out, HE.out]⟩
        case measure => simp [intOf]; omega
      · obtain rfl : k = onesB x := by omega
        have e1 : ((l.drop (i + 1)).take (onesB x)).take (onesB x) = (l.drop (i + 1)).take (onesB x) := List.take_of_length_le (by simp; omega)
        rw [e1]
        have HG := Lib.hid (getS_main l i x hi hx.out hs)
        have hlen : ((l.drop (i + 1)).take (onesB x)).length = onesB x := by simp; omega
        obtain ⟨hn0, hn1, hn2⟩ := dec_fits x ((l.drop (i + 1)).take (onesB x)) hx0 hx1 (fun z hz => hb.out z (List.mem_of_mem_drop (List.mem_of_mem_take hz))) hlen
        clear hlen e1
        generalize dec (head x) ((l.drop (i + 1)).take (onesB x)) = a at *
        by_cases hv : vlen a < onesB x + 1
        · have hvv : ((vlen a : Int) != (onesB x : Int) + 1) = true := by rw [bne_iff_ne]; omega
          go_wp2_with (go_at_call 50; refine (rlen_calls _ _).mono ?_; rintro e w' ⟨rfl, rfl⟩)
          go_ret3
          rw [HG.out, if_pos hv]
          exact ⟨rfl, (Below.refl _ _).drew⟩
        · have hvv : ((vlen a : Int) != (onesB x : Int) + 1) = false := by simp; omega
          go_wp2_with (go_at_call 50; refine (rlen_calls _ _).mono ?_; rintro e w' ⟨rfl, rfl⟩)
          go_ret3
          rw [HG.out, if_neg hv]
          exact ⟨rfl, (Below.refl _ _).drew⟩
  · have h8d : decide ((onesB x : Int) + 1 ≤ 8) = false := by simp; omega
    have HH := Lib.hid (show (0 : Int) = head x by unfold head; rw [if_neg h7])
    go_enter Tryd.func49, Tryd.ntmps49
    go_wp2_with (go_at_call 68; refine (ones_calls _ _ (by omega) (by omega)).mono ?_; rintro e w' ⟨rfl, rfl⟩)
    go_loop [8, 9] (fun v j => ∃ k : Nat, k ≤ onesB x ∧ j = .int .i64 ((i : Int) + 1 + k) ∧ v = .int .u64 (dec (head x) (((l.drop (i + 1)).take (onesB x)).take k))) (fun _ j => i + 1 + onesB x - (intOf j).toNat)
    case atStart => exact ⟨0, by omega, by go_num, by rw [HH.out]; rfl⟩
    case round =>
      obtain ⟨k, hkl, rfl, rfl⟩ := hrel
      by_cases hlt : k < onesB x
      · have hck : w.cell? ⟨b, o + (i + 1 + k), none⟩ = some (.int .u8 (l.getD (i + 1 + k) 0)) := hcell.out (i + 1 + k) (by omega)
        have hyb := hb.out (l.getD (i + 1 + k) 0) (by rw [getD_at (by omega)]; exact List.getElem_mem _)
        have HD := Lib.hid (take_step l (i + 1) (onesB x) k hlt (by omega))
        obtain ⟨y, hy⟩ : ∃ y, y = l.getD (i + 1 + k) 0 := ⟨_, rfl⟩
        rw [← hy] at hck hyb HD
        have HY := Lib.hid hy
        clear hy
        obtain ⟨hy0, hy1⟩ := hyb
        have hlen : (((l.drop (i + 1)).take (onesB x)).take k).length = k := by simp; omega
        obtain ⟨ha0, ha1⟩ := dec_part x (((l.drop (i + 1)).take (onesB x)).take k) hx0 hx1 (fun z hz => hb.out z (List.mem_of_mem_drop (List.mem_of_mem_take (List.mem_of_mem_take hz)))) (by omega)
        have HE := Lib.hid (dec_snoc (head x) y (((l.drop (i + 1)).take (onesB x)).take k))
        clear hlen
        generalize dec (head x) (((l.drop (i + 1)).take (onesB x)).take k) = a at *
        go_wp2
        go_round
        case rel => exact ⟨k + 1, by omega, by go_num, by rw [HD.out, HE.out]⟩
        case measure => simp [intOf]; omega
      · obtain rfl : k = onesB x := by omega
        have e1 : ((l.drop (i + 1)).take (onesB x)).take (onesB x) = (l.drop (i + 1)).take (onesB x) := List.take_of_length_le (by simp; omega)
        rw [e1]
        have HG := Lib.hid (getS_main l i x hi hx.out hs)
        have hlen : ((l.drop (i + 1)).take (onesB x)).length = onesB x := by simp; omega
        obtain ⟨hn0, hn1, hn2⟩ := dec_fits x ((l.drop (i + 1)).take (onesB x)) hx0 hx1 (fun z hz => hb.out z (List.mem_of_mem_drop (List.mem_of_mem_take hz))) hlen
        clear hlen e1
        generalize dec (head x) ((l.drop (i + 1)).take (onesB x)) = a at *
        by_cases hv : vlen a < onesB x + 1
        · have hvv : ((vlen a : Int) != (onesB x : Int) + 1) = true := by rw [bne_iff_ne]; omega
          go_wp2_with (go_at_call 50; refine (rlen_calls _ _).mono ?_; rintro e w' ⟨rfl, rfl⟩)
          go_ret3
          rw [HG.out, if_pos hv]
          exact ⟨rfl, Below.refl _ _⟩
        · have hvv : ((vlen a : Int) != (onesB x : Int) + 1) = false := by simp; omega
          go_wp2_with (go_at_call 50; refine (rlen_calls _ _).mono ?_; rintro e w' ⟨rfl, rfl⟩)
          go_ret3
          rw [HG.out, if_neg hv]
          exact ⟨rfl, Below.refl _ _⟩

set_option maxHeartbeats 1000000 in
theorem rget_calls (A : Option Addr) (c : Nat) (l : List Int) (i : Int) (w : World) (h : Lies w A c l) (hb : IsB l) (hc : l.length ≤ c) (hl : l.length ≤ 1000000) :
    Calls Tryd.prog 49 #[.slice A l.length c, .int .i64 i] w fun e w' => e = .returned (tri (getS l i)) ∧ Below w.heap.size w w' := by
  by_cases hr : i < 0 ∨ (l.length : Int) < i
  · have e : getS l i = (0, 0, 8) := by unfold getS; rw [if_pos hr]
    rw [e]
    rcases hr with hr | hr
    · go_enter Tryd.func49, Tryd.ntmps49
      go_wp2
      go_ret3
      exact ⟨rfl, Below.refl _ _⟩
    · have hr' : ¬ i < 0 := by omega
      go_enter Tryd.func49, Tryd.ntmps49
      go_wp2
      go_ret3
      exact ⟨rfl, Below.refl _ _⟩
  · by_cases hz : i = l.length
    · have e : getS l i = (0, 0, 2) := by unfold getS; rw [if_neg hr, if_pos hz]
      rw [e]
      subst hz
      go_enter Tryd.func49, Tryd.ntmps49
      go_wp2
      go_ret3
      exact ⟨rfl, Below.refl _ _⟩
    · obtain ⟨i, rfl⟩ := Int.eq_ofNat_of_zero_le (show 0 ≤ i by omega)
      have hi : i < l.length := by omega
      obtain ⟨b, o, rfl, hbl, hcell⟩ := h.at_ (by omega)
      have hx := hb (l.getD i 0) (by rw [getD_at hi]; exact List.getElem_mem hi)
      obtain ⟨x, ex⟩ : ∃ x, x = l.getD i 0 := ⟨_, rfl⟩
      rw [← ex] at hx
      obtain ⟨hx0, hx1⟩ := hx
      have HC := Lib.hid hcell
      have HX := Lib.hid ex
      have HB := Lib.hid hb
      have hci : w.cell? ⟨b, o + i, none⟩ = some (.int .u8 x) := by rw [ex]; exact hcell i hi
      have hk := onesB_le x
      have hne : ((i : Int) == (l.length : Int)) = false := by simp; omega
      by_cases hs : (l.length : Int) - i < onesB x + 1
      · have e : getS l i = (0, 0, 2) := by
          unfold getS; rw [if_neg hr, if_neg hz]; simp only [Int.toNat_natCast, ← ex]; rw [if_pos hs]
        rw [e]
        clear hcell ex hb e h
        go_enter Tryd.func49, Tryd.ntmps49
        go_wp2_with (go_at_call 68; refine (ones_calls _ _ (by omega) (by omega)).mono ?_; rintro e w' ⟨rfl, rfl⟩)
        go_ret3
        exact ⟨rfl, Below.refl _ _⟩
      · exact rget_main b o c l i x w HC HB hc hl hi HX hx0 hx1 (by omega)
end Go.Proofs.YtdgdkkapikopnaaDoor
