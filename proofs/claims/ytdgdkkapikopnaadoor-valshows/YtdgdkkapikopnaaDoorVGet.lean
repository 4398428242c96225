/-
  The contract of vint.Get: for every slice of bytes and every index it returns what the plain function getS names, and changes nothing that was there. Conditions: at most a million bytes, each from 0 to 255.
-/
import Derived.Test.YtdgdkkapikopnaaDoorVPut
namespace Go.Proofs.YtdgdkkapikopnaaDoor
open Go.ChangeShapes Go.WideShapes Go.ChangeAt Go.RowKit
set_option linter.unusedVariables false
set_option maxRecDepth 20000

/-- Get answer as a value. -/
def tri (r : Int × Int × Int) : Value := .tuple #[.int .u64 r.1, .int .i64 r.2.1, .int .i64 r.2.2]

theorem andNot_fin : ∀ n : Fin 256, bits .andNot .u8 (n.val : Int) (mk (onesB (n.val : Int) + 1)) = head (n.val : Int) := by decide +kernel
theorem andNot_head (x : Int) (h0 : 0 ≤ x) (h1 : x ≤ 255) : bits .andNot .u8 x (mk (onesB x + 1)) = head x := by
  have h := andNot_fin ⟨x.toNat, by omega⟩
  simpa only [Int.toNat_of_nonneg h0] using h

theorem take_step (l : List Int) (i n k : Nat) (h : k < n) (h2 : i + n ≤ l.length) : ((l.drop i).take n).take (k + 1) = ((l.drop i).take n).take k ++ [l.getD (i + k) 0] := by
  have hk : k < ((l.drop i).take n).length := by simp; omega
  rw [List.take_succ_eq_append_getElem hk]
  congr 2
  simp [show i + k < l.length by omega]

theorem or_join (a y : Int) (h0 : 0 ≤ a) (h1 : a < 72057594037927936) (h2 : 0 ≤ y) (h3 : y ≤ 255) : bits .or .u64 (a * 256) y = 256 * a + y := by
  obtain ⟨a, rfl⟩ := Int.eq_ofNat_of_zero_le h0
  obtain ⟨y, rfl⟩ := Int.eq_ofNat_of_zero_le h2
  rw [show (a : Int) * 256 = ((a * 256 : Nat) : Int) by omega, u64_or_nat _ _ (by omega) (by omega)]
  have h := Nat.shiftLeft_add_eq_or_of_lt (b := y) (i := 8) (by omega) a
  rw [Nat.shiftLeft_eq] at h
  rw [← h]
  omega

/-- While bytes are read the number stays small. -/
theorem dec_part (x : Int) (l : List Int) (h0 : 0 ≤ x) (h1 : x ≤ 255) (hl : ∀ z ∈ l, 0 ≤ z ∧ z ≤ 255) (hk : l.length < onesB x) : 0 ≤ dec (head x) l ∧ dec (head x) l < 72057594037927936 := by
  obtain ⟨b0, b1, b2, _⟩ := head_bound x h0 h1
  have ho := onesB_le x
  refine ⟨dec_nonneg _ _ b0 hl, ?_⟩
  by_cases h : onesB x ≤ 7
  · have hd := dec_lt l (head x) (2 ^ (7 - onesB x)) b0 (b1 h) hl
    have e1 : (2 : Int) ^ (7 - onesB x) ≤ 64 := by
      have : onesB x = 1 ∨ onesB x = 2 ∨ onesB x = 3 ∨ onesB x = 4 ∨ onesB x = 5 ∨ onesB x = 6 ∨ onesB x = 7 := by omega
      rcases this with h | h | h | h | h | h | h <;> rw [h] <;> decide
    have e2 : (256 : Int) ^ l.length ≤ 281474976710656 := by
      have : l.length = 0 ∨ l.length = 1 ∨ l.length = 2 ∨ l.length = 3 ∨ l.length = 4 ∨ l.length = 5 ∨ l.length = 6 := by omega
      rcases this with h | h | h | h | h | h | h <;> rw [h] <;> decide
    have e3 := Int.mul_le_mul e1 e2 (Int.le_of_lt (pow_pos _)) (by omega)
    omega
  · have hd := dec_lt l (head x) 1 b0 (by rw [b2 (by omega)]; omega) hl
    have e2 : (256 : Int) ^ l.length ≤ 72057594037927936 := by
      have : l.length = 0 ∨ l.length = 1 ∨ l.length = 2 ∨ l.length = 3 ∨ l.length = 4 ∨ l.length = 5 ∨ l.length = 6 ∨ l.length = 7 := by omega
      rcases this with h | h | h | h | h | h | h | h <;> rw [h] <;> decide
    omega

theorem getS_main (l : List Int) (i : Nat) (x : Int) (hi : i < l.length) (hx : x = l.getD i 0) (hs : i + onesB x + 1 ≤ l.length) :
    getS l i = if vlen (dec (head x) ((l.drop (i + 1)).take (onesB x))) < onesB x + 1 then (0, 0, 3) else (dec (head x) ((l.drop (i + 1)).take (onesB x)), (i : Int) + (onesB x + 1), 0) := by
  unfold getS
  rw [if_neg (by omega), if_neg (by omega)]
  simp only [Int.toNat_natCast, ← hx]
  rw [if_neg (by omega)]

set_option maxHeartbeats 1000000 in
theorem get_main (b o c : Nat) (l : List Int) (i : Nat) (x : Int) (w : World) (hcell : Hid (∀ i, i < l.length → w.cell? ⟨b, o + i, none⟩ = some (.int .u8 (l.getD i 0)))) (hb : Hid (IsB l)) (hc : l.length ≤ c) (hl : l.length ≤ 1000000)
    (hi : i < l.length) (hx : Hid (x = l.getD i 0)) (hx0 : 0 ≤ x) (hx1 : x ≤ 255) (hs : i + onesB x + 1 ≤ l.length) :
    Calls Tryd.prog 67 #[.slice (some ⟨b, o, none⟩) l.length c, .int .i64 i] w fun e w' => e = .returned (tri (getS l i)) ∧ Below w.heap.size w w' := by
  have hci : w.cell? ⟨b, o + i, none⟩ = some (.int .u8 x) := by rw [hx.out]; exact hcell.out i hi
  have hk := onesB_le x
  have hne : ((i : Int) == (l.length : Int)) = false := by simp; omega
  have hneg : decide ((i : Int) < 0) = false := by simp
  have hlong : decide ((l.length : Int) - (i : Int) < (onesB x : Int) + 1) = false := by simp; omega
  obtain ⟨hd0, hd1, hd2, _⟩ := head_bound x hx0 hx1
  have hd3 : head x ≤ 255 := by
    unfold head
    split
    · have : (0 : Int) < 2 ^ (7 - onesB x) := Int.pow_pos (by omega)
      have h1 := Int.emod_add_mul_ediv x (2 ^ (7 - onesB x))
      have h2 : 0 ≤ x / 2 ^ (7 - onesB x) := Int.ediv_nonneg hx0 (by omega)
      have h3 : 0 ≤ (2 : Int) ^ (7 - onesB x) * (x / 2 ^ (7 - onesB x)) := Int.mul_nonneg (by omega) h2
      omega
    · omega
  have HA := Lib.hid (andNot_head x hx0 hx1)
  clear hd1 hd2
  obtain ⟨A2, C2, hcut, hA2, hC2⟩ := run_cut (some ⟨b, o, none⟩) l.length c (i + 1) (onesB x) ((i : Int) + 1) ((i : Int) + ((onesB x : Int) + 1)) (by omega) (by omega) (by omega)
  have HA2 := Lib.hid hA2
  clear hA2
  go_enter Tryd.func67, Tryd.ntmps67
  go_wp2_with (go_at_call 81; refine (announced_calls _ _ (by omega) (by omega)).mono ?_; rintro e w' ⟨rfl, rfl⟩)
  refine wp_region_still_lit (by kernel_rfl) (by kernel_rfl) ?_
  change wpStill _ _ w.drew _ _ _
  repeat still_step
  still_call ((mark_calls _ _ (by omega) (by omega)).mono (fun e w' ⟨he, hw⟩ => ⟨he, hw.symm⟩))
  repeat still_step
  refine wpStill_nil ?_
  rw [HA.out, IntWalk.u64_in (head x) ⟨by omega, by omega⟩]
  change Exit.then _ _ Exit.normal _ w.drew
  go_wp2_with fail
  go_loop [4, 49] (fun v j => ∃ k : Nat, k ≤ onesB x ∧ j = .int .i64 k ∧ v = .int .u64 (dec (head x) (((l.drop (i + 1)).take (onesB x)).take k))) (fun _ j => onesB x - (intOf j).toNat)
  case atStart => exact ⟨0, by omega, rfl, rfl⟩
  case round =>
    obtain ⟨k, hkl, rfl, rfl⟩ := hrel
    by_cases hlt : k < onesB x
    · obtain rfl := HA2.out (by omega) b o rfl
      have hck : w.cell? ⟨b, o + (i + 1) + k, none⟩ = some (.int .u8 (l.getD (i + 1 + k) 0)) := by
        rw [Nat.add_assoc o]; exact hcell.out (i + 1 + k) (by omega)
      have hyb := hb.out (l.getD (i + 1 + k) 0) (by rw [getD_at (by omega)]; exact List.getElem_mem _)
      have HD := Lib.hid (take_step l (i + 1) (onesB x) k hlt (by omega))
      obtain ⟨y, hy⟩ : ∃ y, y = l.getD (i + 1 + k) 0 := ⟨_, rfl⟩
      rw [← hy] at hck hyb HD
      have HY := Lib.hid hy
      clear hy
      obtain ⟨hy0, hy1⟩ := hyb
      have hlen : (((l.drop (i + 1)).take (onesB x)).take k).length = k := by simp; omega
      obtain ⟨ha0, ha1⟩ := dec_part x (((l.drop (i + 1)).take (onesB x)).take k) hx0 hx1 (fun z hz => hb.out z (List.mem_of_mem_drop (List.mem_of_mem_take (List.mem_of_mem_take hz)))) (by omega)
      have HE := Lib.hid (dec_snoc (head x) y (((l.drop (i + 1)).take (onesB x)).take k))
      clear hlen
      generalize dec (head x) (((l.drop (i + 1)).take (onesB x)).take k) = a at *
      have HJ := Lib.hid (or_join a y ha0 ha1 hy0 hy1)
      go_wp2
      go_round
      case rel => exact ⟨k + 1, by omega, by go_num, by rw [HD.out, HE.out, HJ.out]⟩
      case measure => simp [intOf]; omega
    · obtain rfl : k = onesB x := by omega
      have e1 : ((l.drop (i + 1)).take (onesB x)).take (onesB x) = (l.drop (i + 1)).take (onesB x) := List.take_of_length_le (by simp; omega)
      rw [e1]
      have HG := Lib.hid (getS_main l i x hi hx.out hs)
      have hlen : ((l.drop (i + 1)).take (onesB x)).length = onesB x := by simp; omega
      obtain ⟨hn0, hn1, hn2⟩ := dec_fits x ((l.drop (i + 1)).take (onesB x)) hx0 hx1 (fun z hz => hb.out z (List.mem_of_mem_drop (List.mem_of_mem_take hz))) hlen
      clear hlen e1
      generalize dec (head x) ((l.drop (i + 1)).take (onesB x)) = a at *
      by_cases hv : vlen a < onesB x + 1
      · go_wp2_with (go_at_call 45; refine (len_calls _ _).mono ?_; rintro e w' ⟨rfl, rfl⟩)
        go_ret3
        rw [HG.out, if_pos hv]
        exact ⟨rfl, (Below.refl _ _).drew⟩
      · go_wp2_with (go_at_call 45; refine (len_calls _ _).mono ?_; rintro e w' ⟨rfl, rfl⟩)
        go_ret3
        rw [HG.out, if_neg hv]
        exact ⟨rfl, (Below.refl _ _).drew⟩

set_option maxHeartbeats 1000000 in
theorem get_calls (A : Option Addr) (c : Nat) (l : List Int) (i : Int) (w : World) (h : Lies w A c l) (hb : IsB l) (hc : l.length ≤ c) (hl : l.length ≤ 1000000) :
    Calls Tryd.prog 67 #[.slice A l.length c, .int .i64 i] w fun e w' => e = .returned (tri (getS l i)) ∧ Below w.heap.size w w' := by
  by_cases hr : i < 0 ∨ (l.length : Int) < i
  · have e : getS l i = (0, 0, 8) := by unfold getS; rw [if_pos hr]
    rw [e]
    rcases hr with hr | hr
    · go_enter Tryd.func67, Tryd.ntmps67
      go_wp2
      go_ret3
      exact ⟨rfl, Below.refl _ _⟩
    · have hr' : ¬ i < 0 := by omega
      go_enter Tryd.func67, Tryd.ntmps67
      go_wp2
      go_ret3
      exact ⟨rfl, Below.refl _ _⟩
  · by_cases hz : i = l.length
    · have e : getS l i = (0, 0, 2) := by unfold getS; rw [if_neg hr, if_pos hz]
      rw [e]
      subst hz
      go_enter Tryd.func67, Tryd.ntmps67
      go_wp2
      go_ret3
      exact ⟨rfl, Below.refl _ _⟩
    · obtain ⟨i, rfl⟩ := Int.eq_ofNat_of_zero_le (show 0 ≤ i by omega)
      have hi : i < l.length := by omega
      obtain ⟨b, o, rfl, hbl, hcell⟩ := h.at_ (by omega)
      have hx := hb (l.getD i 0) (by rw [getD_at hi]; exact List.getElem_mem hi)
      obtain ⟨x, ex⟩ : ∃ x, x = l.getD i 0 := ⟨_, rfl⟩
      rw [← ex] at hx
      obtain ⟨hx0, hx1⟩ := hx
      have HC := Lib.hid hcell
      have HX := Lib.hid ex
      have HB := Lib.hid hb
      have hci : w.cell? ⟨b, o + i, none⟩ = some (.int .u8 x) := by rw [ex]; exact hcell i hi
      have hk := onesB_le x
      have hne : ((i : Int) == (l.length : Int)) = false := by simp; omega
      by_cases hs : (l.length : Int) - i < onesB x + 1
      · have e : getS l i = (0, 0, 2) := by
          unfold getS; rw [if_neg hr, if_neg hz]; simp only [Int.toNat_natCast, ← ex]; rw [if_pos hs]
        rw [e]
        clear hcell ex hb e h
        go_enter Tryd.func67, Tryd.ntmps67
        go_wp2_with (go_at_call 81; refine (announced_calls _ _ (by omega) (by omega)).mono ?_; rintro e w' ⟨rfl, rfl⟩)
        go_ret3
        exact ⟨rfl, Below.refl _ _⟩
      · exact get_main b o c l i x w HC HB hc hl hi HX hx0 hx1 (by omega)
/-- The error numbers are small. -/
theorem getS_err (l : List Int) (i : Int) : 0 ≤ (getS l i).2.2 ∧ (getS l i).2.2 ≤ 1000 := by
  unfold getS
  simp only
  repeat' split
  all_goals simp
end Go.Proofs.YtdgdkkapikopnaaDoor
