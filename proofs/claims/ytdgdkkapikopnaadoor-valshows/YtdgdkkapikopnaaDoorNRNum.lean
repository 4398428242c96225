/-
  Contract of the document's Number of layer 8 (a text as a number). Condition: the text is as long as an input can be.
-/
import Derived.Test.YtdgdkkapikopnaaDoorNItoa
import Derived.Test.YtdgdkkapikopnaaDoorVOrd
namespace Go.Proofs.YtdgdkkapikopnaaDoor
open Go.ChangeShapes Go.WideShapes Go.ChangeAt Go.RowKit
set_option linter.unusedVariables false
set_option maxRecDepth 20000

/-- The first loop: digits so far. -/
def RelF (t : ByteArray) (w : World) (i : Value) (wr : World) : Prop := ∃ k : Nat, i = .int .i64 k ∧ k ≤ t.size ∧ (t.data.toList.take k).all isDig = true ∧ wr = w
/-- The second loop: the number so far, below zero. -/
def RelG (t : ByteArray) (w : World) (n i : Value) (wr : World) : Prop := ∃ (k : Nat) (x : Int), n = .int .i64 x ∧ i = .int .i64 k ∧ k ≤ t.size ∧ Hid (x = -(dval 0 (t.data.toList.take k) : Int)) ∧ -9223372036854775808 ≤ x ∧ x ≤ 0 ∧ wr = w
theorem relG_start (t : ByteArray) (w : World) : RelG t w (.int .i64 0) (.int .i64 0) w := ⟨0, 0, rfl, rfl, Nat.zero_le _, Lib.hid rfl, by omega, by omega, rfl⟩
theorem wrap_dig (z : Int) (h0 : 0 ≤ z) (h1 : z ≤ 255) : wrap64 (wrap64 z - 48) = z - 48 := by unfold wrap64; omega
theorem wrap_next (x z : Int) (h0 : -922337203685477580 ≤ x) (h1 : x ≤ 0) (h2 : -9223372036854775808 ≤ 10 * x - z) (h3 : -48 ≤ z) : wrap64 (wrap64 (10 * x) - z) = 10 * x - z := by unfold wrap64; omega
theorem wrap_neg (x : Int) (h0 : -9223372036854775807 ≤ x) (h1 : x ≤ 0) : wrap64 (-x) = -x := by unfold wrap64; omega
theorem size_list (t : ByteArray) : t.data.toList.length = t.size := by simp
theorem data_at (t : ByteArray) (k : Nat) (h : k < t.size) : t.data.toList[k]? = some t[k] := by
  have : k < t.data.toList.length := by simpa using h
  rw [List.getElem?_eq_getElem this]; rfl
theorem take_all_succ {t : ByteArray} {k : Nat} (h : k < t.size) (ha : (t.data.toList.take k).all isDig = true) (hx : isDig t[k] = true) : (t.data.toList.take (k + 1)).all isDig = true := by
  rw [List.take_add_one, data_at t k h, List.all_append, ha]
  simpa using hx
theorem not_all {t : ByteArray} {k : Nat} (h : k < t.size) (hx : isDig t[k] = false) : t.data.toList.all isDig = false := by
  rw [Bool.eq_false_iff]
  intro hall
  have := List.all_eq_true.1 hall t[k] (List.mem_of_getElem? (data_at t k h))
  rw [hx] at this; cases this
theorem isDig_at {t : ByteArray} {k : Nat} (h : k < t.size) (ha : t.data.toList.all isDig = true) : 48 ≤ t[k].toNat ∧ t[k].toNat ≤ 57 := by
  have := List.all_eq_true.1 ha t[k] (List.mem_of_getElem? (data_at t k h))
  unfold isDig at this
  simpa using this
/-- One digit more: it is too much, or it is there. -/
theorem dstep {t : ByteArray} {k : Nat} {x : Int} (h : k < t.size) (ha : t.data.toList.all isDig = true) (hx : x = -(dval 0 (t.data.toList.take k) : Int)) :
    -(dval 0 (t.data.toList.take (k + 1)) : Int) = 10 * x - (((t[k].toNat : Nat) : Int) - 48) := by
  rw [dval_take_succ (data_at t k h), hx]
  have := isDig_at h ha
  omega
theorem numD_form {L : List UInt8} {D : List UInt8} (hD : digitsOf L = D) (h : D = [] ∨ D.all isDig = false) : numD L = (0, 3) := by
  unfold numD; rw [hD, if_pos h]
theorem numD_much {L : List UInt8} {D : List UInt8} (hD : digitsOf L = D) (h0 : D ≠ []) (h1 : D.all isDig = true) (h : 9223372036854775808 < dval 0 D) : numD L = (0, 8) := by
  unfold numD
  rw [hD, if_neg (fun h => by rcases h with h | h; exact h0 h; rw [h1] at h; cases h)]
  split
  · rw [if_neg (by omega)]
  · rw [if_neg (by omega)]
theorem numD_minus {L : List UInt8} {D : List UInt8} (hD : digitsOf L = D) (hm : minusOf L = true) (h0 : D ≠ []) (h1 : D.all isDig = true) (h : dval 0 D ≤ 9223372036854775808) : numD L = (-(dval 0 D : Int), 0) := by
  unfold numD
  rw [hD, if_neg (fun h => by rcases h with h | h; exact h0 h; rw [h1] at h; cases h), if_pos hm, if_pos h]
theorem numD_plus {L : List UInt8} {D : List UInt8} (hD : digitsOf L = D) (hm : minusOf L = false) (h0 : D ≠ []) (h1 : D.all isDig = true) : numD L = if dval 0 D < 9223372036854775808 then ((dval 0 D : Int), 0) else (0, 8) := by
  unfold numD
  rw [hD, if_neg (fun h => by rcases h with h | h; exact h0 h; rw [h1] at h; cases h), if_neg (by rw [hm]; decide)]
theorem dval_end {t : ByteArray} {k : Nat} (h : ¬ k < t.size) : dval 0 (t.data.toList.take k) = dval 0 t.data.toList := by
  rw [List.take_of_length_le (by have := size_list t; omega)]

set_option maxHeartbeats 4000000 in
theorem rnumber_calls (s : ByteArray) (hs : s.size ≤ reachBytes) (w : World) : Calls Tryd.prog 16 #[.string s] w fun e w' => e = .returned (.tuple #[.int .i64 (numD s.data.toList).1, .int .i64 (numD s.data.toList).2]) ∧ w' = w := by
  have hs2 : s.size ≤ 140737488351232 := hs
  clear hs
  obtain ⟨r, hr⟩ : ∃ r, r = numD s.data.toList := ⟨_, rfl⟩
  rw [← hr]
  have HR := Lib.hid hr
  clear hr
  by_cases h0 : 0 < s.size
  · have h0i : (0 : Int) < (s.size : Int) := by omega
    have hL : s.data.toList = s[0] :: s.data.toList.drop 1 := by
      have h9 := data_at s 0 h0
      cases hl : s.data.toList with
      | nil => rw [hl] at h9; simp at h9
      | cons c q => rw [hl] at h9; simp at h9; rw [h9]; rfl
    by_cases hm : s[0].toNat = 45
    · have hmb : (((s[0].toNat : Nat) : Int) == 45) = true := by simp; omega
      obtain ⟨t, ht⟩ : ∃ t : ByteArray, t = s.extract 1 s.size := ⟨_, rfl⟩
      have hcut : ∀ W, (Instr.slice 9 (.string s) (some (.int .i64 1)) none none).run Tryd.prog W = .ok (.string t) W := fun W => by
        rw [run_slice_string_from_if W 9 s .i64 1 Tryd.underlying9, if_pos (by omega), ht]; rfl
      have htl : t.data.toList = s.data.toList.drop 1 := by
        rw [ht, ByteArray.data_extract, Array.toList_extract]
        have e : s.data.toList.length = s.size := by simp
        simp only [List.extract]
        rw [List.take_of_length_le (by rw [List.length_drop, e]; omega)]
      have hD : digitsOf s.data.toList = t.data.toList := by
        rw [htl, hL]
        show (if s[0].toNat = 45 then _ else _) = _
        rw [if_pos hm]; rfl
      have hM : minusOf s.data.toList = true := by rw [hL]; show decide (s[0].toNat = 45) = true; simpa using hm
      have htz : t.size = s.size - 1 := by
        have e1 : t.data.toList.length = t.size := by simp
        have e2 : s.data.toList.length = s.size := by simp
        rw [← e1, htl, List.length_drop, e2]
      have hts : t.size ≤ 140737488351232 := by omega
      have HD := Lib.hid hD
      have HM := Lib.hid hM
      clear ht htl hD hM htz hL
      by_cases ht0 : t.size = 0
      · have hzi : ((t.size : Int) == 0) = true := beq_iff_eq.2 (by omega)
        have hl : t.data.toList = [] := List.eq_nil_of_length_eq_zero (by have := size_list t; omega)
        have HE := Lib.hid (show r = (0, 3) by rw [HR.out]; exact numD_form HD.out (.inl hl))
        clear ht0 hl
        go_enter Tryd.func16, Tryd.ntmps16
        go_wp2
        go_ret2
        exact ⟨by rw [HE.out]; rfl, rfl⟩
      · have hzi : ((t.size : Int) == 0) = false := beq_eq_false_iff_ne.2 (by omega)
        have hne : t.data.toList ≠ [] := fun h => ht0 (by rw [← size_list t, h]; rfl)
        have HNE := Lib.hid hne
        clear hne
        go_enter Tryd.func16, Tryd.ntmps16
        go_wp2
        go_loopw [5] (RelF t w) (fun i _ => t.size - (intOf i).toNat)
        case atStart => exact ⟨0, rfl, by omega, rfl, rfl⟩
        case round =>
          obtain ⟨k, rfl, hk, hall, rfl⟩ := hrel
          have HA := Lib.hid hall
          clear hall
          by_cases hlt : k < t.size
          · have h1i : (k : Int) < (t.size : Int) := by omega
            by_cases hx : isDig t[k] = true
            · have hx2 : 48 ≤ t[k].toNat ∧ t[k].toNat ≤ 57 := by unfold isDig at hx; simpa using hx
              have e1 : decide (((t[k].toNat : Nat) : Int) < 48) = false := by simp; omega
              have e2 : decide ((57 : Int) < ((t[k].toNat : Nat) : Int)) = false := by simp; omega
              have HA2 := Lib.hid (take_all_succ hlt HA.out hx)
              clear hx hx2
              go_wp2
              go_roundw
              case rel => exact ⟨k + 1, by go_num, by omega, HA2.out, rfl⟩
              case measure => simp [intOf]; omega
            · have hx' : isDig t[k] = false := by simpa using hx
              have HE := Lib.hid (show r = (0, 3) by rw [HR.out]; exact numD_form HD.out (.inr (not_all hlt hx')))
              by_cases h48 : t[k].toNat < 48
              · have e1 : decide (((t[k].toNat : Nat) : Int) < 48) = true := by simp; omega
                clear hx hx'
                go_wp2
                go_ret2
                exact ⟨by rw [HE.out]; rfl, rfl⟩
              · have h57 : 57 < t[k].toNat := by
                  unfold isDig at hx
                  simp at hx
                  omega
                have e1 : decide (((t[k].toNat : Nat) : Int) < 48) = false := by simp; omega
                have e2 : decide ((57 : Int) < ((t[k].toNat : Nat) : Int)) = true := by simp; omega
                clear hx hx'
                go_wp2
                go_ret2
                exact ⟨by rw [HE.out]; rfl, rfl⟩
          · have hd1 : decide ((k : Int) < (t.size : Int)) = false := by simp; omega
            have hall : t.data.toList.all isDig = true := by
              have e : t.data.toList.take k = t.data.toList := List.take_of_length_le (by have := size_list t; omega)
              rw [← e]; exact HA.out
            have HAL := Lib.hid hall
            clear hall HA
            go_wp2

            go_loopw [6, 7] (RelG t wr) (fun _ i _ => t.size - (intOf i).toNat)
            case atStart => exact relG_start t wr
            case round =>
              obtain ⟨j, x, rfl, rfl, hj, hxv, hx0, hx1, rfl⟩ := hrel
              by_cases hlt : j < t.size
              · have h1i : (j : Int) < (t.size : Int) := by omega
                have hst := dstep hlt HAL.out hxv.out
                have hxy := isDig_at hlt HAL.out
                obtain ⟨y, hy⟩ : ∃ y : Int, y = 10 * x - (((t[j].toNat : Nat) : Int) - 48) := ⟨_, rfl⟩
                rw [← hy] at hst
                have hw1 : wrap64 (wrap64 ((t[j].toNat : Nat) : Int) - 48) = ((t[j].toNat : Nat) : Int) - 48 := wrap_dig _ (by omega) (by omega)
                have hle := dval_take_le t.data.toList (j + 1)
                by_cases hbig : y < -9223372036854775808
                · have HE := Lib.hid (show r = (0, 8) by rw [HR.out]; exact numD_much HD.out HNE.out HAL.out (by omega))
                  by_cases ht1 : x < -922337203685477580
                  · have e1 : decide (x < -922337203685477580) = true := by simpa using ht1
                    clear hst hxy hle hbig hy hw1
                    go_wp2
                    go_ret2
                    exact ⟨by rw [HE.out]; rfl, rfl⟩
                  · have e1 : decide (x < -922337203685477580) = false := by simpa using ht1
                    have hx3 : x = -922337203685477580 := by omega
                    have e2 : (x == -922337203685477580) = true := by simpa using hx3
                    have e3 : decide ((8 : Int) < wrap64 (wrap64 ((t[j].toNat : Nat) : Int) - 48)) = true := decide_eq_true (by omega)
                    clear hst hxy hle hbig hy hx3 hw1
                    go_wp2
                    go_ret2
                    exact ⟨by rw [HE.out]; rfl, rfl⟩
                · have e1 : decide (x < -922337203685477580) = false := by simp; omega
                  have hw3 : wrap64 (wrap64 (10 * x) - wrap64 (wrap64 ((t[j].toNat : Nat) : Int) - 48)) = y := by rw [hw1, wrap_next x _ (by omega) hx1 (by rw [← hy]; omega) (by omega), ← hy]
                  have HNX := Lib.hid (show RelG t wr (.int .i64 (wrap64 (wrap64 (10 * x) - wrap64 (wrap64 ((t[j].toNat : Nat) : Int) - 48)))) (.int .i64 ((j : Int) + 1)) wr from ⟨j + 1, y, by rw [hw3], by go_num, by omega, Lib.hid (by omega), by omega, by omega, rfl⟩)
                  by_cases hx3 : x = -922337203685477580
                  · have e2 : (x == -922337203685477580) = true := by simpa using hx3
                    have e3 : decide ((8 : Int) < wrap64 (wrap64 ((t[j].toNat : Nat) : Int) - 48)) = false := decide_eq_false (by omega)
                    clear hst hxy hle hbig hx3 hw1 hw3 hy
                    go_wp2
                    go_roundw
                    case rel => exact HNX.out
                    case measure => simp [intOf]; omega
                  · have e2 : (x == -922337203685477580) = false := by simpa using hx3
                    clear hst hxy hle hbig hx3 hw1 hw3 hy
                    go_wp2
                    go_roundw
                    case rel => exact HNX.out
                    case measure => simp [intOf]; omega
              · have hd2 : decide ((j : Int) < (t.size : Int)) = false := by simp; omega
                have hxe : x = -(dval 0 t.data.toList : Int) := by rw [hxv.out, dval_end hlt]
                have HE := Lib.hid (show r = (x, 0) by rw [HR.out, numD_minus HD.out HM.out HNE.out HAL.out (by omega), hxe])
                clear hxe
                go_wp2
                go_ret2
                exact ⟨by rw [HE.out]; rfl, rfl⟩
    · have hmb : (((s[0].toNat : Nat) : Int) == 45) = false := by simp; omega
      have hD : digitsOf s.data.toList = s.data.toList := by
        rw [hL]
        show (if s[0].toNat = 45 then _ else _) = _
        rw [if_neg hm]
      have hM : minusOf s.data.toList = false := by rw [hL]; show decide (s[0].toNat = 45) = false; simpa using hm
      have HD := Lib.hid hD
      have HM := Lib.hid hM
      have hts := hs2
      clear hD hM hL
      by_cases ht0 : s.size = 0
      · have hzi : ((s.size : Int) == 0) = true := beq_iff_eq.2 (by omega)
        have hl : s.data.toList = [] := List.eq_nil_of_length_eq_zero (by have := size_list s; omega)
        have HE := Lib.hid (show r = (0, 3) by rw [HR.out]; exact numD_form HD.out (.inl hl))
        clear ht0 hl
        go_enter Tryd.func16, Tryd.ntmps16
        go_wp2
        go_ret2
        exact ⟨by rw [HE.out]; rfl, rfl⟩
      · have hzi : ((s.size : Int) == 0) = false := beq_eq_false_iff_ne.2 (by omega)
        have hne : s.data.toList ≠ [] := fun h => ht0 (by rw [← size_list s, h]; rfl)
        have HNE := Lib.hid hne
        clear hne
        go_enter Tryd.func16, Tryd.ntmps16
        go_wp2
        go_loopw [5] (RelF s w) (fun i _ => s.size - (intOf i).toNat)
        case atStart => exact ⟨0, rfl, by omega, rfl, rfl⟩
        case round =>
          obtain ⟨k, rfl, hk, hall, rfl⟩ := hrel
          have HA := Lib.hid hall
          clear hall
          by_cases hlt : k < s.size
          · have h1i : (k : Int) < (s.size : Int) := by omega
            by_cases hx : isDig s[k] = true
            · have hx2 : 48 ≤ s[k].toNat ∧ s[k].toNat ≤ 57 := by unfold isDig at hx; simpa using hx
              have e1 : decide (((s[k].toNat : Nat) : Int) < 48) = false := by simp; omega
              have e2 : decide ((57 : Int) < ((s[k].toNat : Nat) : Int)) = false := by simp; omega
              have HA2 := Lib.hid (take_all_succ hlt HA.out hx)
              clear hx hx2
              go_wp2
              go_roundw
              case rel => exact ⟨k + 1, by go_num, by omega, HA2.out, rfl⟩
              case measure => simp [intOf]; omega
            · have hx' : isDig s[k] = false := by simpa using hx
              have HE := Lib.hid (show r = (0, 3) by rw [HR.out]; exact numD_form HD.out (.inr (not_all hlt hx')))
              by_cases h48 : s[k].toNat < 48
              · have e1 : decide (((s[k].toNat : Nat) : Int) < 48) = true := by simp; omega
                clear hx hx'
                go_wp2
                go_ret2
                exact ⟨by rw [HE.out]; rfl, rfl⟩
              · have h57 : 57 < s[k].toNat := by
                  unfold isDig at hx
                  simp at hx
                  omega
                have e1 : decide (((s[k].toNat : Nat) : Int) < 48) = false := by simp; omega
                have e2 : decide ((57 : Int) < ((s[k].toNat : Nat) : Int)) = true := by simp; omega
                clear hx hx'
                go_wp2
                go_ret2
                exact ⟨by rw [HE.out]; rfl, rfl⟩
          · have hd1 : decide ((k : Int) < (s.size : Int)) = false := by simp; omega
            have hall : s.data.toList.all isDig = true := by
              have e : s.data.toList.take k = s.data.toList := List.take_of_length_le (by have := size_list s; omega)
              rw [← e]; exact HA.out
            have HAL := Lib.hid hall
            clear hall HA
            go_wp2

            go_loopw [6, 7] (RelG s wr) (fun _ i _ => s.size - (intOf i).toNat)
            case atStart => exact relG_start s wr
            case round =>
              obtain ⟨j, x, rfl, rfl, hj, hxv, hx0, hx1, rfl⟩ := hrel
              by_cases hlt : j < s.size
              · have h1i : (j : Int) < (s.size : Int) := by omega
                have hst := dstep hlt HAL.out hxv.out
                have hxy := isDig_at hlt HAL.out
                obtain ⟨y, hy⟩ : ∃ y : Int, y = 10 * x - (((s[j].toNat : Nat) : Int) - 48) := ⟨_, rfl⟩
                rw [← hy] at hst
                have hw1 : wrap64 (wrap64 ((s[j].toNat : Nat) : Int) - 48) = ((s[j].toNat : Nat) : Int) - 48 := wrap_dig _ (by omega) (by omega)
                have hle := dval_take_le s.data.toList (j + 1)
                by_cases hbig : y < -9223372036854775808
                · have HE := Lib.hid (show r = (0, 8) by rw [HR.out]; exact numD_much HD.out HNE.out HAL.out (by omega))
                  by_cases ht1 : x < -922337203685477580
                  · have e1 : decide (x < -922337203685477580) = true := by simpa using ht1
                    clear hst hxy hle hbig hy hw1
                    go_wp2
                    go_ret2
                    exact ⟨by rw [HE.out]; rfl, rfl⟩
                  · have e1 : decide (x < -922337203685477580) = false := by simpa using ht1
                    have hx3 : x = -922337203685477580 := by omega
                    have e2 : (x == -922337203685477580) = true := by simpa using hx3
                    have e3 : decide ((8 : Int) < wrap64 (wrap64 ((s[j].toNat : Nat) : Int) - 48)) = true := decide_eq_true (by omega)
                    clear hst hxy hle hbig hy hx3 hw1
                    go_wp2
                    go_ret2
                    exact ⟨by rw [HE.out]; rfl, rfl⟩
                · have e1 : decide (x < -922337203685477580) = false := by simp; omega
                  have hw3 : wrap64 (wrap64 (10 * x) - wrap64 (wrap64 ((s[j].toNat : Nat) : Int) - 48)) = y := by rw [hw1, wrap_next x _ (by omega) hx1 (by rw [← hy]; omega) (by omega), ← hy]
                  have HNX := Lib.hid (show RelG s wr (.int .i64 (wrap64 (wrap64 (10 * x) - wrap64 (wrap64 ((s[j].toNat : Nat) : Int) - 48)))) (.int .i64 ((j : Int) + 1)) wr from ⟨j + 1, y, by rw [hw3], by go_num, by omega, Lib.hid (by omega), by omega, by omega, rfl⟩)
                  by_cases hx3 : x = -922337203685477580
                  · have e2 : (x == -922337203685477580) = true := by simpa using hx3
                    have e3 : decide ((8 : Int) < wrap64 (wrap64 ((s[j].toNat : Nat) : Int) - 48)) = false := decide_eq_false (by omega)
                    clear hst hxy hle hbig hx3 hw1 hw3 hy
                    go_wp2
                    go_roundw
                    case rel => exact HNX.out
                    case measure => simp [intOf]; omega
                  · have e2 : (x == -922337203685477580) = false := by simpa using hx3
                    clear hst hxy hle hbig hx3 hw1 hw3 hy
                    go_wp2
                    go_roundw
                    case rel => exact HNX.out
                    case measure => simp [intOf]; omega
              · have hd2 : decide ((j : Int) < (s.size : Int)) = false := by simp; omega
                have hxe : x = -(dval 0 s.data.toList : Int) := by rw [hxv.out, dval_end hlt]
                by_cases hmin : x = -9223372036854775808
                · have e1 : (x == -9223372036854775808) = true := by simpa using hmin
                  have HE := Lib.hid (show r = (0, 8) by rw [HR.out, numD_plus HD.out HM.out HNE.out HAL.out, if_neg (by omega)])
                  clear hxe hmin
                  go_wp2
                  go_ret2
                  exact ⟨by rw [HE.out]; rfl, rfl⟩
                · have e1 : (x == -9223372036854775808) = false := by simpa using hmin
                  have hw4 : wrap64 (-x) = -x := wrap_neg x (by omega) hx1
                  have HE := Lib.hid (show r = (wrap64 (-x), 0) by rw [hw4, HR.out, numD_plus HD.out HM.out HNE.out HAL.out, if_pos (by omega), hxe]; simp)
                  clear hxe hmin hw4
                  go_wp2
                  go_ret2
                  exact ⟨by rw [HE.out]; rfl, rfl⟩
  · have h0d : decide ((0 : Int) < (s.size : Int)) = false := decide_eq_false (by omega)
    have hz : s.size = 0 := by omega
    have hzi : ((s.size : Int) == 0) = true := beq_iff_eq.2 (by omega)
    have hl : s.data.toList = [] := List.eq_nil_of_length_eq_zero (by have := size_list s; omega)
    have HE := Lib.hid (show r = (0, 3) by rw [HR.out, hl]; rfl)
    clear hz h0 hl
    go_enter Tryd.func16, Tryd.ntmps16
    go_wp2
    go_ret2
    exact ⟨by rw [HE.out]; rfl, rfl⟩
end Go.Proofs.YtdgdkkapikopnaaDoor
