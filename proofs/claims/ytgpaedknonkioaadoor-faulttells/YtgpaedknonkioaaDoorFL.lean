/-
  The contract of the law's long. Conditions: the strings of an input.
-/
import Derived.Test.YtgpaedknonkioaaDoorFM
import Derived.SizedLaws
namespace Go.Proofs.YtgpaedknonkioaaDoor
open Go.ChangeShapes Go.WideShapes Go.ChangeAt Go.RowKit
set_option linter.unusedVariables false

theorem total_append : ∀ (a b : List Ac), total (a ++ b) = total a + total b
  | [], b => by simp [total]
  | x :: a, b => by
    have := total_append a b
    simp only [total, List.cons_append, List.foldr_cons] at *
    omega
theorem total_succ (l : List Ac) (k : Nat) (a : Ac) (h : l[k]? = some a) : total (l.take (k + 1)) = total (l.take k) + a.2.1.size := by
  have hk := (List.getElem?_eq_some_iff.1 h).1
  have he := (List.getElem?_eq_some_iff.1 h).2
  rw [List.take_succ_eq_append_getElem hk, he, total_append]
  simp [total]
theorem total_le (l : List Ac) (k : Nat) : total (l.take k) ≤ total l := by
  conv => rhs; rw [← List.take_append_drop k l]
  rw [total_append]
  omega
theorem total_take {l : List Ac} {j k : Nat} (h : j ≤ k) : total (l.take j) ≤ total (l.take k) := by
  have := total_le (l.take k) j
  rwa [List.take_take, Nat.min_eq_left h] at this

def RelL (w : World) (l : List Ac) (n i : Value) (wr : World) : Prop :=
  ∃ k m : Nat, n = .int .i64 m ∧ i = .int .i64 k ∧ m = total (l.take k) ∧ m ≤ 2000 ∧ k ≤ l.length ∧ k ≤ 40 ∧ wr = w

set_option maxRecDepth 100000 in
set_option maxHeartbeats 2000000 in
theorem long_calls (A : Option Addr) (c : Nat) (l : List Ac) (w : World) (h : CellsG enA w A c l) (hl : l.length ≤ maxLen) (hs : ∀ a ∈ l, a.2.1.size ≤ reachBytes) :
    Calls Tryd.prog 6 #[.slice A l.length c] w fun e w' => e = .returned (.bool (decide (2000 < total (l.take 40)))) ∧ w' = w := by
  have H := Lib.hid h
  have HS := Lib.hid hs
  obtain ⟨r, hr⟩ : ∃ r, r = decide (2000 < total (l.take 40)) := ⟨_, rfl⟩
  rw [← hr]
  have HR := Lib.hid hr
  clear h hs hr
  go_enter Tryd.func6, Tryd.ntmps6
  go_wp2
  go_loopw [3, 4] (RelL w l) (fun _ i _ => 40 - (intOf i).toNat)
  case atStart => exact ⟨0, 0, rfl, rfl, by simp [total], by omega, Nat.zero_le _, by omega, rfl⟩
  case round =>
    obtain ⟨k, m, rfl, rfl, hm, hm2, hk1, hk2, rfl⟩ := hrel
    by_cases h1 : k < l.length
    · have i1 : (k : Int) < (l.length : Int) := by omega
      by_cases h2 : k < 40
      · have i2 : (k : Int) < 40 := by omega
        obtain ⟨b, o, rfl, hbs, hcell⟩ := H.out.at_ elA (by omega)
        obtain ⟨⟨d, st, no, n⟩, ha⟩ : ∃ a, l[k]? = some a := ⟨l[k], by simp [h1]⟩
        have q1 : wr.cell? ⟨b, o + k * 4 + 1, none⟩ = some (.string st) := hcell k 1 _ ha (by omega)
        have hst : st.size ≤ 140737488351232 := HS.out (d, st, no, n) (List.mem_of_getElem? ha)
        have ht := total_succ l k _ ha
        have HM := Lib.hid (show total (l.take (k + 1)) = m + st.size by rw [ht, ← hm])
        have hw : wrap64 ((m : Int) + (st.size : Int)) = (m : Int) + (st.size : Int) := by unfold wrap64; omega
        clear hcell ht hm
        by_cases h3 : 2000 < m + st.size
        · have i3 : (2000 : Int) < (m : Int) + (st.size : Int) := by omega
          have hrt : r = true := by
            rw [HR.out]
            have := total_take (l := l) (show k + 1 ≤ 40 by omega)
            rw [HM.out] at this
            simp only [decide_eq_true_eq]
            omega
          subst hrt
          go_wp2
          go_ret
          exact ⟨rfl, rfl⟩
        · have i3 : ¬ (2000 : Int) < (m : Int) + (st.size : Int) := by omega
          go_wp2
          go_roundw
          case rel => exact ⟨k + 1, m + st.size, by first | go_num | (rw [hw]; go_num), by go_num, HM.out.symm, by omega, h1, h2, rfl⟩
          case measure => simp [intOf]; omega
      · have i2 : ¬ (k : Int) < 40 := by omega
        have hrf : r = false := by
          rw [HR.out]
          have h4 : k = 40 := by omega
          subst h4
          simp only [decide_eq_false_iff_not]
          omega
        subst hrf
        go_wp2
        go_ret
        exact ⟨rfl, rfl⟩
    · have i1 : ¬ (k : Int) < (l.length : Int) := by omega
      have hrf : r = false := by
        rw [HR.out]
        have h4 : l.take 40 = l.take k := by rw [List.take_of_length_le (by omega), List.take_of_length_le (by omega)]
        rw [h4]
        simp only [decide_eq_false_iff_not]
        omega
      subst hrf
      go_wp2
      go_ret
      exact ⟨rfl, rfl⟩
end Go.Proofs.YtgpaedknonkioaaDoor
