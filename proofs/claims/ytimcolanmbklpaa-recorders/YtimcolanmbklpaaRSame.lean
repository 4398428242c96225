/-
  Contracts of the document Same, SamePairs, Long and LongPairs. Conditions: strings of at most 2^47 bytes.
  TYPES BY NUMBER: 22 23 48
-/
import Derived.Test.YtimcolanmbklpaaRPutP
import Derived.Test.YtimcolanmbklpaaGS
import Derived.Deep.QuietTactic
import Derived.BigQuiet
namespace Go.Proofs.Ytimcolanmbklpaa
open Go.ChangeShapes Go.WideShapes Go.ChangeAt Go.RowKit
set_option linter.unusedVariables false


/-- Of no more than is asked in the laws. -/
def Small {α : Type} (sz : α → Nat) (xs : List α) : Prop := xs.length ≤ 200 ∧ (xs.map sz).sum ≤ 3000
theorem Small.each {α : Type} {sz : α → Nat} {xs : List α} (h : Small sz xs) : ∀ x ∈ xs, sz x ≤ 3000 := by
  have key : ∀ (xs : List α) (x : α), x ∈ xs → sz x ≤ (xs.map sz).sum := by
    intro xs
    induction xs with
    | nil => intro x hx; simp at hx
    | cons y xs ih =>
      intro x hx
      simp only [List.map_cons, List.sum_cons]
      rcases List.mem_cons.1 hx with rfl | hx
      · omega
      · have := ih x hx; omega
  intro x hx
  have := key xs x hx
  have := h.2
  omega
theorem sum_step {α : Type} {sz : α → Nat} {xs : List α} {k : Nat} {x : α} (h : xs[k]? = some x) : ((xs.take (k + 1)).map sz).sum = ((xs.take k).map sz).sum + sz x := by
  rw [List.take_add_one, h, Option.toList_some, List.map_append, List.sum_append]; simp

/-- The loops: k items have been counted. -/
def RelN2 {α : Type} (sz : α → Nat) (xs : List α) (w : World) (v i : Value) (wr : World) : Prop :=
  ∃ k : Nat, i = .int .i64 k ∧ v = .int .i64 (((xs.take k).map sz).sum : Nat) ∧ k ≤ xs.length ∧ k ≤ 200 ∧ ((xs.take k).map sz).sum ≤ 3000 ∧ Below w.heap.size w wr

set_option maxRecDepth 20000 in
set_option maxHeartbeats 2000000 in
theorem long_calls (D : Option Addr) (d : Nat) (ss : List ByteArray) (w : World) (hs : CellsG enS w D d ss) (hsm : ∀ s ∈ ss, s.size ≤ reachBytes) (hss : ss.length ≤ maxLen) :
    Calls Try.prog 7 #[.slice D ss.length d] w fun e w' => ∃ r, e = .returned (.bool r) ∧ (r = false → Small ByteArray.size ss) ∧ Below w.heap.size w w' := by
  have hm : ss.length ≤ 9223372036854775807 := by unfold maxLen at hss; omega
  have HC := Lib.hid hs
  have HM := Lib.hid hsm
  have hu22 := run_underlying (P := Try.prog) Try.underlying22
  clear hs hsm
  go_enter Try.func7, Try.ntmps7
  go_wp2
  go_loopw [3, 4] (RelN2 ByteArray.size ss w) (fun _ i _ => 200 - (intOf i).toNat)
  case atStart => exact ⟨0, rfl, rfl, by omega, by omega, by simp, Below.refl _ _⟩
  case round =>
    obtain ⟨k, rfl, rfl, hk, hk2, hsum, hb2⟩ := hrel
    obtain ⟨q, hq⟩ : ∃ q, q = ((ss.take k).map ByteArray.size).sum := ⟨_, rfl⟩
    rw [← hq] at hsum ⊢
    have HQ := Lib.hid hq
    clear hq
    by_cases hlt : k < ss.length ∧ k < 200
    · obtain ⟨hlt, hlt2⟩ := hlt
      obtain ⟨b, o, hD, hbs, hcell⟩ := HC.out.at_ elS (by omega)
      obtain ⟨s, hsk⟩ : ∃ s, ss[k]? = some s := ⟨ss[k], by simp [hlt]⟩
      have hck := (hb2.cell (p := ⟨b, o + (k * 1 + 0), none⟩) hbs).trans (hcell k 0 s hsk (by omega))
      rw [Nat.mul_one, Nat.add_zero] at hck
      simp only [enS, List.getElem?_cons_zero] at hck
      subst hD
      have hsz : s.size ≤ 140737488351232 := HM.out s (List.mem_of_getElem? hsk)
      have HN := Lib.hid (sum_step (sz := ByteArray.size) hsk)
      clear hcell hsk
      have hw : wrap64 ((q : Int) + (s.size : Int)) = (q : Int) + (s.size : Int) := by unfold wrap64; omega
      by_cases hbig : 3000 < q + s.size
      · go_wp2
        go_ret
        exact ⟨true, rfl, fun h => (by cases h), hb2⟩
      · go_wp2
        go_roundw
        case rel =>
          refine ⟨k + 1, by go_num, ?_, by omega, by omega, ?_, hb2⟩
          · rw [HN.out, ← HQ.out]; go_num
          · rw [HN.out, ← HQ.out]; omega
        case measure => simp [intOf]; omega
    · by_cases hl : ss.length ≤ 200
      · have hd : decide ((200 : Int) < (ss.length : Int)) = false := by simp; omega
        have hkl : k = ss.length ∨ k = 200 := by omega
        have hfin : Small ByteArray.size ss := by
          refine ⟨hl, ?_⟩
          have := HQ.out
          rw [List.take_of_length_le (by omega)] at this
          omega
        have HF := Lib.hid hfin
        clear hfin
        rcases hkl with hkl | hkl
        · have hd2 : decide ((k : Int) < (ss.length : Int)) = false := by simp; omega
          go_wp2
          go_ret
          exact ⟨false, rfl, fun _ => HF.out, hb2⟩
        · have hd2 : decide ((k : Int) < (ss.length : Int)) = false := by simp; omega
          go_wp2
          go_ret
          exact ⟨false, rfl, fun _ => HF.out, hb2⟩
      · have hd : decide ((200 : Int) < (ss.length : Int)) = true := by simp; omega
        obtain rfl : k = 200 := by omega
        have hd2 : decide (((200 : Nat) : Int) < (ss.length : Int)) = true := by simp; omega
        go_wp2
        go_ret
        exact ⟨true, rfl, fun h => (by cases h), hb2⟩
def szP (p : ByteArray × ByteArray) : Nat := p.1.size + p.2.size

set_option maxRecDepth 20000 in
set_option maxHeartbeats 2000000 in
theorem longPairs_calls (D : Option Addr) (d : Nat) (ss : List (ByteArray × ByteArray)) (w : World) (hs : CellsG enP w D d ss) (hsm : ∀ s ∈ ss, s.1.size ≤ reachBytes ∧ s.2.size ≤ reachBytes) (hss : ss.length ≤ maxLen) :
    Calls Try.prog 8 #[.slice D ss.length d] w fun e w' => ∃ r, e = .returned (.bool r) ∧ (r = false → Small szP ss) ∧ Below w.heap.size w w' := by
  have hm : ss.length ≤ 9223372036854775807 := by unfold maxLen at hss; omega
  have HC := Lib.hid hs
  have HM := Lib.hid hsm
  have hu23 := run_underlying (P := Try.prog) Try.underlying23
  clear hs hsm
  go_enter Try.func8, Try.ntmps8
  go_wp2
  go_loopw [3, 4] (RelN2 szP ss w) (fun _ i _ => 200 - (intOf i).toNat)
  case atStart => exact ⟨0, rfl, rfl, by omega, by omega, by simp, Below.refl _ _⟩
  case round =>
    obtain ⟨k, rfl, rfl, hk, hk2, hsum, hb2⟩ := hrel
    obtain ⟨q, hq⟩ : ∃ q, q = ((ss.take k).map szP).sum := ⟨_, rfl⟩
    rw [← hq] at hsum ⊢
    have HQ := Lib.hid hq
    clear hq
    by_cases hlt : k < ss.length ∧ k < 200
    · obtain ⟨hlt, hlt2⟩ := hlt
      obtain ⟨b, o, hD, hbs, hcell⟩ := HC.out.at_ elP (by omega)
      obtain ⟨s, hsk⟩ : ∃ s, ss[k]? = some s := ⟨ss[k], by simp [hlt]⟩
      have hck0 := (hb2.cell (p := ⟨b, o + (k * 2 + 0), none⟩) hbs).trans (hcell k 0 s hsk (by omega))
      have hck1 := (hb2.cell (p := ⟨b, o + (k * 2 + 1), none⟩) hbs).trans (hcell k 1 s hsk (by omega))
      rw [Nat.add_zero] at hck0
      rw [← Nat.add_assoc] at hck1
      simp only [enP, List.getElem?_cons_zero, List.getElem?_cons_succ] at hck0 hck1
      subst hD
      have hsz := HM.out s (List.mem_of_getElem? hsk)
      have hsz1 : s.1.size ≤ 140737488351232 := hsz.1
      have hsz2 : s.2.size ≤ 140737488351232 := hsz.2
      have HN := Lib.hid (sum_step (sz := szP) hsk)
      have HZ := Lib.hid (show szP s = s.1.size + s.2.size from rfl)
      clear hcell hsk hsz
      have hki : (k : Int) < (ss.length : Int) := by omega
      have hw1 : wrap64 ((q : Int) + (s.1.size : Int)) = (q : Int) + (s.1.size : Int) := by unfold wrap64; omega
      have hw2 : wrap64 ((q : Int) + (s.1.size : Int) + (s.2.size : Int)) = (q : Int) + (s.1.size : Int) + (s.2.size : Int) := by unfold wrap64; omega
      by_cases hbig : 3000 < q + s.1.size + s.2.size
      · go_wp2_with fail
        go_quiet (fail)
        go_wp2
        go_ret
        exact ⟨true, rfl, fun h => (by cases h), (hb2.trans ⟨rfl, rfl, rfl, Nat.le_refl _, fun _ _ => rfl⟩)⟩
      · go_wp2_with fail
        go_quiet (fail)
        go_wp2
        go_roundw
        case rel =>
          refine ⟨k + 1, by go_num, ?_, by omega, by omega, ?_, (hb2.trans ⟨rfl, rfl, rfl, Nat.le_refl _, fun _ _ => rfl⟩)⟩
          · rw [HN.out, ← HQ.out, HZ.out]; go_num
          · rw [HN.out, ← HQ.out, HZ.out]; omega
        case measure => simp [intOf]; omega
    · by_cases hl : ss.length ≤ 200
      · have hd : decide ((200 : Int) < (ss.length : Int)) = false := by simp; omega
        have hkl : k = ss.length ∨ k = 200 := by omega
        have hfin : Small szP ss := by
          refine ⟨hl, ?_⟩
          have := HQ.out
          rw [List.take_of_length_le (by omega)] at this
          omega
        have HF := Lib.hid hfin
        clear hfin
        rcases hkl with hkl | hkl
        · have hd2 : decide ((k : Int) < (ss.length : Int)) = false := by simp; omega
          go_wp2
          go_ret
          exact ⟨false, rfl, fun _ => HF.out, hb2⟩
        · have hd2 : decide ((k : Int) < (ss.length : Int)) = false := by simp; omega
          go_wp2
          go_ret
          exact ⟨false, rfl, fun _ => HF.out, hb2⟩
      · have hd : decide ((200 : Int) < (ss.length : Int)) = true := by simp; omega
        obtain rfl : k = 200 := by omega
        have hd2 : decide (((200 : Nat) : Int) < (ss.length : Int)) = true := by simp; omega
        go_wp2
        go_ret
        exact ⟨true, rfl, fun h => (by cases h), hb2⟩

set_option maxRecDepth 20000 in
set_option maxHeartbeats 2000000 in
theorem same_calls (A B : Option Addr) (c d : Nat) (ss : List ByteArray) (w : World) (ha : CellsG enS w A c ss) (hb : CellsG enS w B d ss) (hss : ss.length ≤ maxLen) :
    Calls Try.prog 17 #[.slice A ss.length c, .slice B ss.length d] w fun e w' => e = .returned (.bool true) ∧ Below w.heap.size w w' := by
  have hm : ss.length ≤ 9223372036854775807 := by unfold maxLen at hss; omega
  have HA := Lib.hid ha
  have HB := Lib.hid hb
  have hu22 := run_underlying (P := Try.prog) Try.underlying22
  clear ha hb
  go_enter Try.func17, Try.ntmps17
  go_wp2
  go_loopw [5] (fun i wr => (∃ k : Nat, k ≤ ss.length ∧ i = .int .i64 k) ∧ Below w.heap.size w wr) (fun i _ => ss.length - (intOf i).toNat)
  case atStart => exact ⟨⟨0, by omega, rfl⟩, Below.refl _ _⟩
  case round =>
    obtain ⟨⟨k, hk, rfl⟩, hb2⟩ := hrel
    by_cases hlt : k < ss.length
    · obtain ⟨b, o, hD, hbs, hcell⟩ := HA.out.at_ elS (by omega)
      obtain ⟨b', o', hD', hbs', hcell'⟩ := HB.out.at_ elS (by omega)
      obtain ⟨s, hsk⟩ : ∃ s, ss[k]? = some s := ⟨ss[k], by simp [hlt]⟩
      have hck := (hb2.cell (p := ⟨b, o + (k * 1 + 0), none⟩) hbs).trans (hcell k 0 s hsk (by omega))
      have hck' := (hb2.cell (p := ⟨b', o' + (k * 1 + 0), none⟩) hbs').trans (hcell' k 0 s hsk (by omega))
      rw [Nat.mul_one, Nat.add_zero] at hck hck'
      simp only [enS, List.getElem?_cons_zero] at hck hck'
      subst hD hD'
      have hki : (k : Int) < (ss.length : Int) := by omega
      clear hcell hcell' hsk
      go_wp2_with fail
      go_quiet (fail)
      go_wp2
      go_roundw
      case rel => exact ⟨⟨k + 1, by omega, by go_num⟩, (hb2.trans ⟨rfl, rfl, rfl, Nat.le_refl _, fun _ _ => rfl⟩)⟩
      case measure => simp [intOf]; omega
    · have hd2 : decide ((k : Int) < (ss.length : Int)) = false := by simp; omega
      go_wp2
      go_ret
      exact ⟨rfl, hb2⟩

set_option maxRecDepth 20000 in
set_option maxHeartbeats 2000000 in
theorem samePairs_calls (A B : Option Addr) (c d : Nat) (ss : List (ByteArray × ByteArray)) (w : World) (ha : CellsG enP w A c ss) (hb : CellsG enP w B d ss) (hss : ss.length ≤ maxLen) :
    Calls Try.prog 18 #[.slice A ss.length c, .slice B ss.length d] w fun e w' => e = .returned (.bool true) ∧ Below w.heap.size w w' := by
  have hm : ss.length ≤ 9223372036854775807 := by unfold maxLen at hss; omega
  have HA := Lib.hid ha
  have HB := Lib.hid hb
  have hu23 := run_underlying (P := Try.prog) Try.underlying23
  clear ha hb
  go_enter Try.func18, Try.ntmps18
  go_wp2
  go_loopw [5] (fun i wr => (∃ k : Nat, k ≤ ss.length ∧ i = .int .i64 k) ∧ Below w.heap.size w wr) (fun i _ => ss.length - (intOf i).toNat)
  case atStart => exact ⟨⟨0, by omega, rfl⟩, Below.refl _ _⟩
  case round =>
    obtain ⟨⟨k, hk, rfl⟩, hb2⟩ := hrel
    by_cases hlt : k < ss.length
    · obtain ⟨b, o, hD, hbs, hcell⟩ := HA.out.at_ elP (by omega)
      obtain ⟨b', o', hD', hbs', hcell'⟩ := HB.out.at_ elP (by omega)
      obtain ⟨⟨s, t⟩, hsk⟩ : ∃ s, ss[k]? = some s := ⟨ss[k], by simp [hlt]⟩
      have hck0 := (hb2.cell (p := ⟨b, o + (k * 2 + 0), none⟩) hbs).trans (hcell k 0 (s, t) hsk (by omega))
      have hck1 := (hb2.cell (p := ⟨b, o + (k * 2 + 1), none⟩) hbs).trans (hcell k 1 (s, t) hsk (by omega))
      have hck0' := (hb2.cell (p := ⟨b', o' + (k * 2 + 0), none⟩) hbs').trans (hcell' k 0 (s, t) hsk (by omega))
      have hck1' := (hb2.cell (p := ⟨b', o' + (k * 2 + 1), none⟩) hbs').trans (hcell' k 1 (s, t) hsk (by omega))
      rw [Nat.add_zero] at hck0 hck0'
      rw [← Nat.add_assoc] at hck1 hck1'
      simp only [enP, List.getElem?_cons_zero, List.getElem?_cons_succ] at hck0 hck1 hck0' hck1'
      subst hD hD'
      have hki : (k : Int) < (ss.length : Int) := by omega
      clear hcell hcell' hsk
      go_wp2_with fail
      go_quiet (fail)
      go_wp2
      go_roundw
      case rel => exact ⟨⟨k + 1, by omega, by go_num⟩, (hb2.trans ⟨rfl, rfl, rfl, Nat.le_refl _, fun _ _ => rfl⟩)⟩
      case measure => simp [intOf]; omega
    · have hd2 : decide ((k : Int) < (ss.length : Int)) = false := by simp; omega
      go_wp2
      go_ret
      exact ⟨rfl, hb2⟩
end Go.Proofs.Ytimcolanmbklpaa
