/-
  Contracts of rec.Sorted and of the document Sorted. Conditions: strings of at most 2^47 bytes.
  TYPES BY NUMBER: 22 23 48
-/
import Derived.Test.YtimcolanmbklpaaROrd
namespace Go.Proofs.Ytimcolanmbklpaa
open Go.ChangeShapes Go.WideShapes Go.ChangeAt Go.RowKit
set_option linter.unusedVariables false

theorem leq_not (a b : ByteArray) : (Op.bytesLess a.toList b.toList || a.toList == b.toList) = !ltT (sl b) (sl a) := by
  rw [ByteArray.toList_eq, ByteArray.toList_eq, less_ltT, ← sl_nums, ← sl_nums]
  by_cases h : ltT (sl b) (sl a) = true
  · have h1 := ltT_asymm _ _ h
    have h2 : (a.data.toList == b.data.toList) = false := by
      rw [beq_eq_false_iff_ne]
      intro e
      have : sl a = sl b := by rw [sl_nums, sl_nums, e]
      rw [this, ltT_irrefl] at h
      cases h
    rw [h, h1, h2]; rfl
  · have h' : ltT (sl b) (sl a) = false := by simpa using h
    rw [h']
    rcases Bool.eq_false_or_eq_true (ltT (sl a) (sl b)) with h1 | h1
    · rw [h1]; rfl
    · have e : sl a = sl b := ltT_total _ _ h1 h'
      have : a = b := sl_inj e
      subst this
      simp

/-- The loops: the keys have gone up so far. -/
def RelU (ps : List (ByteArray × ByteArray)) (w : World) (i : Value) (wr : World) : Prop :=
  ∃ j : Nat, i = .int .i64 ((j : Int) + 1) ∧ j ≤ ps.length ∧ (∀ k a b, k < j → ps[k]? = some a → ps[k + 1]? = some b → ltT (sl a.1) (sl b.1) = true) ∧ Below w.heap.size w wr
theorem relU_next {ps : List (ByteArray × ByteArray)} {j : Nat} {a b : ByteArray × ByteArray} (h : ∀ k a b, k < j → ps[k]? = some a → ps[k + 1]? = some b → ltT (sl a.1) (sl b.1) = true) (ha : ps[j]? = some a) (hb : ps[j + 1]? = some b) (hlt : ltT (sl a.1) (sl b.1) = true) :
    ∀ k a b, k < j + 1 → ps[k]? = some a → ps[k + 1]? = some b → ltT (sl a.1) (sl b.1) = true := fun k c d hk h1 h2 => by
  by_cases e : k = j
  · subst e; rw [ha] at h1; rw [hb] at h2; cases h1; cases h2; exact hlt
  · exact h k c d (by omega) h1 h2

set_option maxRecDepth 20000 in
set_option maxHeartbeats 2000000 in
theorem sorted_calls (D : Option Addr) (d : Nat) (ps : List (ByteArray × ByteArray)) (w : World) (hs : CellsG enP w D d ps) (hss : ps.length ≤ 1000) :
    Calls Try.prog 23 #[.slice D ps.length d] w fun e w' => e = .returned (.bool (upP ps)) ∧ Below w.heap.size w w' := by
  have HC := Lib.hid hs
  have hu23 := run_underlying (P := Try.prog) Try.underlying23
  obtain ⟨r, hr⟩ : ∃ r, r = upP ps := ⟨_, rfl⟩
  rw [← hr]
  have HR := Lib.hid hr
  clear hs hr
  go_enter Try.func23, Try.ntmps23
  go_wp2
  go_loopw [3] (RelU ps w) (fun i _ => 2000 - (intOf i).toNat)
  case atStart => exact ⟨0, rfl, by omega, fun k a b hk => (by omega), Below.refl _ _⟩
  case round =>
    obtain ⟨j, rfl, hj, hup, hb2⟩ := hrel
    have HU := Lib.hid hup
    clear hup
    by_cases hlt : j + 1 < ps.length
    · obtain ⟨b, o, hD, hbs, hcell⟩ := HC.out.at_ elP (by omega)
      obtain ⟨p, hp⟩ : ∃ s, ps[j]? = some s := ⟨ps[j], by simp⟩
      obtain ⟨q, hq⟩ : ∃ s, ps[j + 1]? = some s := ⟨ps[j + 1], by simp⟩
      have hck0 := (hb2.cell (p := ⟨b, o + (j * 2 + 0), none⟩) hbs).trans (hcell j 0 p hp (by omega))
      have hck1 := (hb2.cell (p := ⟨b, o + ((j + 1) * 2 + 0), none⟩) hbs).trans (hcell (j + 1) 0 q hq (by omega))
      rw [Nat.add_zero] at hck0 hck1
      simp only [enP, List.getElem?_cons_zero] at hck0 hck1
      subst hD
      have HP := Lib.hid hp
      have HQ := Lib.hid hq
      have hle := leq_not q.1 p.1
      clear hcell hp hq
      have h1i : (j : Int) + 1 < (ps.length : Int) := by omega
      have h2i : (j : Int) < (ps.length : Int) := by omega
      by_cases hl : ltT (sl p.1) (sl q.1) = true
      · rw [hl] at hle
        have HN := Lib.hid (relU_next HU.out HP.out HQ.out hl)
        clear hl
        go_wp2_with fail
        go_quiet (fail)
        go_wp2
        go_roundw
        case rel => exact ⟨j + 1, by go_num, by omega, HN.out, hb2.trans ⟨rfl, rfl, rfl, Nat.le_refl _, fun _ _ => rfl⟩⟩
        case measure => simp [intOf]; omega
      · have hl' : ltT (sl p.1) (sl q.1) = false := by simpa using hl
        rw [hl'] at hle
        have HN := Lib.hid (show r = false by rw [HR.out]; exact upP_stop j ps p q HP.out HQ.out hl')
        clear hl hl'
        go_wp2_with fail
        go_quiet (fail)
        go_wp2
        go_ret
        exact ⟨by rw [HN.out]; rfl, hb2.trans ⟨rfl, rfl, rfl, Nat.le_refl _, fun _ _ => rfl⟩⟩
    · have HN := Lib.hid (show r = true by
        rw [HR.out]
        refine upP_all ps fun k a b ha hb => HU.out k a b ?_ ha hb
        have := (List.getElem?_eq_some_iff.1 hb).1
        omega)
      have hd2 : decide ((j : Int) + 1 < (ps.length : Int)) = false := by simp; omega
      go_wp2
      go_ret
      exact ⟨by rw [HN.out]; rfl, hb2⟩

set_option maxRecDepth 20000 in
set_option maxHeartbeats 2000000 in
theorem rsorted_calls (D : Option Addr) (d : Nat) (ps : List (ByteArray × ByteArray)) (w : World) (hs : CellsG enP w D d ps) (hss : ps.length ≤ 1000) (hsm : ∀ s ∈ ps, s.1.size ≤ reachBytes ∧ s.2.size ≤ reachBytes) :
    Calls Try.prog 24 #[.slice D ps.length d] w fun e w' => e = .returned (.bool (upP ps)) ∧ Below w.heap.size w w' := by
  have HC := Lib.hid hs
  have HM := Lib.hid hsm
  have hu23 := run_underlying (P := Try.prog) Try.underlying23
  obtain ⟨r, hr⟩ : ∃ r, r = upP ps := ⟨_, rfl⟩
  rw [← hr]
  have HR := Lib.hid hr
  clear hs hr hsm
  go_enter Try.func24, Try.ntmps24
  go_wp2
  go_loopw [3] (RelU ps w) (fun i _ => 2000 - (intOf i).toNat)
  case atStart => exact ⟨0, rfl, by omega, fun k a b hk => (by omega), Below.refl _ _⟩
  case round =>
    obtain ⟨j, rfl, hj, hup, hb2⟩ := hrel
    have HU := Lib.hid hup
    clear hup
    by_cases hlt : j + 1 < ps.length
    · obtain ⟨b, o, hD, hbs, hcell⟩ := HC.out.at_ elP (by omega)
      obtain ⟨p, hp⟩ : ∃ s, ps[j]? = some s := ⟨ps[j], by simp⟩
      obtain ⟨q, hq⟩ : ∃ s, ps[j + 1]? = some s := ⟨ps[j + 1], by simp⟩
      have hck0 := (hb2.cell (p := ⟨b, o + (j * 2 + 0), none⟩) hbs).trans (hcell j 0 p hp (by omega))
      have hck1 := (hb2.cell (p := ⟨b, o + ((j + 1) * 2 + 0), none⟩) hbs).trans (hcell (j + 1) 0 q hq (by omega))
      rw [Nat.add_zero] at hck0 hck1
      simp only [enP, List.getElem?_cons_zero] at hck0 hck1
      subst hD
      have HP := Lib.hid hp
      have HQ := Lib.hid hq
      have HL := Lib.hid (fun W => less_calls p.1 q.1 W (HM.out p (List.mem_of_getElem? hp)).1 (HM.out q (List.mem_of_getElem? hq)).1)
      clear hcell hp hq
      have h1i : (j : Int) + 1 < (ps.length : Int) := by omega
      have h2i : (j : Int) < (ps.length : Int) := by omega
      by_cases hl : ltT (sl p.1) (sl q.1) = true
      · rw [hl] at HL
        have HN := Lib.hid (relU_next HU.out HP.out HQ.out hl)
        clear hl
        go_wp2_with fail
        go_quiet ((go_at_call 37; refine Calls.quiet_of (HL.out _)))
        go_wp2
        go_roundw
        case rel => exact ⟨j + 1, by go_num, by omega, HN.out, hb2.trans ⟨rfl, rfl, rfl, Nat.le_refl _, fun _ _ => rfl⟩⟩
        case measure => simp [intOf]; omega
      · have hl' : ltT (sl p.1) (sl q.1) = false := by simpa using hl
        rw [hl'] at HL
        have HN := Lib.hid (show r = false by rw [HR.out]; exact upP_stop j ps p q HP.out HQ.out hl')
        clear hl hl'
        go_wp2_with fail
        go_quiet ((go_at_call 37; refine Calls.quiet_of (HL.out _)))
        go_wp2
        go_ret
        exact ⟨by rw [HN.out]; rfl, hb2.trans ⟨rfl, rfl, rfl, Nat.le_refl _, fun _ _ => rfl⟩⟩
    · have HN := Lib.hid (show r = true by
        rw [HR.out]
        refine upP_all ps fun k a b ha hb => HU.out k a b ?_ ha hb
        have := (List.getElem?_eq_some_iff.1 hb).1
        omega)
      have hd2 : decide ((j : Int) + 1 < (ps.length : Int)) = false := by simp; omega
      go_wp2
      go_ret
      exact ⟨by rw [HN.out]; rfl, hb2⟩
end Go.Proofs.Ytimcolanmbklpaa
