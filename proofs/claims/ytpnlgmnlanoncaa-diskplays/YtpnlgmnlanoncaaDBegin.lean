/-
  Contracts of code, valid and begin: names are looked at, a call is counted. Conditions: names of at most maxLen bytes, at most maxLen of them.
-/
import Derived.Test.YtpnlgmnlanoncaaDRep
import Derived.Test.YtpnlgmnlanoncaaGS
namespace Go.Proofs.Ytpnlgmnlanoncaa
open Go.ChangeShapes Go.WideShapes Go.ChangeAt Go.RowKit
set_option linter.unusedVariables false

theorem elS : El 9 1 16 (.string ByteArray.empty) enS := ⟨by kernel_rfl, rfl, by decide, fun _ => rfl, fun x u hu => by simp [enS] at hu; subst hu; rfl⟩
theorem code_calls (x : Int) (w : World) : Calls Try.prog 10 #[.int .i64 x] w fun e w' => e = .returned (.int .i64 x) ∧ w = w' := by
  go_enter Try.func10, Try.ntmps10
  go_wp2
  go_ret
  exact ⟨rfl, rfl⟩

theorem valid_nil (v : Value) (w : World) : Calls Try.prog 36 #[.pointer none, v] w fun e w' => e = .returned (.int .i64 7) ∧ w = w' := by
  go_enter Try.func36, Try.ntmps36
  go_wp2
  go_ret
  exact ⟨rfl, rfl⟩

/-- The loop over names: none of the first k is wrong. -/
def RelV (ss : List ByteArray) (w : World) (i : Value) (wr : World) : Prop := ∃ k : Nat, i = .int .i64 k ∧ k ≤ ss.length ∧ (ss.take k).any bad = false ∧ wr = w
theorem any_step {ss : List ByteArray} {k : Nat} {s : ByteArray} (h : ss[k]? = some s) : (ss.take (k + 1)).any bad = ((ss.take k).any bad || bad s) := by
  rw [List.take_add_one, h]; simp
theorem any_bad {ss : List ByteArray} {k : Nat} {s : ByteArray} (h : ss[k]? = some s) (hb : bad s = true) : ss.any bad = true := by
  rw [List.any_eq_true]; exact ⟨s, List.mem_of_getElem? h, hb⟩
theorem valid_calls (sb : Nat) (A : Option Addr) (c : Nat) (ss : List ByteArray) (w : World) (hs : CellsG enS w A c ss) (hsm : ∀ s ∈ ss, s.size ≤ maxLen) (hss : ss.length ≤ maxLen) :
    Calls Try.prog 36 #[at_ sb, .slice A ss.length c] w fun e w' => e = .returned (.int .i64 (if ss.any bad then 1 else 0)) ∧ w = w' := by
  have hm : ss.length ≤ 9223372036854775807 := by unfold maxLen at hss; omega
  have HC := Lib.hid hs
  have HM := Lib.hid hsm
  have hu55 := run_underlying (P := Try.prog) Try.underlying55
  clear hs hsm
  obtain ⟨r, hr⟩ : ∃ r : Int, r = if ss.any bad then 1 else 0 := ⟨_, rfl⟩
  rw [← hr]
  have HR := Lib.hid hr
  clear hr
  unfold at_
  go_enter Try.func36, Try.ntmps36
  go_wp2
  go_loopw [11] (RelV ss w) (fun i _ => ss.length - (intOf i).toNat)
  case atStart => exact ⟨0, rfl, by omega, by simp, rfl⟩
  case round =>
    obtain ⟨k, rfl, hk, hany, rfl⟩ := hrel
    by_cases hlt : k < ss.length
    · obtain ⟨b, o, hD, hbs, hcell⟩ := HC.out.at_ elS (by omega)
      obtain ⟨s, hsk⟩ : ∃ s, ss[k]? = some s := ⟨ss[k], by simp [hlt]⟩
      have hck := hcell k 0 s hsk (by omega)
      rw [Nat.mul_one, Nat.add_zero] at hck
      simp only [enS, List.getElem?_cons_zero] at hck
      subst hD
      have hsz : s.size ≤ maxLen := HM.out s (List.mem_of_getElem? hsk)
      unfold maxLen at hsz
      have HS := Lib.hid hsk
      have HA := Lib.hid hany
      clear hcell hsk hany
      by_cases h1 : s.size < 1
      · have hd : decide ((s.size : Int) < 1) = true := by simp; omega
        have HRR := Lib.hid (show r = 1 by rw [HR.out, if_pos (any_bad HS.out (by simp [bad, h1]))])
        go_wp2
        go_ret
        exact ⟨by rw [HRR.out]; rfl, rfl⟩
      · have hd : decide ((s.size : Int) < 1) = false := by simp; omega
        by_cases h2 : 64 < s.size
        · have hd2 : decide ((64 : Int) < (s.size : Int)) = true := by simp; omega
          have HRR := Lib.hid (show r = 1 by rw [HR.out, if_pos (any_bad HS.out (by simp [bad, h2]))])
          go_wp2
          go_ret
          exact ⟨by rw [HRR.out]; rfl, rfl⟩
        · have hd2 : decide ((64 : Int) < (s.size : Int)) = false := by simp; omega
          have HN := Lib.hid (show (ss.take (k + 1)).any bad = false by rw [any_step HS.out, HA.out]; simp [bad, h1, h2])
          go_wp2
          go_roundw
          case rel => exact ⟨k + 1, by go_num, by omega, HN.out, rfl⟩
          case measure => simp [intOf]; omega
    · have hd : decide ((k : Int) < (ss.length : Int)) = false := by simp; omega
      have HRR := Lib.hid (show r = 0 by
        rw [HR.out]
        rw [List.take_of_length_le (by omega)] at hany
        rw [hany]; rfl)
      go_wp2
      go_ret
      exact ⟨by rw [HRR.out]; rfl, rfl⟩

section
variable {S S' : Nat → Prop} {w w' : World} {sb bm : Nat} {L : List Fr} {D : DataW Value} {d d' : St}
/-- The disk's struct is written, nothing else. -/
theorem Open.redo (h : Open S w sb bm L D d) (hb : Blk w' sb (dcells bm d') 62) (hk : ∀ k, k ≠ sb → w'.heap[k]? = w.heap[k]?) (hl : w'.heap.size = w.heap.size) (hf : d'.fs = d.fs) (ho : Ok d') : Open S w' sb bm L D d' where
  blk := hb
  inS := h.inS
  mapS := h.mapS
  lt := fun k hk => by rw [hl]; exact h.lt k hk
  own := by
    obtain ⟨es, cl, hb, r⟩ := h.own
    exact ⟨es, cl, (hk _ h.bm_ne).trans hb, r⟩
  rel := h.rel
  files := fun r hr => by
    have hn := h.file_ne hr
    exact (h.files r hr).kept (hk _ hn.1) (fun a ha => hk _ (hn.2.2 a ha).1) (fun _ hk => hk)
  sep := h.sep
  fs := h.fs.trans hf.symm
  ok := ho
theorem Open.cells (h : Open S w sb bm L D d) : w.cell? ⟨sb, 0, none⟩ = some (.map (some bm)) ∧ w.cell? ⟨sb, 1, none⟩ = some (.int .i64 (d.cap - total d.fs)) ∧ w.cell? ⟨sb, 2, none⟩ = some (.int .i64 d.left) ∧ w.cell? ⟨sb, 3, none⟩ = some (.bool d.dead) :=
  ⟨h.blk.cell 0, h.blk.cell 1, h.blk.cell 2, h.blk.cell 3⟩
theorem setCell_size (w : World) (a : Addr) (v : Value) : (w.setCell a v).heap.size = w.heap.size := by simp [World.setCell]
end
theorem Ok.burn {d : St} (h : Ok d) : Ok (burn d) := by
  unfold Go.Proofs.Ytpnlgmnlanoncaa.burn
  split
  · rename_i h0; exact ⟨h.srt, h.lo, h.hi, h.fits, h.many, fun _ => h0, h.small, h.files⟩
  · split
    · rename_i h0 h1
      refine ⟨h.srt, h.lo, h.hi, h.fits, h.many, fun hd => absurd (h.dead hd) h0, ?_, h.files⟩
      have := h.small
      exact ⟨by show _ ≤ d.left - 1; omega, by show d.left - 1 ≤ _; omega⟩
    · exact h
theorem burn_fs (d : St) : (burn d).fs = d.fs ∧ (burn d).cap = d.cap := by
  unfold burn
  split
  · exact ⟨rfl, rfl⟩
  · split <;> exact ⟨rfl, rfl⟩
/-- What begin makes of a disk, and its answer. -/
def beginS (d : St) (ss : List ByteArray) : St × Int := startS d ss fun d => (d, 0)

set_option maxHeartbeats 1000000 in
theorem begin_calls {S : Nat → Prop} {w : World} {sb bm : Nat} {L : List Fr} {D : DataW Value} {d : St} (h : Open S w sb bm L D d) (A : Option Addr) (c : Nat) (ss : List ByteArray) (hs : CellsG enS w A c ss) (hsm : ∀ s ∈ ss, s.size ≤ maxLen) (hss : ss.length ≤ maxLen) :
    Calls Try.prog 28 #[at_ sb, .slice A ss.length c] w fun e w' => e = .returned (.int .i64 (beginS d ss).2) ∧ Open S w' sb bm L D (beginS d ss).1 ∧ Touch S w w' ∧ w'.heap.size = w.heap.size := by
  have HV := Lib.hid (valid_calls sb A c ss w hs hsm hss)
  have HO := Lib.hid h
  obtain ⟨r, hr⟩ : ∃ r, r = beginS d ss := ⟨_, rfl⟩
  rw [← hr]
  have HR := Lib.hid hr
  obtain ⟨c0, c1, c2, c3⟩ := h.cells
  have f2 := h.blk.free 2
  have f3 := h.blk.free 3
  have hin := h.inS
  have hlr := h.ok.small
  clear hr h hs hsm
  by_cases hbad : ss.any bad = true
  · rw [hbad] at HV
    have HRR := Lib.hid (show r = (d, 1) by rw [HR.out]; simp [beginS, startS, hbad])
    unfold at_ at HV ⊢
    go_enter Try.func28, Try.ntmps28
    go_wp2_with (go_at_call 36; refine (HV.out).mono ?_; rintro e w' ⟨rfl, rfl⟩)
    go_ret
    rw [HRR.out]
    exact ⟨rfl, HO.out, Touch.refl _ _, rfl⟩
  · have hbad' : ss.any bad = false := by simpa using hbad
    rw [hbad'] at HV
    unfold at_ at HV ⊢
    by_cases h0 : d.left = 0
    · have HRR := Lib.hid (show r = ({ d with dead := true }, 61) by rw [HR.out]; simp [beginS, startS, hbad', h0, burn])
      have HD := Lib.hid (show Ok { d with dead := true } from ⟨HO.out.ok.srt, HO.out.ok.lo, HO.out.ok.hi, HO.out.ok.fits, HO.out.ok.many, fun _ => h0, HO.out.ok.small, HO.out.ok.files⟩)
      rw [h0] at c2
      clear h0 hlr
      go_enter Try.func28, Try.ntmps28
      go_wp2_with (go_at_call 36; refine (HV.out).mono ?_; rintro e w' ⟨rfl, rfl⟩)
      go_ret
      rw [HRR.out]
      exact ⟨rfl, HO.out.redo (HO.out.blk.set 3 (.bool true)) (fun k hk => Below.heap_setCell _ _ _ k hk) (setCell_size _ _ _) rfl HD.out, Touch.set hin _ _ _, setCell_size _ _ _⟩
    · by_cases h1 : 0 < d.left
      · have HRR := Lib.hid (show r = ({ d with left := d.left - 1 }, 0) by rw [HR.out]; simp [beginS, startS, hbad', h0, burn, h1])
        have HD := Lib.hid (show Ok { d with left := d.left - 1 } from ⟨HO.out.ok.srt, HO.out.ok.lo, HO.out.ok.hi, HO.out.ok.fits, HO.out.ok.many, fun hd => absurd (HO.out.ok.dead hd) h0, ⟨by show _ ≤ d.left - 1; omega, by show d.left - 1 ≤ _; omega⟩, HO.out.ok.files⟩)
        obtain ⟨x, hx⟩ : ∃ x, x = d.left := ⟨_, rfl⟩
        rw [← hx] at c2 h0 h1 hlr
        have HX := Lib.hid hx
        clear hx
        have hw : wrap64 (x - 1) = x - 1 := by unfold wrap64; omega
        have e1 : (x == 0) = false := by simpa using h0
        go_enter Try.func28, Try.ntmps28
        go_wp2_with (go_at_call 36; refine (HV.out).mono ?_; rintro e w' ⟨rfl, rfl⟩)
        go_ret
        rw [HRR.out]
        obtain rfl := HX.out
        exact ⟨rfl, HO.out.redo (HO.out.blk.set 2 _) (fun k hk => Below.heap_setCell _ _ _ k hk) (setCell_size _ _ _) rfl HD.out, Touch.set hin _ _ _, setCell_size _ _ _⟩
      · have HRR := Lib.hid (show r = (d, 0) by rw [HR.out]; simp [beginS, startS, hbad', h0, burn, h1])
        obtain ⟨x, hx⟩ : ∃ x, x = d.left := ⟨_, rfl⟩
        rw [← hx] at c2 h0 h1 hlr
        have e1 : (x == 0) = false := by simpa using h0
        have e2 : decide (0 < x) = false := by simpa using h1
        clear hx
        go_enter Try.func28, Try.ntmps28
        go_wp2_with (go_at_call 36; refine (HV.out).mono ?_; rintro e w' ⟨rfl, rfl⟩)
        go_ret
        rw [HRR.out]
        exact ⟨rfl, HO.out, Touch.refl _ _, rfl⟩

theorem begin_nil (v : Value) (w : World) : Calls Try.prog 28 #[.pointer none, v] w fun e w' => e = .returned (.int .i64 7) ∧ w = w' := by
  go_enter Try.func28, Try.ntmps28
  go_wp2_with (go_at_call 36; refine (valid_nil _ _).mono ?_; rintro e w' ⟨rfl, rfl⟩)
  go_ret
  exact ⟨rfl, rfl⟩
end Go.Proofs.Ytpnlgmnlanoncaa
