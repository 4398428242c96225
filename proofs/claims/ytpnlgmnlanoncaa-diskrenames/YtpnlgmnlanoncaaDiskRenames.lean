/-
  Behind a rename and a crash there is the new file, as far as the old one was synced, and the old name is gone: the law returns true for every input. No condition.
-/
import Derived.Test.YtpnlgmnlanoncaaRows
import Derived.Test.YtpnlgmnlanoncaaDActs
import Derived.Test.YtpnlgmnlanoncaaDLive
import Derived.Test.YtpnlgmnlanoncaaDRenS
namespace Go.Proofs.Ytpnlgmnlanoncaa
namespace diskRenames
open Go.ChangeShapes Go.WideShapes Go.ChangeAt Go.RowKit
set_option linter.unusedVariables false

theorem lies_block {w : World} {A : Option Addr} {c : Nat} {l : List Int} (h : Lies w A c l) (hne : l ≠ []) : ∀ a, A = some a → a.block < w.heap.size := fun a ha => by
  obtain ⟨b, o, h1, h2, _⟩ := h.at_ (List.length_pos_iff.2 hne)
  rw [h1] at ha
  injection ha with ha
  subst ha
  exact h2
theorem app_step {B : Nat} {w w1 : World} {sb : Nat} {d d' : St} (hb1 : Below w.heap.size w w1) (h : DiskB w.heap.size w1.heap.size w1 sb d) (s : ByteArray) (hs : s.size ≤ maxLen) (A : Option Addr) (c : Nat) (l : List Int) (hl : Lies w A c l) (hb : IsB l) (hm : l.length ≤ maxLen) (he : appendS d s l = (d', 0)) :
    Calls Try.prog 13 #[.pointer (some ⟨sb, 0, none⟩), .string s, .slice A l.length c] w1 fun e w' => e = .returned (.int .i64 0) ∧ DiskB w.heap.size w'.heap.size w' sb d' ∧ Below w.heap.size w w' := by
  have H := append_b h hb1.size s hs A c l (hl.below hb1) (fun hne a ha => ⟨.inl (lies_block hl hne a ha), Nat.lt_of_lt_of_le (lies_block hl hne a ha) hb1.size⟩) hb hm
  rw [he] at H
  exact H.mono fun e w' h => ⟨h.1, h.2.1, hb1.trans h.2.2⟩
theorem sync_step {w w1 : World} {sb : Nat} {d d' : St} (hb1 : Below w.heap.size w w1) (h : DiskB w.heap.size w1.heap.size w1 sb d) (s : ByteArray) (hs : s.size ≤ maxLen) (he : syncS d s = (d', 0)) :
    Calls Try.prog 18 #[.pointer (some ⟨sb, 0, none⟩), .string s] w1 fun e w' => e = .returned (.int .i64 0) ∧ DiskB w.heap.size w'.heap.size w' sb d' ∧ Below w.heap.size w w' := by
  have H := sync_b h hb1.size s hs
  rw [he] at H
  exact H.mono fun e w' h => ⟨h.1, h.2.1, hb1.trans h.2.2⟩
theorem ren_step {w w1 : World} {sb : Nat} {d d' : St} (hb1 : Below w.heap.size w w1) (h : DiskB w.heap.size w1.heap.size w1 sb d) (s t : ByteArray) (hs : s.size ≤ maxLen) (ht : t.size ≤ maxLen) (he : renameS d s t = (d', 0)) :
    Calls Try.prog 20 #[.pointer (some ⟨sb, 0, none⟩), .string s, .string t] w1 fun e w' => e = .returned (.int .i64 0) ∧ DiskB w.heap.size w'.heap.size w' sb d' ∧ Below w.heap.size w w' := by
  have H := rename_b h hb1.size s t hs ht
  rw [he] at H
  exact H.mono fun e w' h => ⟨h.1, h.2.1, hb1.trans h.2.2⟩
theorem read_step {w w1 : World} {sb : Nat} {d : St} {r : List Int × Int} (hb1 : Below w.heap.size w w1) (h : DiskB w.heap.size w1.heap.size w1 sb d) (s : ByteArray) (hs : s.size ≤ maxLen) (he : readS d s = r) :
    Calls Try.prog 15 #[.pointer (some ⟨sb, 0, none⟩), .string s] w1 fun e w' => ∃ A c, e = .returned (.tuple #[.slice A r.1.length c, .int .i64 r.2]) ∧ Lies w' A c r.1 ∧ DiskB w.heap.size w'.heap.size w' sb d ∧ Below w.heap.size w w' ∧ Below w1.heap.size w1 w' := by
  have H := read_b h s hs
  rw [he] at H
  refine H.mono ?_
  rintro e w' ⟨A, c, h1, h2, h3⟩
  exact ⟨A, c, h1, h2.lies, (h.below h3).upto, hb1.trans (h3.mono hb1.size), h3⟩

/-- The end of the law: what is read is what was kept. -/
theorem fin (sy : Bool) (k : Int) (f : List Int) : ∃ R g n, readS ⟨2000, crashO (if sy then ⟨nmO, f, f.length, true⟩ else ⟨nmO, f, 0, false⟩) k, -1, false⟩ nmO = (R, g) ∧ ((n : Nat) = if sy then f.length else min (max k 0).toNat f.length) ∧ (if !sy && decide (n = 0) then R = [] ∧ g = 6 else R = f.take n ∧ g = 0) := by
  cases sy with
  | true => exact ⟨_, _, _, rs8 f k, rfl, by simp⟩
  | false =>
    by_cases h0 : min (max k 0).toNat f.length = 0
    · exact ⟨_, _, _, rs10 f k h0, rfl, by simp [h0]⟩
    · exact ⟨_, _, _, rs9 f k _ rfl (by omega), rfl, by simp [h0]⟩

set_option maxRecDepth 20000 in
set_option maxHeartbeats 4000000 in
theorem walk (A : Option Addr) (c : Nat) (o : List Int) (B : Option Addr) (d : Nat) (f : List Int) (sy : Bool) (k : Int) (w : World) (hc : o.length ≤ c) (hom : o.length ≤ maxLen) (ho : Lies w A c o) (hob : IsB o) (hd : f.length ≤ d) (hfm : f.length ≤ maxLen) (hf : Lies w B d f) (hfb : IsB f) (hk : (Lit.int .i64 k).wf = true) :
    Calls Try.prog 5 #[.slice A o.length c, .slice B f.length d, .bool sy, .int .i64 k] w fun e w' => e = .returned (.bool true) ∧ Below w.heap.size w w' := by
  have hk2 := i64_of_wf hk
  unfold maxLen at hom hfm
  obtain ⟨m, hm⟩ : ∃ m, m = o.length := ⟨_, rfl⟩
  obtain ⟨n, hn⟩ : ∃ n, n = f.length := ⟨_, rfl⟩
  have HM := Lib.hid hm
  have HN := Lib.hid hn
  rw [← hm, ← hn]
  rw [← hm] at hom hc
  rw [← hn] at hfm hd
  have HO := Lib.hid ho
  have HF := Lib.hid hf
  have HOB := Lib.hid hob
  have HFB := Lib.hid hfb
  clear hm hn ho hf hob hfb hk
  by_cases hbig : 500 < m ∨ 500 < n
  · have HL := Lib.hid (live_calls w)
    rcases hbig with h | h
    · have hd1 : decide ((500 : Int) < (m : Int)) = true := by simp; omega
      go_enter Try.func5, Try.ntmps5
      go_wp2_with (go_at_call 8; refine (HL.out).mono ?_; rintro e w' ⟨rfl, hb⟩)
      go_ret
      exact ⟨rfl, hb⟩
    · by_cases h1 : 500 < m
      · have hd1 : decide ((500 : Int) < (m : Int)) = true := by simp; omega
        go_enter Try.func5, Try.ntmps5
        go_wp2_with (go_at_call 8; refine (HL.out).mono ?_; rintro e w' ⟨rfl, hb⟩)
        go_ret
        exact ⟨rfl, hb⟩
      · have hd1 : decide ((500 : Int) < (m : Int)) = false := by simp; omega
        have hd2 : decide ((500 : Int) < (n : Int)) = true := by simp; omega
        go_enter Try.func5, Try.ntmps5
        go_wp2_with (go_at_call 8; refine (HL.out).mono ?_; rintro e w' ⟨rfl, hb⟩)
        go_ret
        exact ⟨rfl, hb⟩
  · have hd1 : decide ((500 : Int) < (m : Int)) = false := by simp; omega
    have hd2 : decide ((500 : Int) < (n : Int)) = false := by simp; omega
    have hm5 : m ≤ 500 := by omega
    have hn5 : n ≤ 500 := by omega
    have HE1 := Lib.hid (rs1 o (by rw [← HM.out]; omega))
    have HE3 := Lib.hid (rs3 o f (by rw [← HM.out]; omega) (by rw [← HN.out]; omega))
    clear hbig
    go_enter Try.func5, Try.ntmps5
    go_wp2_with fail
    refine (new_b 2000 (by omega) (by omega) w).mono ?_
    rintro e w1 ⟨sb, rfl, hD1, hb1⟩
    have HD1 := Lib.hid hD1
    have HB1 := Lib.hid hb1
    clear hD1 hb1
    unfold at_
    dsimp only
    go_wp2_with (go_at_call 10; refine (code_calls _ _).mono ?_; rintro e w' ⟨rfl, rfl⟩)
    have HS2 := Lib.hid (app_step (B := 0) HB1.out HD1.out nmO (by decide) A c o HO.out HOB.out (by rw [← HM.out]; unfold maxLen; omega) HE1.out)
    rw [← HM.out] at HS2
    refine HS2.out.mono ?_
    rintro e w2 ⟨rfl, hD2, hb2⟩
    have HD2 := Lib.hid hD2
    have HB2 := Lib.hid hb2
    clear hD2 hb2
    dsimp only
    go_wp2_with fail
    refine (sync_step HB2.out HD2.out nmO (by decide) (rs2 o)).mono ?_
    rintro e w3 ⟨rfl, hD3, hb3⟩
    have HD3 := Lib.hid hD3
    have HB3 := Lib.hid hb3
    clear hD3 hb3
    dsimp only
    go_wp2_with fail
    have HS4 := Lib.hid (app_step (B := 0) HB3.out HD3.out nmT (by decide) B d f HF.out HFB.out (by rw [← HN.out]; unfold maxLen; omega) HE3.out)
    rw [← HN.out] at HS4
    refine HS4.out.mono ?_
    rintro e w4 ⟨rfl, hD4, hb4⟩
    have HD4 := Lib.hid hD4
    have HB4 := Lib.hid hb4
    clear hD4 hb4
    dsimp only
    obtain ⟨R, g, j, hR, hj, hfin⟩ := fin sy k f
    have HR := Lib.hid hR
    have HJ := Lib.hid hj
    have HFIN := Lib.hid hfin
    clear hR hj hfin
    cases sy with
    | true =>
      go_wp2_with fail
      refine (sync_step HB4.out HD4.out nmT (by decide) (rs4 o f)).mono ?_
      rintro e w5 ⟨rfl, hD5, hb5⟩
      have HD5 := Lib.hid hD5
      have HB5 := Lib.hid hb5
      clear hD5 hb5
      dsimp only
      go_wp2_with fail
      refine (ren_step HB5.out HD5.out nmT nmO (by decide) (by decide) (rs5 o f _ _)).mono ?_
      rintro e w6 ⟨rfl, hD6, hb6⟩
      have HD6 := Lib.hid hD6
      have HB6 := Lib.hid hb6
      clear hD6 hb6
      dsimp only
      go_wp2_with fail
      refine (crash_lit w.heap.size w6 sb _ k hk2 HD6.out HB6.out.size).mono ?_
      rintro e w7 ⟨rfl, hD7, hb7⟩
      rw [rs6] at hD7
      have HD7 := Lib.hid hD7
      have HB7 := Lib.hid (HB6.out.trans hb7)
      clear hD7 hb7
      dsimp only
      go_wp2_with fail
      refine (read_step HB7.out HD7.out nmO (by decide) HR.out).mono ?_
      rintro e w8 ⟨A8, c8, rfl, hl8, hD8, hb8, hbb8⟩
      have HL8 := Lib.hid hl8
      have HD8 := Lib.hid hD8
      have HB8 := Lib.hid hb8
      clear hl8 hD8 hb8 hbb8
      dsimp only
      go_wp2_with fail
      refine (read_step HB8.out HD8.out nmT (by decide) (rs7 f _ _ k)).mono ?_
      rintro e w9 ⟨A9, c9, rfl, hl9, hD9, hb9, hbb9⟩
      have HB9 := Lib.hid hb9
      have HL9 := Lib.hid (HL8.out.below hbb9)
      clear hl9 hD9 hb9 hbb9
      dsimp only
      have hj : j = f.length := by simpa using HJ.out
      have hRg : R = f.take j ∧ g = 0 := by simpa using HFIN.out
      obtain ⟨hR, rfl⟩ := hRg
      obtain ⟨A', C', hrun, hl', _⟩ := cut_h HF.out (by rw [← HN.out]; exact hd) j ((n : Nat) : Int) (by rw [hj, HN.out]) (by omega)
      rw [← hR] at hrun hl'
      rw [← HN.out] at hrun
      obtain ⟨X, hX⟩ : ∃ X, X = R := ⟨_, rfl⟩
      rw [← hX] at hrun hl' HL9 ⊢
      clear hX hR hj
      have hcv1 := run_str (show Lies w9.drew A8 c8 X from HL9.out)
      have hcv2 := run_str (show Lies w9.drew A' C' X from hl' w9 HB9.out)
      clear hl'
      go_wp2_with (go_at_call 10; refine (code_calls _ _).mono ?_; rintro e w' ⟨rfl, rfl⟩)
      refine wp_region_still_tail 13 (by kernel_rfl) (by kernel_rfl) ?_
      change wpStill _ _ w9.drew (fun a' => wpList _ _ _ _ a' w9.drew) _ _
      simp only [List.take_succ_cons, List.take_zero, List.drop_succ_cons, List.drop_zero]
      repeat still_step
      still_call ((code_calls _ _).mono (fun e w' ⟨he, hw⟩ => ⟨he, hw.symm⟩))
      repeat still_step
      refine wpStill_nil ?_
      go_wp2_with fail
      refine (live_calls _).mono ?_
      rintro e w10 ⟨rfl, hb10⟩
      have HB10 := Lib.hid (Below.on HB9.out (show Below w9.heap.size w9 w10 from ⟨hb10.os, hb10.tape, hb10.output, hb10.size, hb10.block⟩))
      clear hb10
      dsimp only
      go_wp2
      go_ret
      exact ⟨rfl, HB10.out⟩
    | false =>
      go_wp2_with fail
      refine (ren_step HB4.out HD4.out nmT nmO (by decide) (by decide) (rs5 o f 0 false)).mono ?_
      rintro e w6 ⟨rfl, hD6, hb6⟩
      have HD6 := Lib.hid hD6
      have HB6 := Lib.hid hb6
      clear hD6 hb6
      dsimp only
      go_wp2_with fail
      refine (crash_lit w.heap.size w6 sb _ k hk2 HD6.out HB6.out.size).mono ?_
      rintro e w7 ⟨rfl, hD7, hb7⟩
      rw [rs6] at hD7
      have HD7 := Lib.hid hD7
      have HB7 := Lib.hid (HB6.out.trans hb7)
      clear hD7 hb7
      dsimp only
      go_wp2_with fail
      refine (read_step HB7.out HD7.out nmO (by decide) HR.out).mono ?_
      rintro e w8 ⟨A8, c8, rfl, hl8, hD8, hb8, hbb8⟩
      have HL8 := Lib.hid hl8
      have HD8 := Lib.hid hD8
      have HB8 := Lib.hid hb8
      clear hl8 hD8 hb8 hbb8
      dsimp only
      go_wp2_with fail
      refine (read_step HB8.out HD8.out nmT (by decide) (rs7 f _ _ k)).mono ?_
      rintro e w9 ⟨A9, c9, rfl, hl9, hD9, hb9, hbb9⟩
      have HB9 := Lib.hid hb9
      have HL9 := Lib.hid (HL8.out.below hbb9)
      clear hl9 hD9 hb9 hbb9
      dsimp only
      have hj : j = min (max k 0).toNat f.length := by simpa using HJ.out
      rw [← HN.out] at hj
      by_cases hneg : k < 0
      · have hj0 : j = 0 := by omega
        have hRg : R = [] ∧ g = 6 := by simpa [hj0] using HFIN.out
        obtain ⟨rfl, rfl⟩ := hRg
        have h1 : ¬ ((n : Int) < 0) := by omega
        clear hj hj0
        go_wp2_with (go_at_call 10; refine (code_calls _ _).mono ?_; rintro e w' ⟨rfl, rfl⟩)
        refine (live_calls _).mono ?_
        rintro e w10 ⟨rfl, hb10⟩
        have HB10 := Lib.hid (Below.on HB9.out hb10)
        clear hb10
        dsimp only
        go_wp2
        go_ret
        exact ⟨rfl, HB10.out⟩
      · by_cases hnk : (n : Int) < k
        · have hj1 : j = n := by omega
          by_cases hn0 : n = 0
          · have hRg : R = [] ∧ g = 6 := by simpa [hj1, hn0] using HFIN.out
            obtain ⟨rfl, rfl⟩ := hRg
            have h1 : ((n : Int) == 0) = true := by simp [hn0]
            clear hj hj1 hn0
            go_wp2_with (go_at_call 10; refine (code_calls _ _).mono ?_; rintro e w' ⟨rfl, rfl⟩)
            refine (live_calls _).mono ?_
            rintro e w10 ⟨rfl, hb10⟩
            have HB10 := Lib.hid (Below.on HB9.out hb10)
            clear hb10
            dsimp only
            go_wp2
            go_ret
            exact ⟨rfl, HB10.out⟩
          · have hRg : R = f.take j ∧ g = 0 := by simpa [hj1, hn0] using HFIN.out
            obtain ⟨hR, rfl⟩ := hRg
            have h1 : ((n : Int) == 0) = false := by simp [hn0]
            obtain ⟨A', C', hrun, hl', _⟩ := cut_h HF.out (by rw [← HN.out]; exact hd) j (min (max k 0) (n : Int)) (by omega) (by rw [← HN.out]; omega)
            rw [← hR] at hrun hl'
            rw [← HN.out] at hrun
            obtain ⟨X, hX⟩ : ∃ X, X = R := ⟨_, rfl⟩
            rw [← hX] at hrun hl' HL9 ⊢
            clear hX hR hj hj1 hn0
            have hcv1 := run_str (show Lies w9.drew A8 c8 X from HL9.out)
            have hcv2 := run_str (show Lies w9.drew A' C' X from hl' w9 HB9.out)
            clear hl'
            go_wp2_with (go_at_call 10; refine (code_calls _ _).mono ?_; rintro e w' ⟨rfl, rfl⟩)
            refine wp_region_still_tail 13 (by kernel_rfl) (by kernel_rfl) ?_
            change wpStill _ _ w9.drew (fun a' => wpList _ _ _ _ a' w9.drew) _ _
            simp only [List.take_succ_cons, List.take_zero, List.drop_succ_cons, List.drop_zero]
            repeat still_step
            still_call ((code_calls _ _).mono (fun e w' ⟨he, hw⟩ => ⟨he, hw.symm⟩))
            repeat still_step
            refine wpStill_nil ?_
            go_wp2_with fail
            refine (live_calls _).mono ?_
            rintro e w10 ⟨rfl, hb10⟩
            have HB10 := Lib.hid (Below.on HB9.out (show Below w9.heap.size w9 w10 from ⟨hb10.os, hb10.tape, hb10.output, hb10.size, hb10.block⟩))
            clear hb10
            dsimp only
            go_wp2
            go_ret
            exact ⟨rfl, HB10.out⟩
        · by_cases hk0 : k = 0
          · have hRg : R = [] ∧ g = 6 := by
              have hj0 : j = 0 := by omega
              simpa [hj0] using HFIN.out
            obtain ⟨rfl, rfl⟩ := hRg
            have h1 : (k == 0) = true := by simp [hk0]
            clear hj hk0
            go_wp2_with (go_at_call 10; refine (code_calls _ _).mono ?_; rintro e w' ⟨rfl, rfl⟩)
            refine (live_calls _).mono ?_
            rintro e w10 ⟨rfl, hb10⟩
            have HB10 := Lib.hid (Below.on HB9.out hb10)
            clear hb10
            dsimp only
            go_wp2
            go_ret
            exact ⟨rfl, HB10.out⟩
          · have hj1 : (j : Int) = k := by omega
            have hj2 : j ≠ 0 := by omega
            have hRg : R = f.take j ∧ g = 0 := by simpa [hj2] using HFIN.out
            obtain ⟨hR, rfl⟩ := hRg
            have h1 : (k == 0) = false := by simp [hk0]
            obtain ⟨A', C', hrun, hl', _⟩ := cut_h HF.out (by rw [← HN.out]; exact hd) j (min (max k 0) (n : Int)) (by omega) (by rw [← HN.out]; omega)
            rw [← hR] at hrun hl'
            rw [← HN.out] at hrun
            obtain ⟨X, hX⟩ : ∃ X, X = R := ⟨_, rfl⟩
            rw [← hX] at hrun hl' HL9 ⊢
            clear hX hR hj hj1 hj2 hk0
            have hcv1 := run_str (show Lies w9.drew A8 c8 X from HL9.out)
            have hcv2 := run_str (show Lies w9.drew A' C' X from hl' w9 HB9.out)
            clear hl'
            go_wp2_with (go_at_call 10; refine (code_calls _ _).mono ?_; rintro e w' ⟨rfl, rfl⟩)
            refine wp_region_still_tail 13 (by kernel_rfl) (by kernel_rfl) ?_
            change wpStill _ _ w9.drew (fun a' => wpList _ _ _ _ a' w9.drew) _ _
            simp only [List.take_succ_cons, List.take_zero, List.drop_succ_cons, List.drop_zero]
            repeat still_step
            still_call ((code_calls _ _).mono (fun e w' ⟨he, hw⟩ => ⟨he, hw.symm⟩))
            repeat still_step
            refine wpStill_nil ?_
            go_wp2_with fail
            refine (live_calls _).mono ?_
            rintro e w10 ⟨rfl, hb10⟩
            have HB10 := Lib.hid (Below.on HB9.out (show Below w9.heap.size w9 w10 from ⟨hb10.os, hb10.tape, hb10.output, hb10.size, hb10.block⟩))
            clear hb10
            dsimp only
            go_wp2
            go_ret
            exact ⟨rfl, HB10.out⟩

/- From the walk to the row. -/
set_option maxRecDepth 100000 in
theorem lifted (os : Os) (started : os.Started) (H : Type) (enc : TypeId × Value → H) :
    ReturnsInHanded {} Try.checked os 5 .any (Rows.diskRenamesSpec.pre6 enc Try.prog Try.f5 Rows.diskRenamesRow.domain false) (Rows.diskRenamesSpec.post enc Try.prog Try.f5 false true false false) := by
  refine returnsInHanded_of_change_sized (C := Try.checked) own started (by kernel_rfl) Try.func5
    (ChangeSpec.witness6 (enc := enc) (C := Try.checked) false ⟨#[], #[.slice none 0 0, .slice none 0 0, .bool false, .int .i64 0], []⟩ 8 (by kernel_rfl) (by kernel_rfl) (by kernel_rfl) (by kernel_rfl)) ?_
  intro W base args ds gs before hval0 hW hcnd hsized _
  have hval : ∀ (j : Nat) t v, Try.f5.params[j]? = some t → args[j]? = some v → Value.okWide Try.prog W .any base t v := hval0
  have hW' := hW
  obtain ⟨p, q, hA0, hV, rfl, hfz, hnd⟩ := hW
  have hA : DataW.TrodAll enc Try.prog W 0 (fun _ => true) true Try.f5.params.toList args.toList ds p := hA0
  have hsz : (DataW.weightsEach Try.prog (Try.f5.params.toList ++ Rows.diskRenamesSpec.plain.varTypes Try.prog) (ds ++ gs)).all (· ≤ reachBytes) = true := hsized
  rw [Try.params5] at hA hval hsz
  obtain ⟨v0, vs0, d0, ds0, p0, q0, hargs, rfl, rfl, h0, r0⟩ := trodAll_cons hA
  obtain ⟨v1, vs1, d1, ds1, p1, q1, rfl, rfl, rfl, h1, r1⟩ := trodAll_cons r0
  obtain ⟨v2, vs2, d2, ds2, p2, q2, rfl, rfl, rfl, h2, r2⟩ := trodAll_cons r1
  obtain ⟨v3, vs3, d3, ds3, p3, q3, rfl, rfl, rfl, h3, r3⟩ := trodAll_cons r2
  obtain ⟨rfl, rfl, rfl⟩ := trodAll_nil r3
  obtain rfl : args = #[v0, v1, v2, v3] := by cases args; simp_all
  obtain ⟨rfl, rfl⟩ := trodVars_none hV
  obtain ⟨a0, len0, cap0, rfl⟩ := okWide_slice Try.underlying33 (hval 0 33 v0 rfl rfl)
  have k0 := h0
  have lt0 : ∀ x ∈ p0, x.block < W.heap.size := by obtain ⟨m, hm⟩ := k0; exact DataW.trod_lt m _ _ _ hm
  have wt0 := weights_of_each hsz (j := 0) (t := 33) (d := d0) rfl rfl
  obtain ⟨z0, w0⟩ : ∃ zs, IsRow W a0 len0 cap0 zs := by
    obtain ⟨fuel, hf⟩ := h0
    rcases open_ints Try.underlying33 Try.underlying5 (by kernel_rfl) hf with ⟨hcs, _⟩ | ⟨x, l, c, zs, hcs, _, hl, hm, hz, _, hcell, hwz⟩
    · simp [Value.cells] at hcs
      obtain ⟨rfl, rfl, rfl⟩ := hcs
      exact ⟨[], .inl ⟨rfl, rfl, rfl, rfl⟩⟩
    · simp [Value.cells] at hcs
      obtain ⟨rfl, rfl, rfl⟩ := hcs
      exact ⟨zs, .inr ⟨_, rfl, hl, hm, by simpa using hz, hcell, hwz⟩⟩
  obtain ⟨l0, rfl, lc0, lm0, ll0, lb0⟩ := bytes_of_row w0
  obtain ⟨a1, len1, cap1, rfl⟩ := okWide_slice Try.underlying33 (hval 1 33 v1 rfl rfl)
  have k1 := h1
  have lt1 : ∀ x ∈ p1, x.block < W.heap.size := by obtain ⟨m, hm⟩ := k1; exact DataW.trod_lt m _ _ _ hm
  have wt1 := weights_of_each hsz (j := 1) (t := 33) (d := d1) rfl rfl
  obtain ⟨z1, w1⟩ : ∃ zs, IsRow W a1 len1 cap1 zs := by
    obtain ⟨fuel, hf⟩ := h1
    rcases open_ints Try.underlying33 Try.underlying5 (by kernel_rfl) hf with ⟨hcs, _⟩ | ⟨x, l, c, zs, hcs, _, hl, hm, hz, _, hcell, hwz⟩
    · simp [Value.cells] at hcs
      obtain ⟨rfl, rfl, rfl⟩ := hcs
      exact ⟨[], .inl ⟨rfl, rfl, rfl, rfl⟩⟩
    · simp [Value.cells] at hcs
      obtain ⟨rfl, rfl, rfl⟩ := hcs
      exact ⟨zs, .inr ⟨_, rfl, hl, hm, by simpa using hz, hcell, hwz⟩⟩
  obtain ⟨l1, rfl, lc1, lm1, ll1, lb1⟩ := bytes_of_row w1
  obtain ⟨a2, rfl, rfl, rfl⟩ := open_bool Try.underlying4 (hval 2 4 v2 rfl rfl) h2
  obtain ⟨a3, rfl, rfl, rfl, w3⟩ := open_int Try.underlying3 (hval 3 3 v3 rfl rfl) h3
  clear hA0 hval0
  refine (walk a0 cap0 l0 a1 cap1 l1 a2 a3 W lc0 lm0 ll0 lb0 lc1 lm1 ll1 lb1 w3).mono fun e W' ⟨he, bel⟩ => ?_
  subst he
  exact ⟨_, rfl, _, _, _, [], _, [], hW', trodAll_mk1 (shut_bool Try.underlying4 _), (trodAll_cons_mk (Below.trod laidOut (by kernel_rfl) (of_decide_eq_true (by kernel_rfl)) k0 bel lt0) (trodAll_cons_mk (Below.trod laidOut (by kernel_rfl) (of_decide_eq_true (by kernel_rfl)) k1 bel lt1) (trodAll_cons_mk (shut_bool Try.underlying4 a2) (trodAll_cons_mk (shut_int Try.underlying3 w3) trodAll_mk0)))), rfl, bel.frame _, fun h => by cases h⟩

theorem over : Rows.diskRenamesRow.holds Try.pinned (OpenSpec.ofChange Rows.diskRenamesSpec) :=
  OpenClaim.holds_of_wide 5 Try.f5 rfl rfl rfl rfl rfl rfl rfl ⟨rfl, rfl, rfl, rfl, rfl⟩ rfl rfl rfl rfl rfl (by kernel_rfl) Try.func5 (by kernel_rfl)
    (of_decide_eq_true (by kernel_rfl)) (by unfold Func.isWrapper; first | (rw [if_pos (by decide +kernel)]; kernel_rfl) | (rw [if_neg (by decide +kernel)]; exact ⟨rfl, rfl⟩))
    (fun os started H enc _ => lifted os started H enc)

end diskRenames

/-- The statement. -/
theorem diskRenames_holds : Rows.DiskRenamesSaid := diskRenames.over
#print axioms diskRenames_holds
end Go.Proofs.Ytpnlgmnlanoncaa
