/-
  Contract of the law's step: one call by the program and by the document answers the same, and both disks stay the same. Conditions: both hold the same plain disk; the call's own bytes and numbers lie apart from the disk.
-/
import Derived.Test.YtpnlgmnlanoncaaLMid
import Derived.Test.YtpnlgmnlanoncaaRDo
import Derived.Test.YtpnlgmnlanoncaaRCrash
import Derived.Test.YtpnlgmnlanoncaaLSame
import Derived.Deep.RegionHeld3
import Derived.Deep.CutRange
import Derived.Deep.CutBlock
namespace Go.Proofs.Ytpnlgmnlanoncaa
open Go.ChangeShapes Go.WideShapes Go.ChangeAt Go.RowKit
set_option linter.unusedVariables false

theorem reach_max {n : Nat} (h : n ≤ reachBytes) : n ≤ maxLen := by
  have : n ≤ 140737488351232 := h
  unfold maxLen; omega
/-- What step hands back. -/
def Stepped (T S : Nat → Prop) (w : World) (sb : Nat) (e : Ending) (w' : World) : Prop :=
  ∃ S' z d A c rs, e = .returned (.tuple #[dv z d A c, .bool true]) ∧ I64 z ∧ DiskAt S' w' sb d ∧ rs.map Rf.f = d.fs ∧ Ref (fun k => ¬ S' k ∧ (T k ∨ w.heap.size ≤ k)) w' A c rs ∧ Touch S w w' ∧ ∀ k, S' k → S k ∨ w.heap.size ≤ k
/-- What holds behind the switch. -/
def StepMid (T S : Nat → Prop) (w : World) (sb : Nat) (s8 s9 : Value) (wx : World) : Prop :=
  ∃ (x : Int) (z : Int) (d : St) (A : Option Addr) (c : Nat) (rs : List Rf) (S' : Nat → Prop), s8 = .int .i64 x ∧ s9 = .int .i64 x ∧ I64 z ∧ MidAt T S w sb d d A c rs S' wx ∧ Blk wx w.heap.size (vd z d A d.fs.length c) 32 ∧ Blk wx (w.heap.size + 2) #[.int .i64 0, .slice none 0 0, .bool false, .int .i64 0] 32

set_option maxRecDepth 20000 in
set_option maxHeartbeats 4000000 in
theorem step_calls {z : Int} (hz : I64 z) {T S : Nat → Prop} {w : World} {sb : Nat} {d : St} (h : DiskAt S w sb d) (A : Option Addr) (c : Nat) (rs : List Rf) (hrs : rs.map Rf.f = d.fs) (hR : Ref T w A c rs) (hT : ∀ k, T k → ¬ S k) (a : Ac) (hg : GoodA w a)
    (hb1 : a.b ≠ [] → ∀ x, a.bA = some x → ¬ S x.block) (hb2 : a.b ≠ [] → ∀ x, a.bA = some x → x.block < w.heap.size) (hk1 : a.keep ≠ [] → ∀ x, a.kA = some x → ¬ S x.block) (hk2 : a.keep ≠ [] → ∀ x, a.kA = some x → x.block < w.heap.size) :
    Calls Try.prog 14 #[at_ sb, dv z d A c, .agg (enA a).toArray] w (Stepped T S w sb) := by
  have HZ := Lib.hid hz
  have hok := h.ok
  have hlen : d.fs.length = rs.length := by rw [← hrs, List.length_map]
  obtain ⟨W0, hW0⟩ : ∃ W0, W0 = ((w.alloc (.cells (vd z d A d.fs.length c) 32)).alloc (.cells (enA a).toArray 36)).alloc (.cells z32 32) := ⟨_, rfl⟩
  have M0 : MidAt T S w sb d d A c rs S W0 := by rw [hW0]; exact MidAt.start h hrs hR hT
  have X0 : Boxes w (vd z d A d.fs.length c) a W0 := by rw [hW0]; exact Boxes.start w _ a
  have hW0b : Below w.heap.size w W0 := by rw [hW0]; exact (below_two w _ _).alloc (by simp; omega) _
  have hGB : ∀ W, Touch S w W → Lies W a.bA a.bc a.b := fun W ht => hg.b.blocks fun hne x hx => ht.block _ (hb2 hne x hx) (hb1 hne x hx)
  have hGK : ∀ W, Touch S w W → CellsG enI W a.kA a.kc a.keep := fun W ht => hg.keep.blocks2 fun hne x hx => ht.block _ (hk2 hne x hx) (hk1 hne x hx)
  obtain ⟨x, hx⟩ : ∃ x, x = a.do_ := ⟨_, rfl⟩
  obtain ⟨m, hm⟩ : ∃ m, m = a.n := ⟨_, rfl⟩
  obtain ⟨nm, hnm⟩ : ∃ nm, nm = a.name := ⟨_, rfl⟩
  obtain ⟨tn, hto⟩ : ∃ tn, tn = a.to := ⟨_, rfl⟩
  obtain ⟨bl, hbl⟩ : ∃ bl, bl = a.b := ⟨_, rfl⟩
  obtain ⟨lb, hlb⟩ : ∃ lb, lb = bl.length := ⟨_, rfl⟩
  obtain ⟨kp, hkp⟩ : ∃ kp, kp = a.keep := ⟨_, rfl⟩
  obtain ⟨lk, hlk⟩ : ∃ lk, lk = kp.length := ⟨_, rfl⟩
  have hng : nm.size ≤ reachBytes := by rw [hnm]; exact hg.name
  have htg : tn.size ≤ reachBytes := by rw [hto]; exact hg.to
  have hmr : I64 m := by rw [hm]; exact hg.n
  have hxr : I64 x := by rw [hx]; exact hg.do_
  have henA : (enA a).toArray = #[.int .i64 x, .int .i64 m, .string nm, .string tn, .slice a.bA lb a.bc, .slice a.kA lk a.kc] := by rw [hx, hm, hnm, hto, hlb, hbl, hlk, hkp]; rfl
  have HNG := Lib.hid hng
  have HTG := Lib.hid htg
  have HMR := Lib.hid hmr
  have HNS := Lib.hid (reach_max hng)
  have HTS := Lib.hid (reach_max htg)
  have HLB := Lib.hid hlb
  have HLK := Lib.hid hlk
  rw [← hbl] at hGB hb1 hb2
  rw [← hkp] at hGK hk1 hk2
  have HGB := Lib.hid hGB
  have HGK := Lib.hid hGK
  have HB1 := Lib.hid hb1
  have HB2 := Lib.hid hb2
  have HK1 := Lib.hid hk1
  have HIB := Lib.hid (show IsB bl by rw [hbl]; exact hg.isB)
  have HBLL := Lib.hid (show bl.length ≤ reachBytes by rw [hbl]; exact hg.bl)
  have HKR := Lib.hid (show ∀ x ∈ kp, I64 x by rw [hkp]; exact hg.kr)
  have HKL := Lib.hid (show kp.length ≤ maxLen by rw [hkp]; exact hg.kl)
  have HM0 := Lib.hid M0
  have HX0 := Lib.hid X0
  have HOK := Lib.hid hok
  have HRS := Lib.hid hrs
  have HLEN := Lib.hid hlen
  have HW0B := Lib.hid hW0b
  have HEN := Lib.hid henA
  obtain ⟨cap, hcap⟩ : ∃ cap, cap = d.cap := ⟨_, rfl⟩
  obtain ⟨ar, har⟩ : ∃ ar, ar = arV d := ⟨_, rfl⟩
  obtain ⟨fu, hfu⟩ : ∃ fu, fu = fuV z d := ⟨_, rfl⟩
  obtain ⟨n, hn⟩ : ∃ n, n = d.fs.length := ⟨_, rfl⟩
  have hvd : vd z d A d.fs.length c = #[.int .i64 cap, .slice A n c, .bool ar, .int .i64 fu] := by rw [hcap, har, hfu, hn]; rfl
  have hdv : dv z d A c = .agg #[.int .i64 cap, .slice A n c, .bool ar, .int .i64 fu] := by rw [hcap, har, hfu, hn]; rfl
  have HVD := Lib.hid hvd
  have HDV := Lib.hid hdv
  obtain ⟨a0, a1, a2, a3, a4, a5⟩ := (henA ▸ X0.b1).cells6
  rw [henA, hdv]
  rw [henA, hvd] at hW0
  unfold z32 at hW0
  unfold at_
  clear h hok hlen M0 X0 hW0b hGB hGK hx hm hnm hto hbl hlb hkp hlk hng htg hmr henA hb1 hb2 hk1 hk2 hcap har hfu hn hvd hdv hrs hR hg hz hT
  go_enter Try.func14, Try.ntmps14
  go_upto_block 0 with fail
  rw [← hW0]
  clear hW0
  go_cut [8, 9] from 10 to 113 (StepMid T S w sb)
  case first =>
    by_cases hx0 : x = 0
    · subst hx0
      go_wp2_with fail
      refine (sync_calls HM0.out.disk nm HNS.out).mono ?_
      rintro e1 w1 ⟨rfl, hd1, ht1⟩
      dsimp only
      have HT1 := Lib.hid ht1
      have HM1 := Lib.hid (HM0.out.prog hd1 ht1)
      have X1 := HX0.out.touch HM0.out ht1
      have HX1 := Lib.hid X1
      have b0 := X1.b0
      rw [HVD.out] at b0
      obtain ⟨p0, p1, p2, p3⟩ := b0.cells4
      have b1 := X1.b1
      rw [HEN.out] at b1
      obtain ⟨i0, i1, i2, i3, i4, i5⟩ := b1.cells6
      clear hd1 ht1 X1 b0 b1 a0 a1 a2 a3 a4 a5
      go_wp2_with fail
      refine (code_calls _ _).mono ?_
      rintro e2 w1' ⟨rfl, rfl⟩
      dsimp only
      have HRF := Lib.hid (rdo_sync (z := z) HZ.out d HOK.out A c rs HRS.out nm HNG.out w1 HM1.out.ref)
      rw [HDV.out] at HRF
      go_wp2_with fail
      refine HRF.out.mono ?_
      rintro e3 w2 ⟨A2, c2, rs2, rfl, hfs2, hr2, hb2⟩
      have HM2 := Lib.hid (HM1.out.after hfs2 hr2 hb2)
      have X2 := HX1.out.below hb2
      have HX2 := Lib.hid X2
      have b0 := X2.b0
      rw [HVD.out] at b0
      have HB0 := Lib.hid b0
      obtain ⟨k0, k1, k2, k3⟩ := b0.cells4
      obtain ⟨l0, l1, l2, l3⟩ := b0.free4
      clear X2 b0 p0 p1 p2 p3 i0 i1 i2 i3 i4 i5 hfs2 hr2 hb2
      dsimp only [dv, dval]
      go_wp2_with fail
      go_meet
      exact ⟨_, z, _, A2, c2, rs2, _, rfl, rfl, HZ.out, HM2.out.box (Nat.le_refl _) (by omega) _ _ _ _, set4 HB0.out rfl _ _ _ _, (set4_other (by omega) _ _ _ _).trans HX2.out.b2⟩
    · have hb0 : (x == 0) = false := by simp [hx0]
      by_cases hx1 : x = 1
      · subst hx1
        go_wp2_with fail
        refine (remove_calls HM0.out.disk nm HNS.out).mono ?_
        rintro e1 w1 ⟨rfl, hd1, ht1⟩
        dsimp only
        have HT1 := Lib.hid ht1
        have HM1 := Lib.hid (HM0.out.prog hd1 ht1)
        have X1 := HX0.out.touch HM0.out ht1
        have HX1 := Lib.hid X1
        have b0 := X1.b0
        rw [HVD.out] at b0
        obtain ⟨p0, p1, p2, p3⟩ := b0.cells4
        have b1 := X1.b1
        rw [HEN.out] at b1
        obtain ⟨i0, i1, i2, i3, i4, i5⟩ := b1.cells6
        clear hd1 ht1 X1 b0 b1 a0 a1 a2 a3 a4 a5
        go_wp2_with fail
        refine (code_calls _ _).mono ?_
        rintro e2 w1' ⟨rfl, rfl⟩
        dsimp only
        have HRF := Lib.hid (rdo_remove (z := z) HZ.out d HOK.out A c rs HRS.out nm HNG.out w1 HM1.out.ref)
        rw [HDV.out] at HRF
        go_wp2_with fail
        refine HRF.out.mono ?_
        rintro e3 w2 ⟨A2, c2, rs2, rfl, hfs2, hr2, hb2⟩
        have HM2 := Lib.hid (HM1.out.after hfs2 hr2 hb2)
        have X2 := HX1.out.below hb2
        have HX2 := Lib.hid X2
        have b0 := X2.b0
        rw [HVD.out] at b0
        have HB0 := Lib.hid b0
        obtain ⟨k0, k1, k2, k3⟩ := b0.cells4
        obtain ⟨l0, l1, l2, l3⟩ := b0.free4
        clear X2 b0 p0 p1 p2 p3 i0 i1 i2 i3 i4 i5 hfs2 hr2 hb2
        dsimp only [dv, dval]
        go_wp2_with fail
        go_meet
        exact ⟨_, z, _, A2, c2, rs2, _, rfl, rfl, HZ.out, HM2.out.box (Nat.le_refl _) (by omega) _ _ _ _, set4 HB0.out rfl _ _ _ _, (set4_other (by omega) _ _ _ _).trans HX2.out.b2⟩
      · have hb1 : (x == 1) = false := by simp [hx1]
        by_cases hx2 : x = 2
        · subst hx2
          go_wp2_with fail
          refine (cut_calls HM0.out.disk nm HNS.out m HMR.out.1 HMR.out.2).mono ?_
          rintro e1 w1 ⟨rfl, hd1, ht1⟩
          dsimp only
          have HT1 := Lib.hid ht1
          have HM1 := Lib.hid (HM0.out.prog hd1 ht1)
          have X1 := HX0.out.touch HM0.out ht1
          have HX1 := Lib.hid X1
          have b0 := X1.b0
          rw [HVD.out] at b0
          obtain ⟨p0, p1, p2, p3⟩ := b0.cells4
          have b1 := X1.b1
          rw [HEN.out] at b1
          obtain ⟨i0, i1, i2, i3, i4, i5⟩ := b1.cells6
          clear hd1 ht1 X1 b0 b1 a0 a1 a2 a3 a4 a5
          go_wp2_with fail
          refine (code_calls _ _).mono ?_
          rintro e2 w1' ⟨rfl, rfl⟩
          dsimp only
          have HRF := Lib.hid (rdo_cut (z := z) HZ.out d HOK.out A c rs HRS.out nm HNG.out m HMR.out w1 HM1.out.ref)
          rw [HDV.out] at HRF
          go_wp2_with fail
          refine HRF.out.mono ?_
          rintro e3 w2 ⟨A2, c2, rs2, rfl, hfs2, hr2, hb2⟩
          have HM2 := Lib.hid (HM1.out.after hfs2 hr2 hb2)
          have X2 := HX1.out.below hb2
          have HX2 := Lib.hid X2
          have b0 := X2.b0
          rw [HVD.out] at b0
          have HB0 := Lib.hid b0
          obtain ⟨k0, k1, k2, k3⟩ := b0.cells4
          obtain ⟨l0, l1, l2, l3⟩ := b0.free4
          clear X2 b0 p0 p1 p2 p3 i0 i1 i2 i3 i4 i5 hfs2 hr2 hb2
          dsimp only [dv, dval]
          go_wp2_with fail
          go_meet
          exact ⟨_, z, _, A2, c2, rs2, _, rfl, rfl, HZ.out, HM2.out.box (Nat.le_refl _) (by omega) _ _ _ _, set4 HB0.out rfl _ _ _ _, (set4_other (by omega) _ _ _ _).trans HX2.out.b2⟩
        · have hb2 : (x == 2) = false := by simp [hx2]
          by_cases hx3 : x = 3
          · subst hx3
            go_wp2_with fail
            refine (rename_calls HM0.out.disk nm tn HNS.out HTS.out).mono ?_
            rintro e1 w1 ⟨rfl, hd1, ht1⟩
            dsimp only
            have HT1 := Lib.hid ht1
            have HM1 := Lib.hid (HM0.out.prog hd1 ht1)
            have X1 := HX0.out.touch HM0.out ht1
            have HX1 := Lib.hid X1
            have b0 := X1.b0
            rw [HVD.out] at b0
            obtain ⟨p0, p1, p2, p3⟩ := b0.cells4
            have b1 := X1.b1
            rw [HEN.out] at b1
            obtain ⟨i0, i1, i2, i3, i4, i5⟩ := b1.cells6
            clear hd1 ht1 X1 b0 b1 a0 a1 a2 a3 a4 a5
            go_wp2_with fail
            refine (code_calls _ _).mono ?_
            rintro e2 w1' ⟨rfl, rfl⟩
            dsimp only
            have HRF := Lib.hid (rdo_rename (z := z) HZ.out d HOK.out A c rs HRS.out nm HNG.out tn HTG.out w1 HM1.out.ref)
            rw [HDV.out] at HRF
            go_wp2_with fail
            refine HRF.out.mono ?_
            rintro e3 w2 ⟨A2, c2, rs2, rfl, hfs2, hr2, hb2⟩
            have HM2 := Lib.hid (HM1.out.after hfs2 hr2 hb2)
            have X2 := HX1.out.below hb2
            have HX2 := Lib.hid X2
            have b0 := X2.b0
            rw [HVD.out] at b0
            have HB0 := Lib.hid b0
            obtain ⟨k0, k1, k2, k3⟩ := b0.cells4
            obtain ⟨l0, l1, l2, l3⟩ := b0.free4
            clear X2 b0 p0 p1 p2 p3 i0 i1 i2 i3 i4 i5 hfs2 hr2 hb2
            dsimp only [dv, dval]
            go_wp2_with fail
            go_meet
            exact ⟨_, z, _, A2, c2, rs2, _, rfl, rfl, HZ.out, HM2.out.box (Nat.le_refl _) (by omega) _ _ _ _, set4 HB0.out rfl _ _ _ _, (set4_other (by omega) _ _ _ _).trans HX2.out.b2⟩
          · have hb3 : (x == 3) = false := by simp [hx3]
            by_cases hx4 : x = 4
            · subst hx4
              have HPR := Lib.hid (append_calls HM0.out.disk nm HNS.out a.bA a.bc bl (HGB.out _ (Touch.of_below HW0B.out)) (fun hne y hy => HB1.out hne y hy) (fun hne y hy => Nat.lt_of_lt_of_le (HB2.out hne y hy) HW0B.out.size) HIB.out (reach_max HBLL.out))
              rw [← HLB.out] at HPR
              go_wp2_with fail
              refine (HPR.out).mono ?_
              rintro e1 w1 ⟨rfl, hd1, ht1⟩
              dsimp only
              have HT1 := Lib.hid ht1
              have HM1 := Lib.hid (HM0.out.prog hd1 ht1)
              have X1 := HX0.out.touch HM0.out ht1
              have HX1 := Lib.hid X1
              have b0 := X1.b0
              rw [HVD.out] at b0
              obtain ⟨p0, p1, p2, p3⟩ := b0.cells4
              have b1 := X1.b1
              rw [HEN.out] at b1
              obtain ⟨i0, i1, i2, i3, i4, i5⟩ := b1.cells6
              clear hd1 ht1 X1 b0 b1 a0 a1 a2 a3 a4 a5
              go_wp2_with fail
              refine (code_calls _ _).mono ?_
              rintro e2 w1' ⟨rfl, rfl⟩
              dsimp only
              have HRG := Lib.hid (rappend_calls (z := z) HZ.out d HOK.out A c rs HRS.out nm HNG.out a.bA a.bc bl w1 HM1.out.ref (HGB.out _ HM1.out.touch) HBLL.out HIB.out)
              rw [← HLB.out] at HRG
              have HRF := Lib.hid (HRG.out)
              rw [HDV.out] at HRF
              go_wp2_with fail
              refine HRF.out.mono ?_
              rintro e3 w2 ⟨A2, c2, rs2, rfl, hfs2, hr2, hb2⟩
              have HM2 := Lib.hid (HM1.out.after hfs2 hr2 hb2)
              have X2 := HX1.out.below hb2
              have HX2 := Lib.hid X2
              have b0 := X2.b0
              rw [HVD.out] at b0
              have HB0 := Lib.hid b0
              obtain ⟨k0, k1, k2, k3⟩ := b0.cells4
              obtain ⟨l0, l1, l2, l3⟩ := b0.free4
              clear X2 b0 p0 p1 p2 p3 i0 i1 i2 i3 i4 i5 hfs2 hr2 hb2
              dsimp only [dv, dval]
              go_wp2_with fail
              go_meet
              exact ⟨_, z, _, A2, c2, rs2, _, rfl, rfl, HZ.out, HM2.out.box (Nat.le_refl _) (by omega) _ _ _ _, set4 HB0.out rfl _ _ _ _, (set4_other (by omega) _ _ _ _).trans HX2.out.b2⟩
            · have hb4 : (x == 4) = false := by simp [hx4]
              by_cases hx5 : x = 5
              · subst hx5
                have HPR := Lib.hid (crash_calls HM0.out.disk a.kA a.kc kp (HGK.out _ (Touch.of_below HW0B.out)) (fun hne y hy => HK1.out hne y hy) HKR.out HKL.out)
                rw [← HLK.out] at HPR
                go_wp2_with fail
                refine (HPR.out).mono ?_
                rintro e1 w1 ⟨rfl, hd1, ht1⟩
                dsimp only
                have HT1 := Lib.hid ht1
                have HM1 := Lib.hid (HM0.out.prog hd1 ht1)
                have X1 := HX0.out.touch HM0.out ht1
                have HX1 := Lib.hid X1
                have b0 := X1.b0
                rw [HVD.out] at b0
                obtain ⟨p0, p1, p2, p3⟩ := b0.cells4
                have b1 := X1.b1
                rw [HEN.out] at b1
                obtain ⟨i0, i1, i2, i3, i4, i5⟩ := b1.cells6
                clear hd1 ht1 X1 b0 b1 a0 a1 a2 a3 a4 a5
                have HRF := Lib.hid (rcrash_calls (z := z) d HOK.out A c rs HRS.out a.kA a.kc kp w1 HM1.out.ref (HGK.out _ HM1.out.touch) HKR.out HKL.out)
                rw [HDV.out, ← HLK.out] at HRF
                go_wp2_with fail
                refine HRF.out.mono ?_
                rintro e3 w2 ⟨A2, c2, rs2, rfl, hfs2, hr2, hb2⟩
                have HM2 := Lib.hid (HM1.out.after hfs2 hr2 hb2)
                have X2 := HX1.out.below hb2
                have HX2 := Lib.hid X2
                have b0 := X2.b0
                rw [HVD.out] at b0
                have HB0 := Lib.hid b0
                obtain ⟨k0, k1, k2, k3⟩ := b0.cells4
                obtain ⟨l0, l1, l2, l3⟩ := b0.free4
                clear X2 b0 p0 p1 p2 p3 i0 i1 i2 i3 i4 i5 hfs2 hr2 hb2
                dsimp only [dv, dval]
                go_wp2_with fail
                go_meet
                exact ⟨_, -1, _, A2, c2, rs2, _, rfl, rfl, ⟨by omega, by omega⟩, HM2.out.box (Nat.le_refl _) (by omega) _ _ _ _, set4 HB0.out rfl _ _ _ _, (set4_other (by omega) _ _ _ _).trans HX2.out.b2⟩
              · have hb5 : (x == 5) = false := by simp [hx5]
                by_cases hx7 : x = 7
                · subst hx7
                  go_wp2_with fail
                  refine (arm_calls HM0.out.disk m HMR.out.1 HMR.out.2).mono ?_
                  rintro e1 w1 ⟨rfl, hd1, ht1, hz1⟩
                  dsimp only
                  have HT1 := Lib.hid ht1
                  have HM1 := Lib.hid (HM0.out.arm hd1 ht1)
                  have X1 := HX0.out.touch HM0.out ht1
                  have HX1 := Lib.hid X1
                  have b0 := X1.b0
                  rw [HVD.out] at b0
                  obtain ⟨p0, p1, p2, p3⟩ := b0.cells4
                  have b1 := X1.b1
                  rw [HEN.out] at b1
                  obtain ⟨i0, i1, i2, i3, i4, i5⟩ := b1.cells6
                  clear hd1 ht1 X1 b0 b1 a0 a1 a2 a3 a4 a5
                  have HRF := Lib.hid (rarm_calls cap A n c ar fu m w1)
                  unfold dval at HRF
                  go_wp2_with fail
                  refine HRF.out.mono ?_
                  have HAV := Lib.hid (show (d.cap = cap ∧ d.fs.length = n) by
                    have h1 := HVD.out
                    unfold vd at h1
                    simp only [Array.mk.injEq, List.cons.injEq, Value.int.injEq, Value.slice.injEq, true_and] at h1
                    exact ⟨h1.1, h1.2.1.1⟩)
                  rintro e3 w2 ⟨rfl, hb2⟩
                  have HM2 := Lib.hid (HM1.out.after (d2' := armS d m) HM1.out.fs ((HM1.out.ref.below hb2).mono fun k hk => .inl hk) hb2)
                  have X2 := HX1.out.below hb2
                  have HX2 := Lib.hid X2
                  have b0 := X2.b0
                  rw [HVD.out] at b0
                  have HB0 := Lib.hid b0
                  obtain ⟨k0, k1, k2, k3⟩ := b0.cells4
                  obtain ⟨l0, l1, l2, l3⟩ := b0.free4
                  clear X2 b0 p0 p1 p2 p3 i0 i1 i2 i3 i4 i5 hb2
                  dsimp only
                  go_wp2_with fail
                  go_meet
                  refine ⟨0, m, armS d m, A, c, rs, _, rfl, rfl, HMR.out, HM2.out.box (Nat.le_refl _) (by omega) _ _ _ _, ?_, (set4_other (by omega) _ _ _ _).trans HX2.out.b2⟩
                  have h1 := set4 HB0.out rfl (.int .i64 cap) (.slice A n c) (.bool (decide (0 ≤ m))) (.int .i64 m)
                  rw [← HAV.out.1, ← HAV.out.2] at h1 ⊢
                  have hfm : fuV m (armS d m) = m := by
                    unfold fuV armS
                    by_cases h0 : 0 ≤ m <;> simp [h0]
                  unfold vd
                  rw [hfm]
                  exact h1
                · have hb7 : (x == 7) = false := by simp [hx7]
                  go_wp2_with fail
                  go_meet
                  exact ⟨0, z, d, A, c, rs, S, rfl, rfl, HZ.out, HM0.out, HX0.out.b0, HX0.out.b2⟩
  case rest =>
    obtain ⟨xx, zz, dd, A', c', rs', S', rfl, rfl, hzz, M, hb0, hb2⟩ := hcut
    have HZZ := Lib.hid hzz
    clear hzz
    clear a0 a1 a2 a3 a4 a5
    have HM := Lib.hid M
    have HB0 := Lib.hid hb0
    have HB2 := Lib.hid hb2
    obtain ⟨cap', hcap⟩ : ∃ x, x = dd.cap := ⟨_, rfl⟩
    obtain ⟨n', hn⟩ : ∃ x, x = dd.fs.length := ⟨_, rfl⟩
    obtain ⟨ar', har⟩ : ∃ x, x = arV dd := ⟨_, rfl⟩
    obtain ⟨fu', hfu⟩ : ∃ x, x = fuV zz dd := ⟨_, rfl⟩
    obtain ⟨de, hde⟩ : ∃ x, x = dd.dead := ⟨_, rfl⟩
    have hdv : dv zz dd A' c' = .agg #[.int .i64 cap', .slice A' n' c', .bool ar', .int .i64 fu'] := by rw [hcap, hn, har, hfu]; rfl
    have HDV2 := Lib.hid hdv
    have HDC := Lib.hid (show Calls Try.prog 23 #[.pointer (some ⟨sb, 0, none⟩)] wc.drew fun e w' => e = .returned (.bool de) ∧ wc.drew = w' by rw [hde]; exact dead_calls (M.below (below_drew wc)).disk)
    have hdead : (ar' && decide (fu' < 0)) = de := by rw [har, hfu, hde]; exact dead_v M.disk.ok
    have HRC := Lib.hid (rdead_calls cap' A' n' c' ar' fu' wc.drew)
    rw [hdead] at HRC
    unfold dval at HRC
    unfold vd at hb0
    rw [← hcap, ← hn, ← har, ← hfu] at hb0
    obtain ⟨p0, p1, p2, p3⟩ := hb0.cells4
    have HBB0 := Lib.hid hb0
    clear hb0 hb2 M hcap hn har hfu hde hdead hdv
    go_wp2_with fail
    go_region_held3 (fun W => W.cell? ⟨w.heap.size, 0, none⟩ = some (.int .i64 cap') ∧ W.cell? ⟨w.heap.size, 1, none⟩ = some (.slice A' n' c') ∧ W.cell? ⟨w.heap.size, 2, none⟩ = some (.bool ar') ∧ W.cell? ⟨w.heap.size, 3, none⟩ = some (.int .i64 fu')) (first | exact ⟨p0, p1, p2, p3⟩ | exact ⟨q0, q1, q2, q3⟩ | exact ⟨r0, r1, r2, r3⟩) (first | (go_at_call 23; refine HDC.out.mono ?_; rintro e w4 ⟨rfl, rfl⟩) | (go_at_call 35; refine HRC.out.mono ?_; rintro e w5 ⟨rfl, hb5⟩; have hb5' : Below wc.heap.size wc w5 := ⟨hb5.os, hb5.tape, hb5.output, hb5.size, hb5.block⟩; have g0 := HBB0.out.belowAll hb5'; obtain ⟨q0, q1, q2, q3⟩ := g0.cells4; have g2 := HB2.out.belowAll hb5'; obtain ⟨k0, k1, k2, k3⟩ := g2.cells4; obtain ⟨l0, l1, l2, l3⟩ := g2.free4; have g3 := (set4_other (w := w5) (show w.heap.size ≠ w.heap.size + 2 by omega) (.int .i64 cap') (.slice A' n' c') (.bool ar') (.int .i64 fu')).trans g0; obtain ⟨r0, r1, r2, r3⟩ := (show Blk _ w.heap.size _ 32 from g3).cells4))
    all_goals
      go_wp2
      have M5 := (HM.out.below hb5').box (g := w.heap.size + 2) (by omega) (by omega) (.int .i64 cap') (.slice A' n' c') (.bool ar') (.int .i64 fu')
      refine bodyPost_ret (results_cell_tmp1 rfl _ _ _ _ _ rfl (lv32 (set4 g2 rfl _ _ _ _))) rfl ?_
      refine ⟨S', zz, dd, A', c', rs', ?_, HZZ.out, M5.disk, M5.fs, M5.ref.mono (fun k hk => ⟨hk.1, hk.2.imp (fun h => h.2) (fun h => by omega)⟩), M5.touch, fun k hk => ?_⟩
      · rw [HDV2.out]
        rfl
      · rcases M5.sub k hk with h1 | h1
        · exact .inl h1.1
        · exact .inr (by omega)
end Go.Proofs.Ytpnlgmnlanoncaa
