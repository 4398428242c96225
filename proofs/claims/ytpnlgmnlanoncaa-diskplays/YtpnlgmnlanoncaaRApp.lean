/-
  Contract of the document's Append. Conditions: the files lie in memory, names of at most reachBytes, the bytes lie in memory.
-/
import Derived.Test.YtpnlgmnlanoncaaRWith
namespace Go.Proofs.Ytpnlgmnlanoncaa
open Go.ChangeShapes Go.WideShapes Go.ChangeAt Go.RowKit
set_option linter.unusedVariables false

theorem results_cell_tmp1 {fn : Func} {p u : Tmp} {ty : TypeId} (h : fn.results = #[.cell p ty, .tmp u]) (tmps : Array Value) (P : Program) (w : World) (a1 : Addr) (x : Value)
    (hp : tmps.getD p undef = .pointer (some a1)) (l1 : (loadVar ty a1).run P w = .ok x w) :
    (results fn tmps).run P w = .ok (.tuple #[x, tmps.getD u undef]) w := by
  rw [Array.getD_eq_getD_getElem?] at hp
  simp only [results, h]
  simp [Result.andThen, hp, asAddr, l1]
/-- The document's disk as a value, by the plain one. -/
def dv (z : Int) (d : St) (A : Option Addr) (c : Nat) : Value := dval d.cap A d.fs.length c (arV d) (fuV z d)
theorem burn_v {z : Int} {d : St} (h : Ok d) : arV (burn d) = arV d ∧ fuV z (burn d) = (if arV d && decide (0 ≤ fuV z d) then fuV z d - 1 else fuV z d) := by
  unfold arV fuV burn
  cases hd : d.dead with
  | true =>
    have := h.dead hd
    simp [this]
  | false =>
    by_cases h0 : d.left = 0
    · simp [h0]
    · by_cases h1 : 0 < d.left
      · have h2 : 0 ≤ d.left := by omega
        simp [h0, h1, h2]
        omega
      · have h2 : ¬ 0 ≤ d.left := by omega
        simp [h0, h1, h2]
theorem dead_v {z : Int} {d : St} (h : Ok d) : (arV d && decide (fuV z d < 0)) = d.dead := by
  unfold arV fuV
  cases hd : d.dead with
  | true =>
    have := h.dead hd
    simp [this]
  | false =>
    by_cases h2 : 0 ≤ d.left
    · have h3 : ¬ d.left < 0 := by omega
      simp [h2, h3]
    · simp [h2]
theorem burn_dead {d : St} (h : Ok d) : (burn d).dead = decide (d.left = 0) := by
  unfold burn
  by_cases h0 : d.left = 0
  · simp [h0]
  · have hd : d.dead = false := by
      cases hd : d.dead with
      | true => exact absurd (h.dead hd) h0
      | false => rfl
    by_cases h1 : 0 < d.left
    · simp [h0, h1, hd]
    · simp [h0, h1, hd]
theorem fu_small {z : Int} {d : St} (h : Ok d) (hz : I64 z) : -9223372036854775808 ≤ fuV z d ∧ fuV z d ≤ 9223372036854775807 := by
  unfold fuV
  have := h.small
  have := hz.1
  have := hz.2
  split
  · split <;> omega
  · omega
/-- What a call of the document's hands back: a disk and an error. -/
def RefDone (z : Int) (T : Nat → Prop) (w : World) (r : St × Int) (e : Ending) (w' : World) : Prop :=
  ∃ A c rs, e = .returned (.tuple #[dv z r.1 A c, .int .i64 r.2]) ∧ rs.map Rf.f = r.1.fs ∧ Ref (fun k => T k ∨ w.heap.size ≤ k) w' A c rs ∧ Below w.heap.size w w'
def vd (z : Int) (d : St) (A : Option Addr) (n c : Nat) : Array Value := #[.int .i64 d.cap, .slice A n c, .bool (arV d), .int .i64 (fuV z d)]
def z32 : Array Value := #[.int .i64 0, .slice none 0 0, .bool false, .int .i64 0]
/-- Two structs of the call's own: the disk, and the result. -/
structure Two2 (w W : World) (v r : Array Value) : Prop where
  b1 : Blk W w.heap.size v 32
  b2 : Blk W (w.heap.size + 1) r 32
  below : Below w.heap.size w W
  size : w.heap.size + 2 ≤ W.heap.size
theorem Two2.start (w : World) (v : Array Value) : Two2 w ((w.alloc (.cells v 32)).alloc (.cells z32 32)) v z32 := ⟨(Blk.new w _ 32).alloc _, Blk.newAt _ _ _ (by simp), below_two _ _ _, by simp⟩
theorem Two2.on {w W W' : World} {v r : Array Value} (h : Two2 w W v r) (hb : Below W.heap.size W W') : Two2 w W' v r :=
  ⟨h.b1.belowAll hb, h.b2.belowAll hb, h.below.trans (hb.mono (by have := h.size; omega)), Nat.le_trans h.size hb.size⟩
theorem Two2.set1 {w W : World} {v r : Array Value} (h : Two2 w W v r) (hc : v.size = 4) (x0 x1 x2 x3 : Value) : Two2 w ((((W.setCell ⟨w.heap.size, 0, none⟩ x0).setCell ⟨w.heap.size, 1, none⟩ x1).setCell ⟨w.heap.size, 2, none⟩ x2).setCell ⟨w.heap.size, 3, none⟩ x3) #[x0, x1, x2, x3] r :=
  ⟨set4 h.b1 hc _ _ _ _, (set4_other (by omega) _ _ _ _).trans h.b2, set4_below h.below (Nat.le_refl _) _ _ _ _, by rw [set4_size]; exact h.size⟩
theorem Two2.set2 {w W : World} {v r : Array Value} (h : Two2 w W v r) (hc : r.size = 4) (x0 x1 x2 x3 : Value) : Two2 w ((((W.setCell ⟨w.heap.size + 1, 0, none⟩ x0).setCell ⟨w.heap.size + 1, 1, none⟩ x1).setCell ⟨w.heap.size + 1, 2, none⟩ x2).setCell ⟨w.heap.size + 1, 3, none⟩ x3) v #[x0, x1, x2, x3] :=
  ⟨(set4_other (by omega) _ _ _ _).trans h.b1, set4 h.b2 hc _ _ _ _, set4_below h.below (by omega) _ _ _ _, by rw [set4_size]; exact h.size⟩
theorem Ref.two {T : Nat → Prop} {w W : World} {v r : Array Value} {A : Option Addr} {c : Nat} {rs : List Rf} (h : Ref T w A c rs) (h2 : Two2 w W v r) : Ref T W A c rs := h.below h2.below
theorem Ref.fin {T : Nat → Prop} {w W : World} {v r : Array Value} {A : Option Addr} {c : Nat} {rs : List Rf} (h : Ref T w A c rs) (h2 : Two2 w W v r) : Ref (fun k => T k ∨ w.heap.size ≤ k) W A c rs := (h.two h2).mono fun _ h => .inl h

def cells4 (W : World) (g : Nat) (a b c d : Value) : Prop := W.cell? ⟨g, 0, none⟩ = some a ∧ W.cell? ⟨g, 1, none⟩ = some b ∧ W.cell? ⟨g, 2, none⟩ = some c ∧ W.cell? ⟨g, 3, none⟩ = some d
theorem Blk.cells4 {W : World} {g : Nat} {a b c d : Value} {t : TypeId} (h : Blk W g #[a, b, c, d] t) : cells4 W g a b c d := ⟨h.cell 0, h.cell 1, h.cell 2, h.cell 3⟩
def free4 (W : World) (g : Nat) : Prop := W.frozen? ⟨g, 0, none⟩ = false ∧ W.frozen? ⟨g, 1, none⟩ = false ∧ W.frozen? ⟨g, 2, none⟩ = false ∧ W.frozen? ⟨g, 3, none⟩ = false
theorem Blk.free4 {W : World} {g : Nat} {cs : Array Value} {t : TypeId} (h : Blk W g cs t) : free4 W g := ⟨h.free 0, h.free 1, h.free 2, h.free 3⟩

set_option maxRecDepth 20000 in
set_option maxHeartbeats 4000000 in
theorem rappend_calls {z : Int} (hz : I64 z) {T : Nat → Prop} (d : St) (hok : Ok d) (A : Option Addr) (c : Nat) (rs : List Rf) (hrs : rs.map Rf.f = d.fs) (s : ByteArray) (hs : s.size ≤ reachBytes) (B : Option Addr) (cb : Nat) (b : List Int) (w : World) (h : Ref T w A c rs) (hb : Lies w B cb b) (hbl : b.length ≤ 140737488351232) (hIB : IsB b) :
    Calls Try.prog 32 #[dv z d A c, .string s, .slice B b.length cb] w (RefDone z T w (appendS d s b)) := by
  have hlen : d.fs.length = rs.length := by rw [← hrs, List.length_map]
  unfold dv dval
  rw [hlen]
  obtain ⟨cap, hcap⟩ : ∃ cap, cap = d.cap := ⟨_, rfl⟩
  obtain ⟨ar, har⟩ : ∃ ar, ar = arV d := ⟨_, rfl⟩
  obtain ⟨fu, hfu⟩ : ∃ fu, fu = fuV z d := ⟨_, rfl⟩
  obtain ⟨n, hn⟩ : ∃ n, n = rs.length := ⟨_, rfl⟩
  obtain ⟨nb, hnb⟩ : ∃ nb, nb = b.length := ⟨_, rfl⟩
  have hfs := fu_small (z := z) hok hz
  clear hz
  have hbv := burn_v (z := z) hok
  rw [← har, ← hfu] at hbv
  rw [← hfu] at hfs
  rw [← hcap, ← har, ← hfu, ← hn, ← hnb]
  rw [← hnb] at hbl
  obtain ⟨W0, hW0⟩ : ∃ W0, W0 = (w.alloc (.cells #[.int .i64 cap, .slice A n c, .bool ar, .int .i64 fu] 32)).alloc (.cells z32 32) := ⟨_, rfl⟩
  have t0 : Two2 w W0 #[.int .i64 cap, .slice A n c, .bool ar, .int .i64 fu] z32 := by rw [hW0]; exact Two2.start w _
  have hsm : s.size ≤ maxLen := by unfold maxLen; have : s.size ≤ 140737488351232 := hs; omega
  have HWR := Lib.hid (rwrong_calls s W0 hsm)
  have HR := Lib.hid h
  have HT0 := Lib.hid t0
  have HRS := Lib.hid hrs
  have HLB := Lib.hid hb
  have HOK := Lib.hid hok
  have HCAP := Lib.hid hcap
  have HAR := Lib.hid har
  have HFU := Lib.hid hfu
  have HN := Lib.hid hn
  have HNB := Lib.hid hnb
  have HIB := Lib.hid hIB
  have HLEN := Lib.hid hlen
  have HS := Lib.hid hs
  obtain ⟨r, hr⟩ : ∃ r, r = appendS d s b := ⟨_, rfl⟩
  rw [← hr]
  have HRR := Lib.hid hr
  obtain ⟨c0, c1, c2, c3⟩ := t0.b1.cells4
  unfold z32 at hW0
  clear h hb hr hrs hok hcap har hfu hn hnb hIB hlen hs hsm
  by_cases hbad : bad s = true
  · rw [hbad] at HWR
    have HE := Lib.hid (show r = (d, 1) by rw [HRR.out]; simp [appendS, startS, hbad])
    have HF := Lib.hid (t0.set2 rfl (.int .i64 cap) (.slice A n c) (.bool ar) (.int .i64 fu))
    obtain ⟨k0, k1, k2, k3⟩ := (show Blk W0 (w.heap.size + 1) #[.int .i64 0, .slice none 0 0, .bool false, .int .i64 0] 32 from t0.b2).cells4
    obtain ⟨l0, l1, l2, l3⟩ := t0.b2.free4
    clear t0 hbad
    go_enter Try.func32, Try.ntmps32
    go_wp2_with fail
    rw [← hW0]
    clear hW0
    refine HWR.out.mono ?_
    rintro e w' ⟨rfl, rfl⟩
    dsimp only
    go_wp2
    refine bodyPost_ret (results_cell_tmp1 rfl _ _ _ _ _ rfl (lv32 HF.out.b2)) rfl ?_
    rw [HE.out]
    refine ⟨A, c, rs, ?_, HRS.out, HR.out.fin HF.out, HF.out.below⟩
    unfold dv dval
    rw [HLEN.out, ← HCAP.out, ← HAR.out, ← HFU.out, ← HN.out]
    rfl
  · have hbad' : bad s = false := by simpa using hbad
    rw [hbad'] at HWR
    have HBU := Lib.hid (rburn_calls cap A n c ar fu W0 hfs.1 hfs.2)
    obtain ⟨fu1, hfu1⟩ : ∃ fu1, fu1 = (if ar && decide (0 ≤ fu) then fu - 1 else fu) := ⟨_, rfl⟩
    rw [← hfu1] at HBU hbv
    have HBV := Lib.hid hbv
    unfold dval at HBU
    clear t0 hbad hfs hbv hfu1
    go_enter Try.func32, Try.ntmps32
    go_wp2_with fail
    rw [← hW0]
    clear hW0
    refine HWR.out.mono ?_
    rintro e w' ⟨rfl, rfl⟩
    dsimp only
    go_wp2_with fail
    refine HBU.out.mono ?_
    rintro e w1 ⟨rfl, hb1⟩
    dsimp only [dval]
    have t1 := HT0.out.on hb1
    obtain ⟨k0, k1, k2, k3⟩ := t1.b1.cells4
    obtain ⟨l0, l1, l2, l3⟩ := t1.b1.free4
    obtain ⟨W1, hW1⟩ : ∃ W1, W1 = (((w1.setCell ⟨w.heap.size, 0, none⟩ (.int .i64 cap)).setCell ⟨w.heap.size, 1, none⟩ (.slice A n c)).setCell ⟨w.heap.size, 2, none⟩ (.bool ar)).setCell ⟨w.heap.size, 3, none⟩ (.int .i64 fu1) := ⟨_, rfl⟩
    have t2 : Two2 w W1 #[.int .i64 cap, .slice A n c, .bool ar, .int .i64 fu1] z32 := by rw [hW1]; exact t1.set1 rfl _ _ _ _
    have HT2 := Lib.hid t2
    have HDE := Lib.hid (rdead_calls cap A n c ar fu1 W1)
    unfold dval at HDE
    have e0 := (hW1 ▸ t2.b1.cells4 : cells4 ((((w1.setCell ⟨w.heap.size, 0, none⟩ (.int .i64 cap)).setCell ⟨w.heap.size, 1, none⟩ (.slice A n c)).setCell ⟨w.heap.size, 2, none⟩ (.bool ar)).setCell ⟨w.heap.size, 3, none⟩ (.int .i64 fu1)) w.heap.size _ _ _ _)
    obtain ⟨e0, e1, e2, e3⟩ := e0
    clear t1 t2 hb1 c0 c1 c2 c3
    have hdv : (ar && decide (fu1 < 0)) = decide (d.left = 0) := by
      have h1 := dead_v (z := z) HOK.out.burn
      rw [HBV.out.1, HBV.out.2] at h1
      rw [h1]; exact burn_dead HOK.out
    rw [hdv] at HDE
    go_wp2_with fail
    rw [← hW1]
    clear hW1 e0 e1 e2 e3 k0 k1 k2 k3 l0 l1 l2 l3 hdv
    refine HDE.out.mono ?_
    rintro e w2 ⟨rfl, hb2⟩
    dsimp only
    have t3 := HT2.out.on hb2
    have HT3 := Lib.hid t3
    obtain ⟨c0, c1, c2, c3⟩ := t3.b1.cells4
    have hburn := burn_fs d
    have HDB := Lib.hid (show ∀ A' c', dv z (burn d) A' c' = .agg #[.int .i64 cap, .slice A' n c', .bool ar, .int .i64 fu1] by
      intro A' c'
      unfold dv dval
      rw [hburn.1, hburn.2, HBV.out.1, HBV.out.2, HLEN.out, ← HCAP.out, ← HN.out])
    have HBF := Lib.hid hburn
    clear hburn
    by_cases h0 : d.left = 0
    · have HE := Lib.hid (show r = (burn d, 61) by rw [HRR.out]; simp [appendS, startS, hbad', h0])
      have hdd : decide (d.left = 0) = true := by simpa using h0
      have HF := Lib.hid (t3.set2 rfl (.int .i64 cap) (.slice A n c) (.bool ar) (.int .i64 fu1))
      obtain ⟨k0, k1, k2, k3⟩ := (show Blk w2 (w.heap.size + 1) #[.int .i64 0, .slice none 0 0, .bool false, .int .i64 0] 32 from t3.b2).cells4
      obtain ⟨l0, l1, l2, l3⟩ := t3.b2.free4
      clear t3 h0 hbad' hb2
      rw [hdd]
      go_wp2
      refine bodyPost_ret (results_cell_tmp1 rfl _ _ _ _ _ rfl (lv32 HF.out.b2)) rfl ?_
      rw [HE.out]
      refine ⟨A, c, rs, ?_, by rw [HBF.out.1]; exact HRS.out, HR.out.fin HF.out, HF.out.below⟩
      rw [HDB.out]
      rfl
    · have hdd : decide (d.left = 0) = false := by simpa using h0
      rw [hdd]
      have hst : appendS d s b = appS (burn d) s b := by
        unfold appendS startS
        simp [hbad', h0]
      rw [hst] at HRR
      have htot : totR rs = total d.fs := by unfold totR; rw [HRS.out]
      have HTOT := Lib.hid htot
      have hfit := HOK.out.fits
      have hhi := HOK.out.hi
      have hlo := HOK.out.lo
      have hmany := HOK.out.many
      rw [← HCAP.out] at hfit hhi hlo
      have HLF := Lib.hid (rleft_calls cap A c ar fu1 rs w2 (HR.out.two t3) (by rw [← HLEN.out]; omega) (by omega) (by omega) (by rw [htot]; omega))
      rw [← HN.out] at HLF
      unfold dval at HLF
      obtain ⟨m, hm⟩ : ∃ m : Int, m = cap - (totR rs : Int) := ⟨_, rfl⟩
      rw [← hm] at HLF
      have HM := Lib.hid hm
      have hm0 : 0 ≤ m := by rw [hm, htot]; omega
      have hm1 : m ≤ 1048576 := by rw [hm]; omega
      clear hst htot hfit hhi hlo hmany h0 hbad' hdd hm t3 hb2
      go_wp2_with fail
      refine HLF.out.mono ?_
      rintro e w3 ⟨rfl, hb3⟩
      dsimp only
      have t4 := HT3.out.on hb3
      have HT4 := Lib.hid t4
      obtain ⟨g0, g1, g2, g3⟩ := t4.b1.cells4
      clear c0 c1 c2 c3 hb3
      by_cases hfull : m < (nb : Int)
      · have hd : decide (m < (nb : Int)) = true := by simpa using hfull
        have HE := Lib.hid (show r = (burn d, 60) by
          rw [HRR.out]
          unfold appS
          rw [HBF.out.1, HBF.out.2, ← HCAP.out, ← HTOT.out, ← HM.out, ← HNB.out]
          exact if_pos hfull)
        have HF := Lib.hid (t4.set2 rfl (.int .i64 cap) (.slice A n c) (.bool ar) (.int .i64 fu1))
        obtain ⟨k0, k1, k2, k3⟩ := (show Blk w3 (w.heap.size + 1) #[.int .i64 0, .slice none 0 0, .bool false, .int .i64 0] 32 from t4.b2).cells4
        obtain ⟨l0, l1, l2, l3⟩ := t4.b2.free4
        clear t4 hfull
        go_wp2
        refine bodyPost_ret (results_cell_tmp1 rfl _ _ _ _ _ rfl (lv32 HF.out.b2)) rfl ?_
        rw [HE.out]
        refine ⟨A, c, rs, ?_, by rw [HBF.out.1]; exact HRS.out, HR.out.fin HF.out, HF.out.below⟩
        rw [HDB.out]
        rfl
      · have hd : decide (m < (nb : Int)) = false := by simpa using hfull
        have HPL := Lib.hid (rplace_calls cap A c ar fu1 rs s w3 (HR.out.two t4) (by have := HOK.out.many; rw [← HLEN.out]; omega))
        rw [← HN.out] at HPL
        unfold dval at HPL
        clear t4
        go_wp2_with fail
        refine HPL.out.mono ?_
        rintro e w4 ⟨⟨x, rfl, hx⟩, hb4⟩
        dsimp only
        have t5 := HT4.out.on hb4
        have HT5 := Lib.hid t5
        obtain ⟨c0, c1, c2, c3⟩ := t5.b1.cells4
        clear g0 g1 g2 g3 hb4
        have hrun33 : ∀ W, Below w.heap.size w W → Lies W B cb b := fun W hW => HLB.out.below hW
        have HLBW := Lib.hid hrun33
        clear hrun33
        rcases hx with ⟨rfl, hno⟩ | ⟨i, rf, rfl, hi, hnm⟩
        · have hfd : fd Fl.name d.fs s = none := fd_none_of fun f hf => by
            rw [← HRS.out] at hf
            obtain ⟨r0, h1, rfl⟩ := List.mem_map.1 hf
            exact hno r0 h1
          have HFD := Lib.hid hfd
          clear hno hfd
          by_cases hmax : (65536 : Int) ≤ (n : Int)
          · have hd3 : decide ((65536 : Int) ≤ (n : Int)) = true := by simpa using hmax
            have HE := Lib.hid (show r = (burn d, 9) by
              rw [HRR.out]
              unfold appS
              rw [HBF.out.1, HBF.out.2, ← HCAP.out, ← HTOT.out, ← HM.out, ← HNB.out, if_neg (show ¬ m < (nb : Int) by omega), HFD.out]
              exact if_pos (by rw [HLEN.out, ← HN.out]; omega))
            have HF := Lib.hid (t5.set2 rfl (.int .i64 cap) (.slice A n c) (.bool ar) (.int .i64 fu1))
            obtain ⟨k0, k1, k2, k3⟩ := (show Blk w4 (w.heap.size + 1) #[.int .i64 0, .slice none 0 0, .bool false, .int .i64 0] 32 from t5.b2).cells4
            obtain ⟨l0, l1, l2, l3⟩ := t5.b2.free4
            clear t5 hfull hmax hm0 hm1
            go_wp2
            refine bodyPost_ret (results_cell_tmp1 rfl _ _ _ _ _ rfl (lv32 HF.out.b2)) rfl ?_
            rw [HE.out]
            refine ⟨A, c, rs, ?_, by rw [HBF.out.1]; exact HRS.out, HR.out.fin HF.out, HF.out.below⟩
            rw [HDB.out]
            rfl
          · have hd3 : decide ((65536 : Int) ≤ (n : Int)) = false := by simpa using hmax
            have HE := Lib.hid (show r = ({ burn d with fs := wi Fl.name (burn d).fs ⟨s, b, 0, false⟩ }, 0) by
              rw [HRR.out]
              unfold appS
              rw [if_neg (show ¬ ((burn d).cap - ((total (burn d).fs : Nat) : Int) < (b.length : Int)) by rw [HBF.out.1, HBF.out.2, ← HCAP.out, ← HTOT.out, ← HM.out, ← HNB.out]; omega), show fd Fl.name (burn d).fs s = none by rw [HBF.out.1]; exact HFD.out]
              exact if_neg (show ¬ 65536 ≤ (burn d).fs.length by rw [HBF.out.1, HLEN.out, ← HN.out]; omega))
            have hq0 : w.heap.size + 2 ≤ w4.heap.size := t5.size
            have HQ0 := Lib.hid hq0
            have HBW4 := Lib.hid t5.below
            have HBQ2 := Lib.hid ((Blk.new w4 #[.string s, .slice none 0 0, .int .i64 0, .bool false] 77).alloc (.cells #[] 5))
            have z1 := HBQ2.out.cell 1
            have hown0 : OwnS (w4.heap.size + 1) ((w4.alloc (.cells #[.string s, .slice none 0 0, .int .i64 0, .bool false] 77)).alloc (.cells #[] 5)) (some ⟨w4.heap.size + 1, 0, none⟩) 0 [] := by
              have := World.ownsRow_lit (size := 1) (e := 5) (base := w4.heap.size + 1) (w4.alloc (.cells #[.string s, .slice none 0 0, .int .i64 0, .bool false] 77)) #[] 0 (by simp) (by unfold maxLen; omega) rfl
              unfold OwnS
              simpa [cellsOf] using this
            have HO0 := Lib.hid hown0
            have HBE0 := Lib.hid (below_two w4 (.cells #[.string s, .slice none 0 0, .int .i64 0, .bool false] 77) (.cells #[] 5))
            have HSZ0 := Lib.hid (show w4.heap.size + 1 ≤ ((w4.alloc (.cells #[.string s, .slice none 0 0, .int .i64 0, .bool false] 77)).alloc (.cells #[] 5)).heap.size by simp)
            have HLF0 := Lib.hid (show Lies ((w4.alloc (.cells #[.string s, .slice none 0 0, .int .i64 0, .bool false] 77)).alloc (.cells #[] 5)) none 0 ([] : List Int) from Lies.nil _)
            have HFL := Lib.hid (show ([] : List Int).length ≤ 1048576 from by simp)
            have HNB2 := Lib.hid (show nb ≤ 1048576 by omega)
            clear hmax
            clear t5 hq0 hown0 hfull hm0 hm1
            go_wp2_with (first | (at_builtin; refine wpList_append_bytes rfl _ _ rfl (w4.heap.size + 1) A5 c5 L5 rfl HO5.out B cb b (by show _ = _; rw [← HNB.out]; rfl) (HLBW.out _ HBB5.out) (by rw [← HNB.out, HL5.out, List.length_append]; have := HNB2.out; have := HFL.out; simp; omega) (Nat.le_trans HSZ0.out HB5.out.size) ?_; intro A6 c6 w6 L6 hL6 hown6 hgrow6; have HB6 := Lib.hid (OwnS.grow HO5.out HB5.out hgrow6 (Nat.le_trans HSZ0.out HB5.out.size)); have HL6 := Lib.hid (show L6 = ([] : List Int) ++ b by rw [hL6.out, HL5.out]; rfl); have bq6 := HBQ2.out.below HB6.out (by omega); have y1 := bq6.cell 1; have y2 := bq6.free 1; have bq7 := bq6.set 1 (.slice A6 L6.length c6); have q0 := bq7.cell 0; have q1 := bq7.cell 1; have q2 := bq7.cell 2; have q3 := bq7.cell 3; have HBE7 := Lib.hid ((HBE0.out.trans (HB6.out.mono (Nat.le_succ _))).setCell (p := ⟨w4.heap.size, 1, none⟩) (Nat.le_refl _) (.slice A6 L6.length c6)); have t7 := HT5.out.on HBE7.out; have HT7 := Lib.hid t7; obtain ⟨u0, u1, u2, u3⟩ := t7.b1.cells4; have HO7 := Lib.hid (show OwnS (w4.heap.size + 1) (w6.setCell ⟨w4.heap.size, 1, none⟩ (.slice A6 L6.length c6)) A6 c6 L6 from hown6.blocks (fun a ha => Below.heap_setCell _ _ _ _ (by have := (hown6.row a.block (by rw [ha]; rfl)); obtain ⟨cur, q, h1⟩ := this; intro e; rw [show a.block = w4.heap.size from e, show w6.heap[w4.heap.size]? = _ from bq6] at h1; injection h1 with h1; injection h1 with _ h2; cases h2))); clear bq6 bq7 t7 hown6 hgrow6 hL6 c0 c1 c2 c3) | (at_builtin; refine wpList_append_bytes rfl _ _ rfl (w4.heap.size + 1) (some ⟨w4.heap.size + 1, 0, none⟩) 0 [] rfl HO0.out none 0 ([] : List Int) rfl HLF0.out (by have h9 := HFL.out; exact Nat.le_trans (Nat.add_le_add (Nat.le_refl _) h9) (by decide)) HSZ0.out ?_; intro A5 c5 w5 L5 hL5 hown5 hgrow5; have HB5 := Lib.hid (OwnS.grow HO0.out (Below.refl _ _) hgrow5 HSZ0.out); have HBB5 := Lib.hid (show Below w.heap.size w w5 from (HBW4.out.trans (HBE0.out.mono (by have := HQ0.out; omega))).trans (HB5.out.mono (by have := HQ0.out; omega))); have HL5 := Lib.hid (show L5 = [] ++ ([] : List Int) from hL5.out); have HO5 := Lib.hid hown5; clear hown5 hgrow5 hL5 z1))
            skip
            have HNS := Lib.hid (show ∀ r0 ∈ rs, r0.f.name.size ≤ reachBytes from fun r0 hr0 => by
              have hm0 : r0.f ∈ d.fs := by rw [← HRS.out]; exact List.mem_map.2 ⟨r0, hr0, rfl⟩
              have := (HOK.out.files _ hm0).2.2
              unfold bad at this
              simp at this
              have h64 : (64 : Nat) ≤ reachBytes := by decide
              omega)
            have HWI := Lib.hid (rwith_calls (T := fun k => (T k ∧ k < w.heap.size) ∨ w4.heap.size ≤ k) cap A c ar fu1 rs ⟨⟨s, L6, 0, false⟩, A6, c6⟩ (w6.setCell ⟨w4.heap.size, 1, none⟩ (.slice A6 L6.length c6)) ((HR.out.bounded.two HT7.out).mono fun _ h => .inl h) (by have := HOK.out.many; rw [← HLEN.out]; omega) HO7.out.lies HO7.out.cap (fun hne a ha => .inr (by
              have ha' : A6 = some a := ha
              rcases HO7.out.2 with ⟨hv, _⟩ | ⟨g, cap', cur, hv, hg, _⟩
              · rw [ha'] at hv; cases hv
              · rw [ha'] at hv
                injection hv with hv
                injection hv with hv
                rw [hv]
                show w4.heap.size ≤ g
                omega)) (HS.out) HNS.out)
            rw [← HN.out] at HWI
            unfold dval fval at HWI
            clear u0 u1 u2 u3 q0 q1 q2 q3 y1 y2
            refine HWI.out.mono ?_
            rintro e w8 ⟨A8, c8, rfl, hRef8, hb8⟩
            have t8 := HT7.out.on hb8
            have HFF := Lib.hid (t8.set2 rfl (.int .i64 cap) (.slice A8 (wi Rf.name rs ⟨⟨s, L6, 0, false⟩, A6, c6⟩).length c8) (.bool ar) (.int .i64 fu1))
            obtain ⟨k0, k1, k2, k3⟩ := (show Blk w8 (w.heap.size + 1) #[.int .i64 0, .slice none 0 0, .bool false, .int .i64 0] 32 from t8.b2).cells4
            obtain ⟨l0, l1, l2, l3⟩ := t8.b2.free4
            have HB8 := Lib.hid hb8
            have HRE8 := Lib.hid hRef8
            have HMAP := Lib.hid (show (wi Rf.name rs ⟨⟨s, L6, 0, false⟩, A6, c6⟩).map Rf.f = r.1.fs by
              rw [HE.out, map_wi (nm := Rf.name) (nn := Fl.name) (g := Rf.f) (fun _ => rfl), HRS.out, HL6.out]
              show _ = wi Fl.name (burn d).fs _
              rw [HBF.out.1]
              try rfl)
            obtain ⟨X8, hX8⟩ : ∃ X8, X8 = wi Rf.name rs ⟨⟨s, L6, 0, false⟩, A6, c6⟩ := ⟨_, rfl⟩
            rw [← hX8] at HFF HRE8 HMAP ⊢
            clear t8 hb8 hRef8 hX8
            dsimp only [dval]
            go_wp2
            refine bodyPost_ret (results_cell_tmp1 rfl _ _ _ _ _ rfl (lv32 HFF.out.b2)) rfl ?_
            have hX9 : X8.length = r.1.fs.length := by rw [← HMAP.out, List.length_map]
            refine ⟨A8, c8, X8, ?_, HMAP.out, ?_, HFF.out.below⟩
            · have e2 : r.2 = 0 := by rw [HE.out]
              have e3 : dv z r.1 A8 c8 = .agg #[.int .i64 cap, .slice A8 X8.length c8, .bool ar, .int .i64 fu1] := by
                have h1 := HDB.out A8 c8
                unfold dv dval at h1 ⊢
                rw [← hX9]
                rw [HE.out]
                show Value.agg #[.int .i64 (burn d).cap, .slice A8 X8.length c8, .bool (arV (burn d)), .int .i64 (fuV z (burn d))] = _
                rw [HBF.out.2, HBV.out.1, HBV.out.2, ← HCAP.out]
              rw [e2, e3]
              rfl
            · have h1 := HRE8.out.kept (w' := _) fun k hk hk2 => set4_other (g := w.heap.size + 1) (fun e => by
                have h2 := HQ0.out
                have h3 := HT7.out.size
                have h4 := HBE7.out.size
                rcases hk with (hk | hk) | hk
                · omega
                · omega
                · omega) (.int .i64 cap) (.slice A8 X8.length c8) (.bool ar) (.int .i64 fu1)
              refine h1.mono fun k hk => ?_
              have h2 := HQ0.out
              have h4 := HBE7.out.size
              rcases hk with (hk | hk) | hk
              · exact .inl hk.1
              · exact .inr (by omega)
              · exact .inr (by omega)
        · have hmem : rf ∈ rs := List.mem_of_getElem? hi
          have hdi : d.fs[i]? = some rf.f := by rw [← HRS.out, List.getElem?_map, hi]; rfl
          have hfd : fd Fl.name d.fs s = some rf.f := by rw [← hnm]; exact fd_at HOK.out.srt hdi
          have hin : i < n := by rw [HN.out]; exact (List.getElem?_eq_some_iff.1 hi).1
          have hini : (i : Int) < (n : Int) := by omega
          have HE := Lib.hid (show r = ({ burn d with fs := wi Fl.name (burn d).fs { rf.f with b := rf.f.b ++ b } }, 0) by
            rw [HRR.out]
            unfold appS
            rw [if_neg (show ¬ ((burn d).cap - ((total (burn d).fs : Nat) : Int) < (b.length : Int)) by rw [HBF.out.1, HBF.out.2, ← HCAP.out, ← HTOT.out, ← HM.out, ← HNB.out]; omega), show fd Fl.name (burn d).fs s = some rf.f by rw [HBF.out.1]; exact hfd])
          obtain ⟨b0, o0, hA, hbs, g0, g1, g2, g3⟩ := HR.out.cellAt (t5.below.trans ((below_one w4 (.cells #[.string s, .slice none 0 0, .int .i64 0, .bool false] 77)).mono (by have := t5.size; omega))) hi
          subst hA
          have c1q := (t5.b1.alloc (.cells #[.string s, .slice none 0 0, .int .i64 0, .bool false] 77)).cell 1
          have hrl := HR.out.2.2 rf hmem
          have htl : rf.f.b.length ≤ 1048576 := by
            have h1 := total_mem (List.mem_of_getElem? hdi)
            have h2 := HOK.out.fits
            have h3 := HOK.out.hi
            omega
          have hrn : rf.f.name.size ≤ reachBytes := by rw [hnm]; exact HS.out
          have HRN := Lib.hid hrn
          have HRL := Lib.hid hrl
          clear hfd hdi hmem hnm hi hrl hrn
          have hq0 : w.heap.size + 2 ≤ w4.heap.size := t5.size
          have HQ0 := Lib.hid hq0
          have HBW4 := Lib.hid t5.below
          have HBQ2 := Lib.hid ((Blk.new w4 #[.string rf.f.name, .slice rf.A rf.f.b.length rf.c, .int .i64 (rf.f.syn : Int), .bool rf.f.ever] 77).alloc (.cells #[] 5))
          have z1 := HBQ2.out.cell 1
          have hown0 : OwnS (w4.heap.size + 1) ((w4.alloc (.cells #[.string rf.f.name, .slice rf.A rf.f.b.length rf.c, .int .i64 (rf.f.syn : Int), .bool rf.f.ever] 77)).alloc (.cells #[] 5)) (some ⟨w4.heap.size + 1, 0, none⟩) 0 [] := by
            have := World.ownsRow_lit (size := 1) (e := 5) (base := w4.heap.size + 1) (w4.alloc (.cells #[.string rf.f.name, .slice rf.A rf.f.b.length rf.c, .int .i64 (rf.f.syn : Int), .bool rf.f.ever] 77)) #[] 0 (by simp) (by unfold maxLen; omega) rfl
            unfold OwnS
            simpa [cellsOf] using this
          have HO0 := Lib.hid hown0
          have HBE0 := Lib.hid (below_two w4 (.cells #[.string rf.f.name, .slice rf.A rf.f.b.length rf.c, .int .i64 (rf.f.syn : Int), .bool rf.f.ever] 77) (.cells #[] 5))
          have HSZ0 := Lib.hid (show w4.heap.size + 1 ≤ ((w4.alloc (.cells #[.string rf.f.name, .slice rf.A rf.f.b.length rf.c, .int .i64 (rf.f.syn : Int), .bool rf.f.ever] 77)).alloc (.cells #[] 5)).heap.size by simp)
          have HLF0 := Lib.hid (show Lies ((w4.alloc (.cells #[.string rf.f.name, .slice rf.A rf.f.b.length rf.c, .int .i64 (rf.f.syn : Int), .bool rf.f.ever] 77)).alloc (.cells #[] 5)) rf.A rf.c rf.f.b from HRL.out.1.below (HBW4.out.trans ((below_two w4 _ _).mono (by omega))))
          have HFL := Lib.hid (show rf.f.b.length ≤ 1048576 from htl)
          have HNB2 := Lib.hid (show nb ≤ 1048576 by omega)
          clear htl
          clear t5 hq0 hown0 hfull hm0 hm1
          go_wp2_with (first | (at_builtin; refine wpList_append_bytes rfl _ _ rfl (w4.heap.size + 1) A5 c5 L5 rfl HO5.out B cb b (by show _ = _; rw [← HNB.out]; rfl) (HLBW.out _ HBB5.out) (by rw [← HNB.out, HL5.out, List.length_append]; have := HNB2.out; have := HFL.out; simp; omega) (Nat.le_trans HSZ0.out HB5.out.size) ?_; intro A6 c6 w6 L6 hL6 hown6 hgrow6; have HB6 := Lib.hid (OwnS.grow HO5.out HB5.out hgrow6 (Nat.le_trans HSZ0.out HB5.out.size)); have HL6 := Lib.hid (show L6 = rf.f.b ++ b by rw [hL6.out, HL5.out]; rfl); have bq6 := HBQ2.out.below HB6.out (by omega); have y1 := bq6.cell 1; have y2 := bq6.free 1; have bq7 := bq6.set 1 (.slice A6 L6.length c6); have q0 := bq7.cell 0; have q1 := bq7.cell 1; have q2 := bq7.cell 2; have q3 := bq7.cell 3; have HBE7 := Lib.hid ((HBE0.out.trans (HB6.out.mono (Nat.le_succ _))).setCell (p := ⟨w4.heap.size, 1, none⟩) (Nat.le_refl _) (.slice A6 L6.length c6)); have t7 := HT5.out.on HBE7.out; have HT7 := Lib.hid t7; obtain ⟨u0, u1, u2, u3⟩ := t7.b1.cells4; have HO7 := Lib.hid (show OwnS (w4.heap.size + 1) (w6.setCell ⟨w4.heap.size, 1, none⟩ (.slice A6 L6.length c6)) A6 c6 L6 from hown6.blocks (fun a ha => Below.heap_setCell _ _ _ _ (by have := (hown6.row a.block (by rw [ha]; rfl)); obtain ⟨cur, q, h1⟩ := this; intro e; rw [show a.block = w4.heap.size from e, show w6.heap[w4.heap.size]? = _ from bq6] at h1; injection h1 with h1; injection h1 with _ h2; cases h2))); clear bq6 bq7 t7 hown6 hgrow6 hL6 c0 c1 c2 c3) | (at_builtin; refine wpList_append_bytes rfl _ _ rfl (w4.heap.size + 1) (some ⟨w4.heap.size + 1, 0, none⟩) 0 [] rfl HO0.out rf.A rf.c rf.f.b rfl HLF0.out (by have h9 := HFL.out; exact Nat.le_trans (Nat.add_le_add (Nat.le_refl _) h9) (by decide)) HSZ0.out ?_; intro A5 c5 w5 L5 hL5 hown5 hgrow5; have HB5 := Lib.hid (OwnS.grow HO0.out (Below.refl _ _) hgrow5 HSZ0.out); have HBB5 := Lib.hid (show Below w.heap.size w w5 from (HBW4.out.trans (HBE0.out.mono (by have := HQ0.out; omega))).trans (HB5.out.mono (by have := HQ0.out; omega))); have HL5 := Lib.hid (show L5 = [] ++ rf.f.b from hL5.out); have HO5 := Lib.hid hown5; clear hown5 hgrow5 hL5 z1))
          skip
          have HNS := Lib.hid (show ∀ r0 ∈ rs, r0.f.name.size ≤ reachBytes from fun r0 hr0 => by
            have hm0 : r0.f ∈ d.fs := by rw [← HRS.out]; exact List.mem_map.2 ⟨r0, hr0, rfl⟩
            have := (HOK.out.files _ hm0).2.2
            unfold bad at this
            simp at this
            have h64 : (64 : Nat) ≤ reachBytes := by decide
            omega)
          have HWI := Lib.hid (rwith_calls (T := fun k => (T k ∧ k < w.heap.size) ∨ w4.heap.size ≤ k) cap (some ⟨b0, o0, none⟩) c ar fu1 rs ⟨⟨rf.f.name, L6, rf.f.syn, rf.f.ever⟩, A6, c6⟩ (w6.setCell ⟨w4.heap.size, 1, none⟩ (.slice A6 L6.length c6)) ((HR.out.bounded.two HT7.out).mono fun _ h => .inl h) (by have := HOK.out.many; rw [← HLEN.out]; omega) HO7.out.lies HO7.out.cap (fun hne a ha => .inr (by
            have ha' : A6 = some a := ha
            rcases HO7.out.2 with ⟨hv, _⟩ | ⟨g, cap', cur, hv, hg, _⟩
            · rw [ha'] at hv; cases hv
            · rw [ha'] at hv
              injection hv with hv
              injection hv with hv
              rw [hv]
              show w4.heap.size ≤ g
              omega)) (HRN.out) HNS.out)
          rw [← HN.out] at HWI
          unfold dval fval at HWI
          clear u0 u1 u2 u3 q0 q1 q2 q3 y1 y2
          refine HWI.out.mono ?_
          rintro e w8 ⟨A8, c8, rfl, hRef8, hb8⟩
          have t8 := HT7.out.on hb8
          have HFF := Lib.hid (t8.set2 rfl (.int .i64 cap) (.slice A8 (wi Rf.name rs ⟨⟨rf.f.name, L6, rf.f.syn, rf.f.ever⟩, A6, c6⟩).length c8) (.bool ar) (.int .i64 fu1))
          obtain ⟨k0, k1, k2, k3⟩ := (show Blk w8 (w.heap.size + 1) #[.int .i64 0, .slice none 0 0, .bool false, .int .i64 0] 32 from t8.b2).cells4
          obtain ⟨l0, l1, l2, l3⟩ := t8.b2.free4
          have HB8 := Lib.hid hb8
          have HRE8 := Lib.hid hRef8
          have HMAP := Lib.hid (show (wi Rf.name rs ⟨⟨rf.f.name, L6, rf.f.syn, rf.f.ever⟩, A6, c6⟩).map Rf.f = r.1.fs by
            rw [HE.out, map_wi (nm := Rf.name) (nn := Fl.name) (g := Rf.f) (fun _ => rfl), HRS.out, HL6.out]
            show _ = wi Fl.name (burn d).fs _
            rw [HBF.out.1]
            try rfl)
          obtain ⟨X8, hX8⟩ : ∃ X8, X8 = wi Rf.name rs ⟨⟨rf.f.name, L6, rf.f.syn, rf.f.ever⟩, A6, c6⟩ := ⟨_, rfl⟩
          rw [← hX8] at HFF HRE8 HMAP ⊢
          clear t8 hb8 hRef8 hX8
          dsimp only [dval]
          go_wp2
          refine bodyPost_ret (results_cell_tmp1 rfl _ _ _ _ _ rfl (lv32 HFF.out.b2)) rfl ?_
          have hX9 : X8.length = r.1.fs.length := by rw [← HMAP.out, List.length_map]
          refine ⟨A8, c8, X8, ?_, HMAP.out, ?_, HFF.out.below⟩
          · have e2 : r.2 = 0 := by rw [HE.out]
            have e3 : dv z r.1 A8 c8 = .agg #[.int .i64 cap, .slice A8 X8.length c8, .bool ar, .int .i64 fu1] := by
              have h1 := HDB.out A8 c8
              unfold dv dval at h1 ⊢
              rw [← hX9]
              rw [HE.out]
              show Value.agg #[.int .i64 (burn d).cap, .slice A8 X8.length c8, .bool (arV (burn d)), .int .i64 (fuV z (burn d))] = _
              rw [HBF.out.2, HBV.out.1, HBV.out.2, ← HCAP.out]
            rw [e2, e3]
            rfl
          · have h1 := HRE8.out.kept (w' := _) fun k hk hk2 => set4_other (g := w.heap.size + 1) (fun e => by
              have h2 := HQ0.out
              have h3 := HT7.out.size
              have h4 := HBE7.out.size
              rcases hk with (hk | hk) | hk
              · omega
              · omega
              · omega) (.int .i64 cap) (.slice A8 X8.length c8) (.bool ar) (.int .i64 fu1)
            refine h1.mono fun k hk => ?_
            have h2 := HQ0.out
            have h4 := HBE7.out.size
            rcases hk with (hk | hk) | hk
            · exact .inl hk.1
            · exact .inr (by omega)
            · exact .inr (by omega)
end Go.Proofs.Ytpnlgmnlanoncaa
