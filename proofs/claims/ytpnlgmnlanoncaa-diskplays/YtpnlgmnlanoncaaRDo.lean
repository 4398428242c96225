/-
  Contracts of the document's Do, by what it does: Sync, Remove, Cut, Rename. Conditions: the files lie in memory, names of at most reachBytes; the number is an int.
-/
import Derived.Test.YtpnlgmnlanoncaaRApp
namespace Go.Proofs.Ytpnlgmnlanoncaa
open Go.ChangeShapes Go.WideShapes Go.ChangeAt Go.RowKit
set_option linter.unusedVariables false

theorem Rf.eta (r : Rf) : r = ⟨⟨r.f.name, r.f.b, r.f.syn, r.f.ever⟩, r.A, r.c⟩ := rfl
theorem lies_lt {w : World} {A : Option Addr} {c : Nat} {l : List Int} (h : Lies w A c l) (hne : l ≠ []) : ∀ a, A = some a → a.block < w.heap.size := fun a ha => by
  obtain ⟨b, o, h1, h2, _⟩ := h.at_ (List.length_pos_iff.2 hne)
  rw [h1] at ha
  injection ha with ha
  subst ha
  exact h2

set_option maxRecDepth 20000 in
set_option maxHeartbeats 4000000 in
theorem rdo_remove {z : Int} (hz : I64 z) {T : Nat → Prop} (d : St) (hok : Ok d) (A : Option Addr) (c : Nat) (rs : List Rf) (hrs : rs.map Rf.f = d.fs) (s : ByteArray) (hs : s.size ≤ reachBytes) (w : World) (h : Ref T w A c rs) :
    Calls Try.prog 31 #[dv z d A c, .int .i64 1, .string s, .string { data := #[] }, .int .i64 0] w (RefDone z T w (removeS d s)) := by
  have hlen : d.fs.length = rs.length := by rw [← hrs, List.length_map]
  unfold dv dval
  rw [hlen]
  obtain ⟨cap, hcap⟩ : ∃ cap, cap = d.cap := ⟨_, rfl⟩
  obtain ⟨ar, har⟩ : ∃ ar, ar = arV d := ⟨_, rfl⟩
  obtain ⟨fu, hfu⟩ : ∃ fu, fu = fuV z d := ⟨_, rfl⟩
  obtain ⟨n, hn⟩ : ∃ n, n = rs.length := ⟨_, rfl⟩
  have hfs := fu_small (z := z) hok hz
  clear hz
  have hbv := burn_v (z := z) hok
  rw [← har, ← hfu] at hbv
  rw [← hfu] at hfs
  rw [← hcap, ← har, ← hfu, ← hn]
  obtain ⟨W0, hW0⟩ : ∃ W0, W0 = (w.alloc (.cells #[.int .i64 cap, .slice A n c, .bool ar, .int .i64 fu] 32)).alloc (.cells z32 32) := ⟨_, rfl⟩
  have t0 : Two2 w W0 #[.int .i64 cap, .slice A n c, .bool ar, .int .i64 fu] z32 := by rw [hW0]; exact Two2.start w _
  have hsm : s.size ≤ maxLen := by unfold maxLen; have : s.size ≤ 140737488351232 := hs; omega
  have HWR := Lib.hid (rwrong_calls s W0 hsm)
  have HR := Lib.hid h
  have HT0 := Lib.hid t0
  have HRS := Lib.hid hrs
  have HOK := Lib.hid hok
  have HCAP := Lib.hid hcap
  have HAR := Lib.hid har
  have HFU := Lib.hid hfu
  have HN := Lib.hid hn
  have HLEN := Lib.hid hlen
  have HS := Lib.hid hs
  obtain ⟨r, hr⟩ : ∃ r, r = removeS d s := ⟨_, rfl⟩
  rw [← hr]
  have HRR := Lib.hid hr
  obtain ⟨c0, c1, c2, c3⟩ := t0.b1.cells4
  unfold z32 at hW0
  clear h hr hrs hok hcap har hfu hn hlen hs hsm
  by_cases hbad : bad s = true
  · rw [hbad] at HWR
    have HE := Lib.hid (show r = (d, 1) by rw [HRR.out]; simp [removeS, startS, hbad])
    have HF := Lib.hid (t0.set2 rfl (.int .i64 cap) (.slice A n c) (.bool ar) (.int .i64 fu))
    obtain ⟨k0, k1, k2, k3⟩ := (show Blk W0 (w.heap.size + 1) #[.int .i64 0, .slice none 0 0, .bool false, .int .i64 0] 32 from t0.b2).cells4
    obtain ⟨l0, l1, l2, l3⟩ := t0.b2.free4
    clear t0 hbad
    go_enter Try.func31, Try.ntmps31
    go_wp2_with fail
    rw [← hW0]
    clear hW0
    refine HWR.out.mono ?_
    rintro e w' ⟨rfl, rfl⟩
    dsimp only
    go_wp2
    refine bodyPost_ret (results_cell_tmp1 rfl _ _ _ _ _ rfl (lv32 HF.out.b2)) rfl ?_
    rw [HE.out]
    refine ⟨A, c, rs, ?_, HRS.out, HR.out.fin HF.out, HF.out.below⟩
    unfold dv dval
    rw [HLEN.out, ← HCAP.out, ← HAR.out, ← HFU.out, ← HN.out]
    rfl
  · have hbad' : bad s = false := by simpa using hbad
    rw [hbad'] at HWR
    have HBU := Lib.hid (rburn_calls cap A n c ar fu W0 hfs.1 hfs.2)
    obtain ⟨fu1, hfu1⟩ : ∃ fu1, fu1 = (if ar && decide (0 ≤ fu) then fu - 1 else fu) := ⟨_, rfl⟩
    rw [← hfu1] at HBU hbv
    have HBV := Lib.hid hbv
    unfold dval at HBU
    clear t0 hbad hfs hbv hfu1
    go_enter Try.func31, Try.ntmps31
    go_wp2_with fail
    rw [← hW0]
    clear hW0
    refine HWR.out.mono ?_
    rintro e w' ⟨rfl, rfl⟩
    dsimp only
    go_wp2_with fail
    refine HBU.out.mono ?_
    rintro e w1 ⟨rfl, hb1⟩
    dsimp only [dval]
    have t1 := HT0.out.on hb1
    obtain ⟨k0, k1, k2, k3⟩ := t1.b1.cells4
    obtain ⟨l0, l1, l2, l3⟩ := t1.b1.free4
    obtain ⟨W1, hW1⟩ : ∃ W1, W1 = (((w1.setCell ⟨w.heap.size, 0, none⟩ (.int .i64 cap)).setCell ⟨w.heap.size, 1, none⟩ (.slice A n c)).setCell ⟨w.heap.size, 2, none⟩ (.bool ar)).setCell ⟨w.heap.size, 3, none⟩ (.int .i64 fu1) := ⟨_, rfl⟩
    have t2 : Two2 w W1 #[.int .i64 cap, .slice A n c, .bool ar, .int .i64 fu1] z32 := by rw [hW1]; exact t1.set1 rfl _ _ _ _
    have HT2 := Lib.hid t2
    have HDE := Lib.hid (rdead_calls cap A n c ar fu1 W1)
    unfold dval at HDE
    have e0 := (hW1 ▸ t2.b1.cells4 : cells4 ((((w1.setCell ⟨w.heap.size, 0, none⟩ (.int .i64 cap)).setCell ⟨w.heap.size, 1, none⟩ (.slice A n c)).setCell ⟨w.heap.size, 2, none⟩ (.bool ar)).setCell ⟨w.heap.size, 3, none⟩ (.int .i64 fu1)) w.heap.size _ _ _ _)
    obtain ⟨e0, e1, e2, e3⟩ := e0
    clear t1 t2 hb1 c0 c1 c2 c3
    have hdv : (ar && decide (fu1 < 0)) = decide (d.left = 0) := by
      have h1 := dead_v (z := z) HOK.out.burn
      rw [HBV.out.1, HBV.out.2] at h1
      rw [h1]; exact burn_dead HOK.out
    rw [hdv] at HDE
    go_wp2_with fail
    rw [← hW1]
    clear hW1 e0 e1 e2 e3 k0 k1 k2 k3 l0 l1 l2 l3 hdv
    refine HDE.out.mono ?_
    rintro e w2 ⟨rfl, hb2⟩
    dsimp only
    have t3 := HT2.out.on hb2
    have HT3 := Lib.hid t3
    obtain ⟨c0, c1, c2, c3⟩ := t3.b1.cells4
    have hburn := burn_fs d
    have HDB := Lib.hid (show ∀ A' c', dv z (burn d) A' c' = .agg #[.int .i64 cap, .slice A' n c', .bool ar, .int .i64 fu1] by
      intro A' c'
      unfold dv dval
      rw [hburn.1, hburn.2, HBV.out.1, HBV.out.2, HLEN.out, ← HCAP.out, ← HN.out])
    have HBF := Lib.hid hburn
    clear hburn
    by_cases h0 : d.left = 0
    · have HE := Lib.hid (show r = (burn d, 61) by rw [HRR.out]; simp [removeS, startS, hbad', h0])
      have hdd : decide (d.left = 0) = true := by simpa using h0
      have HF := Lib.hid (t3.set2 rfl (.int .i64 cap) (.slice A n c) (.bool ar) (.int .i64 fu1))
      obtain ⟨k0, k1, k2, k3⟩ := (show Blk w2 (w.heap.size + 1) #[.int .i64 0, .slice none 0 0, .bool false, .int .i64 0] 32 from t3.b2).cells4
      obtain ⟨l0, l1, l2, l3⟩ := t3.b2.free4
      clear t3 h0 hb2
      rw [hdd]
      go_wp2
      refine bodyPost_ret (results_cell_tmp1 rfl _ _ _ _ _ rfl (lv32 HF.out.b2)) rfl ?_
      rw [HE.out]
      refine ⟨A, c, rs, ?_, by rw [HBF.out.1]; exact HRS.out, HR.out.fin HF.out, HF.out.below⟩
      rw [HDB.out]
      rfl
    · have hdd : decide (d.left = 0) = false := by simpa using h0
      rw [hdd]
      have HST := Lib.hid (show ∀ k, startS d [s] k = k (burn d) by intro k; unfold startS; simp [hbad', h0])
      have HPL := Lib.hid (rplace_calls cap A c ar fu1 rs s w2 (HR.out.two t3) (by have := HOK.out.many; rw [← HLEN.out]; omega))
      rw [← HN.out] at HPL
      unfold dval at HPL
      clear t3 hb2 h0 hdd
      go_wp2_with fail
      refine HPL.out.mono ?_
      rintro e w4 ⟨⟨x, rfl, hx⟩, hb4⟩
      dsimp only
      have t5 := HT3.out.on hb4
      have HT5 := Lib.hid t5
      clear c0 c1 c2 c3
      obtain ⟨c0, c1, c2, c3⟩ := t5.b1.cells4
      clear hb4
      rcases hx with ⟨rfl, hno⟩ | ⟨i, rf, rfl, hi, hnm⟩
      · have hfd : fd Fl.name d.fs s = none := fd_none_of fun f hf => by
          rw [← HRS.out] at hf
          obtain ⟨r0, h1, rfl⟩ := List.mem_map.1 hf
          exact hno r0 h1
        have HE := Lib.hid (show r = (burn d, 6) by
          rw [HRR.out]
          unfold removeS
          rw [HST.out]
          unfold onS
          rw [HBF.out.1, hfd])
        have HF := Lib.hid (t5.set2 rfl (.int .i64 cap) (.slice A n c) (.bool ar) (.int .i64 fu1))
        obtain ⟨k0, k1, k2, k3⟩ := (show Blk w4 (w.heap.size + 1) #[.int .i64 0, .slice none 0 0, .bool false, .int .i64 0] 32 from t5.b2).cells4
        obtain ⟨l0, l1, l2, l3⟩ := t5.b2.free4
        clear t5 hno hfd
        go_wp2
        refine bodyPost_ret (results_cell_tmp1 rfl _ _ _ _ _ rfl (lv32 HF.out.b2)) rfl ?_
        rw [HE.out]
        refine ⟨A, c, rs, ?_, by rw [HBF.out.1]; exact HRS.out, HR.out.fin HF.out, HF.out.below⟩
        rw [HDB.out]
        rfl
      · have hmem : rf ∈ rs := List.mem_of_getElem? hi
        have hdi : d.fs[i]? = some rf.f := by rw [← HRS.out, List.getElem?_map, hi]; rfl
        have hfd : fd Fl.name d.fs s = some rf.f := by rw [← hnm]; exact fd_at HOK.out.srt hdi
        have hin : i < n := by rw [HN.out]; exact (List.getElem?_eq_some_iff.1 hi).1
        have hini : (i : Int) < (n : Int) := by omega
        have HE0 := Lib.hid (show ∀ k, onS (burn d) s k = k rf.f by intro k; unfold onS; rw [HBF.out.1, hfd])
        obtain ⟨b0, o0, hA, hbs, g0, g1, g2, g3⟩ := HR.out.cellAt t5.below hi
        subst hA
        have hrl := HR.out.2.2 rf hmem
        have htl : rf.f.b.length ≤ 1048576 := by
          have h1 := total_mem (List.mem_of_getElem? hdi)
          have h2 := HOK.out.fits
          have h3 := HOK.out.hi
          omega
        have hsyn := (HOK.out.files _ (List.mem_of_getElem? hdi)).1
        have hrn : rf.f.name.size ≤ reachBytes := by rw [hnm]; exact HS.out
        have HRN := Lib.hid hrn
        have HRL := Lib.hid hrl
        have HNM := Lib.hid hnm
        have HNS := Lib.hid (show ∀ r0 ∈ rs, r0.f.name.size ≤ reachBytes from fun r0 hr0 => by
          have hm0 : r0.f ∈ d.fs := by rw [← HRS.out]; exact List.mem_map.2 ⟨r0, hr0, rfl⟩
          have := (HOK.out.files _ hm0).2.2
          unfold bad at this
          simp at this
          have h64 : (64 : Nat) ≤ reachBytes := by decide
          omega)
        have HMANY := Lib.hid (show rs.length ≤ 100000 by have := HOK.out.many; rw [← HLEN.out]; omega)
        have hq0 : w.heap.size + 2 ≤ w4.heap.size := t5.size
        have HQ0 := Lib.hid hq0
        have HBW4 := Lib.hid t5.below
        clear hfd hdi hmem hnm hi hrl hrn hq0
        have HE := Lib.hid (show r = ({ burn d with fs := wo Fl.name (burn d).fs s }, 0) by
          rw [HRR.out]
          unfold removeS
          rw [HST.out, HE0.out])
        have t6 := HT5.out.on (below_one w4 (.cells #[.string rf.f.name, .slice rf.A rf.f.b.length rf.c, .int .i64 (rf.f.syn : Int), .bool rf.f.ever] 77))
        have HT6 := Lib.hid t6
        obtain ⟨u0, u1, u2, u3⟩ := t6.b1.cells4
        have HWO := Lib.hid (rwithout_calls (T := fun k => (T k ∧ k < w.heap.size) ∨ w4.heap.size ≤ k) cap (some ⟨b0, o0, none⟩) c ar fu1 rs s (w4.alloc (.cells #[.string rf.f.name, .slice rf.A rf.f.b.length rf.c, .int .i64 (rf.f.syn : Int), .bool rf.f.ever] 77)) ((HR.out.bounded.two t6).mono fun _ h => .inl h) HMANY.out)
        rw [← HN.out] at HWO
        unfold dval at HWO
        clear t5 t6 htl hsyn
        go_wp2_with fail
        refine HWO.out.mono ?_
        rintro e w8 ⟨A8, c8, rfl, hRef8, hb8⟩
        have t8 := HT6.out.on hb8
        obtain ⟨X8, hX8⟩ : ∃ X8, X8 = wo Rf.name rs s := ⟨_, rfl⟩
        rw [← hX8] at hRef8 ⊢
        have HMAP := Lib.hid (show X8.map Rf.f = r.1.fs by
          rw [hX8, HE.out]
          rw [map_wo (nm := Rf.name) (nn := Fl.name) (g := Rf.f) (fun _ => rfl), HRS.out]
          show _ = wo Fl.name (burn d).fs s
          rw [HBF.out.1])
        have HFF := Lib.hid (t8.set2 rfl (.int .i64 cap) (.slice A8 X8.length c8) (.bool ar) (.int .i64 fu1))
        obtain ⟨k0, k1, k2, k3⟩ := (show Blk w8 (w.heap.size + 1) #[.int .i64 0, .slice none 0 0, .bool false, .int .i64 0] 32 from t8.b2).cells4
        obtain ⟨l0, l1, l2, l3⟩ := t8.b2.free4
        have HB8 := Lib.hid hb8
        have HRE8 := Lib.hid hRef8
        have HS7 := Lib.hid (show w.heap.size + 2 ≤ _ from HT6.out.size)
        clear t8 hb8 hRef8 hX8
        dsimp only [dval]
        go_wp2
        refine bodyPost_ret (results_cell_tmp1 rfl _ _ _ _ _ rfl (lv32 HFF.out.b2)) rfl ?_
        have hX9 : X8.length = r.1.fs.length := by rw [← HMAP.out, List.length_map]
        refine ⟨A8, c8, X8, ?_, HMAP.out, ?_, HFF.out.below⟩
        · have e2 : r.2 = 0 := by rw [HE.out]
          have e3 : dv z r.1 A8 c8 = .agg #[.int .i64 cap, .slice A8 X8.length c8, .bool ar, .int .i64 fu1] := by
            unfold dv dval
            rw [← hX9]
            rw [HE.out]
            show Value.agg #[.int .i64 (burn d).cap, .slice A8 X8.length c8, .bool (arV (burn d)), .int .i64 (fuV z (burn d))] = _
            rw [HBF.out.2, HBV.out.1, HBV.out.2, ← HCAP.out]
          rw [e2, e3]
          rfl
        · have h1 := HRE8.out.kept (w' := _) fun k hk hk2 => set4_other (g := w.heap.size + 1) (fun e => by
            have h2 := HQ0.out
            have h3 := HS7.out
            rcases hk with (hk | hk) | hk
            · omega
            · omega
            · omega) (.int .i64 cap) (.slice A8 X8.length c8) (.bool ar) (.int .i64 fu1)
          refine h1.mono fun k hk => ?_
          have h2 := HQ0.out
          have h3 := HS7.out
          rcases hk with (hk | hk) | hk
          · exact .inl hk.1
          · exact .inr (by omega)
          · exact .inr (by omega)

set_option maxRecDepth 20000 in
set_option maxHeartbeats 4000000 in
theorem rdo_sync {z : Int} (hz : I64 z) {T : Nat → Prop} (d : St) (hok : Ok d) (A : Option Addr) (c : Nat) (rs : List Rf) (hrs : rs.map Rf.f = d.fs) (s : ByteArray) (hs : s.size ≤ reachBytes) (w : World) (h : Ref T w A c rs) :
    Calls Try.prog 31 #[dv z d A c, .int .i64 0, .string s, .string { data := #[] }, .int .i64 0] w (RefDone z T w (syncS d s)) := by
  have hlen : d.fs.length = rs.length := by rw [← hrs, List.length_map]
  unfold dv dval
  rw [hlen]
  obtain ⟨cap, hcap⟩ : ∃ cap, cap = d.cap := ⟨_, rfl⟩
  obtain ⟨ar, har⟩ : ∃ ar, ar = arV d := ⟨_, rfl⟩
  obtain ⟨fu, hfu⟩ : ∃ fu, fu = fuV z d := ⟨_, rfl⟩
  obtain ⟨n, hn⟩ : ∃ n, n = rs.length := ⟨_, rfl⟩
  have hfs := fu_small (z := z) hok hz
  clear hz
  have hbv := burn_v (z := z) hok
  rw [← har, ← hfu] at hbv
  rw [← hfu] at hfs
  rw [← hcap, ← har, ← hfu, ← hn]
  obtain ⟨W0, hW0⟩ : ∃ W0, W0 = (w.alloc (.cells #[.int .i64 cap, .slice A n c, .bool ar, .int .i64 fu] 32)).alloc (.cells z32 32) := ⟨_, rfl⟩
  have t0 : Two2 w W0 #[.int .i64 cap, .slice A n c, .bool ar, .int .i64 fu] z32 := by rw [hW0]; exact Two2.start w _
  have hsm : s.size ≤ maxLen := by unfold maxLen; have : s.size ≤ 140737488351232 := hs; omega
  have HWR := Lib.hid (rwrong_calls s W0 hsm)
  have HR := Lib.hid h
  have HT0 := Lib.hid t0
  have HRS := Lib.hid hrs
  have HOK := Lib.hid hok
  have HCAP := Lib.hid hcap
  have HAR := Lib.hid har
  have HFU := Lib.hid hfu
  have HN := Lib.hid hn
  have HLEN := Lib.hid hlen
  have HS := Lib.hid hs
  obtain ⟨r, hr⟩ : ∃ r, r = syncS d s := ⟨_, rfl⟩
  rw [← hr]
  have HRR := Lib.hid hr
  obtain ⟨c0, c1, c2, c3⟩ := t0.b1.cells4
  unfold z32 at hW0
  clear h hr hrs hok hcap har hfu hn hlen hs hsm
  by_cases hbad : bad s = true
  · rw [hbad] at HWR
    have HE := Lib.hid (show r = (d, 1) by rw [HRR.out]; simp [syncS, startS, hbad])
    have HF := Lib.hid (t0.set2 rfl (.int .i64 cap) (.slice A n c) (.bool ar) (.int .i64 fu))
    obtain ⟨k0, k1, k2, k3⟩ := (show Blk W0 (w.heap.size + 1) #[.int .i64 0, .slice none 0 0, .bool false, .int .i64 0] 32 from t0.b2).cells4
    obtain ⟨l0, l1, l2, l3⟩ := t0.b2.free4
    clear t0 hbad
    go_enter Try.func31, Try.ntmps31
    go_wp2_with fail
    rw [← hW0]
    clear hW0
    refine HWR.out.mono ?_
    rintro e w' ⟨rfl, rfl⟩
    dsimp only
    go_wp2
    refine bodyPost_ret (results_cell_tmp1 rfl _ _ _ _ _ rfl (lv32 HF.out.b2)) rfl ?_
    rw [HE.out]
    refine ⟨A, c, rs, ?_, HRS.out, HR.out.fin HF.out, HF.out.below⟩
    unfold dv dval
    rw [HLEN.out, ← HCAP.out, ← HAR.out, ← HFU.out, ← HN.out]
    rfl
  · have hbad' : bad s = false := by simpa using hbad
    rw [hbad'] at HWR
    have HBU := Lib.hid (rburn_calls cap A n c ar fu W0 hfs.1 hfs.2)
    obtain ⟨fu1, hfu1⟩ : ∃ fu1, fu1 = (if ar && decide (0 ≤ fu) then fu - 1 else fu) := ⟨_, rfl⟩
    rw [← hfu1] at HBU hbv
    have HBV := Lib.hid hbv
    unfold dval at HBU
    clear t0 hbad hfs hbv hfu1
    go_enter Try.func31, Try.ntmps31
    go_wp2_with fail
    rw [← hW0]
    clear hW0
    refine HWR.out.mono ?_
    rintro e w' ⟨rfl, rfl⟩
    dsimp only
    go_wp2_with fail
    refine HBU.out.mono ?_
    rintro e w1 ⟨rfl, hb1⟩
    dsimp only [dval]
    have t1 := HT0.out.on hb1
    obtain ⟨k0, k1, k2, k3⟩ := t1.b1.cells4
    obtain ⟨l0, l1, l2, l3⟩ := t1.b1.free4
    obtain ⟨W1, hW1⟩ : ∃ W1, W1 = (((w1.setCell ⟨w.heap.size, 0, none⟩ (.int .i64 cap)).setCell ⟨w.heap.size, 1, none⟩ (.slice A n c)).setCell ⟨w.heap.size, 2, none⟩ (.bool ar)).setCell ⟨w.heap.size, 3, none⟩ (.int .i64 fu1) := ⟨_, rfl⟩
    have t2 : Two2 w W1 #[.int .i64 cap, .slice A n c, .bool ar, .int .i64 fu1] z32 := by rw [hW1]; exact t1.set1 rfl _ _ _ _
    have HT2 := Lib.hid t2
    have HDE := Lib.hid (rdead_calls cap A n c ar fu1 W1)
    unfold dval at HDE
    have e0 := (hW1 ▸ t2.b1.cells4 : cells4 ((((w1.setCell ⟨w.heap.size, 0, none⟩ (.int .i64 cap)).setCell ⟨w.heap.size, 1, none⟩ (.slice A n c)).setCell ⟨w.heap.size, 2, none⟩ (.bool ar)).setCell ⟨w.heap.size, 3, none⟩ (.int .i64 fu1)) w.heap.size _ _ _ _)
    obtain ⟨e0, e1, e2, e3⟩ := e0
    clear t1 t2 hb1 c0 c1 c2 c3
    have hdv : (ar && decide (fu1 < 0)) = decide (d.left = 0) := by
      have h1 := dead_v (z := z) HOK.out.burn
      rw [HBV.out.1, HBV.out.2] at h1
      rw [h1]; exact burn_dead HOK.out
    rw [hdv] at HDE
    go_wp2_with fail
    rw [← hW1]
    clear hW1 e0 e1 e2 e3 k0 k1 k2 k3 l0 l1 l2 l3 hdv
    refine HDE.out.mono ?_
    rintro e w2 ⟨rfl, hb2⟩
    dsimp only
    have t3 := HT2.out.on hb2
    have HT3 := Lib.hid t3
    obtain ⟨c0, c1, c2, c3⟩ := t3.b1.cells4
    have hburn := burn_fs d
    have HDB := Lib.hid (show ∀ A' c', dv z (burn d) A' c' = .agg #[.int .i64 cap, .slice A' n c', .bool ar, .int .i64 fu1] by
      intro A' c'
      unfold dv dval
      rw [hburn.1, hburn.2, HBV.out.1, HBV.out.2, HLEN.out, ← HCAP.out, ← HN.out])
    have HBF := Lib.hid hburn
    clear hburn
    by_cases h0 : d.left = 0
    · have HE := Lib.hid (show r = (burn d, 61) by rw [HRR.out]; simp [syncS, startS, hbad', h0])
      have hdd : decide (d.left = 0) = true := by simpa using h0
      have HF := Lib.hid (t3.set2 rfl (.int .i64 cap) (.slice A n c) (.bool ar) (.int .i64 fu1))
      obtain ⟨k0, k1, k2, k3⟩ := (show Blk w2 (w.heap.size + 1) #[.int .i64 0, .slice none 0 0, .bool false, .int .i64 0] 32 from t3.b2).cells4
      obtain ⟨l0, l1, l2, l3⟩ := t3.b2.free4
      clear t3 h0 hb2
      rw [hdd]
      go_wp2
      refine bodyPost_ret (results_cell_tmp1 rfl _ _ _ _ _ rfl (lv32 HF.out.b2)) rfl ?_
      rw [HE.out]
      refine ⟨A, c, rs, ?_, by rw [HBF.out.1]; exact HRS.out, HR.out.fin HF.out, HF.out.below⟩
      rw [HDB.out]
      rfl
    · have hdd : decide (d.left = 0) = false := by simpa using h0
      rw [hdd]
      have HST := Lib.hid (show ∀ k, startS d [s] k = k (burn d) by intro k; unfold startS; simp [hbad', h0])
      have HPL := Lib.hid (rplace_calls cap A c ar fu1 rs s w2 (HR.out.two t3) (by have := HOK.out.many; rw [← HLEN.out]; omega))
      rw [← HN.out] at HPL
      unfold dval at HPL
      clear t3 hb2 h0 hdd
      go_wp2_with fail
      refine HPL.out.mono ?_
      rintro e w4 ⟨⟨x, rfl, hx⟩, hb4⟩
      dsimp only
      have t5 := HT3.out.on hb4
      have HT5 := Lib.hid t5
      clear c0 c1 c2 c3
      obtain ⟨c0, c1, c2, c3⟩ := t5.b1.cells4
      clear hb4
      rcases hx with ⟨rfl, hno⟩ | ⟨i, rf, rfl, hi, hnm⟩
      · have hfd : fd Fl.name d.fs s = none := fd_none_of fun f hf => by
          rw [← HRS.out] at hf
          obtain ⟨r0, h1, rfl⟩ := List.mem_map.1 hf
          exact hno r0 h1
        have HE := Lib.hid (show r = (burn d, 6) by
          rw [HRR.out]
          unfold syncS
          rw [HST.out]
          unfold onS
          rw [HBF.out.1, hfd])
        have HF := Lib.hid (t5.set2 rfl (.int .i64 cap) (.slice A n c) (.bool ar) (.int .i64 fu1))
        obtain ⟨k0, k1, k2, k3⟩ := (show Blk w4 (w.heap.size + 1) #[.int .i64 0, .slice none 0 0, .bool false, .int .i64 0] 32 from t5.b2).cells4
        obtain ⟨l0, l1, l2, l3⟩ := t5.b2.free4
        clear t5 hno hfd
        go_wp2
        refine bodyPost_ret (results_cell_tmp1 rfl _ _ _ _ _ rfl (lv32 HF.out.b2)) rfl ?_
        rw [HE.out]
        refine ⟨A, c, rs, ?_, by rw [HBF.out.1]; exact HRS.out, HR.out.fin HF.out, HF.out.below⟩
        rw [HDB.out]
        rfl
      · have hmem : rf ∈ rs := List.mem_of_getElem? hi
        have hdi : d.fs[i]? = some rf.f := by rw [← HRS.out, List.getElem?_map, hi]; rfl
        have hfd : fd Fl.name d.fs s = some rf.f := by rw [← hnm]; exact fd_at HOK.out.srt hdi
        have hin : i < n := by rw [HN.out]; exact (List.getElem?_eq_some_iff.1 hi).1
        have hini : (i : Int) < (n : Int) := by omega
        have HE0 := Lib.hid (show ∀ k, onS (burn d) s k = k rf.f by intro k; unfold onS; rw [HBF.out.1, hfd])
        obtain ⟨b0, o0, hA, hbs, g0, g1, g2, g3⟩ := HR.out.cellAt t5.below hi
        subst hA
        have hrl := HR.out.2.2 rf hmem
        have htl : rf.f.b.length ≤ 1048576 := by
          have h1 := total_mem (List.mem_of_getElem? hdi)
          have h2 := HOK.out.fits
          have h3 := HOK.out.hi
          omega
        have hsyn := (HOK.out.files _ (List.mem_of_getElem? hdi)).1
        have hrn : rf.f.name.size ≤ reachBytes := by rw [hnm]; exact HS.out
        have HRN := Lib.hid hrn
        have HRL := Lib.hid hrl
        have HNM := Lib.hid hnm
        have HNS := Lib.hid (show ∀ r0 ∈ rs, r0.f.name.size ≤ reachBytes from fun r0 hr0 => by
          have hm0 : r0.f ∈ d.fs := by rw [← HRS.out]; exact List.mem_map.2 ⟨r0, hr0, rfl⟩
          have := (HOK.out.files _ hm0).2.2
          unfold bad at this
          simp at this
          have h64 : (64 : Nat) ≤ reachBytes := by decide
          omega)
        have HMANY := Lib.hid (show rs.length ≤ 100000 by have := HOK.out.many; rw [← HLEN.out]; omega)
        have hq0 : w.heap.size + 2 ≤ w4.heap.size := t5.size
        have HQ0 := Lib.hid hq0
        have HBW4 := Lib.hid t5.below
        clear hfd hdi hmem hnm hi hrl hrn hq0
        have HE := Lib.hid (show r = ({ burn d with fs := wi Fl.name (burn d).fs { rf.f with syn := rf.f.b.length, ever := true } }, 0) by
          rw [HRR.out]
          unfold syncS
          rw [HST.out, HE0.out])
        have t6 := HT5.out.on (below_one w4 (.cells #[.string rf.f.name, .slice rf.A rf.f.b.length rf.c, .int .i64 (rf.f.b.length : Int), .bool true] 77))
        have HT6 := Lib.hid t6
        obtain ⟨u0, u1, u2, u3⟩ := t6.b1.cells4
        have HB6 := Lib.hid (HBW4.out.trans ((below_one w4 (.cells #[.string rf.f.name, .slice rf.A rf.f.b.length rf.c, .int .i64 (rf.f.b.length : Int), .bool true] 77)).mono (by have := HQ0.out; omega)))
        have HWI := Lib.hid (rwith_calls (T := fun k => (T k ∧ k < w.heap.size) ∨ w4.heap.size ≤ k) cap (some ⟨b0, o0, none⟩) c ar fu1 rs ⟨⟨rf.f.name, rf.f.b, rf.f.b.length, true⟩, rf.A, rf.c⟩ (w4.alloc (.cells #[.string rf.f.name, .slice rf.A rf.f.b.length rf.c, .int .i64 (rf.f.b.length : Int), .bool true] 77)) ((HR.out.bounded.two t6).mono fun _ h => .inl h) HMANY.out (HRL.out.1.below HB6.out) HRL.out.2.1 (fun hne a ha => .inl ⟨HRL.out.2.2 hne a ha, lies_lt HRL.out.1 hne a ha⟩) HRN.out HNS.out)
        rw [← HN.out] at HWI
        unfold dval fval at HWI
        clear t5 t6 htl hsyn
        go_wp2_with fail
        refine HWI.out.mono ?_
        rintro e w8 ⟨A8, c8, rfl, hRef8, hb8⟩
        have t8 := HT6.out.on hb8
        obtain ⟨X8, hX8⟩ : ∃ X8, X8 = wi Rf.name rs ⟨⟨rf.f.name, rf.f.b, rf.f.b.length, true⟩, rf.A, rf.c⟩ := ⟨_, rfl⟩
        rw [← hX8] at hRef8 ⊢
        have HMAP := Lib.hid (show X8.map Rf.f = r.1.fs by
          rw [hX8, HE.out]
          rw [map_wi (nm := Rf.name) (nn := Fl.name) (g := Rf.f) (fun _ => rfl), HRS.out]
          show _ = wi Fl.name (burn d).fs _
          rw [HBF.out.1])
        have HFF := Lib.hid (t8.set2 rfl (.int .i64 cap) (.slice A8 X8.length c8) (.bool ar) (.int .i64 fu1))
        obtain ⟨k0, k1, k2, k3⟩ := (show Blk w8 (w.heap.size + 1) #[.int .i64 0, .slice none 0 0, .bool false, .int .i64 0] 32 from t8.b2).cells4
        obtain ⟨l0, l1, l2, l3⟩ := t8.b2.free4
        have HB8 := Lib.hid hb8
        have HRE8 := Lib.hid hRef8
        have HS7 := Lib.hid (show w.heap.size + 2 ≤ _ from HT6.out.size)
        clear t8 hb8 hRef8 hX8
        dsimp only [dval]
        go_wp2
        refine bodyPost_ret (results_cell_tmp1 rfl _ _ _ _ _ rfl (lv32 HFF.out.b2)) rfl ?_
        have hX9 : X8.length = r.1.fs.length := by rw [← HMAP.out, List.length_map]
        refine ⟨A8, c8, X8, ?_, HMAP.out, ?_, HFF.out.below⟩
        · have e2 : r.2 = 0 := by rw [HE.out]
          have e3 : dv z r.1 A8 c8 = .agg #[.int .i64 cap, .slice A8 X8.length c8, .bool ar, .int .i64 fu1] := by
            unfold dv dval
            rw [← hX9]
            rw [HE.out]
            show Value.agg #[.int .i64 (burn d).cap, .slice A8 X8.length c8, .bool (arV (burn d)), .int .i64 (fuV z (burn d))] = _
            rw [HBF.out.2, HBV.out.1, HBV.out.2, ← HCAP.out]
          rw [e2, e3]
          rfl
        · have h1 := HRE8.out.kept (w' := _) fun k hk hk2 => set4_other (g := w.heap.size + 1) (fun e => by
            have h2 := HQ0.out
            have h3 := HS7.out
            rcases hk with (hk | hk) | hk
            · omega
            · omega
            · omega) (.int .i64 cap) (.slice A8 X8.length c8) (.bool ar) (.int .i64 fu1)
          refine h1.mono fun k hk => ?_
          have h2 := HQ0.out
          have h3 := HS7.out
          rcases hk with (hk | hk) | hk
          · exact .inl hk.1
          · exact .inr (by omega)
          · exact .inr (by omega)

set_option maxRecDepth 20000 in
set_option maxHeartbeats 4000000 in
theorem rdo_cut {z : Int} (hz : I64 z) {T : Nat → Prop} (d : St) (hok : Ok d) (A : Option Addr) (c : Nat) (rs : List Rf) (hrs : rs.map Rf.f = d.fs) (s : ByteArray) (hs : s.size ≤ reachBytes) (k : Int) (hkr : I64 k) (w : World) (h : Ref T w A c rs) :
    Calls Try.prog 31 #[dv z d A c, .int .i64 2, .string s, .string { data := #[] }, .int .i64 k] w (RefDone z T w (cutS d s k)) := by
  have hlen : d.fs.length = rs.length := by rw [← hrs, List.length_map]
  unfold dv dval
  rw [hlen]
  obtain ⟨cap, hcap⟩ : ∃ cap, cap = d.cap := ⟨_, rfl⟩
  obtain ⟨ar, har⟩ : ∃ ar, ar = arV d := ⟨_, rfl⟩
  obtain ⟨fu, hfu⟩ : ∃ fu, fu = fuV z d := ⟨_, rfl⟩
  obtain ⟨n, hn⟩ : ∃ n, n = rs.length := ⟨_, rfl⟩
  have hfs := fu_small (z := z) hok hz
  clear hz
  have hbv := burn_v (z := z) hok
  rw [← har, ← hfu] at hbv
  rw [← hfu] at hfs
  rw [← hcap, ← har, ← hfu, ← hn]
  obtain ⟨W0, hW0⟩ : ∃ W0, W0 = (w.alloc (.cells #[.int .i64 cap, .slice A n c, .bool ar, .int .i64 fu] 32)).alloc (.cells z32 32) := ⟨_, rfl⟩
  have t0 : Two2 w W0 #[.int .i64 cap, .slice A n c, .bool ar, .int .i64 fu] z32 := by rw [hW0]; exact Two2.start w _
  have hsm : s.size ≤ maxLen := by unfold maxLen; have : s.size ≤ 140737488351232 := hs; omega
  have HWR := Lib.hid (rwrong_calls s W0 hsm)
  have HR := Lib.hid h
  have HT0 := Lib.hid t0
  have HRS := Lib.hid hrs
  have HOK := Lib.hid hok
  have HCAP := Lib.hid hcap
  have HAR := Lib.hid har
  have HFU := Lib.hid hfu
  have HN := Lib.hid hn
  have HLEN := Lib.hid hlen
  have HS := Lib.hid hs
  obtain ⟨r, hr⟩ : ∃ r, r = cutS d s k := ⟨_, rfl⟩
  rw [← hr]
  have HRR := Lib.hid hr
  obtain ⟨c0, c1, c2, c3⟩ := t0.b1.cells4
  unfold z32 at hW0
  clear h hr hrs hok hcap har hfu hn hlen hs hsm
  by_cases hbad : bad s = true
  · rw [hbad] at HWR
    have HE := Lib.hid (show r = (d, 1) by rw [HRR.out]; simp [cutS, startS, hbad])
    have HF := Lib.hid (t0.set2 rfl (.int .i64 cap) (.slice A n c) (.bool ar) (.int .i64 fu))
    obtain ⟨k0, k1, k2, k3⟩ := (show Blk W0 (w.heap.size + 1) #[.int .i64 0, .slice none 0 0, .bool false, .int .i64 0] 32 from t0.b2).cells4
    obtain ⟨l0, l1, l2, l3⟩ := t0.b2.free4
    clear t0 hbad
    go_enter Try.func31, Try.ntmps31
    go_wp2_with fail
    rw [← hW0]
    clear hW0
    refine HWR.out.mono ?_
    rintro e w' ⟨rfl, rfl⟩
    dsimp only
    go_wp2
    refine bodyPost_ret (results_cell_tmp1 rfl _ _ _ _ _ rfl (lv32 HF.out.b2)) rfl ?_
    rw [HE.out]
    refine ⟨A, c, rs, ?_, HRS.out, HR.out.fin HF.out, HF.out.below⟩
    unfold dv dval
    rw [HLEN.out, ← HCAP.out, ← HAR.out, ← HFU.out, ← HN.out]
    rfl
  · have hbad' : bad s = false := by simpa using hbad
    rw [hbad'] at HWR
    have HBU := Lib.hid (rburn_calls cap A n c ar fu W0 hfs.1 hfs.2)
    obtain ⟨fu1, hfu1⟩ : ∃ fu1, fu1 = (if ar && decide (0 ≤ fu) then fu - 1 else fu) := ⟨_, rfl⟩
    rw [← hfu1] at HBU hbv
    have HBV := Lib.hid hbv
    unfold dval at HBU
    clear t0 hbad hfs hbv hfu1
    go_enter Try.func31, Try.ntmps31
    go_wp2_with fail
    rw [← hW0]
    clear hW0
    refine HWR.out.mono ?_
    rintro e w' ⟨rfl, rfl⟩
    dsimp only
    go_wp2_with fail
    refine HBU.out.mono ?_
    rintro e w1 ⟨rfl, hb1⟩
    dsimp only [dval]
    have t1 := HT0.out.on hb1
    obtain ⟨k0, k1, k2, k3⟩ := t1.b1.cells4
    obtain ⟨l0, l1, l2, l3⟩ := t1.b1.free4
    obtain ⟨W1, hW1⟩ : ∃ W1, W1 = (((w1.setCell ⟨w.heap.size, 0, none⟩ (.int .i64 cap)).setCell ⟨w.heap.size, 1, none⟩ (.slice A n c)).setCell ⟨w.heap.size, 2, none⟩ (.bool ar)).setCell ⟨w.heap.size, 3, none⟩ (.int .i64 fu1) := ⟨_, rfl⟩
    have t2 : Two2 w W1 #[.int .i64 cap, .slice A n c, .bool ar, .int .i64 fu1] z32 := by rw [hW1]; exact t1.set1 rfl _ _ _ _
    have HT2 := Lib.hid t2
    have HDE := Lib.hid (rdead_calls cap A n c ar fu1 W1)
    unfold dval at HDE
    have e0 := (hW1 ▸ t2.b1.cells4 : cells4 ((((w1.setCell ⟨w.heap.size, 0, none⟩ (.int .i64 cap)).setCell ⟨w.heap.size, 1, none⟩ (.slice A n c)).setCell ⟨w.heap.size, 2, none⟩ (.bool ar)).setCell ⟨w.heap.size, 3, none⟩ (.int .i64 fu1)) w.heap.size _ _ _ _)
    obtain ⟨e0, e1, e2, e3⟩ := e0
    clear t1 t2 hb1 c0 c1 c2 c3
    have hdv : (ar && decide (fu1 < 0)) = decide (d.left = 0) := by
      have h1 := dead_v (z := z) HOK.out.burn
      rw [HBV.out.1, HBV.out.2] at h1
      rw [h1]; exact burn_dead HOK.out
    rw [hdv] at HDE
    go_wp2_with fail
    rw [← hW1]
    clear hW1 e0 e1 e2 e3 k0 k1 k2 k3 l0 l1 l2 l3 hdv
    refine HDE.out.mono ?_
    rintro e w2 ⟨rfl, hb2⟩
    dsimp only
    have t3 := HT2.out.on hb2
    have HT3 := Lib.hid t3
    obtain ⟨c0, c1, c2, c3⟩ := t3.b1.cells4
    have hburn := burn_fs d
    have HDB := Lib.hid (show ∀ A' c', dv z (burn d) A' c' = .agg #[.int .i64 cap, .slice A' n c', .bool ar, .int .i64 fu1] by
      intro A' c'
      unfold dv dval
      rw [hburn.1, hburn.2, HBV.out.1, HBV.out.2, HLEN.out, ← HCAP.out, ← HN.out])
    have HBF := Lib.hid hburn
    clear hburn
    by_cases h0 : d.left = 0
    · have HE := Lib.hid (show r = (burn d, 61) by rw [HRR.out]; simp [cutS, startS, hbad', h0])
      have hdd : decide (d.left = 0) = true := by simpa using h0
      have HF := Lib.hid (t3.set2 rfl (.int .i64 cap) (.slice A n c) (.bool ar) (.int .i64 fu1))
      obtain ⟨k0, k1, k2, k3⟩ := (show Blk w2 (w.heap.size + 1) #[.int .i64 0, .slice none 0 0, .bool false, .int .i64 0] 32 from t3.b2).cells4
      obtain ⟨l0, l1, l2, l3⟩ := t3.b2.free4
      clear t3 h0 hb2
      rw [hdd]
      go_wp2
      refine bodyPost_ret (results_cell_tmp1 rfl _ _ _ _ _ rfl (lv32 HF.out.b2)) rfl ?_
      rw [HE.out]
      refine ⟨A, c, rs, ?_, by rw [HBF.out.1]; exact HRS.out, HR.out.fin HF.out, HF.out.below⟩
      rw [HDB.out]
      rfl
    · have hdd : decide (d.left = 0) = false := by simpa using h0
      rw [hdd]
      have HST := Lib.hid (show ∀ k, startS d [s] k = k (burn d) by intro k; unfold startS; simp [hbad', h0])
      have HPL := Lib.hid (rplace_calls cap A c ar fu1 rs s w2 (HR.out.two t3) (by have := HOK.out.many; rw [← HLEN.out]; omega))
      rw [← HN.out] at HPL
      unfold dval at HPL
      clear t3 hb2 h0 hdd
      go_wp2_with fail
      refine HPL.out.mono ?_
      rintro e w4 ⟨⟨x, rfl, hx⟩, hb4⟩
      dsimp only
      have t5 := HT3.out.on hb4
      have HT5 := Lib.hid t5
      clear c0 c1 c2 c3
      obtain ⟨c0, c1, c2, c3⟩ := t5.b1.cells4
      clear hb4
      rcases hx with ⟨rfl, hno⟩ | ⟨i, rf, rfl, hi, hnm⟩
      · have hfd : fd Fl.name d.fs s = none := fd_none_of fun f hf => by
          rw [← HRS.out] at hf
          obtain ⟨r0, h1, rfl⟩ := List.mem_map.1 hf
          exact hno r0 h1
        have HE := Lib.hid (show r = (burn d, 6) by
          rw [HRR.out]
          unfold cutS
          rw [HST.out]
          unfold onS
          rw [HBF.out.1, hfd])
        have HF := Lib.hid (t5.set2 rfl (.int .i64 cap) (.slice A n c) (.bool ar) (.int .i64 fu1))
        obtain ⟨k0, k1, k2, k3⟩ := (show Blk w4 (w.heap.size + 1) #[.int .i64 0, .slice none 0 0, .bool false, .int .i64 0] 32 from t5.b2).cells4
        obtain ⟨l0, l1, l2, l3⟩ := t5.b2.free4
        clear t5 hno hfd
        go_wp2
        refine bodyPost_ret (results_cell_tmp1 rfl _ _ _ _ _ rfl (lv32 HF.out.b2)) rfl ?_
        rw [HE.out]
        refine ⟨A, c, rs, ?_, by rw [HBF.out.1]; exact HRS.out, HR.out.fin HF.out, HF.out.below⟩
        rw [HDB.out]
        rfl
      · have hmem : rf ∈ rs := List.mem_of_getElem? hi
        have hdi : d.fs[i]? = some rf.f := by rw [← HRS.out, List.getElem?_map, hi]; rfl
        have hfd : fd Fl.name d.fs s = some rf.f := by rw [← hnm]; exact fd_at HOK.out.srt hdi
        have hin : i < n := by rw [HN.out]; exact (List.getElem?_eq_some_iff.1 hi).1
        have hini : (i : Int) < (n : Int) := by omega
        have HE0 := Lib.hid (show ∀ k, onS (burn d) s k = k rf.f by intro k; unfold onS; rw [HBF.out.1, hfd])
        obtain ⟨b0, o0, hA, hbs, g0, g1, g2, g3⟩ := HR.out.cellAt t5.below hi
        subst hA
        have hrl := HR.out.2.2 rf hmem
        have htl : rf.f.b.length ≤ 1048576 := by
          have h1 := total_mem (List.mem_of_getElem? hdi)
          have h2 := HOK.out.fits
          have h3 := HOK.out.hi
          omega
        have hsyn := (HOK.out.files _ (List.mem_of_getElem? hdi)).1
        have hrn : rf.f.name.size ≤ reachBytes := by rw [hnm]; exact HS.out
        have HRN := Lib.hid hrn
        have HRL := Lib.hid hrl
        have HNM := Lib.hid hnm
        have HNS := Lib.hid (show ∀ r0 ∈ rs, r0.f.name.size ≤ reachBytes from fun r0 hr0 => by
          have hm0 : r0.f ∈ d.fs := by rw [← HRS.out]; exact List.mem_map.2 ⟨r0, hr0, rfl⟩
          have := (HOK.out.files _ hm0).2.2
          unfold bad at this
          simp at this
          have h64 : (64 : Nat) ≤ reachBytes := by decide
          omega)
        have HMANY := Lib.hid (show rs.length ≤ 100000 by have := HOK.out.many; rw [← HLEN.out]; omega)
        have hq0 : w.heap.size + 2 ≤ w4.heap.size := t5.size
        have HQ0 := Lib.hid hq0
        have HBW4 := Lib.hid t5.below
        clear hfd hdi hmem hnm hi hrl hrn hq0
        by_cases hk0 : k < 0
        · have hd : decide (k < 0) = true := by simpa using hk0
          have HE := Lib.hid (show r = (burn d, 1) by
            rw [HRR.out]
            unfold cutS
            rw [HST.out, HE0.out]
            exact if_pos (.inl hk0))
          have t6 := HT5.out.on (below_one w4 (.cells #[.string rf.f.name, .slice rf.A rf.f.b.length rf.c, .int .i64 (rf.f.syn : Int), .bool rf.f.ever] 77))
          obtain ⟨u0, u1, u2, u3⟩ := t6.b1.cells4
          have HF := Lib.hid (t6.set2 rfl (.int .i64 cap) (.slice (some ⟨b0, o0, none⟩) n c) (.bool ar) (.int .i64 fu1))
          obtain ⟨k0, k1, k2, k3⟩ := (show Blk _ (w.heap.size + 1) #[.int .i64 0, .slice none 0 0, .bool false, .int .i64 0] 32 from t6.b2).cells4
          obtain ⟨l0, l1, l2, l3⟩ := t6.b2.free4
          clear t5 t6 hk0
          go_wp2
          refine bodyPost_ret (results_cell_tmp1 rfl _ _ _ _ _ rfl (lv32 HF.out.b2)) rfl ?_
          rw [HE.out]
          refine ⟨_, c, rs, ?_, by rw [HBF.out.1]; exact HRS.out, HR.out.fin HF.out, HF.out.below⟩
          rw [HDB.out]
          rfl
        · have hd : decide (k < 0) = false := by simpa using hk0
          obtain ⟨lb, hlb⟩ : ∃ lb, lb = rf.f.b.length := ⟨_, rfl⟩
          by_cases hk1 : ((rf.f.b.length : Nat) : Int) < k
          · have hd2 : decide (((rf.f.b.length : Nat) : Int) < k) = true := by simpa using hk1
            have HE := Lib.hid (show r = (burn d, 1) by
              rw [HRR.out]
              unfold cutS
              rw [HST.out, HE0.out]
              exact if_pos (.inr hk1))
            have t6 := HT5.out.on (below_one w4 (.cells #[.string rf.f.name, .slice rf.A rf.f.b.length rf.c, .int .i64 (rf.f.syn : Int), .bool rf.f.ever] 77))
            obtain ⟨u0, u1, u2, u3⟩ := t6.b1.cells4
            have HF := Lib.hid (t6.set2 rfl (.int .i64 cap) (.slice (some ⟨b0, o0, none⟩) n c) (.bool ar) (.int .i64 fu1))
            obtain ⟨k0, k1, k2, k3⟩ := (show Blk _ (w.heap.size + 1) #[.int .i64 0, .slice none 0 0, .bool false, .int .i64 0] 32 from t6.b2).cells4
            obtain ⟨l0, l1, l2, l3⟩ := t6.b2.free4
            clear t5 t6 hk0 hk1 hlb
            go_wp2
            refine bodyPost_ret (results_cell_tmp1 rfl _ _ _ _ _ rfl (lv32 HF.out.b2)) rfl ?_
            rw [HE.out]
            refine ⟨_, c, rs, ?_, by rw [HBF.out.1]; exact HRS.out, HR.out.fin HF.out, HF.out.below⟩
            rw [HDB.out]
            rfl
          · have hd2 : decide (((rf.f.b.length : Nat) : Int) < k) = false := by simpa using hk1
            have HE := Lib.hid (show r = ({ burn d with fs := wi Fl.name (burn d).fs (short rf.f k.toNat) }, 0) by
              rw [HRR.out]
              unfold cutS
              rw [HST.out, HE0.out]
              exact if_neg (fun h => h.elim hk0 hk1))
            obtain ⟨kn, hkn⟩ : ∃ kn : Nat, k = (kn : Int) := ⟨k.toNat, by omega⟩
            subst hkn
            have hkn : kn ≤ rf.f.b.length := by omega
            rw [Int.toNat_natCast] at HE
            have HVB := Lib.hid (show Below w.heap.size w ((w4.alloc (.cells #[.string rf.f.name, .slice rf.A rf.f.b.length rf.c, .int .i64 (rf.f.syn : Int), .bool rf.f.ever] 77)).alloc (.cells #[] 5)) from HBW4.out.trans ((below_two w4 _ _).mono (by have := HQ0.out; omega)))
            obtain ⟨A', C', hrun, hl', _⟩ := cut_h (HRL.out.1.below HVB.out) HRL.out.2.1 kn (kn : Int) rfl hkn
            obtain ⟨Y, hY⟩ : ∃ Y, Y = rf.f.b.take kn := ⟨_, rfl⟩
            rw [← hY] at hrun hl'
            have HYL := Lib.hid (show Y.length ≤ 1048576 by rw [hY, List.length_take]; omega)
            have HY := Lib.hid hY
            have HLY := Lib.hid (hl' _ (Below.refl _ _))
            have HBQ2 := Lib.hid ((Blk.new w4 #[.string rf.f.name, .slice rf.A rf.f.b.length rf.c, .int .i64 (rf.f.syn : Int), .bool rf.f.ever] 77).alloc (.cells #[] 5))
            have z1 := HBQ2.out.cell 1
            have hown0 : OwnS (w4.heap.size + 1) ((w4.alloc (.cells #[.string rf.f.name, .slice rf.A rf.f.b.length rf.c, .int .i64 (rf.f.syn : Int), .bool rf.f.ever] 77)).alloc (.cells #[] 5)) (some ⟨w4.heap.size + 1, 0, none⟩) 0 [] := by
              have := World.ownsRow_lit (size := 1) (e := 5) (base := w4.heap.size + 1) (w4.alloc (.cells #[.string rf.f.name, .slice rf.A rf.f.b.length rf.c, .int .i64 (rf.f.syn : Int), .bool rf.f.ever] 77)) #[] 0 (by simp) (by unfold maxLen; omega) rfl
              unfold OwnS
              simpa [cellsOf] using this
            have HO0 := Lib.hid hown0
            have HBE0 := Lib.hid (below_two w4 (.cells #[.string rf.f.name, .slice rf.A rf.f.b.length rf.c, .int .i64 (rf.f.syn : Int), .bool rf.f.ever] 77) (.cells #[] 5))
            have HSZ0 := Lib.hid (show w4.heap.size + 1 ≤ ((w4.alloc (.cells #[.string rf.f.name, .slice rf.A rf.f.b.length rf.c, .int .i64 (rf.f.syn : Int), .bool rf.f.ever] 77)).alloc (.cells #[] 5)).heap.size by simp)
            have HA63 := Lib.hid (show ([] : List Int).length + Y.length ≤ 100000000000 by have h9 := HYL.out; exact Nat.le_trans (Nat.add_le_add (Nat.le_refl _) h9) (by decide))
            clear t5 hown0 hk0 hk1 hlb hY hl'
            by_cases hsk : (kn : Int) < (rf.f.syn : Int)
            · have hd4 : decide ((kn : Int) < (rf.f.syn : Int)) = true := by simpa using hsk
              have HSYN := Lib.hid (show min rf.f.syn kn = kn by omega)
              clear hd4
              go_wp2_with (at_builtin; refine wpList_append_bytes rfl _ _ rfl (w4.heap.size + 1) (some ⟨w4.heap.size + 1, 0, none⟩) 0 [] rfl HO0.out A' C' Y rfl HLY.out HA63.out HSZ0.out ?_; intro A5 c5 w5 L5 hL5 hown5 hgrow5; have HB5 := Lib.hid (OwnS.grow HO0.out (Below.refl _ _) hgrow5 HSZ0.out); have HL5 := Lib.hid (show L5 = rf.f.b.take kn by rw [hL5.out, ← HY.out]; rfl); have bq5 := HBQ2.out.below HB5.out (by omega); have y1 := bq5.cell 1; have y2 := bq5.free 1; have bq7 := (bq5.set 1 (.slice A5 L5.length c5)); have y3 := bq7.cell 2; have y4 := bq7.free 2; have bq8 := bq7.set 2 (.int .i64 (kn : Int)); have q0 := bq8.cell 0; have q1 := bq8.cell 1; have q2 := bq8.cell 2; have q3 := bq8.cell 3; have nq : ∀ a, A5 = some a → a.block ≠ w4.heap.size := fun a ha e => (by have := (hown5.row a.block (by rw [ha]; rfl)); obtain ⟨cur, q, h1⟩ := this; rw [e, show w5.heap[w4.heap.size]? = _ from bq5] at h1; injection h1 with h1; injection h1 with _ h2; cases h2); have HO7 := Lib.hid (show OwnS (w4.heap.size + 1) ((w5.setCell ⟨w4.heap.size, 1, none⟩ (.slice A5 L5.length c5)).setCell ⟨w4.heap.size, 2, none⟩ (.int .i64 (kn : Int))) A5 c5 L5 from hown5.blocks (fun a ha => (Below.heap_setCell _ _ _ _ (nq a ha)).trans (Below.heap_setCell _ _ _ _ (nq a ha)))); have HBE7 := Lib.hid (((HBE0.out.trans (HB5.out.mono (Nat.le_succ _))).setCell (p := ⟨w4.heap.size, 1, none⟩) (Nat.le_refl _) (.slice A5 L5.length c5)).setCell (p := ⟨w4.heap.size, 2, none⟩) (Nat.le_refl _) (.int .i64 (kn : Int))); have t7 := HT5.out.on HBE7.out; have HT7 := Lib.hid t7; obtain ⟨u0, u1, u2, u3⟩ := t7.b1.cells4; clear bq5 bq7 t7 hown5 hgrow5 hL5 c0 c1 c2 c3 z1 nq)
              have HWI := Lib.hid (rwith_calls (T := fun k => (T k ∧ k < w.heap.size) ∨ w4.heap.size ≤ k) cap (some ⟨b0, o0, none⟩) c ar fu1 rs ⟨⟨rf.f.name, L5, kn, rf.f.ever⟩, A5, c5⟩ ((w5.setCell ⟨w4.heap.size, 1, none⟩ (.slice A5 L5.length c5)).setCell ⟨w4.heap.size, 2, none⟩ (.int .i64 (kn : Int))) ((HR.out.bounded.two HT7.out).mono fun _ h => .inl h) HMANY.out HO7.out.lies HO7.out.cap (fun hne a ha => .inr (by
                have ha' : A5 = some a := ha
                rcases HO7.out.2 with ⟨hv, _⟩ | ⟨g, cap', cur, hv, hg, _⟩
                · rw [ha'] at hv; cases hv
                · rw [ha'] at hv
                  injection hv with hv
                  injection hv with hv
                  rw [hv]
                  show w4.heap.size ≤ g
                  omega)) HRN.out HNS.out)
              rw [← HN.out] at HWI
              unfold dval fval at HWI
              refine HWI.out.mono ?_
              rintro e w8 ⟨A8, c8, rfl, hRef8, hb8⟩
              have t8 := HT7.out.on hb8
              obtain ⟨X8, hX8⟩ : ∃ X8, X8 = wi Rf.name rs ⟨⟨rf.f.name, L5, kn, rf.f.ever⟩, A5, c5⟩ := ⟨_, rfl⟩
              rw [← hX8] at hRef8 ⊢
              have HMAP := Lib.hid (show X8.map Rf.f = r.1.fs by
                rw [hX8, HE.out]
                rw [map_wi (nm := Rf.name) (nn := Fl.name) (g := Rf.f) (fun _ => rfl), HRS.out, HL5.out]
                show _ = wi Fl.name (burn d).fs _
                rw [HBF.out.1]
                simp only [short]
                rw [HSYN.out]
                try rfl)
              have HFF := Lib.hid (t8.set2 rfl (.int .i64 cap) (.slice A8 X8.length c8) (.bool ar) (.int .i64 fu1))
              obtain ⟨k0, k1, k2, k3⟩ := (show Blk w8 (w.heap.size + 1) #[.int .i64 0, .slice none 0 0, .bool false, .int .i64 0] 32 from t8.b2).cells4
              obtain ⟨l0, l1, l2, l3⟩ := t8.b2.free4
              have HB8 := Lib.hid hb8
              have HRE8 := Lib.hid hRef8
              have HS7 := Lib.hid (show w.heap.size + 2 ≤ _ from HT7.out.size)
              clear t8 hb8 hRef8 hX8
              dsimp only [dval]
              go_wp2
              refine bodyPost_ret (results_cell_tmp1 rfl _ _ _ _ _ rfl (lv32 HFF.out.b2)) rfl ?_
              have hX9 : X8.length = r.1.fs.length := by rw [← HMAP.out, List.length_map]
              refine ⟨A8, c8, X8, ?_, HMAP.out, ?_, HFF.out.below⟩
              · have e2 : r.2 = 0 := by rw [HE.out]
                have e3 : dv z r.1 A8 c8 = .agg #[.int .i64 cap, .slice A8 X8.length c8, .bool ar, .int .i64 fu1] := by
                  unfold dv dval
                  rw [← hX9]
                  rw [HE.out]
                  show Value.agg #[.int .i64 (burn d).cap, .slice A8 X8.length c8, .bool (arV (burn d)), .int .i64 (fuV z (burn d))] = _
                  rw [HBF.out.2, HBV.out.1, HBV.out.2, ← HCAP.out]
                rw [e2, e3]
                rfl
              · have h1 := HRE8.out.kept (w' := _) fun k hk hk2 => set4_other (g := w.heap.size + 1) (fun e => by
                  have h2 := HQ0.out
                  have h3 := HS7.out
                  rcases hk with (hk | hk) | hk
                  · omega
                  · omega
                  · omega) (.int .i64 cap) (.slice A8 X8.length c8) (.bool ar) (.int .i64 fu1)
                refine h1.mono fun k hk => ?_
                have h2 := HQ0.out
                have h3 := HS7.out
                rcases hk with (hk | hk) | hk
                · exact .inl hk.1
                · exact .inr (by omega)
                · exact .inr (by omega)
            · have hd4 : decide ((kn : Int) < (rf.f.syn : Int)) = false := by simpa using hsk
              have HSYN := Lib.hid (show min rf.f.syn kn = rf.f.syn by omega)
              have hsk2 : rf.f.syn ≤ kn := by omega
              have hsk3 : ¬ kn < rf.f.syn := by omega
              go_wp2_with (at_builtin; refine wpList_append_bytes rfl _ _ rfl (w4.heap.size + 1) (some ⟨w4.heap.size + 1, 0, none⟩) 0 [] rfl HO0.out A' C' Y rfl HLY.out HA63.out HSZ0.out ?_; intro A5 c5 w5 L5 hL5 hown5 hgrow5; have HB5 := Lib.hid (OwnS.grow HO0.out (Below.refl _ _) hgrow5 HSZ0.out); have HL5 := Lib.hid (show L5 = rf.f.b.take kn by rw [hL5.out, ← HY.out]; rfl); have bq5 := HBQ2.out.below HB5.out (by omega); have y1 := bq5.cell 1; have y2 := bq5.free 1; have bq7 := (bq5.set 1 (.slice A5 L5.length c5)); have q0 := bq7.cell 0; have q1 := bq7.cell 1; have q2 := bq7.cell 2; have q3 := bq7.cell 3; have nq : ∀ a, A5 = some a → a.block ≠ w4.heap.size := fun a ha e => (by have := (hown5.row a.block (by rw [ha]; rfl)); obtain ⟨cur, q, h1⟩ := this; rw [e, show w5.heap[w4.heap.size]? = _ from bq5] at h1; injection h1 with h1; injection h1 with _ h2; cases h2); have HO7 := Lib.hid (show OwnS (w4.heap.size + 1) (w5.setCell ⟨w4.heap.size, 1, none⟩ (.slice A5 L5.length c5)) A5 c5 L5 from hown5.blocks (fun a ha => Below.heap_setCell _ _ _ _ (nq a ha))); have HBE7 := Lib.hid ((HBE0.out.trans (HB5.out.mono (Nat.le_succ _))).setCell (p := ⟨w4.heap.size, 1, none⟩) (Nat.le_refl _) (.slice A5 L5.length c5)); have t7 := HT5.out.on HBE7.out; have HT7 := Lib.hid t7; obtain ⟨u0, u1, u2, u3⟩ := t7.b1.cells4; clear bq5 bq7 t7 hown5 hgrow5 hL5 c0 c1 c2 c3 z1 nq)
              have HWI := Lib.hid (rwith_calls (T := fun k => (T k ∧ k < w.heap.size) ∨ w4.heap.size ≤ k) cap (some ⟨b0, o0, none⟩) c ar fu1 rs ⟨⟨rf.f.name, L5, rf.f.syn, rf.f.ever⟩, A5, c5⟩ (w5.setCell ⟨w4.heap.size, 1, none⟩ (.slice A5 L5.length c5)) ((HR.out.bounded.two HT7.out).mono fun _ h => .inl h) HMANY.out HO7.out.lies HO7.out.cap (fun hne a ha => .inr (by
                have ha' : A5 = some a := ha
                rcases HO7.out.2 with ⟨hv, _⟩ | ⟨g, cap', cur, hv, hg, _⟩
                · rw [ha'] at hv; cases hv
                · rw [ha'] at hv
                  injection hv with hv
                  injection hv with hv
                  rw [hv]
                  show w4.heap.size ≤ g
                  omega)) HRN.out HNS.out)
              rw [← HN.out] at HWI
              unfold dval fval at HWI
              refine HWI.out.mono ?_
              rintro e w8 ⟨A8, c8, rfl, hRef8, hb8⟩
              have t8 := HT7.out.on hb8
              obtain ⟨X8, hX8⟩ : ∃ X8, X8 = wi Rf.name rs ⟨⟨rf.f.name, L5, rf.f.syn, rf.f.ever⟩, A5, c5⟩ := ⟨_, rfl⟩
              rw [← hX8] at hRef8 ⊢
              have HMAP := Lib.hid (show X8.map Rf.f = r.1.fs by
                rw [hX8, HE.out]
                rw [map_wi (nm := Rf.name) (nn := Fl.name) (g := Rf.f) (fun _ => rfl), HRS.out, HL5.out]
                show _ = wi Fl.name (burn d).fs _
                rw [HBF.out.1]
                simp only [short]
                rw [HSYN.out]
                try rfl)
              have HFF := Lib.hid (t8.set2 rfl (.int .i64 cap) (.slice A8 X8.length c8) (.bool ar) (.int .i64 fu1))
              obtain ⟨k0, k1, k2, k3⟩ := (show Blk w8 (w.heap.size + 1) #[.int .i64 0, .slice none 0 0, .bool false, .int .i64 0] 32 from t8.b2).cells4
              obtain ⟨l0, l1, l2, l3⟩ := t8.b2.free4
              have HB8 := Lib.hid hb8
              have HRE8 := Lib.hid hRef8
              have HS7 := Lib.hid (show w.heap.size + 2 ≤ _ from HT7.out.size)
              clear t8 hb8 hRef8 hX8
              dsimp only [dval]
              go_wp2
              refine bodyPost_ret (results_cell_tmp1 rfl _ _ _ _ _ rfl (lv32 HFF.out.b2)) rfl ?_
              have hX9 : X8.length = r.1.fs.length := by rw [← HMAP.out, List.length_map]
              refine ⟨A8, c8, X8, ?_, HMAP.out, ?_, HFF.out.below⟩
              · have e2 : r.2 = 0 := by rw [HE.out]
                have e3 : dv z r.1 A8 c8 = .agg #[.int .i64 cap, .slice A8 X8.length c8, .bool ar, .int .i64 fu1] := by
                  unfold dv dval
                  rw [← hX9]
                  rw [HE.out]
                  show Value.agg #[.int .i64 (burn d).cap, .slice A8 X8.length c8, .bool (arV (burn d)), .int .i64 (fuV z (burn d))] = _
                  rw [HBF.out.2, HBV.out.1, HBV.out.2, ← HCAP.out]
                rw [e2, e3]
                rfl
              · have h1 := HRE8.out.kept (w' := _) fun k hk hk2 => set4_other (g := w.heap.size + 1) (fun e => by
                  have h2 := HQ0.out
                  have h3 := HS7.out
                  rcases hk with (hk | hk) | hk
                  · omega
                  · omega
                  · omega) (.int .i64 cap) (.slice A8 X8.length c8) (.bool ar) (.int .i64 fu1)
                refine h1.mono fun k hk => ?_
                have h2 := HQ0.out
                have h3 := HS7.out
                rcases hk with (hk | hk) | hk
                · exact .inl hk.1
                · exact .inr (by omega)
                · exact .inr (by omega)

set_option maxRecDepth 20000 in
set_option maxHeartbeats 4000000 in
theorem rdo_rename {z : Int} (hz : I64 z) {T : Nat → Prop} (d : St) (hok : Ok d) (A : Option Addr) (c : Nat) (rs : List Rf) (hrs : rs.map Rf.f = d.fs) (s : ByteArray) (hs : s.size ≤ reachBytes) (to : ByteArray) (hto : to.size ≤ reachBytes) (w : World) (h : Ref T w A c rs) :
    Calls Try.prog 31 #[dv z d A c, .int .i64 3, .string s, .string to, .int .i64 0] w (RefDone z T w (renameS d s to)) := by
  have hlen : d.fs.length = rs.length := by rw [← hrs, List.length_map]
  unfold dv dval
  rw [hlen]
  obtain ⟨cap, hcap⟩ : ∃ cap, cap = d.cap := ⟨_, rfl⟩
  obtain ⟨ar, har⟩ : ∃ ar, ar = arV d := ⟨_, rfl⟩
  obtain ⟨fu, hfu⟩ : ∃ fu, fu = fuV z d := ⟨_, rfl⟩
  obtain ⟨n, hn⟩ : ∃ n, n = rs.length := ⟨_, rfl⟩
  have hfs := fu_small (z := z) hok hz
  clear hz
  have hbv := burn_v (z := z) hok
  rw [← har, ← hfu] at hbv
  rw [← hfu] at hfs
  rw [← hcap, ← har, ← hfu, ← hn]
  obtain ⟨W0, hW0⟩ : ∃ W0, W0 = (w.alloc (.cells #[.int .i64 cap, .slice A n c, .bool ar, .int .i64 fu] 32)).alloc (.cells z32 32) := ⟨_, rfl⟩
  have t0 : Two2 w W0 #[.int .i64 cap, .slice A n c, .bool ar, .int .i64 fu] z32 := by rw [hW0]; exact Two2.start w _
  have hsm : s.size ≤ maxLen := by unfold maxLen; have : s.size ≤ 140737488351232 := hs; omega
  have HWR := Lib.hid (rwrong_calls s W0 hsm)
  have htm : to.size ≤ maxLen := by unfold maxLen; have : to.size ≤ 140737488351232 := hto; omega
  have HWT := Lib.hid (rwrong_calls to W0 htm)
  have HTO := Lib.hid hto
  clear htm hto
  have HR := Lib.hid h
  have HT0 := Lib.hid t0
  have HRS := Lib.hid hrs
  have HOK := Lib.hid hok
  have HCAP := Lib.hid hcap
  have HAR := Lib.hid har
  have HFU := Lib.hid hfu
  have HN := Lib.hid hn
  have HLEN := Lib.hid hlen
  have HS := Lib.hid hs
  obtain ⟨r, hr⟩ : ∃ r, r = renameS d s to := ⟨_, rfl⟩
  rw [← hr]
  have HRR := Lib.hid hr
  obtain ⟨c0, c1, c2, c3⟩ := t0.b1.cells4
  unfold z32 at hW0
  clear h hr hrs hok hcap har hfu hn hlen hs hsm
  by_cases hbad : bad s = true
  · rw [hbad] at HWR
    have HE := Lib.hid (show r = (d, 1) by rw [HRR.out]; simp [renameS, startS, hbad])
    have HF := Lib.hid (t0.set2 rfl (.int .i64 cap) (.slice A n c) (.bool ar) (.int .i64 fu))
    obtain ⟨k0, k1, k2, k3⟩ := (show Blk W0 (w.heap.size + 1) #[.int .i64 0, .slice none 0 0, .bool false, .int .i64 0] 32 from t0.b2).cells4
    obtain ⟨l0, l1, l2, l3⟩ := t0.b2.free4
    clear t0 hbad
    go_enter Try.func31, Try.ntmps31
    go_wp2_with fail
    rw [← hW0]
    clear hW0
    refine HWR.out.mono ?_
    rintro e w' ⟨rfl, rfl⟩
    dsimp only
    go_wp2
    refine bodyPost_ret (results_cell_tmp1 rfl _ _ _ _ _ rfl (lv32 HF.out.b2)) rfl ?_
    rw [HE.out]
    refine ⟨A, c, rs, ?_, HRS.out, HR.out.fin HF.out, HF.out.below⟩
    unfold dv dval
    rw [HLEN.out, ← HCAP.out, ← HAR.out, ← HFU.out, ← HN.out]
    rfl
  · have hbad' : bad s = false := by simpa using hbad
    rw [hbad'] at HWR
    clear hbad
    by_cases hbad : bad to = true
    · rw [hbad] at HWT
      have HE := Lib.hid (show r = (d, 1) by rw [HRR.out]; simp [renameS, startS, hbad, hbad'])
      have HF := Lib.hid (t0.set2 rfl (.int .i64 cap) (.slice A n c) (.bool ar) (.int .i64 fu))
      obtain ⟨k0, k1, k2, k3⟩ := (show Blk W0 (w.heap.size + 1) #[.int .i64 0, .slice none 0 0, .bool false, .int .i64 0] 32 from t0.b2).cells4
      obtain ⟨l0, l1, l2, l3⟩ := t0.b2.free4
      clear t0 hbad
      go_enter Try.func31, Try.ntmps31
      go_wp2_with fail
      rw [← hW0]
      clear hW0
      refine HWR.out.mono ?_
      rintro e w' ⟨rfl, rfl⟩
      dsimp only
      go_wp2_with fail
      refine HWT.out.mono ?_
      rintro e w1 ⟨rfl, rfl⟩
      dsimp only
      go_wp2
      refine bodyPost_ret (results_cell_tmp1 rfl _ _ _ _ _ rfl (lv32 HF.out.b2)) rfl ?_
      rw [HE.out]
      refine ⟨A, c, rs, ?_, HRS.out, HR.out.fin HF.out, HF.out.below⟩
      unfold dv dval
      rw [HLEN.out, ← HCAP.out, ← HAR.out, ← HFU.out, ← HN.out]
      rfl
    · have hbt' : bad to = false := by simpa using hbad
      rw [hbt'] at HWT
      have HBU := Lib.hid (rburn_calls cap A n c ar fu W0 hfs.1 hfs.2)
      obtain ⟨fu1, hfu1⟩ : ∃ fu1, fu1 = (if ar && decide (0 ≤ fu) then fu - 1 else fu) := ⟨_, rfl⟩
      rw [← hfu1] at HBU hbv
      have HBV := Lib.hid hbv
      unfold dval at HBU
      clear t0 hbad hfs hbv hfu1
      go_enter Try.func31, Try.ntmps31
      go_wp2_with fail
      rw [← hW0]
      clear hW0
      refine HWR.out.mono ?_
      rintro e w' ⟨rfl, rfl⟩
      dsimp only
      go_wp2_with fail
      refine HWT.out.mono ?_
      rintro e w1 ⟨rfl, rfl⟩
      dsimp only
      go_wp2_with fail
      refine HBU.out.mono ?_
      rintro e w1 ⟨rfl, hb1⟩
      dsimp only [dval]
      have t1 := HT0.out.on hb1
      obtain ⟨k0, k1, k2, k3⟩ := t1.b1.cells4
      obtain ⟨l0, l1, l2, l3⟩ := t1.b1.free4
      obtain ⟨W1, hW1⟩ : ∃ W1, W1 = (((w1.setCell ⟨w.heap.size, 0, none⟩ (.int .i64 cap)).setCell ⟨w.heap.size, 1, none⟩ (.slice A n c)).setCell ⟨w.heap.size, 2, none⟩ (.bool ar)).setCell ⟨w.heap.size, 3, none⟩ (.int .i64 fu1) := ⟨_, rfl⟩
      have t2 : Two2 w W1 #[.int .i64 cap, .slice A n c, .bool ar, .int .i64 fu1] z32 := by rw [hW1]; exact t1.set1 rfl _ _ _ _
      have HT2 := Lib.hid t2
      have HDE := Lib.hid (rdead_calls cap A n c ar fu1 W1)
      unfold dval at HDE
      have e0 := (hW1 ▸ t2.b1.cells4 : cells4 ((((w1.setCell ⟨w.heap.size, 0, none⟩ (.int .i64 cap)).setCell ⟨w.heap.size, 1, none⟩ (.slice A n c)).setCell ⟨w.heap.size, 2, none⟩ (.bool ar)).setCell ⟨w.heap.size, 3, none⟩ (.int .i64 fu1)) w.heap.size _ _ _ _)
      obtain ⟨e0, e1, e2, e3⟩ := e0
      clear t1 t2 hb1 c0 c1 c2 c3
      have hdv : (ar && decide (fu1 < 0)) = decide (d.left = 0) := by
        have h1 := dead_v (z := z) HOK.out.burn
        rw [HBV.out.1, HBV.out.2] at h1
        rw [h1]; exact burn_dead HOK.out
      rw [hdv] at HDE
      go_wp2_with fail
      rw [← hW1]
      clear hW1 e0 e1 e2 e3 k0 k1 k2 k3 l0 l1 l2 l3 hdv
      refine HDE.out.mono ?_
      rintro e w2 ⟨rfl, hb2⟩
      dsimp only
      have t3 := HT2.out.on hb2
      have HT3 := Lib.hid t3
      obtain ⟨c0, c1, c2, c3⟩ := t3.b1.cells4
      have hburn := burn_fs d
      have HDB := Lib.hid (show ∀ A' c', dv z (burn d) A' c' = .agg #[.int .i64 cap, .slice A' n c', .bool ar, .int .i64 fu1] by
        intro A' c'
        unfold dv dval
        rw [hburn.1, hburn.2, HBV.out.1, HBV.out.2, HLEN.out, ← HCAP.out, ← HN.out])
      have HBF := Lib.hid hburn
      clear hburn
      by_cases h0 : d.left = 0
      · have HE := Lib.hid (show r = (burn d, 61) by rw [HRR.out]; simp [renameS, startS, hbad', hbt', h0])
        have hdd : decide (d.left = 0) = true := by simpa using h0
        have HF := Lib.hid (t3.set2 rfl (.int .i64 cap) (.slice A n c) (.bool ar) (.int .i64 fu1))
        obtain ⟨k0, k1, k2, k3⟩ := (show Blk w2 (w.heap.size + 1) #[.int .i64 0, .slice none 0 0, .bool false, .int .i64 0] 32 from t3.b2).cells4
        obtain ⟨l0, l1, l2, l3⟩ := t3.b2.free4
        clear t3 h0 hb2
        rw [hdd]
        go_wp2
        refine bodyPost_ret (results_cell_tmp1 rfl _ _ _ _ _ rfl (lv32 HF.out.b2)) rfl ?_
        rw [HE.out]
        refine ⟨A, c, rs, ?_, by rw [HBF.out.1]; exact HRS.out, HR.out.fin HF.out, HF.out.below⟩
        rw [HDB.out]
        rfl
      · have hdd : decide (d.left = 0) = false := by simpa using h0
        rw [hdd]
        have HST := Lib.hid (show ∀ k, startS d [s, to] k = k (burn d) by intro k; unfold startS; simp [hbad', hbt', h0])
        have HPL := Lib.hid (rplace_calls cap A c ar fu1 rs s w2 (HR.out.two t3) (by have := HOK.out.many; rw [← HLEN.out]; omega))
        rw [← HN.out] at HPL
        unfold dval at HPL
        clear t3 hb2 h0 hdd
        go_wp2_with fail
        refine HPL.out.mono ?_
        rintro e w4 ⟨⟨x, rfl, hx⟩, hb4⟩
        dsimp only
        have t5 := HT3.out.on hb4
        have HT5 := Lib.hid t5
        clear c0 c1 c2 c3
        obtain ⟨c0, c1, c2, c3⟩ := t5.b1.cells4
        clear hb4
        rcases hx with ⟨rfl, hno⟩ | ⟨i, rf, rfl, hi, hnm⟩
        · have hfd : fd Fl.name d.fs s = none := fd_none_of fun f hf => by
            rw [← HRS.out] at hf
            obtain ⟨r0, h1, rfl⟩ := List.mem_map.1 hf
            exact hno r0 h1
          have HE := Lib.hid (show r = (burn d, 6) by
            rw [HRR.out]
            unfold renameS
            rw [HST.out]
            unfold onS
            rw [HBF.out.1, hfd])
          have HF := Lib.hid (t5.set2 rfl (.int .i64 cap) (.slice A n c) (.bool ar) (.int .i64 fu1))
          obtain ⟨k0, k1, k2, k3⟩ := (show Blk w4 (w.heap.size + 1) #[.int .i64 0, .slice none 0 0, .bool false, .int .i64 0] 32 from t5.b2).cells4
          obtain ⟨l0, l1, l2, l3⟩ := t5.b2.free4
          clear t5 hno hfd
          go_wp2
          refine bodyPost_ret (results_cell_tmp1 rfl _ _ _ _ _ rfl (lv32 HF.out.b2)) rfl ?_
          rw [HE.out]
          refine ⟨A, c, rs, ?_, by rw [HBF.out.1]; exact HRS.out, HR.out.fin HF.out, HF.out.below⟩
          rw [HDB.out]
          rfl
        · have hmem : rf ∈ rs := List.mem_of_getElem? hi
          have hdi : d.fs[i]? = some rf.f := by rw [← HRS.out, List.getElem?_map, hi]; rfl
          have hfd : fd Fl.name d.fs s = some rf.f := by rw [← hnm]; exact fd_at HOK.out.srt hdi
          have hin : i < n := by rw [HN.out]; exact (List.getElem?_eq_some_iff.1 hi).1
          have hini : (i : Int) < (n : Int) := by omega
          have HE0 := Lib.hid (show ∀ k, onS (burn d) s k = k rf.f by intro k; unfold onS; rw [HBF.out.1, hfd])
          obtain ⟨b0, o0, hA, hbs, g0, g1, g2, g3⟩ := HR.out.cellAt t5.below hi
          subst hA
          have hrl := HR.out.2.2 rf hmem
          have htl : rf.f.b.length ≤ 1048576 := by
            have h1 := total_mem (List.mem_of_getElem? hdi)
            have h2 := HOK.out.fits
            have h3 := HOK.out.hi
            omega
          have hsyn := (HOK.out.files _ (List.mem_of_getElem? hdi)).1
          have hrn : rf.f.name.size ≤ reachBytes := by rw [hnm]; exact HS.out
          have HRN := Lib.hid hrn
          have HRL := Lib.hid hrl
          have HNM := Lib.hid hnm
          have HNS := Lib.hid (show ∀ r0 ∈ rs, r0.f.name.size ≤ reachBytes from fun r0 hr0 => by
            have hm0 : r0.f ∈ d.fs := by rw [← HRS.out]; exact List.mem_map.2 ⟨r0, hr0, rfl⟩
            have := (HOK.out.files _ hm0).2.2
            unfold bad at this
            simp at this
            have h64 : (64 : Nat) ≤ reachBytes := by decide
            omega)
          have HMANY := Lib.hid (show rs.length ≤ 100000 by have := HOK.out.many; rw [← HLEN.out]; omega)
          have hq0 : w.heap.size + 2 ≤ w4.heap.size := t5.size
          have HQ0 := Lib.hid hq0
          have HBW4 := Lib.hid t5.below
          clear hfd hdi hmem hnm hi hrl hrn hq0
          have HE := Lib.hid (show r = ({ burn d with fs := wi Fl.name (wo Fl.name (burn d).fs s) { rf.f with name := to } }, 0) by
            rw [HRR.out]
            unfold renameS
            rw [HST.out, HE0.out])
          have t6 := HT5.out.on (below_one w4 (.cells #[.string to, .slice rf.A rf.f.b.length rf.c, .int .i64 (rf.f.syn : Int), .bool rf.f.ever] 77))
          have HT6 := Lib.hid (show Two2 w (w4.alloc (.cells #[.string to, .slice rf.A rf.f.b.length rf.c, .int .i64 (rf.f.syn : Int), .bool rf.f.ever] 77)).drew #[.int .i64 cap, .slice (some ⟨b0, o0, none⟩) n c, .bool ar, .int .i64 fu1] z32 from ⟨t6.b1, t6.b2, ⟨t6.below.os, t6.below.tape, t6.below.output, t6.below.size, t6.below.block⟩, t6.size⟩)
          obtain ⟨u0, u1, u2, u3⟩ := t6.b1.cells4
          have HB6 := Lib.hid (HBW4.out.trans ((below_one w4 (.cells #[.string to, .slice rf.A rf.f.b.length rf.c, .int .i64 (rf.f.syn : Int), .bool rf.f.ever] 77)).mono (by have := HQ0.out; omega)))
          have HBQ := Lib.hid (Blk.new w4 #[.string to, .slice rf.A rf.f.b.length rf.c, .int .i64 (rf.f.syn : Int), .bool rf.f.ever] 77)
          obtain ⟨v0, v1, v2, v3⟩ := HBQ.out.cells4
          have HWO := Lib.hid (rwithout_calls (T := fun k => (T k ∧ k < w.heap.size) ∨ w4.heap.size ≤ k) cap (some ⟨b0, o0, none⟩) c ar fu1 rs s (w4.alloc (.cells #[.string to, .slice rf.A rf.f.b.length rf.c, .int .i64 (rf.f.syn : Int), .bool rf.f.ever] 77)).drew ((HR.out.bounded.two HT6.out).mono fun _ h => .inl h) HMANY.out)
          rw [← HN.out] at HWO
          unfold dval at HWO
          have HWI := Lib.hid (fun (w5 : World) (A5 : Option Addr) (c5 : Nat) (h5 : Ref (fun k => ((T k ∧ k < w.heap.size) ∨ w4.heap.size ≤ k) ∨ (w4.alloc (.cells #[.string to, .slice rf.A rf.f.b.length rf.c, .int .i64 (rf.f.syn : Int), .bool rf.f.ever] 77)).drew.heap.size ≤ k) w5 A5 c5 (wo Rf.name rs s)) (hb5 : Below w.heap.size w w5) => rwith_calls (T := (fun k => ((T k ∧ k < w.heap.size) ∨ w4.heap.size ≤ k) ∨ (w4.alloc (.cells #[.string to, .slice rf.A rf.f.b.length rf.c, .int .i64 (rf.f.syn : Int), .bool rf.f.ever] 77)).drew.heap.size ≤ k)) cap A5 c5 ar fu1 (wo Rf.name rs s) ⟨⟨to, rf.f.b, rf.f.syn, rf.f.ever⟩, rf.A, rf.c⟩ w5 h5 (Nat.le_trans (wo_length_le _ _) HMANY.out) (HRL.out.1.below hb5) HRL.out.2.1 (fun hne a ha => .inl (.inl ⟨HRL.out.2.2 hne a ha, lies_lt HRL.out.1 hne a ha⟩)) HTO.out (fun r0 hr0 => HNS.out r0 (mem_wo.1 hr0).1))
          unfold dval fval at HWI
          clear t5 t6 htl hsyn
          go_wp2_with fail
          go_region_with (first | (go_at_call 45; refine HWO.out.mono ?_; rintro e w5 ⟨A5, c5, rfl, hRef5, hb5⟩; dsimp only [dval]; have hbw5 : Below w.heap.size w w5 := (HB6.out.trans ⟨hb5.os, hb5.tape, hb5.output, hb5.size, fun k hk => hb5.block k (by have h9 := HQ0.out; have h8 : k < w.heap.size := hk; have h7 : (w4.alloc (.cells #[.string to, .slice rf.A rf.f.b.length rf.c, .int .i64 (rf.f.syn : Int), .bool rf.f.ever] 77)).drew.heap.size = w4.heap.size + 1 := (by show (w4.alloc (.cells #[.string to, .slice rf.A rf.f.b.length rf.c, .int .i64 (rf.f.syn : Int), .bool rf.f.ever] 77)).heap.size = _; simp); omega)⟩); have bq5 := (show Blk (w4.alloc (.cells #[.string to, .slice rf.A rf.f.b.length rf.c, .int .i64 (rf.f.syn : Int), .bool rf.f.ever] 77)).drew w4.heap.size _ 77 from HBQ.out).belowAll hb5; have q0 := bq5.cell 0; have q1 := bq5.cell 1; have q2 := bq5.cell 2; have q3 := bq5.cell 3; have HR5 := Lib.hid hRef5; have HBW5 := Lib.hid hbw5; have HB5 := Lib.hid hb5; clear bq5 hRef5 hbw5 hb5) | (go_at_call 46; refine (HWI.out w5 A5 c5 HR5.out HBW5.out).mono ?_; rintro e w8 ⟨A8, c8, rfl, hRef8, hb8⟩; dsimp only [dval]; have t8 := (HT6.out.on HB5.out).on hb8; have kk := (show Blk w8 (w.heap.size + 1) #[.int .i64 0, .slice none 0 0, .bool false, .int .i64 0] 32 from t8.b2).cells4; have ll := t8.b2.free4; have k0 := kk.1; have k1 := kk.2.1; have k2 := kk.2.2.1; have k3 := kk.2.2.2; have l0 := ll.1; have l1 := ll.2.1; have l2 := ll.2.2.1; have l3 := ll.2.2.2; have HT8 := Lib.hid t8; have HR8 := Lib.hid hRef8; have HB8 := Lib.hid hb8; clear kk ll t8 hRef8 hb8))
          all_goals
            have HFF := HT8.out.set2 rfl (.int .i64 cap) (.slice A8 (wi Rf.name (wo Rf.name rs s) ⟨⟨to, rf.f.b, rf.f.syn, rf.f.ever⟩, rf.A, rf.c⟩).length c8) (.bool ar) (.int .i64 fu1)
            have HMAP : (wi Rf.name (wo Rf.name rs s) ⟨⟨to, rf.f.b, rf.f.syn, rf.f.ever⟩, rf.A, rf.c⟩).map Rf.f = r.1.fs := by
              rw [HE.out, map_wi (nm := Rf.name) (nn := Fl.name) (g := Rf.f) (fun _ => rfl), map_wo (nm := Rf.name) (nn := Fl.name) (g := Rf.f) (fun _ => rfl), HRS.out]
              show _ = wi Fl.name (wo Fl.name (burn d).fs s) _
              rw [HBF.out.1]
            have HFH := Lib.hid HFF
            have HMH := Lib.hid HMAP
            clear HFF HMAP
            obtain ⟨X8, hX8⟩ : ∃ X8, X8 = wi Rf.name (wo Rf.name rs s) ⟨⟨to, rf.f.b, rf.f.syn, rf.f.ever⟩, rf.A, rf.c⟩ := ⟨_, rfl⟩
            rw [← hX8] at HFH HMH HR8 ⊢
            clear hX8
            go_wp2
            refine bodyPost_ret (results_cell_tmp1 rfl _ _ _ _ _ rfl (lv32 HFH.out.b2)) rfl ?_
            have hX9 : X8.length = r.1.fs.length := by rw [← HMH.out, List.length_map]
            refine ⟨A8, c8, X8, ?_, HMH.out, ?_, HFH.out.below⟩
            · have e2 : r.2 = 0 := by rw [HE.out]
              have e3 : dv z r.1 A8 c8 = .agg #[.int .i64 cap, .slice A8 X8.length c8, .bool ar, .int .i64 fu1] := by
                unfold dv dval
                rw [← hX9]
                rw [HE.out]
                show Value.agg #[.int .i64 (burn d).cap, .slice A8 X8.length c8, .bool (arV (burn d)), .int .i64 (fuV z (burn d))] = _
                rw [HBF.out.2, HBV.out.1, HBV.out.2, ← HCAP.out]
              rw [e2, e3]
              rfl
            · have h7 : (w4.alloc (.cells #[.string to, .slice rf.A rf.f.b.length rf.c, .int .i64 (rf.f.syn : Int), .bool rf.f.ever] 77)).drew.heap.size = w4.heap.size + 1 := (by show (w4.alloc (.cells #[.string to, .slice rf.A rf.f.b.length rf.c, .int .i64 (rf.f.syn : Int), .bool rf.f.ever] 77)).heap.size = _; simp)
              have h2 := HQ0.out
              have h3 : w4.heap.size ≤ w5.heap.size := by have := HB5.out.size; omega
              have h1 := HR8.out.kept (w' := _) fun k hk hk2 => set4_other (g := w.heap.size + 1) (fun e => by
                rcases hk with ((hk | hk) | hk) | hk
                · omega
                · omega
                · rw [h7] at hk; omega
                · omega) (.int .i64 cap) (.slice A8 X8.length c8) (.bool ar) (.int .i64 fu1)
              refine h1.mono fun k hk => ?_
              rcases hk with ((hk | hk) | hk) | hk
              · exact .inl hk.1
              · exact .inr (by omega)
              · exact .inr (by rw [h7] at hk; omega)
              · exact .inr (by omega)
end Go.Proofs.Ytpnlgmnlanoncaa
