/-
  Contract of the document's Crash. Conditions: the files lie in memory; the kept numbers lie in memory and are ints.
-/
import Derived.Test.YtpnlgmnlanoncaaRApp
import Derived.Deep.CutRange
namespace Go.Proofs.Ytpnlgmnlanoncaa
open Go.ChangeShapes Go.WideShapes Go.ChangeAt Go.RowKit
set_option linter.unusedVariables false

theorem OwnS.grown77 {B : Nat} {w w' : World} {A : Option Addr} {c : Nat} {l : List Int} {row : Option Nat} (h : OwnS B w A c l) (hg : w.grownBy w' row) (hr : ∀ g, row = some g → ∃ cur z, w.heap[g]? = some (.cells cur 77 z)) : OwnS B w' A c l :=
  h.kept (kept_grown hg hr) (by decide)
theorem OwnS.set77 {B : Nat} {w : World} {A : Option Addr} {c : Nat} {l : List Int} {g : Nat} {cs : Array Value} (h : OwnS B w A c l) (hb : Blk w g cs 77) (k : Nat) (v : Value) : OwnS B (w.setCell ⟨g, k, none⟩ v) A c l :=
  h.kept (kept_set hb k v) (by decide)
theorem OwnG.row77 {B : Nat} {w : World} {A : Option Addr} {c : Nat} {X : List Rf} (h : OwnG 77 4 enF B w A c X) : ∀ g, (Value.slice A X.length c).ownBlock = some g → ∃ cur z, w.heap[g]? = some (.cells cur 77 z) := fun g hg => (h.row g hg).2
/-- An append of bytes leaves the files. -/
theorem OwnG.grown5 {B : Nat} {w w' : World} {A : Option Addr} {c : Nat} {X : List Rf} {row : Option Nat} (h : OwnG 77 4 enF B w A c X) (hg : w.grownBy w' row) (hr : ∀ g, row = some g → ∃ cur z, w.heap[g]? = some (.cells cur 5 z)) : OwnG 77 4 enF B w' A c X :=
  h.kept (kept_grown hg hr) (by decide)
theorem Lies.take {w : World} {A : Option Addr} {c : Nat} {l : List Int} (h : Lies w A c l) (k : Nat) : Lies w A c (l.take k) := by
  rcases h with ⟨rfl, rfl, rfl⟩ | ⟨a, rfl, h⟩
  · exact .inl ⟨rfl, rfl, by simp⟩
  · refine .inr ⟨a, rfl, fun j u hu => h j u ?_⟩
    unfold cellsOf at *
    rw [List.map_take, List.getElem?_take] at hu
    split at hu
    · exact hu
    · cases hu
def crashR (x : Rf) (A : Option Addr) (c : Nat) (k : Int) : Rf := ⟨crash1 x.f k, A, c⟩
theorem crashN_step {fs : List Fl} {keep : List Int} {k : Nat} {f : Fl} (h : fs[k]? = some f) : crashN fs keep (k + 1) = crashN fs keep k ++ crashO f (keep.getD k 0) := by
  show crashN fs keep k ++ (match fs[k]? with | some f => crashO f (keep.getD k 0) | none => []) = _
  rw [h]
theorem crashN_len (fs : List Fl) (keep : List Int) : ∀ k, (crashN fs keep k).length ≤ k
  | 0 => by simp [crashN]
  | k + 1 => by
    have := crashN_len fs keep k
    show (crashN fs keep k ++ _).length ≤ k + 1
    rw [List.length_append]
    split
    · unfold crashO
      split <;> simp <;> omega
    · simp; omega
def RelCr (d : St) (keep : List Int) (B : Nat) (w : World) (l i : Value) (wr : World) : Prop :=
  ∃ (k : Nat) (A : Option Addr) (c : Nat) (X : List Rf), l = .slice A X.length c ∧ i = .int .i64 k ∧ k ≤ d.fs.length ∧ X.map Rf.f = crashN d.fs keep k ∧ OwnG 77 4 enF B wr A c X ∧ (∀ r ∈ X, OwnS B wr r.A r.c r.f.b) ∧ Below B w wr

set_option maxRecDepth 20000 in
set_option maxHeartbeats 4000000 in
theorem rcrash_calls {z : Int} {T : Nat → Prop} (d : St) (hok : Ok d) (A : Option Addr) (c : Nat) (rs : List Rf) (hrs : rs.map Rf.f = d.fs) (K : Option Addr) (kc : Nat) (keep : List Int) (w : World) (h : Ref T w A c rs) (hk : CellsG enI w K kc keep) (hkr : ∀ x ∈ keep, I64 x) (hkl : keep.length ≤ maxLen) :
    Calls Try.prog 33 #[dv z d A c, .slice K keep.length kc] w fun e w' => ∃ A' c' rs', e = .returned (dv (-1) (crashS d keep) A' c') ∧ rs'.map Rf.f = (crashS d keep).fs ∧ Ref (fun k => T k ∨ w.heap.size ≤ k) w' A' c' rs' ∧ Below w.heap.size w w' := by
  have hlen : d.fs.length = rs.length := by rw [← hrs, List.length_map]
  unfold dv dval
  rw [hlen]
  obtain ⟨cap, hcap⟩ : ∃ cap, cap = d.cap := ⟨_, rfl⟩
  obtain ⟨ar, har⟩ : ∃ ar, ar = arV d := ⟨_, rfl⟩
  obtain ⟨fu, hfu⟩ : ∃ fu, fu = fuV z d := ⟨_, rfl⟩
  obtain ⟨n, hn⟩ : ∃ n, n = rs.length := ⟨_, rfl⟩
  obtain ⟨nk, hnk⟩ : ∃ nk, nk = keep.length := ⟨_, rfl⟩
  rw [← hcap, ← har, ← hfu, ← hn, ← hnk]
  rw [← hnk] at hkl
  unfold maxLen at hkl
  obtain ⟨W0, hW0⟩ : ∃ W0, W0 = (w.alloc (.cells #[.int .i64 cap, .slice A n c, .bool ar, .int .i64 fu] 32)).alloc (.cells z32 32) := ⟨_, rfl⟩
  have t0 : Two2 w W0 #[.int .i64 cap, .slice A n c, .bool ar, .int .i64 fu] z32 := by rw [hW0]; exact Two2.start w _
  have HAM := Lib.hid (rarm_calls cap A n c ar fu (-1) W0)
  unfold dval at HAM
  have HR := Lib.hid h
  have HT0 := Lib.hid t0
  have HRS := Lib.hid hrs
  have HOK := Lib.hid hok
  have HCAP := Lib.hid hcap
  have HN := Lib.hid hn
  have HNK := Lib.hid hnk
  have HLEN := Lib.hid hlen
  have HK := Lib.hid hk
  have HKR := Lib.hid hkr
  have hu30 := run_underlying (P := Try.prog) Try.underlying30
  have hu34 := run_underlying (P := Try.prog) Try.underlying34
  have hmany : n ≤ 65536 := by rw [hn, ← hlen]; exact hok.many
  obtain ⟨c0, c1, c2, c3⟩ := t0.b1.cells4
  unfold z32 at hW0
  have hdm : decide ((0 : Int) ≤ -1) = false := by decide
  rw [hdm] at HAM
  clear h hrs hok hcap har hfu hn hnk hlen hk hkr t0 hdm
  go_enter Try.func33, Try.ntmps33
  go_wp2_with fail
  rw [← hW0]
  clear hW0
  refine HAM.out.mono ?_
  rintro e w1 ⟨rfl, hb1⟩
  dsimp only [dval]
  have t1 := HT0.out.on hb1
  obtain ⟨k0, k1, k2, k3⟩ := t1.b1.cells4
  obtain ⟨l0, l1, l2, l3⟩ := t1.b1.free4
  obtain ⟨W, hW⟩ : ∃ W, W = (((w1.setCell ⟨w.heap.size, 0, none⟩ (.int .i64 cap)).setCell ⟨w.heap.size, 1, none⟩ (.slice A n c)).setCell ⟨w.heap.size, 2, none⟩ (.bool false)).setCell ⟨w.heap.size, 3, none⟩ (.int .i64 (-1)) := ⟨_, rfl⟩
  have t2 : Two2 w W #[.int .i64 cap, .slice A n c, .bool false, .int .i64 (-1)] z32 := by rw [hW]; exact t1.set1 rfl _ _ _ _
  have HT2 := Lib.hid t2
  clear t1 t2 hb1 c0 c1 c2 c3
  go_wp2
  rw [← hW]
  clear hW k0 k1 k2 k3 l0 l1 l2 l3
  go_loopw [5, 6] (RelCr d keep W.heap.size W) (fun _ i _ => n - (intOf i).toNat)
  case atStart => exact ⟨0, none, 0, [], rfl, rfl, by omega, rfl, OwnG.nil _ _, (fun r hr => by cases hr), Below.refl _ _⟩
  case round =>
    obtain ⟨k, A2, c2, X, rfl, rfl, hk, hX, hown, hrows, hbl⟩ := hrel
    have hXl : X.length ≤ 65536 := by
      have h1 := crashN_len d.fs keep k
      rw [← hX, List.length_map] at h1
      have h2 := HOK.out.many
      omega
    have hkn : k ≤ n := by rw [HN.out, ← HLEN.out]; exact hk
    have HX := Lib.hid hX
    have HOW := Lib.hid hown
    have HRO := Lib.hid hrows
    have HBL := Lib.hid hbl
    have t3 := HT2.out.on hbl
    have HT3 := Lib.hid t3
    obtain ⟨c0, c1, c2', c3⟩ := t3.b1.cells4
    have HZR := Lib.hid (show W.heap.size ≤ wr.heap.size from hbl.size)
    clear hX hown hrows hbl hk
    by_cases hlt : k < n
    · have hlti : (k : Int) < (n : Int) := by omega
      obtain ⟨rf, hrf⟩ : ∃ rf, rs[k]? = some rf := ⟨rs[k]'(by rw [← HN.out]; exact hlt), by simp⟩
      have hdi : d.fs[k]? = some rf.f := by rw [← HRS.out, List.getElem?_map, hrf]; rfl
      have hst := crashN_step (keep := keep) hdi
      rw [← HX.out] at hst
      have HST := Lib.hid hst
      obtain ⟨b0, o0, hA, hbs, g0, g1, g2, g3⟩ := HR.out.cellAt t3.below hrf
      subst hA
      have HRL := Lib.hid (HR.out.2.2 rf (List.mem_of_getElem? hrf))
      have htl : rf.f.b.length ≤ 1048576 := by
        have h1 := total_mem (List.mem_of_getElem? hdi)
        have h2 := HOK.out.fits
        have h3 := HOK.out.hi
        omega
      have hsyn := (HOK.out.files _ (List.mem_of_getElem? hdi)).1
      clear hst hrf hdi t3
      obtain ⟨x, hx⟩ : ∃ x : Int, x = keep.getD k 0 := ⟨_, rfl⟩
      have HXX := Lib.hid hx
      rw [← hx] at HST
      clear hx
      obtain ⟨ev, hev⟩ : ∃ ev, ev = rf.f.ever := ⟨_, rfl⟩
      rw [← hev] at g3
      have HEV := Lib.hid hev
      clear hev
      have hkl0 := fun q => keptN_le rf.f q hsyn
      obtain ⟨lb, hlb⟩ : ∃ lb, lb = rf.f.b.length := ⟨_, rfl⟩
      obtain ⟨y, hy⟩ : ∃ y, y = rf.f.syn := ⟨_, rfl⟩
      rw [← hlb] at g1 htl hsyn hkl0
      rw [← hy] at g2 hsyn hkl0
      have HLBB := Lib.hid hlb
      have HYY := Lib.hid hy
      obtain ⟨kp, hkp⟩ : ∃ kp, kp = keptN rf.f x := ⟨_, rfl⟩
      have hkl2 := hkl0 x
      rw [← hkp] at hkl2
      have HKP := Lib.hid hkp
      have hkpi : (kp : Int) = (y : Int) + min (max x 0) ((lb : Int) - (y : Int)) := by rw [hkp, hlb, hy]; rw [hlb, hy] at hsyn; unfold keptN; omega
      have HKPI := Lib.hid hkpi
      obtain ⟨Y, hY⟩ : ∃ Y, Y = rf.f.b.take kp := ⟨_, rfl⟩
      have hYl : Y.length = kp := by rw [hY, List.length_take, ← hlb]; omega
      have HYL := Lib.hid hYl
      have HY := Lib.hid hY
      have HSYN := Lib.hid hsyn
      have HKL2 := Lib.hid hkl2
      obtain ⟨tst, htst⟩ : ∃ t, t = (decide (k < nk) && decide (0 < x)) := ⟨_, rfl⟩
      obtain ⟨m, hm⟩ : ∃ m : Int, m = max x 0 := ⟨_, rfl⟩
      obtain ⟨nn, hnn⟩ : ∃ nn : Int, nn = min m ((lb : Int) - (y : Int)) := ⟨_, rfl⟩
      have HTST := Lib.hid htst
      have HM := Lib.hid hm
      have HNN := Lib.hid hnn
      have HYN := Lib.hid (show (y : Int) + nn = kp by have := HKPI.out; omega)
      clear hY hYl hkp hlb hy hkl0 hkpi htst hm hnn hkl2
      go_upto_region 8 with fail
      go_cut [33] from 11 to 80 (fun s33 wx => s33 = .bool tst ∧ wx = wr.alloc (.cells #[.string rf.f.name, .slice rf.A lb rf.c, .int .i64 (y : Int), .bool ev] 77))
      case first =>
        by_cases hkk : k < nk
        · have hkki : (k : Int) < (nk : Int) := by omega
          obtain ⟨bk, ok, hKA, hbsk, hcellk⟩ := HK.out.at_ elI (by rw [← HNK.out]; omega)
          obtain ⟨x', hx'⟩ : ∃ x', keep[k]? = some x' := ⟨keep[k]'(by rw [← HNK.out]; exact hkk), by simp⟩
          have hxx : x = x' := by rw [HXX.out]; simp [List.getD, hx']
          subst hxx
          have hck := hcellk k 0 _ hx' (by omega)
          rw [Nat.mul_one, Nat.add_zero] at hck
          simp only [enI, List.getElem?_cons_zero] at hck
          have hck2 := ((HT3.out.on (below_one wr (.cells #[.string rf.f.name, .slice rf.A lb rf.c, .int .i64 (y : Int), .bool ev] 77))).below.cell (p := ⟨bk, ok + k, none⟩) hbsk).trans hck
          subst hKA
          clear hcellk hx' hck
          by_cases hx0 : 0 < x
          · have ht : tst = true := by rw [HTST.out]; simp [hkk, hx0]
            go_wp2_with fail
            go_meet
            exact ⟨by simp [ht], rfl⟩
          · have ht : tst = false := by rw [HTST.out]; simp [hx0]
            have hx0d : decide (0 < x) = false := by simpa using hx0
            go_wp2_with fail
            go_meet
            exact ⟨by simp [ht], rfl⟩
        · have ht : tst = false := by rw [HTST.out]; simp [hkk]
          have hkki : decide ((k : Int) < (nk : Int)) = false := by simp; omega
          go_wp2_with fail
          go_meet
          exact ⟨by simp [ht], rfl⟩
      case rest =>
        obtain ⟨rfl, rfl⟩ := hcut
        go_upto_if 33 with fail
        go_cut [8] from 11 to 80 (fun s8 wx => s8 = .int .i64 m ∧ wx = wr.alloc (.cells #[.string rf.f.name, .slice rf.A lb rf.c, .int .i64 (y : Int), .bool ev] 77))
        case first =>
          cases tst with
          | true =>
            have htt := HTST.out
            simp only [Bool.true_eq, Bool.and_eq_true, decide_eq_true_eq] at htt
            obtain ⟨hkk, hx0⟩ := htt
            have hkki : (k : Int) < (nk : Int) := by omega
            obtain ⟨bk, ok, hKA, hbsk, hcellk⟩ := HK.out.at_ elI (by rw [← HNK.out]; omega)
            obtain ⟨x', hx'⟩ : ∃ x', keep[k]? = some x' := ⟨keep[k]'(by rw [← HNK.out]; exact hkk), by simp⟩
            have hxx : x = x' := by rw [HXX.out]; simp [List.getD, hx']
            subst hxx
            have hck := hcellk k 0 _ hx' (by omega)
            rw [Nat.mul_one, Nat.add_zero] at hck
            simp only [enI, List.getElem?_cons_zero] at hck
            have hck2 := ((HT3.out.on (below_one wr (.cells #[.string rf.f.name, .slice rf.A lb rf.c, .int .i64 (y : Int), .bool ev] 77))).below.cell (p := ⟨bk, ok + k, none⟩) hbsk).trans hck
            subst hKA
            have hmx : m = x := by rw [HM.out]; omega
            have HMX := Lib.hid hmx
            clear hcellk hx' hck hmx
            go_wp2_with fail
            go_meet
            exact ⟨by rw [HMX.out], rfl⟩
          | false =>
            have hmx : m = 0 := by
              have htt := HTST.out
              rw [HM.out]
              by_cases hkk : k < nk
              · simp [hkk] at htt; omega
              · have : x = 0 := by
                  rw [HXX.out]
                  have : keep[k]? = none := List.getElem?_eq_none (by rw [← HNK.out]; omega)
                  simp [List.getD, this]
                omega
            have HMX := Lib.hid hmx
            clear hmx
            go_wp2_with fail
            go_meet
            exact ⟨by rw [HMX.out], rfl⟩
        case rest =>
          obtain ⟨rfl, rfl⟩ := hcut
          go_upto_if 45 with fail
          go_cut [8] from 11 to 80 (fun s8 wx => s8 = .int .i64 nn ∧ wx = wr.alloc (.cells #[.string rf.f.name, .slice rf.A lb rf.c, .int .i64 (y : Int), .bool ev] 77))
          case first =>
            by_cases hm1 : (lb : Int) - (y : Int) < m
            · have HQ := Lib.hid (show nn = (lb : Int) - (y : Int) by have := HNN.out; omega)
              go_wp2_with fail
              go_meet
              exact ⟨by rw [HQ.out], rfl⟩
            · have HQ := Lib.hid (show nn = m by have := HNN.out; omega)
              have hm1d : decide ((lb : Int) - (y : Int) < m) = false := by simpa using hm1
              go_wp2_with fail
              go_meet
              exact ⟨by rw [HQ.out], rfl⟩
          case rest =>
            obtain ⟨rfl, rfl⟩ := hcut
            go_upto_region 12 with fail
            go_cut [] from 11 to 80 (fun wx => ∃ A5 c5, Blk wx wr.heap.size #[.string rf.f.name, .slice A5 kp c5, .int .i64 (y : Int), .bool ev] 77 ∧ OwnS (wr.heap.size + 1) wx A5 c5 Y ∧ Below wr.heap.size wr wx)
            case first =>
              have HVB := Lib.hid (show Below w.heap.size w ((wr.alloc (.cells #[.string rf.f.name, .slice rf.A lb rf.c, .int .i64 (y : Int), .bool ev] 77)).alloc (.cells #[] 5)) from HT3.out.below.trans ((below_two wr _ _).mono (by have := HT3.out.size; omega)))
              have HLY := Lib.hid (show Lies ((wr.alloc (.cells #[.string rf.f.name, .slice rf.A lb rf.c, .int .i64 (y : Int), .bool ev] 77)).alloc (.cells #[] 5)) rf.A rf.c Y by rw [HY.out]; exact (HRL.out.1.below HVB.out).take kp)
              have HBQ2 := Lib.hid ((Blk.new wr #[.string rf.f.name, .slice rf.A lb rf.c, .int .i64 (y : Int), .bool ev] 77).alloc (.cells #[] 5))
              have z1 := HBQ2.out.cell 1
              have z2 := HBQ2.out.cell 2
              have hown0 : OwnS (wr.heap.size + 1) ((wr.alloc (.cells #[.string rf.f.name, .slice rf.A lb rf.c, .int .i64 (y : Int), .bool ev] 77)).alloc (.cells #[] 5)) (some ⟨wr.heap.size + 1, 0, none⟩) 0 [] := by
                have := World.ownsRow_lit (size := 1) (e := 5) (base := wr.heap.size + 1) (wr.alloc (.cells #[.string rf.f.name, .slice rf.A lb rf.c, .int .i64 (y : Int), .bool ev] 77)) #[] 0 (by simp) (by unfold maxLen; omega) rfl
                unfold OwnS
                simpa [cellsOf] using this
              have HO0 := Lib.hid hown0
              have HSZ0 := Lib.hid (show wr.heap.size + 1 ≤ ((wr.alloc (.cells #[.string rf.f.name, .slice rf.A lb rf.c, .int .i64 (y : Int), .bool ev] 77)).alloc (.cells #[] 5)).heap.size by simp)
              have HA63 := Lib.hid (show ([] : List Int).length + Y.length ≤ 100000000000 by have := HYL.out; have := HKL2.out.1; simp; omega)
              have hyn0 : 0 ≤ (y : Int) + nn := by rw [HYN.out]; omega
              have hyn1 : (y : Int) + nn ≤ rf.c := by have h1 := HRL.out.2.1; have h2 := HKL2.out.1; rw [← HLBB.out] at h1; rw [HYN.out]; omega
              have hyt : ((y : Int) + nn).toNat = kp := by rw [HYN.out]; simp
              have HYT := Lib.hid hyt
              have hyn2 : (y : Int) + nn ≤ 1048576 := by have h2 := HKL2.out.1; rw [HYN.out]; omega
              clear hown0 hyt
              go_wp2_with (at_builtin; go_must (refine wpList_append_bytes rfl _ _ rfl (wr.heap.size + 1) (some ⟨wr.heap.size + 1, 0, none⟩) 0 [] rfl HO0.out rf.A rf.c Y (by rw [HYL.out, ← HYT.out]; rfl) HLY.out HA63.out HSZ0.out ?_); intro A5 c5 w5 L5 hL5 hown5 hgrow5; have HB5 := Lib.hid (OwnS.grow HO0.out (Below.refl _ _) hgrow5 HSZ0.out); have HL5 := Lib.hid (show L5 = Y by rw [hL5.out]; rfl); have HO5 := Lib.hid hown5; have bq5 := HBQ2.out.below HB5.out (by omega); have HQ5 := Lib.hid bq5; have y1 := bq5.cell 1; have y2 := bq5.free 1; clear bq5 hown5 hgrow5 hL5 z1 z2)
              go_meet
              have e := HL5.out
              subst e
              have hs1 := HQ5.out.set 1 (.slice A5 L5.length c5)
              have hb5 : Below wr.heap.size wr w5 := (below_two wr _ _).trans (HB5.out.mono (by omega))
              refine ⟨A5, c5, ?_, HO5.out.set77 HQ5.out 1 _, hb5.setCell (p := ⟨wr.heap.size, 1, none⟩) (Nat.le_refl _) _⟩
              rw [← HYL.out]
              exact hs1
            case rest =>
              obtain ⟨A5, c5, hbq, hown5, hbl5⟩ := hcut
              have HBQ := Lib.hid hbq
              have HO5 := Lib.hid hown5
              have HB5 := Lib.hid hbl5
              obtain ⟨q0, q1, q2, q3⟩ := hbq.cells4
              have f2 := hbq.free 2
              have hbs2 : Blk (wc.setCell ⟨wr.heap.size, 2, none⟩ (.int .i64 (kp : Int))) wr.heap.size #[.string rf.f.name, .slice A5 kp c5, .int .i64 (kp : Int), .bool ev] 77 := hbq.set 2 _
              have HBS2 := Lib.hid hbs2
              obtain ⟨r0, r1, r2, r3⟩ := hbs2.cells4
              have f3 := hbs2.free 3
              obtain ⟨evn, hevn⟩ : ∃ b, b = (ev || decide (0 < kp)) := ⟨_, rfl⟩
              have HEVN := Lib.hid hevn
              clear hbq hown5 hbl5 hbs2 hevn
              go_upto_region 14 with fail
              go_cut [] from 11 to 80 (fun wx => Blk wx wr.heap.size #[.string rf.f.name, .slice A5 kp c5, .int .i64 (kp : Int), .bool evn] 77 ∧ OwnS (wr.heap.size + 1) wx A5 c5 Y ∧ Below wr.heap.size wr wx)
              case first =>
                have hfin : ∀ b, b = evn → Blk ((wc.setCell ⟨wr.heap.size, 2, none⟩ (.int .i64 (kp : Int))).setCell ⟨wr.heap.size, 3, none⟩ (.bool b)) wr.heap.size #[.string rf.f.name, .slice A5 kp c5, .int .i64 (kp : Int), .bool evn] 77 ∧ OwnS (wr.heap.size + 1) ((wc.setCell ⟨wr.heap.size, 2, none⟩ (.int .i64 (kp : Int))).setCell ⟨wr.heap.size, 3, none⟩ (.bool b)) A5 c5 Y ∧ Below wr.heap.size wr ((wc.setCell ⟨wr.heap.size, 2, none⟩ (.int .i64 (kp : Int))).setCell ⟨wr.heap.size, 3, none⟩ (.bool b)) := by
                  rintro b rfl
                  exact ⟨HBS2.out.set 3 _, (HO5.out.set77 HBQ.out 2 _).set77 HBS2.out 3 _, (HB5.out.setCell (p := ⟨wr.heap.size, 2, none⟩) (Nat.le_refl _) _).setCell (p := ⟨wr.heap.size, 3, none⟩) (Nat.le_refl _) _⟩
                have HFIN := Lib.hid hfin
                clear hfin
                cases ev with
                | true =>
                  go_wp2_with fail
                  go_meet
                  exact HFIN.out true (by rw [HEVN.out]; rfl)
                | false =>
                  by_cases h0 : 0 < kp
                  · have h0i : (0 : Int) < (kp : Int) := by omega
                    go_wp2_with fail
                    go_meet
                    exact HFIN.out true (by rw [HEVN.out]; simp [h0])
                  · have h0i : decide ((0 : Int) < (kp : Int)) = false := by simp; omega
                    go_wp2_with fail
                    go_meet
                    exact HFIN.out false (by rw [HEVN.out]; simp [h0])
              case rest =>
                obtain ⟨hbq, hown5, hbl5⟩ := hcut
                clear q0 q1 q2 q3 f2 r0 r1 r2 r3 f3
                have HBQ3 := Lib.hid hbq
                have HO6 := Lib.hid hown5
                have HB6 := Lib.hid hbl5
                obtain ⟨q0, q1, q2, q3⟩ := hbq.cells4
                have HCE := Lib.hid (show (crash1 rf.f x).ever = evn by rw [HEVN.out, HEV.out, HKP.out]; rfl)
                clear hbq hown5 hbl5
                have HBLX := Lib.hid (HBL.out.trans (HB6.out.mono HZR.out))
                have HOX := Lib.hid (HOW.out.below HB6.out)
                have HROX := Lib.hid (fun r hr => (HRO.out r hr).below HB6.out)
                have hk1 : k + 1 ≤ d.fs.length := by rw [HLEN.out, ← HN.out]; omega
                have HK1 := Lib.hid hk1
                have HZX := Lib.hid (Nat.le_trans HZR.out HB6.out.size)
                clear hk1
                cases evn with
                | false =>
                  have HE := Lib.hid (show X.map Rf.f = crashN d.fs keep (k + 1) by rw [HST.out]; unfold crashO; rw [HCE.out]; simp)
                  go_wp2
                  go_roundw
                  case rel => exact ⟨k + 1, A2, c2, X, rfl, by go_num, HK1.out, HE.out, HOX.out, HROX.out, HBLX.out⟩
                  case measure => simp [intOf]; omega
                | true =>
                  obtain ⟨xr, hxr⟩ : ∃ xr, xr = crashR rf A5 c5 x := ⟨_, rfl⟩
                  have hcs : ([.string rf.f.name, .slice A5 kp c5, .int .i64 (kp : Int), .bool true] : List Value) = enF xr := by
                    rw [hxr]
                    unfold enF crashR
                    rw [HCE.out]
                    show _ = ([.string rf.f.name, .slice A5 (rf.f.b.take (keptN rf.f x)).length c5, .int .i64 ((keptN rf.f x : Nat) : Int), .bool true] : List Value)
                    rw [← HKP.out, ← HY.out, HYL.out]
                  have HE := Lib.hid (show (X ++ [xr]).map Rf.f = crashN d.fs keep (k + 1) by rw [HST.out]; unfold crashO; rw [HCE.out, hxr]; simp [crashR])
                  have HXR := Lib.hid (show xr.A = A5 ∧ xr.c = c5 ∧ xr.f.b = Y by rw [hxr, HY.out, HKP.out]; exact ⟨rfl, rfl, rfl⟩)
                  have HO2 := Lib.hid (HOX.out.alloc (.cells #[.string rf.f.name, .slice A5 kp c5, .int .i64 (kp : Int), .bool true] 77))
                  have HO7 := Lib.hid (HO6.out.alloc (.cells #[.string rf.f.name, .slice A5 kp c5, .int .i64 (kp : Int), .bool true] 77))
                  have HRO7 := Lib.hid (fun r hr => (HROX.out r hr).alloc (.cells #[.string rf.f.name, .slice A5 kp c5, .int .i64 (kp : Int), .bool true] 77))
                  have HA1 := Lib.hid (show X.length + [xr].length ≤ 1000000000 by simp; omega)
                  have HA2 := Lib.hid (show W.heap.size ≤ (wc.alloc (.cells #[.string rf.f.name, .slice A5 kp c5, .int .i64 (kp : Int), .bool true] 77)).heap.size by have := HZX.out; simp; omega)
                  have HA3 := Lib.hid (cells_one_val elF wc xr #[.string rf.f.name, .slice A5 kp c5, .int .i64 (kp : Int), .bool true] hcs)
                  clear hcs hxr
                  go_wp2_with (at_builtin; go_must (refine wpList_append_vals elF rfl _ _ 30 Try.underlying30 rfl W.heap.size A2 c2 X rfl HO2.out (some ⟨wc.heap.size, 0, none⟩) 1 [xr] rfl HA3.out HA1.out (by decide) HA2.out ?_); intro A7 c7 w7 R7 hR7 hown7 hgrow7)
                  go_roundw
                  case rel =>
                    have e := hR7.out
                    subst e
                    refine ⟨k + 1, A7, c7, _, rfl, by go_num, HK1.out, HE.out, hown7, fun r hr => ?_, OwnG.grow HO2.out (HBLX.out.alloc HZX.out _) hgrow7 HA2.out⟩
                    rcases List.mem_append.1 hr with hr | hr
                    · exact (HRO7.out r hr).grown77 hgrow7 HO2.out.row77
                    · simp only [List.mem_singleton] at hr
                      subst hr
                      rw [HXR.out.1, HXR.out.2.1, HXR.out.2.2]
                      exact (HO7.out.mono (by have := HZR.out; omega)).grown77 hgrow7 HO2.out.row77
                  case measure => simp [intOf]; omega
    · have hd : decide ((k : Int) < (n : Int)) = false := by simp; omega
      have HE := Lib.hid (show X.map Rf.f = (crashS d keep).fs by
        rw [HX.out]
        show _ = crashN d.fs keep d.fs.length
        rw [HLEN.out, ← HN.out, show k = n by omega])
      have b1r := HT3.out.b1
      have b2r : Blk wr (w.heap.size + 1) #[.int .i64 0, .slice none 0 0, .bool false, .int .i64 0] 32 := HT3.out.b2
      have HB1 := Lib.hid b1r
      have HB2 := Lib.hid b2r
      have f1 := b1r.free 1
      have b1s := b1r.set 1 (.slice A2 X.length c2)
      have e0 := b1s.cell 0
      have e1 := b1s.cell 1
      have e2 := b1s.cell 2
      have e3 := b1s.cell 3
      have b2s := b2r.other (a := ⟨w.heap.size, 1, none⟩) (show w.heap.size + 1 ≠ w.heap.size by omega) (.slice A2 X.length c2)
      have k0 := b2s.cell 0
      have k1 := b2s.cell 1
      have k2 := b2s.cell 2
      have k3 := b2s.cell 3
      have l0 := b2s.free 0
      have l1 := b2s.free 1
      have l2 := b2s.free 2
      have l3 := b2s.free 3
      clear b1r b2r b1s b2s t3
      go_wp2
      have h5 := ref_end (v := .slice A2 X.length c2) (x0 := .int .i64 cap) (x1 := .slice A2 X.length c2) (x2 := .bool false) (x3 := .int .i64 (-1)) HB1.out HB2.out (show w.heap.size + 1 ≠ w.heap.size by omega) HOW.out HT3.out.below (Nat.le_refl _) (by omega)
      refine bodyPost_ret (results_cell1 rfl _ _ _ _ _ rfl (lv32 h5.1)) rfl ?_
      have hXn : (crashS d keep).fs.length = X.length := by rw [← HE.out, List.length_map]
      refine ⟨A2, c2, X, ?_, HE.out, ⟨h5.2.1.cells, fun hne a ha => ?_, fun r hr => ?_⟩, h5.2.2⟩
      · rw [hXn, show (crashS d keep).cap = cap from HCAP.out.symm]
        rfl
      · have h6 := (h5.2.1.row a.block (by rw [ha]; rfl)).1
        have := HT2.out.size
        exact .inr (by omega)
      · have h7 := HRO.out r hr
        have hge : ∀ a, r.A = some a → W.heap.size ≤ a.block := fun a ha => (World.ownsRow.lt h7 a.block (by rw [ha]; rfl)).1
        have hsz := HT2.out.size
        have h8 : OwnS W.heap.size (((((wr.setCell ⟨w.heap.size, 1, none⟩ (.slice A2 X.length c2)).setCell ⟨w.heap.size + 1, 0, none⟩ (.int .i64 cap)).setCell ⟨w.heap.size + 1, 1, none⟩ (.slice A2 X.length c2)).setCell ⟨w.heap.size + 1, 2, none⟩ (.bool false)).setCell ⟨w.heap.size + 1, 3, none⟩ (.int .i64 (-1))) r.A r.c r.f.b :=
          h7.blocks fun a ha => by
            have h9 := hge a ha
            exact (set4_other (by omega) _ _ _ _).trans (Below.heap_setCell wr ⟨w.heap.size, 1, none⟩ _ a.block (by show a.block ≠ w.heap.size; omega))
        exact ⟨Lies.of_own h8, OwnS.cap h8, fun _ a ha => .inr (by have := hge a ha; omega)⟩
end Go.Proofs.Ytpnlgmnlanoncaa
