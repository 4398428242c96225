/-
  Contract of the law's same: the disk and the document's disk hold the same files. Conditions: both hold the same plain disk.
-/
import Derived.Test.YtpnlgmnlanoncaaRApp
import Derived.Deep.RegionHeld3
import Derived.Deep.CutRange
namespace Go.Proofs.Ytpnlgmnlanoncaa
open Go.ChangeShapes Go.WideShapes Go.ChangeAt Go.RowKit
set_option linter.unusedVariables false

theorem below_drew (w : World) : Below w.heap.size w w.drew := ⟨rfl, rfl, rfl, Nat.le_refl _, fun _ _ => rfl⟩
def RelSm (n : Nat) (w1 : World) (i : Value) (wr : World) : Prop := ∃ k : Nat, i = .int .i64 k ∧ k ≤ n ∧ Below w1.heap.size w1 wr
theorem names_at {B : Nat} {w w' : World} {A : Option Addr} {c : Nat} {ss : List ByteArray} (h : OwnG 9 1 enS B w A c ss) (hb : Below w.heap.size w w') {i : Nat} {s : ByteArray} (hi : ss[i]? = some s) :
    ∃ b o, A = some ⟨b, o, none⟩ ∧ b < w.heap.size ∧ w'.cell? ⟨b, o + i, none⟩ = some (.string s) := by
  have hl : i < ss.length := (List.getElem?_eq_some_iff.1 hi).1
  obtain ⟨b, o, hA, hbs, hc⟩ := h.cells.at_ elS (by omega)
  refine ⟨b, o, hA, hbs, ?_⟩
  have := (hb.cell (p := ⟨b, o + (i * 1 + 0), none⟩) hbs).trans (hc i 0 s hi (by omega))
  simpa [enS] using this

set_option maxRecDepth 20000 in
set_option maxHeartbeats 4000000 in
theorem same_calls {z : Int} {S T : Nat → Prop} {w : World} {sb : Nat} {d : St} (h : DiskAt S w sb d) (A : Option Addr) (c : Nat) (rs : List Rf) (hrs : rs.map Rf.f = d.fs) (hR : Ref T w A c rs) :
    Calls Try.prog 17 #[at_ sb, dv z d A c] w fun e w' => e = .returned (.bool true) ∧ Below w.heap.size w w' := by
  have hok := h.ok
  have hlen : d.fs.length = rs.length := by rw [← hrs, List.length_map]
  have hmany : rs.length ≤ 65536 := by rw [← hlen]; exact hok.many
  have htot : totR rs = total d.fs := by unfold totR; rw [hrs]
  have hbW := below_one w (.cells #[.int .i64 d.cap, .slice A d.fs.length c, .bool (arV d), .int .i64 (fuV z d)] 32)
  have HL := Lib.hid (list_calls (h.below hbW))
  have hnl : (d.fs.map Fl.name).length = rs.length := by rw [List.length_map, hlen]
  have HRM := Lib.hid (show ∀ W, Below w.heap.size w W → Calls Try.prog 25 #[at_ sb] W fun e w' => e = .returned (.int .i64 (d.cap - total d.fs)) ∧ W = w' from fun W hb => room_calls (h.below hb))
  have HLF := Lib.hid (show ∀ W, Below w.heap.size w W → Calls Try.prog 37 #[dval d.cap A rs.length c (arV d) (fuV z d)] W fun e w' => e = .returned (.int .i64 (d.cap - total d.fs)) ∧ Below W.heap.size W w' from fun W hb => by
    have := rleft_calls d.cap A c (arV d) (fuV z d) rs W (hR.below hb) (by omega) (by have := hok.lo; omega) hok.hi (by have h1 := hok.fits; have h2 := hok.hi; rw [htot]; omega)
    rwa [htot] at this)
  have HRD := Lib.hid (show ∀ (W : World) (s : ByteArray), Below w.heap.size w W → s.size ≤ maxLen → Calls Try.prog 15 #[at_ sb, .string s] W (OwnE W.heap.size W (readS d s)) from fun W s hb hs => read_calls (h.below hb) s hs)
  have HSD := Lib.hid (show ∀ (W : World) (s : ByteArray), Below w.heap.size w W → s.size ≤ maxLen → Calls Try.prog 22 #[at_ sb, .string s] W fun e w' => e = .returned (stateS d s) ∧ Below W.heap.size W w' from fun W s hb hs => state_calls (h.below hb) s hs)
  have HR := Lib.hid hR
  have HOK := Lib.hid hok
  have HRS := Lib.hid hrs
  unfold dv dval
  rw [hlen]
  rw [hnl, hlen] at HL
  unfold dval at HLF
  obtain ⟨cap, hcap⟩ : ∃ cap, cap = d.cap := ⟨_, rfl⟩
  obtain ⟨ar, har⟩ : ∃ ar, ar = arV d := ⟨_, rfl⟩
  obtain ⟨fu, hfu⟩ : ∃ fu, fu = fuV z d := ⟨_, rfl⟩
  obtain ⟨rm, hrm⟩ : ∃ rm : Int, rm = d.cap - total d.fs := ⟨_, rfl⟩
  obtain ⟨n, hn⟩ : ∃ n, n = rs.length := ⟨_, rfl⟩
  rw [← hrm] at HRM HLF
  rw [← hcap, ← har, ← hfu, ← hn] at HL HLF ⊢
  rw [← hn] at hmany hnl
  have HN := Lib.hid hn
  have HNL := Lib.hid hnl
  have hu30 := run_underlying (P := Try.prog) Try.underlying30
  have hu55 := run_underlying (P := Try.prog) Try.underlying55
  have HB0 := Lib.hid (Blk.new w #[.int .i64 cap, .slice A n c, .bool ar, .int .i64 fu] 32)
  have HW0 := Lib.hid (below_one w (.cells #[.int .i64 cap, .slice A n c, .bool ar, .int .i64 fu] 32))
  unfold at_ at *
  clear h hok hR hrs hlen htot hbW hcap har hfu hrm hn hnl
  go_enter Try.func17, Try.ntmps17
  go_wp2_with (go_at_call 24; refine HL.out.mono ?_; rintro e w1 ⟨A1, c1, rfl, ho1, hb1⟩)
  have hbw1 : Below w.heap.size w w1 := HW0.out.trans (hb1.mono (by simp))
  have HO1 := Lib.hid ho1
  have HB1 := Lib.hid hbw1
  have b1 := HB0.out.belowAll hb1
  have HBK := Lib.hid b1
  obtain ⟨c0, c1', c2, c3⟩ := b1.cells4
  clear ho1 hbw1 hb1 b1
  go_upto_region 2 with fail
  go_cut [27] from 13 to 94 (fun s27 wx => s27 = .bool false ∧ Below w1.heap.size w1 wx)
  case first =>
    go_region_held3 (fun W => W.cell? ⟨w.heap.size, 0, none⟩ = some (.int .i64 cap) ∧ W.cell? ⟨w.heap.size, 1, none⟩ = some (.slice A n c) ∧ W.cell? ⟨w.heap.size, 2, none⟩ = some (.bool ar) ∧ W.cell? ⟨w.heap.size, 3, none⟩ = some (.int .i64 fu)) (first | exact ⟨c0, c1', c2, c3⟩ | exact ⟨e0, e1, e2, e3⟩) (first | (go_at_call 25; refine (HRM.out _ (by first | exact HB1.out.trans ((below_drew w1).mono HB1.out.size) | exact hb2w)).mono ?_; rintro e w3 ⟨rfl, rfl⟩) | (go_at_call 37; refine (HLF.out w1.drew (HB1.out.trans ((below_drew w1).mono HB1.out.size))).mono ?_; rintro e w2 ⟨rfl, hb2⟩; have hb2' : Below w1.heap.size w1 w2 := ⟨hb2.os, hb2.tape, hb2.output, hb2.size, hb2.block⟩; have hb2w : Below w.heap.size w w2 := HB1.out.trans (hb2'.mono HB1.out.size); obtain ⟨e0, e1, e2, e3⟩ := (HBK.out.belowAll hb2').cells4))
    all_goals
      go_wp2_with fail
      go_meet
      exact ⟨rfl, hb2'⟩
  case rest =>
    obtain ⟨rfl, hbc⟩ := hcut
    have HBC := Lib.hid hbc
    clear hbc c0 c1' c2 c3
    go_wp2
    go_loopw [6] (RelSm n w1) (fun i _ => n - (intOf i).toNat)
    case atStart => exact ⟨0, rfl, by omega, HBC.out⟩
    case round =>
      obtain ⟨k, rfl, hk, hbr⟩ := hrel
      have HBR := Lib.hid hbr
      have hbwr : Below w.heap.size w wr := HB1.out.trans (hbr.mono HB1.out.size)
      have HBWR := Lib.hid hbwr
      obtain ⟨c0, c1', c2, c3⟩ := (HBK.out.belowAll hbr).cells4
      clear hbr
      by_cases hlt : k < n
      · have hlti : (k : Int) < (n : Int) := by omega
        obtain ⟨rf, hrf⟩ : ∃ rf, rs[k]? = some rf := ⟨rs[k]'(by rw [← HN.out]; exact hlt), by simp⟩
        have hdi : d.fs[k]? = some rf.f := by rw [← HRS.out, List.getElem?_map, hrf]; rfl
        obtain ⟨b0, o0, hA, hbs, g0, g1, g2, g3⟩ := HR.out.cellAt hbwr hrf
        subst hA
        have hni : (d.fs.map Fl.name)[k]? = some rf.f.name := by rw [List.getElem?_map, hdi]; rfl
        have hgood := HOK.out.files _ (List.mem_of_getElem? hdi)
        have hfd := fd_at HOK.out.srt hdi
        have hread : readS d rf.f.name = (rf.f.b, 0) := by unfold readS; rw [hgood.2.2, hfd]; rfl
        have hstate : stateS d rf.f.name = .tuple #[.int .i64 rf.f.syn, .int .i64 rf.f.b.length, .bool true] := by unfold stateS; rw [hfd]
        have hnms : rf.f.name.size ≤ maxLen := by
          have h1 := hgood.2.2
          unfold bad at h1
          simp only [Bool.or_eq_false_iff, decide_eq_false_iff_not] at h1
          unfold maxLen
          omega
        have hRL := HR.out.2.2 rf (List.mem_of_getElem? hrf)
        obtain ⟨nm, hnm⟩ : ∃ nm, nm = rf.f.name := ⟨_, rfl⟩
        obtain ⟨bl, hbl⟩ : ∃ bl, bl = rf.f.b := ⟨_, rfl⟩
        obtain ⟨lb, hlb⟩ : ∃ lb, lb = bl.length := ⟨_, rfl⟩
        obtain ⟨y, hy⟩ : ∃ y, y = rf.f.syn := ⟨_, rfl⟩
        obtain ⟨ev, hev⟩ : ∃ ev, ev = rf.f.ever := ⟨_, rfl⟩
        rw [← hnm] at hni hread hstate hnms g0
        rw [← hbl] at hread hstate g1 hRL
        rw [← hlb] at hstate g1
        rw [← hy] at hstate g2
        rw [← hev] at g3
        have HLB := Lib.hid hlb
        have HRL := Lib.hid hRL
        have hb77 := below_one wr (.cells #[.string nm, .slice rf.A lb rf.c, .int .i64 (y : Int), .bool ev] 77)
        have hbF : Below w.heap.size w (wr.alloc (.cells #[.string nm, .slice rf.A lb rf.c, .int .i64 (y : Int), .bool ev] 77)) := hbwr.trans (hb77.mono hbwr.size)
        obtain ⟨b5, o5, hA1, hb5s, n0⟩ := names_at HO1.out (HBR.out.trans (hb77.mono HBR.out.size)) hni
        subst hA1
        have HN5 := Lib.hid (show ∀ W, Below (wr.alloc (.cells #[.string nm, .slice rf.A lb rf.c, .int .i64 (y : Int), .bool ev] 77)).heap.size (wr.alloc (.cells #[.string nm, .slice rf.A lb rf.c, .int .i64 (y : Int), .bool ev] 77)) W → W.cell? ⟨b5, o5 + k, none⟩ = some (.string nm) from fun W hW => (hW.cell (p := ⟨b5, o5 + k, none⟩) (by have := HBR.out.size; simp; omega)).trans n0)
        have HBF := Lib.hid hbF
        have HRDk := Lib.hid (HRD.out (wr.alloc (.cells #[.string nm, .slice rf.A lb rf.c, .int .i64 (y : Int), .bool ev] 77)) nm hbF hnms)
        have HSDk := Lib.hid (show ∀ W, Below w.heap.size w W → Calls Try.prog 22 #[.pointer (some ⟨sb, 0, none⟩), .string nm] W fun e w' => e = .returned (.tuple #[.int .i64 (y : Int), .int .i64 (lb : Int), .bool true]) ∧ Below W.heap.size W w' from fun W hW => by rw [← hstate]; exact HSD.out W nm hW hnms)
        rw [hread] at HRDk
        have HQ := Lib.hid (Blk.new wr #[.string nm, .slice rf.A lb rf.c, .int .i64 (y : Int), .bool ev] 77)
        clear hrf hdi hni hgood hfd hread hstate hnms hRL hnm hbl hlb hy hev hb77 hbF hbwr
        go_wp2_with (first | (go_at_call 15; refine HRDk.out.mono ?_; rintro e w3 ⟨A5, c5, rfl, ho3, hb3⟩; have hb3w : Below w.heap.size w w3 := HBF.out.trans (hb3.mono HBF.out.size); have n3 := HN5.out w3 hb3) | (go_at_call 22; refine (HSDk.out w3 hb3w).mono ?_; rintro e w4 ⟨rfl, hb4⟩))
        have hb34 : Below wr.heap.size wr w4 := (below_one wr _).trans ((hb3.trans (hb4.mono hb3.size)).mono (by simp))
        have hq4 := (HQ.out.belowAll hb3).belowAll hb4
        obtain ⟨q0, q1, q2, q3⟩ := hq4.cells4
        have n4 := HN5.out w4 (hb3.trans (hb4.mono hb3.size))
        have hb4w : Below w.heap.size w w4 := hb3w.trans (hb4.mono hb3w.size)
        have s1 := run_str ((Lies.of_own ho3).below (hb4.drew))
        have s2 := run_str (HRL.out.1.below hb4w.drew)
        rw [← HLB.out] at s2
        have s1' : (convert 33 9 (.slice A5 bl.length c5)).run Try.prog w4.drew = .ok (.string (str bl)) w4.drew := s1
        rw [← HLB.out] at s1'
        have HB4 := Lib.hid hb34
        have HC10 := Lib.hid (code_calls 0 w4.drew)
        clear s1 hq4 n3 hb34 hb4w hb3w ho3 hb3 hb4 c0 c1' c2 c3 g0 g1 g2 g3
        first | rw [show (bl, (0 : Int)).1.length = lb from HLB.out.symm] | rw [← HLB.out]
        go_upto_region 10 with fail
        go_cut [94] from 28 to 94 (fun s94 wx => s94 = .bool false ∧ wx = w4.drew)
        case first =>
          go_region_held3 (fun W => W = w4.drew) (first | exact rfl) (first | (go_at_call 10; refine HC10.out.mono ?_; rintro e w6 ⟨rfl, rfl⟩))
          all_goals
            go_wp2_with fail
            go_meet
            exact ⟨rfl, rfl⟩
        case rest =>
          obtain ⟨rfl, rfl⟩ := hcut
          go_wp2
          go_roundw
          case rel => exact ⟨k + 1, by go_num, by omega, (HBR.out.trans (HB4.out.mono HBR.out.size)).drew⟩
          case measure => simp [intOf]; omega
      · have hd : decide ((k : Int) < (n : Int)) = false := by simp; omega
        go_wp2
        go_ret
        exact ⟨rfl, HBWR.out⟩
end Go.Proofs.Ytpnlgmnlanoncaa
