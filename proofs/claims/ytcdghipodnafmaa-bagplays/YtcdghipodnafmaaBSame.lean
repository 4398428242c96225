/-
  Contract of the document's Same: two slices of messages hold the same messages. Conditions: the messages and their bytes lie in memory.
-/
import Derived.Test.YtcdghipodnafmaaBTake
import Derived.Deep.RegionHeld3
import Derived.Deep.CutRange
import Derived.Deep.CutBlock
namespace Go.Proofs.Ytcdghipodnafmaa
open Go.ChangeShapes Go.WideShapes Go.ChangeAt Go.RowKit
set_option linter.unusedVariables false

def RelSame (xs ys : List Mg) (w : World) (i : Value) (wr : World) : Prop := ∃ k q : Nat, i = .int .i64 k ∧ k ≤ xs.length ∧ wr = w.drewN q ∧ xs.take k = ys.take k
def Msgs (w : World) (A : Option Addr) (c : Nat) (xs : List Mr) : Prop := CellsG enM w A c xs ∧ ∀ x ∈ xs, Lies w x.A x.c x.m.b ∧ IsB x.m.b
theorem Msgs.cell {w : World} {A : Option Addr} {c : Nat} {xs : List Mr} (h : Msgs w A c xs) {k : Nat} {x : Mr} (hx : xs[k]? = some x) : ∃ b o, A = some ⟨b, o, none⟩ ∧ w.cell? ⟨b, o + k * 3, none⟩ = some (.int .i64 x.m.frm) ∧ w.cell? ⟨b, o + k * 3 + 1, none⟩ = some (.int .i64 x.m.tgt) ∧ w.cell? ⟨b, o + k * 3 + 2, none⟩ = some (.slice x.A x.m.b.length x.c) := by
  have hl : k < xs.length := (List.getElem?_eq_some_iff.1 hx).1
  obtain ⟨b, o, h1, _, h2⟩ := h.1.at_ elM (by omega)
  exact ⟨b, o, h1, h2 k 0 x hx (by omega), h2 k 1 x hx (by omega), h2 k 2 x hx (by omega)⟩
theorem Mg.eq_of {a b : Mg} (h1 : a.frm = b.frm) (h2 : a.tgt = b.tgt) (h3 : a.b = b.b) : a = b := by cases a; cases b; simp_all
theorem take_eq_succ {xs ys : List Mg} {k : Nat} {x y : Mg} (h : xs.take k = ys.take k) (hx : xs[k]? = some x) (hy : ys[k]? = some y) (e : x = y) : xs.take (k + 1) = ys.take (k + 1) := by
  rw [List.take_add_one, List.take_add_one, h, hx, hy, e]
theorem drewN_add (w : World) (a b : Nat) : (w.drewN a).drewN b = w.drewN (a + b) := by simp [World.drewN, Nat.add_assoc]
def SameR (P : Prop) (w : World) (e : Ending) (w' : World) : Prop := ∃ r q, e = .returned (.bool r) ∧ (r = true ↔ P) ∧ w' = w.drewN q
def CutSame (P : Prop) (W : World) (s : Value) (wx : World) : Prop := ∃ r q, s = .bool r ∧ (r = true ↔ P) ∧ wx = W.drewN q
set_option maxRecDepth 20000 in
set_option maxHeartbeats 4000000 in
theorem same_calls {w : World} {A B : Option Addr} {ca cb : Nat} {xs ys : List Mr} (hA : Msgs w A ca xs) (hB : Msgs w B cb ys) (hlx : xs.length ≤ 100000) :
    Calls Try.prog 13 #[.slice A xs.length ca, .slice B ys.length cb] w (SameR (xs.map Mr.m = ys.map Mr.m) w) := by
  obtain ⟨n, hn⟩ : ∃ n, n = xs.length := ⟨_, rfl⟩
  obtain ⟨m, hm⟩ : ∃ m, m = ys.length := ⟨_, rfl⟩
  have HN := Lib.hid hn
  have HM := Lib.hid hm
  by_cases hnm : n = m
  · have HA := Lib.hid hA
    have HB := Lib.hid hB
    have hd : ((n : Int) == (m : Int)) = true := by simp [hnm]
    have hd' : ((n : Int) != (m : Int)) = false := by simp [hnm]
    rw [← hn, ← hm]
    have hlx' : n ≤ 100000 := by omega
    have HNM := Lib.hid hnm
    clear hA hB hn hm hlx hnm
    go_enter Try.func13, Try.ntmps13
    go_wp2
    go_loopw [5] (RelSame (xs.map Mr.m) (ys.map Mr.m) w) (fun i _ => n - (intOf i).toNat)
    case atStart => exact ⟨0, 0, rfl, by simp, rfl, by simp⟩
    case round =>
      obtain ⟨k, q, rfl, hk, hwr, htk⟩ := hrel
      have HWR := Lib.hid hwr
      have HMA : Msgs wr A ca xs := by rw [hwr]; exact HA.out
      have HMB : Msgs wr B cb ys := by rw [hwr]; exact HB.out
      have HMA := Lib.hid HMA
      have HMB := Lib.hid HMB
      clear hwr
      rw [List.length_map, ← HN.out] at hk
      have HTK := Lib.hid htk
      clear htk
      by_cases hlt : k < n
      · have hlti : (k : Int) < (n : Int) := by omega
        have hltm : (k : Int) < (m : Int) := by have := HNM.out; omega
        have hltm' : k < m := by have := HNM.out; omega
        obtain ⟨x, hx⟩ : ∃ x, xs[k]? = some x := ⟨xs[k]'(by rw [← HN.out]; exact hlt), by simp⟩
        obtain ⟨y, hy⟩ : ∃ y, ys[k]? = some y := ⟨ys[k]'(by rw [← HM.out, ← HNM.out]; exact hlt), by simp⟩
        obtain ⟨b0, o0, hAe, a0, a1, a2⟩ := HMA.out.cell hx
        obtain ⟨b1, o1, hBe, d0, d1, d2⟩ := HMB.out.cell hy
        subst hAe
        subst hBe
        obtain ⟨l1, i1⟩ := HMA.out.2 x (List.mem_of_getElem? hx)
        obtain ⟨l2, i2⟩ := HMB.out.2 y (List.mem_of_getElem? hy)
        have s1 := run_str (l1.below (below_drew wr))
        have s2 := run_str (l2.below (below_drew wr))
        have HEQ := Lib.hid (str_eq_iff i1 i2)
        have hxm : (xs.map Mr.m)[k]? = some x.m := by rw [List.getElem?_map, hx]; rfl
        have hym : (ys.map Mr.m)[k]? = some y.m := by rw [List.getElem?_map, hy]; rfl
        have HXM := Lib.hid hxm
        have HYM := Lib.hid hym
        have HDIF := Lib.hid (show x.m ≠ y.m → ¬ (xs.map Mr.m = ys.map Mr.m) from fun hne e => by rw [e, hym] at hxm; exact hne (Option.some.inj hxm).symm)
        obtain ⟨fx, hfx⟩ : ∃ fx, fx = x.m.frm := ⟨_, rfl⟩
        obtain ⟨tx, htx⟩ : ∃ tx, tx = x.m.tgt := ⟨_, rfl⟩
        obtain ⟨bx, hbx⟩ : ∃ bx, bx = x.m.b := ⟨_, rfl⟩
        obtain ⟨fy, hfy⟩ : ∃ fy, fy = y.m.frm := ⟨_, rfl⟩
        obtain ⟨ty, hty⟩ : ∃ ty, ty = y.m.tgt := ⟨_, rfl⟩
        obtain ⟨by', hby⟩ : ∃ by', by' = y.m.b := ⟨_, rfl⟩
        obtain ⟨nx, hnx⟩ : ∃ nx, nx = bx.length := ⟨_, rfl⟩
        obtain ⟨ny, hny⟩ : ∃ ny, ny = by'.length := ⟨_, rfl⟩
        rw [← hfx] at a0
        rw [← htx] at a1
        rw [← hbx, ← hnx] at a2 s1
        rw [← hfy] at d0
        rw [← hty] at d1
        rw [← hby, ← hny] at d2 s2
        rw [← hbx, ← hby] at HEQ
        have HE := Lib.hid (show fx = fy → tx = ty → bx = by' → x.m = y.m from fun e1 e2 e3 => Mg.eq_of (by rw [← hfx, ← hfy, e1]) (by rw [← htx, ← hty, e2]) (by rw [← hbx, ← hby, e3]))
        have HE1 := Lib.hid (show x.m = y.m → fx = fy from fun e => by rw [hfx, hfy, e])
        have HE2 := Lib.hid (show x.m = y.m → tx = ty from fun e => by rw [htx, hty, e])
        have HE3 := Lib.hid (show x.m = y.m → bx = by' from fun e => by rw [hbx, hby, e])
        clear hx hy l1 i1 l2 i2 hxm hym hfx htx hbx hfy hty hby hnx hny
        go_upto_region 6 with fail
        go_cut [55] from 17 to 55 (CutSame (x.m ≠ y.m) wr)
        case first =>
          by_cases h1 : fx = fy
          · subst h1
            by_cases h2 : tx = ty
            · subst h2
              by_cases h3 : bx = by'
              · have e3 : ((str bx).toList == (str by').toList) = true := by rw [HEQ.out]; simp [h3]
                have e4 : ((str bx).toList != (str by').toList) = false := by rw [bne, e3]; rfl
                have HQ := Lib.hid (HE.out rfl rfl h3)
                clear h3 HE
                go_region_held3 (fun W => W = wr.drew) (first | exact rfl) (first | (go_at_call 9; fail))
                go_wp2_with fail
                go_meet
                exact ⟨false, 1, rfl, ⟨fun h => (by cases h), fun h => absurd HQ.out h⟩, rfl⟩
              · have e3 : ((str bx).toList == (str by').toList) = false := by rw [HEQ.out]; simp [h3]
                have e4 : ((str bx).toList != (str by').toList) = true := by rw [bne, e3]; rfl
                have H3 := Lib.hid (show x.m ≠ y.m from fun e => h3 (HE3.out e))
                clear h3 HE
                go_region_held3 (fun W => W = wr.drew) (first | exact rfl) (first | (go_at_call 9; fail))
                go_wp2_with fail
                go_meet
                exact ⟨true, 1, rfl, ⟨fun _ => H3.out, fun _ => rfl⟩, rfl⟩
            · have e3 : (tx == ty) = false := by simp [h2]
              have e4 : (tx != ty) = true := by simp [h2]
              have e5 : decide (tx = ty) = false := by simp [h2]
              have H3 := Lib.hid (show x.m ≠ y.m from fun e => h2 (HE2.out e))
              clear HE
              go_quiet (fail)
              go_wp2_with fail
              go_meet
              exact ⟨true, _, rfl, ⟨fun _ => H3.out, fun _ => rfl⟩, rfl⟩
          · have e3 : (fx == fy) = false := by simp [h1]
            have e4 : (fx != fy) = true := by simp [h1]
            have e5 : decide (fx = fy) = false := by simp [h1]
            have H3 := Lib.hid (show x.m ≠ y.m from fun e => h1 (HE1.out e))
            clear HE
            go_quiet (fail)
            go_wp2_with fail
            go_meet
            exact ⟨true, _, rfl, ⟨fun _ => H3.out, fun _ => rfl⟩, rfl⟩
        case rest =>
          obtain ⟨r, q2, rfl, hr, rfl⟩ := hcut
          have HR := Lib.hid hr
          clear hr
          cases r with
          | false =>
            go_wp2
            go_roundw
            case rel => exact ⟨k + 1, q + q2, by go_num, by rw [List.length_map, ← HN.out]; omega, by rw [HWR.out, drewN_add], take_eq_succ HTK.out HXM.out HYM.out (Classical.byContradiction fun hne => by have := HR.out.2 hne; cases this)⟩
            case measure => simp [intOf]; omega
          | true =>
            go_wp2
            go_ret
            exact ⟨false, q + q2, rfl, ⟨fun h => (by cases h), fun h => absurd h (HDIF.out (HR.out.1 (by trivial)))⟩, by rw [HWR.out, drewN_add]⟩
      · have hd : decide ((k : Int) < (n : Int)) = false := by simp; omega
        go_wp2
        go_ret
        refine ⟨true, q, rfl, ?_, HWR.out⟩
        have hkn : k = n := by omega
        have h9 := HTK.out
        rw [List.take_of_length_le (by rw [List.length_map, ← HN.out]; omega), List.take_of_length_le (by rw [List.length_map, ← HM.out, ← HNM.out]; omega)] at h9
        simp [h9]
  · have hd : ((n : Int) == (m : Int)) = false := by simp; omega
    have hd' : ((n : Int) != (m : Int)) = true := by simp; omega
    have HNM := Lib.hid hnm
    rw [← hn, ← hm]
    clear hA hB hn hm hlx hnm
    go_enter Try.func13, Try.ntmps13
    go_wp2
    go_ret
    refine ⟨false, 0, rfl, ?_, rfl⟩
    simp only [Bool.false_eq_true, false_iff]
    intro e
    have h9 := congrArg List.length e
    rw [List.length_map, List.length_map, ← HN.out, ← HM.out] at h9
    exact HNM.out h9
end Go.Proofs.Ytcdghipodnafmaa
