/-
  The walk of FaultTells. Conditions: the argument as the row hands it over; the table of powers of ten and the variable errors.errorType read as their initialisers lay them.
-/
import Derived.Test.YtgpaedknonkioaaDoorWS
import Derived.Test.YtgpaedknonkioaaDoorEU
namespace Go.Proofs.YtgpaedknonkioaaDoor
open Go.ChangeShapes Go.WideShapes Go.ChangeAt Go.RowKit
set_option linter.unusedVariables false

/-- The document's Tell, none let in. -/
theorem rtellO_calls (t : Option Er) (v : List Value) (w : World) (hk : okO t) (h : IsRO w t v) (hw : wtO t ≤ 1000000) : Calls Tryd.prog 12 #[.agg v.toArray] w (TellOf w (str (tellO t))) := by
  cases t with
  | none => obtain rfl := h; exact rtell_none 0 0 ⟨#[]⟩ none 0 0 w
  | some t => exact rtell_calls t v w hk h hw
/-- Whether an error is nil, by both. -/
theorem nil_is {w : World} {t : Option Er} {v : Value} (h : IsO w t v) : ∃ bz, ((kindO t == 0) = bz) ∧ (∀ W, (binOp .eql 26 v .nilIface).run Tryd.prog W = .ok (.bool bz) W) ∧ ∀ W, (eqGuard BinOp.eql 26 (Operand.tmp 21) (Operand.const Value.nilIface) v .nilIface).run Tryd.prog W = .ok () W := by
  cases t with
  | none => obtain rfl : v = .nilIface := h; exact ⟨true, rfl, nil_yes, fun W => by simp [eqGuard]⟩
  | some t => obtain ⟨ty, x, rfl⟩ := IsE.iface (t := t) h; exact ⟨false, Er.kind_ne t, nil_no ty x, fun W => by simp [eqGuard]⟩
theorem first_all (t : Option Er) : (allO t = [] ∧ firstO t = 0) ∨ ∃ r, allO t = firstO t :: r := by
  cases t with
  | none => exact .inl ⟨rfl, rfl⟩
  | some t => exact .inr (Er.all_first t)

/-- What each slot of the region holds. -/
def VA (ev : Value) (bz : Bool) (g : Nat) (kt n1 m1 : Int) (s1 T : ByteArray) (A1 Ag Aw : Option Addr) (l1 c1 cg cw nR : Nat) (d : Nat) (W : World) (v : Value) : Prop :=
  match d with
  | 21 | 28 => v = ev
  | 22 | 25 => v = .bool bz
  | 23 => v = .pointer (some ⟨g, 0, none⟩)
  | 24 => v = .int .i64 kt
  | 26 | 27 | 32 | 33 | 34 | 39 | 40 => v = .bool false
  | 29 | 31 => v = .string T
  | 30 => v = .agg #[.int .i64 kt, .int .i64 n1, .string s1, .int .i64 m1, .slice A1 l1 c1]
  | 35 => v = .slice Ag nR cg
  | 37 => v = .slice Aw nR cw
  | 36 | 38 => v = .int .i64 (nR : Int)
  | _ => True
theorem VA.keep (ev : Value) (bz : Bool) (g : Nat) (kt n1 m1 : Int) (s1 T : ByteArray) (A1 Ag Aw : Option Addr) (l1 c1 cg cw nR : Nat) (d : Nat) (W W' : World) (v : Value) (hb : Below W.heap.size W W') (h : VA ev bz g kt n1 m1 s1 T A1 Ag Aw l1 c1 cg cw nR d W v) : VA ev bz g kt n1 m1 s1 T A1 Ag Aw l1 c1 cg cw nR d W' v := by
  unfold VA at *
  split at h
  all_goals first | exact h | (obtain ⟨A, c, rfl, h⟩ := h; exact ⟨A, c, rfl, h.below hb⟩)

/-- What each slot of the region holds. -/
def VB (ev : Value) (ba oa bb ob nR cg cw k : Nat) (x : Int) (d : Nat) (W : World) (v : Value) : Prop :=
  match d with
  | 47 | 59 => v = .slice (some ⟨ba, oa, none⟩) nR cg
  | 52 => v = .slice (some ⟨bb, ob, none⟩) nR cw
  | 48 | 53 | 60 => v = .int .i64 (k : Int)
  | 49 | 61 => v = .pointer (some ⟨ba, oa + k, none⟩)
  | 54 => v = .pointer (some ⟨bb, ob + k, none⟩)
  | 50 | 51 | 55 | 62 => v = .int .i64 x
  | 56 | 57 | 64 | 65 => v = .bool false
  | 58 => v = ev
  | 63 => v = .bool true
  | _ => True
theorem VB.keep (ev : Value) (ba oa bb ob nR cg cw k : Nat) (x : Int) (d : Nat) (W W' : World) (v : Value) (hb : Below W.heap.size W W') (h : VB ev ba oa bb ob nR cg cw k x d W v) : VB ev ba oa bb ob nR cg cw k x d W' v := by
  unfold VB at *
  split at h
  all_goals first | exact h | (obtain ⟨A, c, rfl, h⟩ := h; exact ⟨A, c, rfl, h.below hb⟩)

def RelT (w : World) (n : Nat) (i : Value) (wr : World) : Prop := ∃ k : Nat, i = .int .i64 k ∧ k ≤ n ∧ Below w.heap.size w wr

set_option maxRecDepth 100000 in
set_option maxHeartbeats 4000000 in
theorem tells_walk (A : Option Addr) (c : Nat) (l : List Ac) (W : World) (hm : l.length ≤ maxLen) (hx : CellsG enA W A c l) (hs : ∀ a ∈ l, a.2.1.size ≤ reachBytes ∧ I64 a.2.2.1 ∧ I64 a.2.2.2) (hT : Tab W.heap.size W) (hE : EType W) :
    Calls Tryd.prog 3 #[.slice A l.length c] W fun e W' => e = .returned (.bool true) ∧ Below W.heap.size W W' := by
  have HLong := Lib.hid (long_calls A c l W hx hm (fun a ha => (hs a ha).1))
  have HTab := Lib.hid (fun (w' : World) (hb : Below W.heap.size W w') => (show Tab w'.heap.size w' from fun W2 hW2 => hT W2 (Below.on hb hW2)))
  have HLive := Lib.hid (fun (w' : World) (hb : Below W.heap.size W w') => live_calls w' (HTab.out w' hb))
  have HEt := Lib.hid (fun (w' : World) (hb : Below W.heap.size W w') => hE.below hb)
  have HMade := Lib.hid (made_calls A c l W hx hm)
  have hok := resO_ok l (fun a ha => (hs a ha).2)
  have hwt := resO_wt l
  generalize total (l.take 40) = N at *
  generalize resO l = t at *
  clear hx hs hT hE
  by_cases hN : 2000 < N
  · have hd : decide (2000 < N) = true := by simp [hN]
    rw [hd] at HLong
    clear hd hwt hok
    go_enter Tryd.func3, Tryd.ntmps3
    go_wp2_with (first
      | (go_at_call 6; refine HLong.out.mono ?_; rintro e w1 ⟨rfl, hw1⟩; subst w1)
      | (go_at_call 7; refine (HLive.out _ (Below.refl _ _)).mono ?_; rintro e w1 ⟨rfl, hb1⟩))
    go_ret
    exact ⟨rfl, hb1⟩
  · have hd : decide (2000 < N) = false := by simp [hN]
    rw [hd] at HLong
    have hw := hwt (by omega)
    clear hd hwt
    go_enter Tryd.func3, Tryd.ntmps3
    go_wp2_with (first
      | (go_at_call 6; refine HLong.out.mono ?_; rintro e w1 ⟨rfl, hw1⟩; subst w1)
      | (go_at_call 8; refine HMade.out.mono ?_; rintro e w1 ⟨ev, u, rfl, hv, hu, hb1⟩; obtain ⟨n1, s1, m1, A1, l1, c1, rfl⟩ := hu.form))
    have hd2 : Below w1.heap.size w1 (w1.alloc (.cells #[.int .i64 (kindO t), .int .i64 n1, .string s1, .int .i64 m1, .slice A1 l1 c1] 29)) := (Below.refl _ _).alloc (Nat.le_refl _) _
    have b2 := Blk.new w1 #[.int .i64 (kindO t), .int .i64 n1, .string s1, .int .i64 m1, .slice A1 l1 c1] 29
    have HAll := Lib.hid (rallO_calls t _ _ (hu.below hd2) (by omega))
    have HV := Lib.hid (hv.below hd2)
    have HU := Lib.hid (hu.below hd2)
    have hRl := allO_le t
    have hW2 := Below.on hb1 hd2
    have ht : ∀ e, t = some e → e.ok ∧ e.wt ≤ 1000000 := by
      rintro e rfl
      exact ⟨hok, Nat.le_trans hw (by omega)⟩
    generalize hW2e : w1.alloc (.cells #[.int .i64 (kindO t), .int .i64 n1, .string s1, .int .i64 m1, .slice A1 l1 c1] 29) = w2 at *
    generalize hG : w1.heap.size = g at *
    have HB2 := Lib.hid b2
    have HWW := Lib.hid hW2
    have HTell0 := Lib.hid (fun (w' : World) (hb : Below w2.heap.size w2 w') => tell_calls t ev w' (HV.out.below hb) ht (HTab.out w' (Below.on HWW.out hb)))
    have HRTell0 := Lib.hid (fun (w' : World) (hb : Below w2.heap.size w2 w') => rtellO_calls t _ w' hok (HU.out.below hb) (by omega))
    have HAll2 := Lib.hid (fun (w' : World) (hb : Below w2.heap.size w2 w') => all_calls t ev w' (HV.out.below hb) (fun e he => (ht e he).2))
    have HHas0 := Lib.hid (fun (w' : World) (hb : Below w2.heap.size w2 w') (x : Int) => has_calls x t ev w' (HV.out.below hb))
    have HHall := Lib.hid (fun (x : Int) => hasO_all t x)
    have HFirst0 := Lib.hid (fun (w' : World) (hb : Below w2.heap.size w2 w') => first_calls t ev w' (HV.out.below hb) (HEt.out w' (Below.on HWW.out hb)))
    have HFA := Lib.hid (first_all t)
    obtain ⟨bz, hbz, hnil, hgu⟩ := nil_is HV.out
    have HGu := Lib.hid hgu
    have HZ := Lib.hid hbz
    have HNil := Lib.hid hnil
    clear hW2e b2 hd2 hu hv hG ht hnil hbz hgu HV HU hW2
    generalize allO t = R at *
    generalize firstO t = fi at *
    generalize kindO t = kt at *
    generalize str (tellO t) = Tx at *
    go_wp2_with (first
      | (go_at_call 9; refine HAll.out.mono ?_; rintro e w4 ⟨Aw, cw, rfl, how, hb4⟩)
      | (go_at_call 10; refine (HAll2.out w4 hb4).mono ?_; rintro e w5 ⟨Ag, cg, rfl, hog, hb5⟩))
    have HW25 := Lib.hid (Below.on hb4 hb5)
    have HB := Lib.hid (fun (w' : World) (hb : Below w5.heap.size w5 w') => ((HB2.out.belowAll HW25.out).belowAll hb))
    have HTell := Lib.hid (fun (w' : World) (hb : Below w5.heap.size w5 w') => HTell0.out w' (Below.on HW25.out hb))
    have HRTell := Lib.hid (fun (w' : World) (hb : Below w5.heap.size w5 w') => HRTell0.out w' (Below.on HW25.out hb))
    have HOw := Lib.hid (how.cells.below hb5)
    have HOg := Lib.hid hog
    generalize hnR : R.length = nR at *
    have HNR := Lib.hid hnR
    clear how hog hb4 hb5 hnR
    go_wp2_with fail
    refine wp_region_inv (by kernel_rfl) (fun W => Below w5.heap.size w5 W) (fun W W' => Below W.heap.size W W') (VA ev bz g kt n1 m1 s1 Tx A1 Ag Aw l1 c1 cg cw nR) [[], [21], [], [23], [24], [22, 25], [26], [27], [28, 27], [27], [30, 27], [29, 31, 27], [27, 32], [33], [34], [35, 34], [34], [37, 34], [36, 38, 34], [34, 39]] (by kernel_rfl) (fun W => Below.refl _ _) (fun d W W' v => VA.keep ev bz g kt n1 m1 s1 Tx A1 Ag Aw l1 c1 cg cw nR d W W' v) (Below.refl _ _).drew ?_ ?_
    · refine ⟨?_, ?_, ?_, ?_, ?_, ?_, ?_, ?_, ?_, ?_, ?_, ?_, ?_, ?_, ?_, ?_, ?_, ?_, ?_, ?_, trivial⟩
      · intro a W hI hsame ht
        have h3 := hsame 3 (by decide)
        change a.tmps.getD 3 undef = ev at h3
        rw [if_pos (by rfl)]
        clear hsame
        unfold Oper.wp
        go_simp
        exact ⟨_, rfl, hI, Below.refl _ _, fun d hd => by cases hd; exact rfl⟩
      · intro a W hI hsame ht
        obtain ⟨h21, _⟩ := ht
        change a.tmps.getD 21 undef = ev at h21
        rw [if_pos (by rfl)]
        clear hsame
        have hn := HNil.out W
        have hgu := HGu.out W
        unfold Oper.wp
        go_simp
        exact ⟨_, rfl, hI, Below.refl _ _, fun d hd => by cases hd; exact rfl⟩
      · intro a W hI hsame ht
        have h4 := hsame 4 (by decide)
        change a.tmps.getD 4 undef = .pointer (some ⟨g, 0, none⟩) at h4
        rw [if_pos (by rfl)]
        clear hsame
        unfold Oper.wp
        go_simp
        exact ⟨_, rfl, hI, Below.refl _ _, fun d hd => by cases hd; exact rfl⟩
      · intro a W hI hsame ht
        obtain ⟨h23, _⟩ := ht
        change a.tmps.getD 23 undef = .pointer (some ⟨g, 0, none⟩) at h23
        rw [if_pos (by rfl)]
        clear hsame
        obtain ⟨⟨y0, y1, y2, y3, y4⟩, _⟩ := five (HB.out W hI)
        unfold Oper.wp
        go_simp
        exact ⟨_, rfl, hI, Below.refl _ _, fun d hd => by cases hd; exact rfl⟩
      · intro a W hI hsame ht
        obtain ⟨h24, _⟩ := ht
        change a.tmps.getD 24 undef = .int .i64 kt at h24
        rw [if_pos (by rfl)]
        clear hsame
        unfold Oper.wp
        go_simp
        exact ⟨_, rfl, hI, Below.refl _ _, fun d hd => by cases hd; exact congrArg Value.bool HZ.out⟩
      · intro a W hI hsame ht
        obtain ⟨h22, h25, _⟩ := ht
        change a.tmps.getD 22 undef = .bool bz at h22
        change a.tmps.getD 25 undef = .bool bz at h25
        rw [if_pos (by rfl)]
        clear hsame
        unfold Oper.wp
        go_simp
        exact ⟨_, rfl, hI, Below.refl _ _, fun d hd => by cases hd; exact congrArg Value.bool (by cases bz <;> rfl)⟩
      · intro a W hI hsame ht
        obtain ⟨h26, _⟩ := ht
        change a.tmps.getD 26 undef = .bool false at h26
        rw [if_pos (by rfl)]
        clear hsame
        unfold Oper.wp
        go_simp
        exact ⟨_, rfl, hI, Below.refl _ _, fun d hd => by cases hd; exact rfl⟩
      · intro a W hI hsame ht
        obtain ⟨h27, _⟩ := ht
        change a.tmps.getD 27 undef = .bool false at h27
        have h3 := hsame 3 (by decide)
        change a.tmps.getD 3 undef = ev at h3
        rw [if_pos (wanted_false (j := 6) (d := 27) rfl rfl h27)]
        clear hsame
        unfold Oper.wp
        go_simp
        exact ⟨_, rfl, hI, Below.refl _ _, fun d hd => by cases hd; exact rfl⟩
      · intro a W hI hsame ht
        obtain ⟨h28, h27, _⟩ := ht
        change a.tmps.getD 28 undef = ev at h28
        change a.tmps.getD 27 undef = .bool false at h27
        rw [if_pos (wanted_false (j := 6) (d := 27) rfl rfl h27)]
        clear hsame
        unfold Oper.wp
        go_simp
        refine (HTell.out W hI).mono ?_
        rintro e' W' ⟨rfl, hb⟩
        exact ⟨_, rfl, Below.on hI hb, hb, fun d hd => by cases hd; exact rfl⟩
      · intro a W hI hsame ht
        obtain ⟨h27, _⟩ := ht
        change a.tmps.getD 27 undef = .bool false at h27
        have h4 := hsame 4 (by decide)
        change a.tmps.getD 4 undef = .pointer (some ⟨g, 0, none⟩) at h4
        rw [if_pos (wanted_false (j := 6) (d := 27) rfl rfl h27)]
        clear hsame
        obtain ⟨⟨y0, y1, y2, y3, y4⟩, _⟩ := five (HB.out W hI)
        unfold Oper.wp
        go_simp
        exact ⟨_, rfl, hI, Below.refl _ _, fun d hd => by cases hd; exact rfl⟩
      · intro a W hI hsame ht
        obtain ⟨h30, h27, _⟩ := ht
        change a.tmps.getD 30 undef = .agg #[.int .i64 kt, .int .i64 n1, .string s1, .int .i64 m1, .slice A1 l1 c1] at h30
        change a.tmps.getD 27 undef = .bool false at h27
        rw [if_pos (wanted_false (j := 6) (d := 27) rfl rfl h27)]
        clear hsame
        unfold Oper.wp
        go_simp
        refine (HRTell.out W hI).mono ?_
        rintro e' W' ⟨rfl, hb⟩
        exact ⟨_, rfl, Below.on hI hb, hb, fun d hd => by cases hd; exact rfl⟩
      · intro a W hI hsame ht
        obtain ⟨h29, h31, h27, _⟩ := ht
        change a.tmps.getD 29 undef = .string Tx at h29
        change a.tmps.getD 31 undef = .string Tx at h31
        change a.tmps.getD 27 undef = .bool false at h27
        rw [if_pos (wanted_false (j := 6) (d := 27) rfl rfl h27)]
        clear hsame
        unfold Oper.wp
        go_simp
        exact ⟨_, rfl, hI, Below.refl _ _, fun d hd => by cases hd; exact rfl⟩
      · intro a W hI hsame ht
        obtain ⟨h27, h32, _⟩ := ht
        change a.tmps.getD 27 undef = .bool false at h27
        change a.tmps.getD 32 undef = .bool false at h32
        rw [if_pos (by rfl)]
        clear hsame
        unfold Oper.wp
        go_simp
        exact ⟨_, rfl, hI, Below.refl _ _, fun d hd => by cases hd; exact rfl⟩
      · intro a W hI hsame ht
        obtain ⟨h33, _⟩ := ht
        change a.tmps.getD 33 undef = .bool false at h33
        rw [if_pos (by rfl)]
        clear hsame
        unfold Oper.wp
        go_simp
        exact ⟨_, rfl, hI, Below.refl _ _, fun d hd => by cases hd; exact rfl⟩
      · intro a W hI hsame ht
        obtain ⟨h34, _⟩ := ht
        change a.tmps.getD 34 undef = .bool false at h34
        have h6 := hsame 6 (by decide)
        change a.tmps.getD 6 undef = .slice Ag nR cg at h6
        rw [if_pos (wanted_false (j := 13) (d := 34) rfl rfl h34)]
        clear hsame
        unfold Oper.wp
        go_simp
        exact ⟨_, rfl, hI, Below.refl _ _, fun d hd => by cases hd; exact rfl⟩
      · intro a W hI hsame ht
        obtain ⟨h35, h34, _⟩ := ht
        change a.tmps.getD 35 undef = .slice Ag nR cg at h35
        change a.tmps.getD 34 undef = .bool false at h34
        rw [if_pos (wanted_false (j := 13) (d := 34) rfl rfl h34)]
        clear hsame
        unfold Oper.wp
        go_simp
        exact ⟨_, rfl, hI, Below.refl _ _, fun d hd => by cases hd; exact rfl⟩
      · intro a W hI hsame ht
        obtain ⟨h34, _⟩ := ht
        change a.tmps.getD 34 undef = .bool false at h34
        have h5 := hsame 5 (by decide)
        change a.tmps.getD 5 undef = .slice Aw nR cw at h5
        rw [if_pos (wanted_false (j := 13) (d := 34) rfl rfl h34)]
        clear hsame
        unfold Oper.wp
        go_simp
        exact ⟨_, rfl, hI, Below.refl _ _, fun d hd => by cases hd; exact rfl⟩
      · intro a W hI hsame ht
        obtain ⟨h37, h34, _⟩ := ht
        change a.tmps.getD 37 undef = .slice Aw nR cw at h37
        change a.tmps.getD 34 undef = .bool false at h34
        rw [if_pos (wanted_false (j := 13) (d := 34) rfl rfl h34)]
        clear hsame
        unfold Oper.wp
        go_simp
        exact ⟨_, rfl, hI, Below.refl _ _, fun d hd => by cases hd; exact rfl⟩
      · intro a W hI hsame ht
        obtain ⟨h36, h38, h34, _⟩ := ht
        change a.tmps.getD 36 undef = .int .i64 (nR : Int) at h36
        change a.tmps.getD 38 undef = .int .i64 (nR : Int) at h38
        change a.tmps.getD 34 undef = .bool false at h34
        rw [if_pos (wanted_false (j := 13) (d := 34) rfl rfl h34)]
        clear hsame
        unfold Oper.wp
        go_simp
        exact ⟨_, rfl, hI, Below.refl _ _, fun d hd => by cases hd; exact rfl⟩
      · intro a W hI hsame ht
        obtain ⟨h34, h39, _⟩ := ht
        change a.tmps.getD 34 undef = .bool false at h34
        change a.tmps.getD 39 undef = .bool false at h39
        rw [if_pos (by rfl)]
        clear hsame
        unfold Oper.wp
        go_simp
        exact ⟨_, rfl, hI, Below.refl _ _, fun d hd => by cases hd; exact rfl⟩
    · intro a w6 hI hsz hdef hsame hall
      have h0 : a.tmps.getD 0 undef = .slice A l.length c := hsame 0 (by decide)
      have h1 : a.tmps.getD 1 undef = undef := hsame 1 (by decide)
      have h2 : a.tmps.getD 2 undef = .bool false := hsame 2 (by decide)
      have h3 : a.tmps.getD 3 undef = ev := hsame 3 (by decide)
      have h4 : a.tmps.getD 4 undef = .pointer (some ⟨g, 0, none⟩) := hsame 4 (by decide)
      have h5 : a.tmps.getD 5 undef = .slice Aw nR cw := hsame 5 (by decide)
      have h6 : a.tmps.getD 6 undef = .slice Ag nR cg := hsame 6 (by decide)
      have h7 : a.tmps.getD 7 undef = undef := hsame 7 (by decide)
      have h8 : a.tmps.getD 8 undef = undef := hsame 8 (by decide)
      obtain ⟨q9, h9⟩ : ∃ q, a.tmps.getD 9 undef = q := ⟨_, rfl⟩
      obtain ⟨q10, h10⟩ : ∃ q, a.tmps.getD 10 undef = q := ⟨_, rfl⟩
      obtain ⟨q11, h11⟩ : ∃ q, a.tmps.getD 11 undef = q := ⟨_, rfl⟩
      obtain ⟨q12, h12⟩ : ∃ q, a.tmps.getD 12 undef = q := ⟨_, rfl⟩
      obtain ⟨q13, h13⟩ : ∃ q, a.tmps.getD 13 undef = q := ⟨_, rfl⟩
      obtain ⟨q14, h14⟩ : ∃ q, a.tmps.getD 14 undef = q := ⟨_, rfl⟩
      obtain ⟨q15, h15⟩ : ∃ q, a.tmps.getD 15 undef = q := ⟨_, rfl⟩
      obtain ⟨q16, h16⟩ : ∃ q, a.tmps.getD 16 undef = q := ⟨_, rfl⟩
      obtain ⟨q17, h17⟩ : ∃ q, a.tmps.getD 17 undef = q := ⟨_, rfl⟩
      obtain ⟨q18, h18⟩ : ∃ q, a.tmps.getD 18 undef = q := ⟨_, rfl⟩
      obtain ⟨q19, h19⟩ : ∃ q, a.tmps.getD 19 undef = q := ⟨_, rfl⟩
      obtain ⟨q20, h20⟩ : ∃ q, a.tmps.getD 20 undef = q := ⟨_, rfl⟩
      obtain ⟨q21, h21⟩ : ∃ q, a.tmps.getD 21 undef = q := ⟨_, rfl⟩
      obtain ⟨q22, h22⟩ : ∃ q, a.tmps.getD 22 undef = q := ⟨_, rfl⟩
      obtain ⟨q23, h23⟩ : ∃ q, a.tmps.getD 23 undef = q := ⟨_, rfl⟩
      obtain ⟨q24, h24⟩ : ∃ q, a.tmps.getD 24 undef = q := ⟨_, rfl⟩
      obtain ⟨q25, h25⟩ : ∃ q, a.tmps.getD 25 undef = q := ⟨_, rfl⟩
      obtain ⟨q26, h26⟩ : ∃ q, a.tmps.getD 26 undef = q := ⟨_, rfl⟩
      obtain ⟨q27, h27⟩ : ∃ q, a.tmps.getD 27 undef = q := ⟨_, rfl⟩
      obtain ⟨q28, h28⟩ : ∃ q, a.tmps.getD 28 undef = q := ⟨_, rfl⟩
      obtain ⟨q29, h29⟩ : ∃ q, a.tmps.getD 29 undef = q := ⟨_, rfl⟩
      obtain ⟨q30, h30⟩ : ∃ q, a.tmps.getD 30 undef = q := ⟨_, rfl⟩
      obtain ⟨q31, h31⟩ : ∃ q, a.tmps.getD 31 undef = q := ⟨_, rfl⟩
      obtain ⟨q32, h32⟩ : ∃ q, a.tmps.getD 32 undef = q := ⟨_, rfl⟩
      obtain ⟨q33, h33⟩ : ∃ q, a.tmps.getD 33 undef = q := ⟨_, rfl⟩
      obtain ⟨q34, h34⟩ : ∃ q, a.tmps.getD 34 undef = q := ⟨_, rfl⟩
      obtain ⟨q35, h35⟩ : ∃ q, a.tmps.getD 35 undef = q := ⟨_, rfl⟩
      obtain ⟨q36, h36⟩ : ∃ q, a.tmps.getD 36 undef = q := ⟨_, rfl⟩
      obtain ⟨q37, h37⟩ : ∃ q, a.tmps.getD 37 undef = q := ⟨_, rfl⟩
      obtain ⟨q38, h38⟩ : ∃ q, a.tmps.getD 38 undef = q := ⟨_, rfl⟩
      obtain ⟨q39, h39⟩ : ∃ q, a.tmps.getD 39 undef = q := ⟨_, rfl⟩
      have h40 : a.tmps.getD 40 undef = .bool false := hall 40 (by decide)
      obtain ⟨q41, h41⟩ : ∃ q, a.tmps.getD 41 undef = q := ⟨_, rfl⟩
      obtain ⟨q42, h42⟩ : ∃ q, a.tmps.getD 42 undef = q := ⟨_, rfl⟩
      obtain ⟨q43, h43⟩ : ∃ q, a.tmps.getD 43 undef = q := ⟨_, rfl⟩
      obtain ⟨q44, h44⟩ : ∃ q, a.tmps.getD 44 undef = q := ⟨_, rfl⟩
      obtain ⟨q45, h45⟩ : ∃ q, a.tmps.getD 45 undef = q := ⟨_, rfl⟩
      obtain ⟨q46, h46⟩ : ∃ q, a.tmps.getD 46 undef = q := ⟨_, rfl⟩
      obtain ⟨q47, h47⟩ : ∃ q, a.tmps.getD 47 undef = q := ⟨_, rfl⟩
      obtain ⟨q48, h48⟩ : ∃ q, a.tmps.getD 48 undef = q := ⟨_, rfl⟩
      obtain ⟨q49, h49⟩ : ∃ q, a.tmps.getD 49 undef = q := ⟨_, rfl⟩
      obtain ⟨q50, h50⟩ : ∃ q, a.tmps.getD 50 undef = q := ⟨_, rfl⟩
      obtain ⟨q51, h51⟩ : ∃ q, a.tmps.getD 51 undef = q := ⟨_, rfl⟩
      obtain ⟨q52, h52⟩ : ∃ q, a.tmps.getD 52 undef = q := ⟨_, rfl⟩
      obtain ⟨q53, h53⟩ : ∃ q, a.tmps.getD 53 undef = q := ⟨_, rfl⟩
      obtain ⟨q54, h54⟩ : ∃ q, a.tmps.getD 54 undef = q := ⟨_, rfl⟩
      obtain ⟨q55, h55⟩ : ∃ q, a.tmps.getD 55 undef = q := ⟨_, rfl⟩
      obtain ⟨q56, h56⟩ : ∃ q, a.tmps.getD 56 undef = q := ⟨_, rfl⟩
      obtain ⟨q57, h57⟩ : ∃ q, a.tmps.getD 57 undef = q := ⟨_, rfl⟩
      obtain ⟨q58, h58⟩ : ∃ q, a.tmps.getD 58 undef = q := ⟨_, rfl⟩
      obtain ⟨q59, h59⟩ : ∃ q, a.tmps.getD 59 undef = q := ⟨_, rfl⟩
      obtain ⟨q60, h60⟩ : ∃ q, a.tmps.getD 60 undef = q := ⟨_, rfl⟩
      obtain ⟨q61, h61⟩ : ∃ q, a.tmps.getD 61 undef = q := ⟨_, rfl⟩
      obtain ⟨q62, h62⟩ : ∃ q, a.tmps.getD 62 undef = q := ⟨_, rfl⟩
      obtain ⟨q63, h63⟩ : ∃ q, a.tmps.getD 63 undef = q := ⟨_, rfl⟩
      obtain ⟨q64, h64⟩ : ∃ q, a.tmps.getD 64 undef = q := ⟨_, rfl⟩
      obtain ⟨q65, h65⟩ : ∃ q, a.tmps.getD 65 undef = q := ⟨_, rfl⟩
      obtain ⟨q66, h66⟩ : ∃ q, a.tmps.getD 66 undef = q := ⟨_, rfl⟩
      obtain ⟨q67, h67⟩ : ∃ q, a.tmps.getD 67 undef = q := ⟨_, rfl⟩
      obtain ⟨q68, h68⟩ : ∃ q, a.tmps.getD 68 undef = q := ⟨_, rfl⟩
      obtain ⟨q69, h69⟩ : ∃ q, a.tmps.getD 69 undef = q := ⟨_, rfl⟩
      obtain ⟨q70, h70⟩ : ∃ q, a.tmps.getD 70 undef = q := ⟨_, rfl⟩
      obtain ⟨q71, h71⟩ : ∃ q, a.tmps.getD 71 undef = q := ⟨_, rfl⟩
      obtain ⟨q72, h72⟩ : ∃ q, a.tmps.getD 72 undef = q := ⟨_, rfl⟩
      obtain ⟨q73, h73⟩ : ∃ q, a.tmps.getD 73 undef = q := ⟨_, rfl⟩
      obtain ⟨q74, h74⟩ : ∃ q, a.tmps.getD 74 undef = q := ⟨_, rfl⟩
      obtain ⟨q75, h75⟩ : ∃ q, a.tmps.getD 75 undef = q := ⟨_, rfl⟩
      obtain ⟨q76, h76⟩ : ∃ q, a.tmps.getD 76 undef = q := ⟨_, rfl⟩
      obtain ⟨q77, h77⟩ : ∃ q, a.tmps.getD 77 undef = q := ⟨_, rfl⟩
      obtain ⟨q78, h78⟩ : ∃ q, a.tmps.getD 78 undef = q := ⟨_, rfl⟩
      obtain ⟨q79, h79⟩ : ∃ q, a.tmps.getD 79 undef = q := ⟨_, rfl⟩
      have hact := act_of (l := [_, _, _, _, _, _, _, _, _, _, _, _, _, _, _, _, _, _, _, _, _, _, _, _, _, _, _, _, _, _, _, _, _, _, _, _, _, _, _, _, _, _, _, _, _, _, _, _, _, _, _, _, _, _, _, _, _, _, _, _, _, _, _, _, _, _, _, _, _, _, _, _, _, _, _, _, _, _, _, _]) (ds := []) (by exact hsz) hdef ⟨h0, h1, h2, h3, h4, h5, h6, h7, h8, h9, h10, h11, h12, h13, h14, h15, h16, h17, h18, h19, h20, h21, h22, h23, h24, h25, h26, h27, h28, h29, h30, h31, h32, h33, h34, h35, h36, h37, h38, h39, h40, h41, h42, h43, h44, h45, h46, h47, h48, h49, h50, h51, h52, h53, h54, h55, h56, h57, h58, h59, h60, h61, h62, h63, h64, h65, h66, h67, h68, h69, h70, h71, h72, h73, h74, h75, h76, h77, h78, h79, trivial⟩
      clear hall hsame hsz hdef h0 h1 h2 h3 h4 h5 h6 h7 h8 h9 h10 h11 h12 h13 h14 h15 h16 h17 h18 h19 h20 h21 h22 h23 h24 h25 h26 h27 h28 h29 h30 h31 h32 h33 h34 h35 h36 h37 h38 h39 h40 h41 h42 h43 h44 h45 h46 h47 h48 h49 h50 h51 h52 h53 h54 h55 h56 h57 h58 h59 h60 h61 h62 h63 h64 h65 h66 h67 h68 h69 h70 h71 h72 h73 h74 h75 h76 h77 h78 h79
      subst hact
      clear HTell0 HRTell0 HTell HRTell HB HAll HAll2 HB2 HZ HNil HGu HMade HLong
      have HW6 := Lib.hid hI
      have HOw6 := Lib.hid (HOw.out.below hI)
      have HOg6 := Lib.hid (HOg.out.below hI)
      have HW26 := Lib.hid (Below.on HW25.out hI)
      have HFirst := Lib.hid (fun (w' : World) (hb : Below w6.heap.size w6 w') => HFirst0.out w' (Below.on HW26.out hb))
      clear HOw HOg hI
      go_wp2
      go_loopw [7] (RelT w6 nR) (fun i _ => nR - (intOf i).toNat)
      case atStart => exact ⟨0, rfl, Nat.zero_le _, Below.refl _ _⟩
      case round =>
        obtain ⟨k, rfl, hk, hbr⟩ := hrel
        by_cases h1 : k < nR
        · have i1 : (k : Int) < (nR : Int) := by omega
          have hkR : k < R.length := by rw [HNR.out]; exact h1
          obtain ⟨x, hx⟩ : ∃ x, R[k]? = some x := ⟨R[k], by simp [hkR]⟩
          obtain ⟨ba, oa, rfl, _, hca⟩ := HOg6.out.at_ elN (by omega)
          obtain ⟨bb, ob, rfl, _, hcb⟩ := HOw6.out.at_ elI (by omega)
          have q1 : w6.cell? ⟨ba, oa + k, none⟩ = some (.int .i64 x) := by have := hca k 0 x hx (by omega); simpa [enN] using this
          have q2 : w6.cell? ⟨bb, ob + k, none⟩ = some (.int .i64 x) := by have := hcb k 0 x hx (by omega); simpa [enI] using this
          have HCa := Lib.hid (fun (w' : World) (hb : Below w6.heap.size w6 w') => (hb.cell (block_lt_of_cell q1)).trans q1)
          have HCb := Lib.hid (fun (w' : World) (hb : Below w6.heap.size w6 w') => (hb.cell (block_lt_of_cell q2)).trans q2)
          have HHas := Lib.hid (fun (w' : World) (hb : Below w6.heap.size w6 w') => HHas0.out w' (Below.on HW26.out hb) x)
          rw [show hasO t x = true by rw [HHall.out x]; simpa using List.mem_of_getElem? hx] at HHas
          clear hca hcb q1 q2 hx hkR
          go_wp2_with fail
          refine wp_region_inv (by kernel_rfl) (fun W => Below w6.heap.size w6 W) (fun W W' => Below W.heap.size W W') (VB ev ba oa bb ob nR cg cw k x) [[], [], [47, 48], [49], [50], [], [], [52, 53], [54], [51, 55], [56], [57], [57], [57], [59, 60, 57], [61, 57], [58, 62, 57], [63, 57], [57, 64]] (by kernel_rfl) (fun W => Below.refl _ _) (fun d W W' v => VB.keep ev ba oa bb ob nR cg cw k x d W W' v) hbr.drew ?_ ?_
          · refine ⟨?_, ?_, ?_, ?_, ?_, ?_, ?_, ?_, ?_, ?_, ?_, ?_, ?_, ?_, ?_, ?_, ?_, ?_, ?_, trivial⟩
            · intro a W hI hsame ht
              have h6 := hsame 6 (by decide)
              change a.tmps.getD 6 undef = .slice (some ⟨ba, oa, none⟩) nR cg at h6
              rw [if_pos (by rfl)]
              clear hsame
              unfold Oper.wp
              go_simp
              exact ⟨_, rfl, hI, Below.refl _ _, fun d hd => by cases hd; exact rfl⟩
            · intro a W hI hsame ht
              have h7 := hsame 7 (by decide)
              change a.tmps.getD 7 undef = .int .i64 (k : Int) at h7
              rw [if_pos (by rfl)]
              clear hsame
              unfold Oper.wp
              go_simp
              exact ⟨_, rfl, hI, Below.refl _ _, fun d hd => by cases hd; exact rfl⟩
            · intro a W hI hsame ht
              obtain ⟨h47, h48, _⟩ := ht
              change a.tmps.getD 47 undef = .slice (some ⟨ba, oa, none⟩) nR cg at h47
              change a.tmps.getD 48 undef = .int .i64 (k : Int) at h48
              rw [if_pos (by rfl)]
              clear hsame
              have hu := run_underlying (P := Tryd.prog) Tryd.underlying34
              unfold Oper.wp
              go_simp
              exact ⟨_, rfl, hI, Below.refl _ _, fun d hd => by cases hd; exact rfl⟩
            · intro a W hI hsame ht
              obtain ⟨h49, _⟩ := ht
              change a.tmps.getD 49 undef = .pointer (some ⟨ba, oa + k, none⟩) at h49
              rw [if_pos (by rfl)]
              clear hsame
              have hck := HCa.out W hI
              unfold Oper.wp
              go_simp
              exact ⟨_, rfl, hI, Below.refl _ _, fun d hd => by cases hd; exact rfl⟩
            · intro a W hI hsame ht
              obtain ⟨h50, _⟩ := ht
              change a.tmps.getD 50 undef = .int .i64 x at h50
              rw [if_pos (by rfl)]
              clear hsame
              unfold Oper.wp
              go_simp
              refine (code_calls x W).mono ?_
              rintro e' W' ⟨rfl, rfl⟩
              exact ⟨_, rfl, hI, Below.refl _ _, fun d hd => by cases hd; exact rfl⟩
            · intro a W hI hsame ht
              have h5 := hsame 5 (by decide)
              change a.tmps.getD 5 undef = .slice (some ⟨bb, ob, none⟩) nR cw at h5
              rw [if_pos (by rfl)]
              clear hsame
              unfold Oper.wp
              go_simp
              exact ⟨_, rfl, hI, Below.refl _ _, fun d hd => by cases hd; exact rfl⟩
            · intro a W hI hsame ht
              have h7 := hsame 7 (by decide)
              change a.tmps.getD 7 undef = .int .i64 (k : Int) at h7
              rw [if_pos (by rfl)]
              clear hsame
              unfold Oper.wp
              go_simp
              exact ⟨_, rfl, hI, Below.refl _ _, fun d hd => by cases hd; exact rfl⟩
            · intro a W hI hsame ht
              obtain ⟨h52, h53, _⟩ := ht
              change a.tmps.getD 52 undef = .slice (some ⟨bb, ob, none⟩) nR cw at h52
              change a.tmps.getD 53 undef = .int .i64 (k : Int) at h53
              rw [if_pos (by rfl)]
              clear hsame
              have hu := run_underlying (P := Tryd.prog) Tryd.underlying32
              unfold Oper.wp
              go_simp
              exact ⟨_, rfl, hI, Below.refl _ _, fun d hd => by cases hd; exact rfl⟩
            · intro a W hI hsame ht
              obtain ⟨h54, _⟩ := ht
              change a.tmps.getD 54 undef = .pointer (some ⟨bb, ob + k, none⟩) at h54
              rw [if_pos (by rfl)]
              clear hsame
              have hck := HCb.out W hI
              unfold Oper.wp
              go_simp
              exact ⟨_, rfl, hI, Below.refl _ _, fun d hd => by cases hd; exact rfl⟩
            · intro a W hI hsame ht
              obtain ⟨h51, h55, _⟩ := ht
              change a.tmps.getD 51 undef = .int .i64 x at h51
              change a.tmps.getD 55 undef = .int .i64 x at h55
              rw [if_pos (by rfl)]
              clear hsame
              unfold Oper.wp
              go_simp
              exact ⟨_, rfl, hI, Below.refl _ _, fun d hd => by cases hd; exact rfl⟩
            · intro a W hI hsame ht
              obtain ⟨h56, _⟩ := ht
              change a.tmps.getD 56 undef = .bool false at h56
              rw [if_pos (by rfl)]
              clear hsame
              unfold Oper.wp
              go_simp
              exact ⟨_, rfl, hI, Below.refl _ _, fun d hd => by cases hd; exact rfl⟩
            · intro a W hI hsame ht
              obtain ⟨h57, _⟩ := ht
              change a.tmps.getD 57 undef = .bool false at h57
              have h3 := hsame 3 (by decide)
              change a.tmps.getD 3 undef = ev at h3
              rw [if_pos (wanted_false (j := 10) (d := 57) rfl rfl h57)]
              clear hsame
              unfold Oper.wp
              go_simp
              exact ⟨_, rfl, hI, Below.refl _ _, fun d hd => by cases hd; exact rfl⟩
            · intro a W hI hsame ht
              obtain ⟨h57, _⟩ := ht
              change a.tmps.getD 57 undef = .bool false at h57
              have h6 := hsame 6 (by decide)
              change a.tmps.getD 6 undef = .slice (some ⟨ba, oa, none⟩) nR cg at h6
              rw [if_pos (wanted_false (j := 10) (d := 57) rfl rfl h57)]
              clear hsame
              unfold Oper.wp
              go_simp
              exact ⟨_, rfl, hI, Below.refl _ _, fun d hd => by cases hd; exact rfl⟩
            · intro a W hI hsame ht
              obtain ⟨h57, _⟩ := ht
              change a.tmps.getD 57 undef = .bool false at h57
              have h7 := hsame 7 (by decide)
              change a.tmps.getD 7 undef = .int .i64 (k : Int) at h7
              rw [if_pos (wanted_false (j := 10) (d := 57) rfl rfl h57)]
              clear hsame
              unfold Oper.wp
              go_simp
              exact ⟨_, rfl, hI, Below.refl _ _, fun d hd => by cases hd; exact rfl⟩
            · intro a W hI hsame ht
              obtain ⟨h59, h60, h57, _⟩ := ht
              change a.tmps.getD 59 undef = .slice (some ⟨ba, oa, none⟩) nR cg at h59
              change a.tmps.getD 60 undef = .int .i64 (k : Int) at h60
              change a.tmps.getD 57 undef = .bool false at h57
              rw [if_pos (wanted_false (j := 10) (d := 57) rfl rfl h57)]
              clear hsame
              have hu := run_underlying (P := Tryd.prog) Tryd.underlying34
              unfold Oper.wp
              go_simp
              exact ⟨_, rfl, hI, Below.refl _ _, fun d hd => by cases hd; exact rfl⟩
            · intro a W hI hsame ht
              obtain ⟨h61, h57, _⟩ := ht
              change a.tmps.getD 61 undef = .pointer (some ⟨ba, oa + k, none⟩) at h61
              change a.tmps.getD 57 undef = .bool false at h57
              rw [if_pos (wanted_false (j := 10) (d := 57) rfl rfl h57)]
              clear hsame
              have hck := HCa.out W hI
              unfold Oper.wp
              go_simp
              exact ⟨_, rfl, hI, Below.refl _ _, fun d hd => by cases hd; exact rfl⟩
            · intro a W hI hsame ht
              obtain ⟨h58, h62, h57, _⟩ := ht
              change a.tmps.getD 58 undef = ev at h58
              change a.tmps.getD 62 undef = .int .i64 x at h62
              change a.tmps.getD 57 undef = .bool false at h57
              rw [if_pos (wanted_false (j := 10) (d := 57) rfl rfl h57)]
              clear hsame
              unfold Oper.wp
              go_simp
              refine (HHas.out W hI).mono ?_
              rintro e' W' ⟨rfl, hb⟩
              exact ⟨_, rfl, Below.on hI hb, hb, fun d hd => by cases hd; exact rfl⟩
            · intro a W hI hsame ht
              obtain ⟨h63, h57, _⟩ := ht
              change a.tmps.getD 63 undef = .bool true at h63
              change a.tmps.getD 57 undef = .bool false at h57
              rw [if_pos (wanted_false (j := 10) (d := 57) rfl rfl h57)]
              clear hsame
              unfold Oper.wp
              go_simp
              exact ⟨_, rfl, hI, Below.refl _ _, fun d hd => by cases hd; exact rfl⟩
            · intro a W hI hsame ht
              obtain ⟨h57, h64, _⟩ := ht
              change a.tmps.getD 57 undef = .bool false at h57
              change a.tmps.getD 64 undef = .bool false at h64
              rw [if_pos (by rfl)]
              clear hsame
              unfold Oper.wp
              go_simp
              exact ⟨_, rfl, hI, Below.refl _ _, fun d hd => by cases hd; exact rfl⟩
          · intro a W hI hsz hdef hsame hall
            have h0 : a.tmps.getD 0 undef = .slice A l.length c := hsame 0 (by decide)
            have h1 : a.tmps.getD 1 undef = undef := hsame 1 (by decide)
            obtain ⟨q2, h2⟩ : ∃ q, a.tmps.getD 2 undef = q := ⟨_, rfl⟩
            have h3 : a.tmps.getD 3 undef = ev := hsame 3 (by decide)
            have h4 : a.tmps.getD 4 undef = .pointer (some ⟨g, 0, none⟩) := hsame 4 (by decide)
            have h5 : a.tmps.getD 5 undef = .slice (some ⟨bb, ob, none⟩) nR cw := hsame 5 (by decide)
            have h6 : a.tmps.getD 6 undef = .slice (some ⟨ba, oa, none⟩) nR cg := hsame 6 (by decide)
            have h7 : a.tmps.getD 7 undef = .int .i64 (k : Int) := hsame 7 (by decide)
            have h8 : a.tmps.getD 8 undef = undef := hsame 8 (by decide)
            have h9 : a.tmps.getD 9 undef = q9 := hsame 9 (by decide)
            have h10 : a.tmps.getD 10 undef = q10 := hsame 10 (by decide)
            have h11 : a.tmps.getD 11 undef = q11 := hsame 11 (by decide)
            have h12 : a.tmps.getD 12 undef = q12 := hsame 12 (by decide)
            have h13 : a.tmps.getD 13 undef = q13 := hsame 13 (by decide)
            have h14 : a.tmps.getD 14 undef = q14 := hsame 14 (by decide)
            have h15 : a.tmps.getD 15 undef = q15 := hsame 15 (by decide)
            have h16 : a.tmps.getD 16 undef = q16 := hsame 16 (by decide)
            have h17 : a.tmps.getD 17 undef = q17 := hsame 17 (by decide)
            have h18 : a.tmps.getD 18 undef = q18 := hsame 18 (by decide)
            have h19 : a.tmps.getD 19 undef = q19 := hsame 19 (by decide)
            have h20 : a.tmps.getD 20 undef = q20 := hsame 20 (by decide)
            have h21 : a.tmps.getD 21 undef = q21 := hsame 21 (by decide)
            have h22 : a.tmps.getD 22 undef = q22 := hsame 22 (by decide)
            have h23 : a.tmps.getD 23 undef = q23 := hsame 23 (by decide)
            have h24 : a.tmps.getD 24 undef = q24 := hsame 24 (by decide)
            have h25 : a.tmps.getD 25 undef = q25 := hsame 25 (by decide)
            have h26 : a.tmps.getD 26 undef = q26 := hsame 26 (by decide)
            have h27 : a.tmps.getD 27 undef = q27 := hsame 27 (by decide)
            have h28 : a.tmps.getD 28 undef = q28 := hsame 28 (by decide)
            have h29 : a.tmps.getD 29 undef = q29 := hsame 29 (by decide)
            have h30 : a.tmps.getD 30 undef = q30 := hsame 30 (by decide)
            have h31 : a.tmps.getD 31 undef = q31 := hsame 31 (by decide)
            have h32 : a.tmps.getD 32 undef = q32 := hsame 32 (by decide)
            have h33 : a.tmps.getD 33 undef = q33 := hsame 33 (by decide)
            have h34 : a.tmps.getD 34 undef = q34 := hsame 34 (by decide)
            have h35 : a.tmps.getD 35 undef = q35 := hsame 35 (by decide)
            have h36 : a.tmps.getD 36 undef = q36 := hsame 36 (by decide)
            have h37 : a.tmps.getD 37 undef = q37 := hsame 37 (by decide)
            have h38 : a.tmps.getD 38 undef = q38 := hsame 38 (by decide)
            have h39 : a.tmps.getD 39 undef = q39 := hsame 39 (by decide)
            have h40 : a.tmps.getD 40 undef = .bool false := hsame 40 (by decide)
            obtain ⟨q41, h41⟩ : ∃ q, a.tmps.getD 41 undef = q := ⟨_, rfl⟩
            obtain ⟨q42, h42⟩ : ∃ q, a.tmps.getD 42 undef = q := ⟨_, rfl⟩
            obtain ⟨q43, h43⟩ : ∃ q, a.tmps.getD 43 undef = q := ⟨_, rfl⟩
            obtain ⟨q44, h44⟩ : ∃ q, a.tmps.getD 44 undef = q := ⟨_, rfl⟩
            obtain ⟨q45, h45⟩ : ∃ q, a.tmps.getD 45 undef = q := ⟨_, rfl⟩
            obtain ⟨q46, h46⟩ : ∃ q, a.tmps.getD 46 undef = q := ⟨_, rfl⟩
            obtain ⟨q47, h47⟩ : ∃ q, a.tmps.getD 47 undef = q := ⟨_, rfl⟩
            obtain ⟨q48, h48⟩ : ∃ q, a.tmps.getD 48 undef = q := ⟨_, rfl⟩
            obtain ⟨q49, h49⟩ : ∃ q, a.tmps.getD 49 undef = q := ⟨_, rfl⟩
            obtain ⟨q50, h50⟩ : ∃ q, a.tmps.getD 50 undef = q := ⟨_, rfl⟩
            obtain ⟨q51, h51⟩ : ∃ q, a.tmps.getD 51 undef = q := ⟨_, rfl⟩
            obtain ⟨q52, h52⟩ : ∃ q, a.tmps.getD 52 undef = q := ⟨_, rfl⟩
            obtain ⟨q53, h53⟩ : ∃ q, a.tmps.getD 53 undef = q := ⟨_, rfl⟩
            obtain ⟨q54, h54⟩ : ∃ q, a.tmps.getD 54 undef = q := ⟨_, rfl⟩
            obtain ⟨q55, h55⟩ : ∃ q, a.tmps.getD 55 undef = q := ⟨_, rfl⟩
            obtain ⟨q56, h56⟩ : ∃ q, a.tmps.getD 56 undef = q := ⟨_, rfl⟩
            obtain ⟨q57, h57⟩ : ∃ q, a.tmps.getD 57 undef = q := ⟨_, rfl⟩
            obtain ⟨q58, h58⟩ : ∃ q, a.tmps.getD 58 undef = q := ⟨_, rfl⟩
            obtain ⟨q59, h59⟩ : ∃ q, a.tmps.getD 59 undef = q := ⟨_, rfl⟩
            obtain ⟨q60, h60⟩ : ∃ q, a.tmps.getD 60 undef = q := ⟨_, rfl⟩
            obtain ⟨q61, h61⟩ : ∃ q, a.tmps.getD 61 undef = q := ⟨_, rfl⟩
            obtain ⟨q62, h62⟩ : ∃ q, a.tmps.getD 62 undef = q := ⟨_, rfl⟩
            obtain ⟨q63, h63⟩ : ∃ q, a.tmps.getD 63 undef = q := ⟨_, rfl⟩
            obtain ⟨q64, h64⟩ : ∃ q, a.tmps.getD 64 undef = q := ⟨_, rfl⟩
            have h65 : a.tmps.getD 65 undef = .bool false := hall 65 (by decide)
            have h66 : a.tmps.getD 66 undef = q66 := hsame 66 (by decide)
            have h67 : a.tmps.getD 67 undef = q67 := hsame 67 (by decide)
            have h68 : a.tmps.getD 68 undef = q68 := hsame 68 (by decide)
            have h69 : a.tmps.getD 69 undef = q69 := hsame 69 (by decide)
            have h70 : a.tmps.getD 70 undef = q70 := hsame 70 (by decide)
            have h71 : a.tmps.getD 71 undef = q71 := hsame 71 (by decide)
            have h72 : a.tmps.getD 72 undef = q72 := hsame 72 (by decide)
            have h73 : a.tmps.getD 73 undef = q73 := hsame 73 (by decide)
            have h74 : a.tmps.getD 74 undef = q74 := hsame 74 (by decide)
            have h75 : a.tmps.getD 75 undef = q75 := hsame 75 (by decide)
            have h76 : a.tmps.getD 76 undef = q76 := hsame 76 (by decide)
            have h77 : a.tmps.getD 77 undef = q77 := hsame 77 (by decide)
            have h78 : a.tmps.getD 78 undef = q78 := hsame 78 (by decide)
            have h79 : a.tmps.getD 79 undef = q79 := hsame 79 (by decide)
            have hact := act_of (l := [_, _, _, _, _, _, _, _, _, _, _, _, _, _, _, _, _, _, _, _, _, _, _, _, _, _, _, _, _, _, _, _, _, _, _, _, _, _, _, _, _, _, _, _, _, _, _, _, _, _, _, _, _, _, _, _, _, _, _, _, _, _, _, _, _, _, _, _, _, _, _, _, _, _, _, _, _, _, _, _]) (ds := []) (by exact hsz) hdef ⟨h0, h1, h2, h3, h4, h5, h6, h7, h8, h9, h10, h11, h12, h13, h14, h15, h16, h17, h18, h19, h20, h21, h22, h23, h24, h25, h26, h27, h28, h29, h30, h31, h32, h33, h34, h35, h36, h37, h38, h39, h40, h41, h42, h43, h44, h45, h46, h47, h48, h49, h50, h51, h52, h53, h54, h55, h56, h57, h58, h59, h60, h61, h62, h63, h64, h65, h66, h67, h68, h69, h70, h71, h72, h73, h74, h75, h76, h77, h78, h79, trivial⟩
            clear hall hsame hsz hdef h0 h1 h2 h3 h4 h5 h6 h7 h8 h9 h10 h11 h12 h13 h14 h15 h16 h17 h18 h19 h20 h21 h22 h23 h24 h25 h26 h27 h28 h29 h30 h31 h32 h33 h34 h35 h36 h37 h38 h39 h40 h41 h42 h43 h44 h45 h46 h47 h48 h49 h50 h51 h52 h53 h54 h55 h56 h57 h58 h59 h60 h61 h62 h63 h64 h65 h66 h67 h68 h69 h70 h71 h72 h73 h74 h75 h76 h77 h78 h79
            subst hact
            go_wp2
            exact ⟨⟨k + 1, by go_num, h1, hI⟩, by simp [intOf]; omega⟩
        · have i1 : ¬ (k : Int) < (nR : Int) := by omega
          have HBW := Lib.hid (Below.on HWW.out (Below.on HW26.out hbr))
          rcases HFA.out with ⟨hR0, hf0⟩ | ⟨r, hR1⟩
          · have hn0 : nR = 0 := by rw [← HNR.out, hR0]; rfl
            subst hn0 hf0
            go_wp2_with (first
              | (go_at_call 15; refine (HFirst.out wr hbr).mono ?_; rintro e w7 ⟨rfl, hb7⟩)
              | (go_at_call 13; refine (code_calls 0 _).mono ?_; rintro e w8 ⟨rfl, hw8⟩; subst w8)
              | (go_at_call 7; refine (HLive.out _ (Below.on HBW.out hb7)).mono ?_; rintro e w9 ⟨rfl, hb9⟩))
            go_ret
            exact ⟨rfl, Below.on (Below.on HBW.out hb7) hb9⟩
          · have hn0 : 0 < nR := by rw [← HNR.out, hR1]; simp
            have i3 : (0 : Int) < (nR : Int) := by omega
            obtain ⟨bb, ob, rfl, _, hcb⟩ := HOw6.out.at_ elI (by rw [HNR.out]; exact hn0)
            have q2 : w6.cell? ⟨bb, ob, none⟩ = some (.int .i64 fi) := by have := hcb 0 0 fi (by rw [hR1]; rfl) (by omega); simpa [enI] using this
            have q3 := (hbr.cell (block_lt_of_cell q2)).trans q2
            clear hcb q2 hR1
            go_wp2_with (first
              | (go_at_call 15; refine (HFirst.out wr hbr).mono ?_; rintro e w7 ⟨rfl, hb7⟩)
              | (go_at_call 13; refine (code_calls fi _).mono ?_; rintro e w8 ⟨rfl, hw8⟩; subst w8)
              | (go_at_call 7; refine (HLive.out _ (Below.on HBW.out hb7)).mono ?_; rintro e w9 ⟨rfl, hb9⟩))
            go_ret
            exact ⟨rfl, Below.on (Below.on HBW.out hb7) hb9⟩
end Go.Proofs.YtgpaedknonkioaaDoor
