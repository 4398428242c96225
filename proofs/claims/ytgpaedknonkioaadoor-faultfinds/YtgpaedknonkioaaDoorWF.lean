/-
  The contract of errors.As at a stage, and the walk of FaultFinds. Conditions: the arguments as the row hands them over; the table of powers of ten and the variable errors.errorType read as their initialisers lay them.
-/
import Derived.Test.YtgpaedknonkioaaDoorEU
import Derived.Test.YtgpaedknonkioaaDoorLV
namespace Go.Proofs.YtgpaedknonkioaaDoor
open Go.ChangeShapes Go.WideShapes Go.ChangeAt Go.RowKit
set_option linter.unusedVariables false

/-- A stage has been found, and is in the target. -/
def AsSOf (g : Nat) (s : ByteArray) (no : Int) (u : Value) (w : World) (e : Ending) (w' : World) : Prop :=
  e = .returned (.bool true) ∧ ∃ W1, Below w.heap.size w W1 ∧ w' = ((W1.setCell ⟨g, 0, none⟩ (.string s)).setCell ⟨g, 1, none⟩ (.int .i64 no)).setCell ⟨g, 2, none⟩ u

set_option maxRecDepth 100000 in
set_option maxHeartbeats 4000000 in
theorem asS_calls (s : ByteArray) (no : Int) (ty : TypeId) (x : Value) (g a : Nat) (o0 o1 o2 : Value) (w : World) (hg : Blk w g #[o0, o1, o2] 45) (ha : Blk w a #[.pointer (some ⟨g, 0, none⟩)] 52) :
    Calls Tryd.prog 38 #[.iface 45 (.agg #[.string s, .int .i64 no, .iface ty x]), .iface 52 (.pointer (some ⟨g, 0, none⟩)), .agg #[.pointer (some ⟨4, 52, none⟩), .pointer (some ⟨a, 0, none⟩), .int .u64 150], .iface 90 (.agg #[.pointer (some ⟨4, 45, none⟩)])] w (AsSOf g s no (.iface ty x) w) := by
  have hd : Below w.heap.size w (w.alloc (.cells #[.pointer (some ⟨4, 52, none⟩), .pointer (some ⟨a, 0, none⟩), .int .u64 150] 71)) := (Below.refl _ _).alloc (Nat.le_refl _) _
  have hbx := Blk.new w #[.pointer (some ⟨4, 52, none⟩), .pointer (some ⟨a, 0, none⟩), .int .u64 150] 71
  have i1 := hg.belowAll hd
  have x2 := (ha.belowAll hd).cell 0
  go_enter Tryd.func38, Tryd.ntmps38
  go_wp2
  generalize hW1 : w.alloc (.cells #[.pointer (some ⟨4, 52, none⟩), .pointer (some ⟨a, 0, none⟩), .int .u64 150] 71) = w1 at *
  have y0 := hbx.cell 0
  have y1 := hbx.cell 1
  have y2 := hbx.cell 2
  simp at x2 y0 y1 y2
  have k1 := call33_45
  have k2 := methodAssignable
  have k3 := asg45s
  have k4 := elemV52 ⟨a, 0, none⟩ ⟨g, 0, none⟩ w1 x2
  have k5 := valueOf45 s no ty x
  have j1 := i1.alloc (.cells #[.string s, .int .i64 no, .iface ty x] 45)
  have j2 := Blk.new w1 #[.string s, .int .i64 no, .iface ty x] 45
  have k6 := set45 g w1.heap.size s no ty x o0 o1 o2 _ j2 j1
  have hd1 := hd.trans (((Below.refl w1.heap.size w1).alloc (Nat.le_refl _) (.cells #[.string s, .int .i64 no, .iface ty x] 45)).mono hd.size)
  clear hg ha i1 hbx hd j1 j2 hW1
  refine wp_loop_rounds 1 ?_
  rw [rounds_succ]
  go_wp2
  go_ret
  exact ⟨rfl, _, hd1, rfl⟩

set_option maxRecDepth 100000 in
set_option maxHeartbeats 4000000 in
/-- errors.As at a stage. -/
theorem AsS_calls (s : ByteArray) (no : Int) (ty : TypeId) (x : Value) (g : Nat) (o0 o1 o2 : Value) (w : World) (ht : EType w) (hg : Blk w g #[o0, o1, o2] 45) :
    Calls Tryd.prog 21 #[.iface 45 (.agg #[.string s, .int .i64 no, .iface ty x]), .iface 52 (.pointer (some ⟨g, 0, none⟩))] w (AsSOf g s no (.iface ty x) w) := by
  have hd : Below w.heap.size w ((w.alloc (.cells #[.pointer (some ⟨g, 0, none⟩)] 52)).alloc (.cells #[.pointer (some ⟨4, 52, none⟩), .pointer (some ⟨w.heap.size, 0, none⟩), .int .u64 150] 71)) := ((Below.refl _ _).alloc (Nat.le_refl _) _).alloc (by simp) _
  have b1 := (Blk.new w #[.pointer (some ⟨g, 0, none⟩)] 52).alloc (.cells #[.pointer (some ⟨4, 52, none⟩), .pointer (some ⟨w.heap.size, 0, none⟩), .int .u64 150] 71)
  have x1 := b1.cell 0
  simp only [List.getElem?_toArray, List.getElem?_cons_zero] at x1
  have ht2 := ht.below hd
  unfold EType at ht2
  have HC := Lib.hid (asS_calls s no ty x g w.heap.size o0 o1 o2 _ (hg.belowAll hd) b1)
  have k1 := nil_no 45 (.agg #[.string s, .int .i64 no, .iface ty x])
  have k2 := nil_no20 52 (.pointer (some ⟨g, 0, none⟩))
  have k3 := valueOf52
  have k4 := type52
  have k5 := methodKind
  have k6 := kind52
  have k7 := isNil52 ⟨w.heap.size, 0, none⟩ ⟨g, 0, none⟩ _ x1
  have k8 := methodElem
  have k9 := elem52
  have k10 := kind45
  have k11 := methodImplements
  have k12 := impl45
  clear hg ht b1 x1
  go_enter Tryd.func21, Tryd.ntmps21
  go_wp2_with (go_at_call 38; refine HC.out.mono ?_; rintro e w2 ⟨rfl, W1, hb2, rfl⟩)
  go_ret
  exact ⟨rfl, W1, Below.on hd hb2, rfl⟩

set_option maxRecDepth 100000 in
set_option maxHeartbeats 4000000 in
theorem finds_walk (st : ByteArray) (no a b : Int) (W : World) (hst : st.size ≤ maxLen) (wno : (Lit.int .i64 no).wf = true) (wa : (Lit.int .i64 a).wf = true) (wb : (Lit.int .i64 b).wf = true) (hT : Tab W.heap.size W) (hE : EType W) :
    Calls Tryd.prog 5 #[.string st, .int .i64 no, .int .i64 a, .int .i64 b] W fun e W' => e = .returned (.bool true) ∧ Below W.heap.size W W' := by
  have HLive := Lib.hid (fun (w' : World) (hb : Below W.heap.size W w') => live_calls w' (fun W2 hW2 => hT W2 (Below.on hb hW2)))
  have HEt := Lib.hid (fun (w' : World) (hb : Below W.heap.size W w') => hE.below hb)
  clear hT hE
  by_cases h0 : a = 0
  · subst h0
    go_enter Tryd.func5, Tryd.ntmps5
    go_wp2_with (go_at_call 7; refine (HLive.out _ (Below.refl _ _)).mono ?_; rintro e w1 ⟨rfl, hb1⟩)
    go_ret
    exact ⟨rfl, hb1⟩
  have a0 : (a == 0) = false := by simpa using h0
  by_cases h1 : b = 0
  · subst h1
    go_enter Tryd.func5, Tryd.ntmps5
    go_wp2_with (go_at_call 7; refine (HLive.out _ (Below.refl _ _)).mono ?_; rintro e w1 ⟨rfl, hb1⟩)
    go_ret
    exact ⟨rfl, hb1⟩
  have b0 : (b == 0) = false := by simpa using h1
  by_cases h2 : 1000 < st.size
  · have i2 : (1000 : Int) < (st.size : Int) := by omega
    go_enter Tryd.func5, Tryd.ntmps5
    go_wp2_with (go_at_call 7; refine (HLive.out _ (Below.refl _ _)).mono ?_; rintro e w1 ⟨rfl, hb1⟩)
    go_ret
    exact ⟨rfl, hb1⟩
  have i2 : ¬ (1000 : Int) < (st.size : Int) := by omega
  have HB := Lib.hid (both_two (.num a) (.num b) (.iface 39 (.int .i64 a)) (.iface 39 (.int .i64 b)) W W rfl rfl)
  go_enter Tryd.func5, Tryd.ntmps5
  go_wp2_with fail
  refine (new_some a h0 _).mono ?_
  rintro e w1 ⟨rfl, hw1⟩
  subst w1
  dsimp only
  go_wp2_with fail
  refine (new_some b h1 _).mono ?_
  rintro e w1 ⟨rfl, hw1⟩
  subst w1
  dsimp only
  go_wp2_with (go_at_call 18; refine HB.out.mono ?_; rintro e w2 ⟨v, rfl, hm, hb2⟩; refine Hid.out ?_)
  refine Lib.hid ?_
  have hv := hm.here hb2
  obtain ⟨ty, x, rfl⟩ := hv.iface
  obtain ⟨t, ht⟩ : ∃ t, t = Er.stage st no (.two (.num a) (.num b)) := ⟨_, rfl⟩
  have hv2 : IsE w2 t (.iface 45 (.agg #[.string st, .int .i64 no, .iface ty x])) := by rw [ht]; exact ⟨_, rfl, hv⟩
  have hfirst : t.first = a := by rw [ht]; rfl
  have hhas : hasO (some t) a = true ∧ hasO (some t) b = true := by
    rw [ht]
    simp [hasO, Er.all]
  have HIs := Lib.hid (fun (n : Int) (w' : World) (hb : Below w2.heap.size w2 w') => Is_calls n (some t) _ w' (IsE.below hb hv2))
  have HH := Lib.hid hhas
  have HF := Lib.hid hfirst
  have HV2 := Lib.hid hv2
  have HB2 := Lib.hid hb2
  clear hv hm hb2 ht hv2 hfirst hhas HB
  go_wp2_with (first
    | (go_at_call 17; refine (in_some st no ty x _).mono ?_; rintro e w3 ⟨rfl, hw3⟩; subst w3))
  have hd3 : Below w2.heap.size w2 ((w2.alloc (.cells #[.string ⟨#[]⟩, .int .i64 0, .nilIface] 45)).alloc (.cells #[.int .i64 0] 39)) := ((Below.refl _ _).alloc (Nat.le_refl _) _).alloc (by simp) _
  have c1 := (Blk.new w2 #[.string ⟨#[]⟩, .int .i64 0, .nilIface] 45).alloc (.cells #[.int .i64 0] 39)
  have c2 : Blk ((w2.alloc (.cells #[.string ⟨#[]⟩, .int .i64 0, .nilIface] 45)).alloc (.cells #[.int .i64 0] 39)) (w2.heap.size + 1) #[.int .i64 0] 39 := Blk.newAt _ _ _ (by simp)
  generalize hW3 : (w2.alloc (.cells #[.string ⟨#[]⟩, .int .i64 0, .nilIface] 45)).alloc (.cells #[.int .i64 0] 39) = w3 at *
  generalize hp : w2.heap.size = p at *
  have HP := Lib.hid hp
  have HD3 := Lib.hid (show Below w2.heap.size w2 w3 by rw [hp]; exact hd3)
  have HC1 := Lib.hid c1
  have HC2 := Lib.hid c2
  have HIs2 := Lib.hid (fun (n : Int) (w' : World) (hb : Below w3.heap.size w3 w') => HIs.out n w' (by have := Below.on HD3.out hb; rw [hp] at this; exact this))
  clear c1 c2 hd3 hW3 hp HIs
  refine (HIs2.out a w3 (Below.refl _ _)).mono ?_
  rintro e w4 ⟨rfl, hb4⟩
  rw [HH.out.1]
  dsimp only
  go_wp2_with fail
  refine (HIs2.out b w4 hb4).mono ?_
  rintro e w5 ⟨rfl, hb5⟩
  rw [HH.out.2]
  dsimp only
  have hb35 := Below.on hb4 hb5
  have HW5 := Lib.hid (Below.on (Below.on HB2.out HD3.out) hb35)
  have HAs := Lib.hid (AsS_calls st no ty x p _ _ _ w5 (HEt.out w5 HW5.out) (HC1.out.belowAll hb35))
  have HB25 := Lib.hid (Below.on HD3.out hb35)
  have d2 := HC2.out.belowAll hb35
  have d1 := HC1.out.belowAll hb35
  have HD2 := Lib.hid d2
  have HD1 := Lib.hid d1
  clear hb4 hb5 hb35 d1 d2 HC1 HC2 HIs2
  go_wp2_with fail
  refine HAs.out.mono ?_
  rintro e w6 ⟨rfl, W1, hbW, hw6⟩
  have f1 := (((HD1.out.belowAll hbW).set 0 (.string st)).set 1 (.int .i64 no)).set 2 (.iface ty x)
  have f2 := (((HD2.out.belowAll hbW).other (a := ⟨p, 0, none⟩) (by simp) (.string st)).other (a := ⟨p, 1, none⟩) (by simp) (.int .i64 no)).other (a := ⟨p, 2, none⟩) (by simp) (.iface ty x)
  have hB26 : Below w2.heap.size w2 w6 := by
    rw [hw6]
    exact (((Below.on HB25.out hbW).setCell (Nat.le_of_eq HP.out) _).setCell (Nat.le_of_eq HP.out) _).setCell (Nat.le_of_eq HP.out) _
  rw [← hw6] at f1 f2
  have g0 := f1.cell 0
  have g1 := f1.cell 1
  simp at g0 g1
  have HW6 := Lib.hid (Below.on HB2.out hB26)
  have HAn := Lib.hid (As_calls w2 t _ w6 (p + 1) 0 HV2.out hB26 (HEt.out w6 HW6.out) f2 (Nat.le_trans (Nat.le_of_eq HP.out) (Nat.le_succ _)))
  rw [HF.out] at HAn
  clear f1 f2 hB26 hw6 hbW
  dsimp only
  go_wp2_with (first
    | (go_at_call 21; refine HAn.out.mono ?_; rintro e w7 ⟨rfl, hg7, hb7⟩; have g2 := hg7.cell 0; simp at g2)
    | (go_at_call 13; refine (code_calls a _).mono ?_; rintro e w8 ⟨rfl, hw8⟩; subst w8)
    | (go_at_call 7; refine (HLive.out _ (HW6.out.trans (hb7.mono HB2.out.size))).mono ?_; rintro e w9 ⟨rfl, hb9⟩))
  go_ret
  exact ⟨rfl, Below.on (HW6.out.trans (hb7.mono HB2.out.size)) hb9⟩
end Go.Proofs.YtgpaedknonkioaaDoor
