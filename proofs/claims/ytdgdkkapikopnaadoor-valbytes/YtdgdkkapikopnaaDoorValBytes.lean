/-
  For all values v, byte slices b and indexes the law ValBytes returns true (val.Put writes the bytes that the document says, val.Get answers as the document does, what was put is got again whatever is ahead; and the example of the page holds), and the inputs read afterwards as before. Conditions: the row's own: the listed package-level variables read as the program's text lays them (the card ties them).
-/
import Derived.Test.YtdgdkkapikopnaaDoorRows
import Derived.Test.YtdgdkkapikopnaaDoorCards
import Derived.Test.YtdgdkkapikopnaaDoorTie
import Derived.SevenTiedAt
import Derived.Test.YtdgdkkapikopnaaDoorLBV
import Derived.Test.YtdgdkkapikopnaaDoorVArg
import Derived.Test.YtdgdkkapikopnaaDoorNROrder
import Derived.Test.YtdgdkkapikopnaaDoorNGetV
import Derived.Test.YtdgdkkapikopnaaDoorInv
namespace Go.Proofs.YtdgdkkapikopnaaDoor
namespace valBytes
open Go.ChangeShapes Go.WideShapes Go.ChangeAt Go.RowKit
set_option linter.unusedVariables false

/-- What each slot of the last region holds. -/
def V (N0 N1 N2 N3 c c7 : Nat) (k p k1 p1 k2 p2 nx er : Int) (t t1 t2 : ByteArray) (A A7 : Option Addr) (l X E : List Int) (d : Nat) (W : World) (v : Value) : Prop :=
  match d with
  | 52 | 84 => v = .slice A7 X.length c7
  | 54 => v = .slice A l.length c
  | 53 | 59 => v = .string (str X)
  | 55 => v = .string (str l)
  | 57 => Holds W E v
  | 58 => v = .string (str E)
  | 56 | 79 => v = .agg #[.int .u8 k, .int .i64 p, .string t]
  | 62 | 63 => v = .agg #[.int .u8 k1, .int .i64 p1, .string t1]
  | 78 => v = .agg #[.int .u8 k2, .int .i64 p2, .string t2]
  | 67 | 68 => v = .int .i64 nx
  | 72 | 73 | 74 => v = .int .i64 er
  | 83 | 85 => v = .int .i64 (X.length : Int)
  | 89 | 90 => v = .int .i64 0
  | 60 | 61 | 64 | 65 | 66 | 69 | 70 | 71 | 75 | 76 | 77 | 80 | 81 | 82 | 86 | 87 | 88 | 91 | 92 | 93 | 94 | 95 | 6 => v = .bool true
  | _ => True
theorem V.keep (N0 N1 N2 N3 c c7 : Nat) (k p k1 p1 k2 p2 nx er : Int) (t t1 t2 : ByteArray) (A A7 : Option Addr) (l X E : List Int) (d : Nat) (W W' : World) (v : Value) (hb : Below W.heap.size W W') (h : V N0 N1 N2 N3 c c7 k p k1 p1 k2 p2 nx er t t1 t2 A A7 l X E d W v) : V N0 N1 N2 N3 c c7 k p k1 p1 k2 p2 nx er t t1 t2 A A7 l X E d W' v := by
  unfold V at *
  split at h
  all_goals first | exact h | (obtain ⟨A, c, rfl, h⟩ := h; exact ⟨A, c, rfl, h.below hb⟩)

theorem ordV_same (a : Vl) : decide (ordV a a = 0) = true := by
  have h := ordV_neg a a
  exact decide_eq_true (by omega)
theorem getT_le (l : List Int) (i m : Int) : (getT l i m).1.length ≤ l.length := by
  unfold getT
  split
  · split
    · simp
    · split
      · simp
      · simp only [List.length_take, List.length_drop]; omega
  · simp
theorem getV_le (l : List Int) (i : Int) : (getV l i).1.s.size ≤ l.length := by
  have h := getT_le l (i + 1) 65536
  unfold getV
  split
  · exact Nat.zero_le _
  · split
    · exact Nat.zero_le _
    · split
      · exact Nat.zero_le _
      · split
        · split
          · show (str _).size ≤ _
            rw [str_size]; exact h
          · exact Nat.zero_le _
        · exact Nat.zero_le _
theorem plainV_size (v : Vl) : (plainV v).s.size ≤ v.s.size := by
  unfold plainV
  split
  · exact Nat.zero_le _
  · exact Nat.le_refl _
set_option maxRecDepth 100000 in
set_option maxHeartbeats 8000000 in
theorem walk (v : Vl) (A : Option Addr) (c : Nat) (l : List Int) (i : Int) (w : World) (gv : v.Good) (hlc : l.length ≤ c) (hlm : l.length ≤ maxLen) (hll : Lies w A c l) (hlb : IsB l) (hi : (Lit.int .i64 i).wf = true) (hL : Laid w) :
    Calls Tryd.prog 3 #[v.v, .slice A l.length c, .int .i64 i] w fun e w' => e = .returned (.bool true) ∧ Below w.heap.size w w' := by
  have hv := errV_of_laid hL
  have ha2 : v.s.size ≤ 140737488351232 := gv.s1
  have hlm2 : l.length ≤ 9223372036854775807 := by unfold maxLen at hlm; omega
  have hvB : ∀ W, Below w.heap.size w W → ErrV W := fun W hW => hv.below hW
  have HV0 := Lib.hid hvB
  have HLV := Lib.hid (fun W hW => live_calls W (HV0.out W hW))
  have hvn := gv.n0
  have hvm := gv.n1
  have hvs := gv.s1
  have HG0 := Lib.hid hvn
  have HG1 := Lib.hid hvm
  have hB1 := below_one w (.cells #[.int .u8 v.k, .int .i64 v.n, .string v.s] 23)
  have bx := Blk.new w #[.int .u8 v.k, .int .i64 v.n, .string v.s] 23
  obtain ⟨x0, x1, x2⟩ := bx.cells3
  have HB1 := Lib.hid hB1
  have HX0' := Lib.hid bx
  have HL0 := Lib.hid hll
  have HLB := Lib.hid hlb
  have HLC := Lib.hid hlc
  unfold Vl.v
  clear hB1 bx hv gv hi hL hvB hll hlb hlc hlm hvn hvm
  by_cases h1 : 2000 < v.s.size
  · generalize l.length = ln at *
    generalize v.s = t at *
    generalize v.k = k at *
    generalize v.n = p at *
    go_enter Tryd.func3, Tryd.ntmps3
    go_wp2_with fail
    refine (HLV.out _ HB1.out).mono ?_
    rintro e w9 ⟨rfl, hb9⟩
    dsimp only
    go_wp2
    go_ret
    exact ⟨rfl, HB1.out.trans (hb9.mono HB1.out.size)⟩
  · by_cases h2 : 2000 < l.length
    · have h2i : (2000 : Int) < (l.length : Int) := by omega
      generalize l.length = ln at *
      generalize v.s = t at *
      generalize v.k = k at *
      generalize v.n = p at *
      go_enter Tryd.func3, Tryd.ntmps3
      go_wp2_with fail
      refine (HLV.out _ HB1.out).mono ?_
      rintro e w9 ⟨rfl, hb9⟩
      dsimp only
      go_wp2
      go_ret
      exact ⟨rfl, HB1.out.trans (hb9.mono HB1.out.size)⟩
    · have hn1 : v.s.size ≤ 2000 := by omega
      have hn2 : l.length ≤ 2000 := by omega
      have HN1 := Lib.hid hn1
      have HN2 := Lib.hid hn2
      have HPV := Lib.hid (putv_calls A c l v (w.alloc (.cells #[.int .u8 v.k, .int .i64 v.n, .string v.s] 23)) (HL0.out.below HB1.out) (by omega) HG0.out HG1.out (by omega))
      have HGB := Lib.hid (fun (W : World) (hW : Below w.heap.size w W) => getv_calls (A := A) (c := c) (l := l) (w := W) i (HL0.out.below hW) HLB.out HLC.out (by have := HN2.out; omega))
      have HRB := Lib.hid (fun (W : World) (hW : Below w.heap.size w W) => rgetv_calls (A := A) (c := c) (l := l) (w := W) i (HL0.out.below hW) HLB.out HLC.out (by have := HN2.out; omega))
      have HBY := Lib.hid (fun W => rbytesv_calls v W HG0.out HG1.out (by have := HN1.out; omega))
      have hEb := encV_isB v HG0.out HG1.out (by omega)
      have hEl := encV_length v
      have hgs : (getV l i).1.s.size ≤ reachBytes := Nat.le_trans (getV_le l i) (Nat.le_trans hn2 (by decide))
      have HS1 := Lib.hid (fun W => same_calls (getV l i).1 (getV l i).1 W hgs hgs)
      have HS2 := Lib.hid (fun W => same_calls (plainV v) v W (Nat.le_trans (plainV_size v) hvs) hvs)
      rw [ordV_same] at HS1
      rw [ordV_plain] at HS2
      have HGA := Lib.hid (getV_back l v HG0.out HG1.out (by omega))
      have HXB := Lib.hid (show IsB (l ++ encV v) from HLB.out.append hEb)
      have hXl : (l ++ encV v).length ≤ 10000 := by rw [List.length_append]; omega
      have HXL := Lib.hid hXl
      have HEL := Lib.hid (show (encV v).length ≤ 10000 by omega)
      obtain ⟨E, hE⟩ : ∃ E, E = encV v := ⟨_, rfl⟩
      rw [← hE] at HPV HBY HGA HXB HXL HEL
      obtain ⟨X, hX⟩ : ∃ X, X = l ++ E := ⟨_, rfl⟩
      have HXE := Lib.hid hX
      rw [← hX] at HPV HGA HXB HXL
      clear hX hE hEb hEl hgs hXl hn1 hvs
      unfold triV at HGB HRB
      unfold Vl.v at HS1 HS2 HBY HPV
      generalize getV l i = gr at *
      obtain ⟨⟨k1, p1, t1⟩, nx, er⟩ := gr
      dsimp only at HGB HRB HS1
      obtain ⟨pv, hpv⟩ : ∃ pv, pv = plainV v := ⟨_, rfl⟩
      rw [← hpv] at HS2 HGA
      clear hpv
      obtain ⟨k2, p2, t2⟩ := pv
      obtain ⟨k, p, t⟩ := v
      dsimp only at *
      obtain ⟨ln, hln⟩ : ∃ ln, ln = l.length := ⟨_, rfl⟩
      have HLN := Lib.hid hln
      rw [← hln] at HPV HGB HRB HGA ⊢
      have h2n : ¬ 2000 < ln := by rw [hln]; exact h2
      have h2i : decide ((2000 : Int) < (ln : Int)) = false := decide_eq_false (by omega)
      clear hln h2 hn2 hlm2
      go_enter Tryd.func3, Tryd.ntmps3
      go_wp2_with fail
      refine HPV.out.mono ?_
      rintro e w1 hq1
      obtain ⟨A7, c7, rfl, ho1, hb1⟩ := hq1
      have HO1 := Lib.hid ho1
      have HC1 := Lib.hid (HB1.out.trans (hb1.mono HB1.out.size))
      have HX01 := Lib.hid (HX0'.out.belowAll hb1)
      clear ho1 hb1
      obtain ⟨m, hm⟩ : ∃ m, m = X.length := ⟨_, rfl⟩
      have HM := Lib.hid hm
      rw [← hm]
      clear hm
      dsimp only
      go_wp2_with fail
      refine (HGB.out _ HC1.out).mono ?_
      rintro e w2 ⟨rfl, hb2⟩
      have HO2 := Lib.hid (OwnS.below HO1.out hb2)
      have hc2 := HC1.out.trans (hb2.mono HC1.out.size)
      have HC2 := Lib.hid (hc2.alloc (o := .cells #[.int .u8 k1, .int .i64 p1, .string t1] 23) hc2.size)
      have HX02 := Lib.hid ((HX01.out.belowAll hb2).alloc (.cells #[.int .u8 k1, .int .i64 p1, .string t1] 23))
      have HX12 := Lib.hid (Blk.new w2 #[.int .u8 k1, .int .i64 p1, .string t1] 23)
      clear hb2 hc2
      dsimp only
      go_wp2_with fail
      refine (HRB.out _ HC2.out).mono ?_
      rintro e w3 ⟨rfl, hb3⟩
      have HO3 := Lib.hid (OwnS.below (OwnS.alloc HO2.out _) hb3)
      have hc3 := HC2.out.trans (hb3.mono HC2.out.size)
      have HC3 := Lib.hid (hc3.alloc (o := .cells #[.int .u8 k1, .int .i64 p1, .string t1] 23) hc3.size)
      have HX03 := Lib.hid ((HX02.out.belowAll hb3).alloc (.cells #[.int .u8 k1, .int .i64 p1, .string t1] 23))
      have HX13 := Lib.hid ((HX12.out.belowAll hb3).alloc (.cells #[.int .u8 k1, .int .i64 p1, .string t1] 23))
      have HX23 := Lib.hid (Blk.new w3 #[.int .u8 k1, .int .i64 p1, .string t1] 23)
      have HGX := Lib.hid (getv_calls (A := A7) (c := c7) (l := X) (w := w3.alloc (.cells #[.int .u8 k1, .int .i64 p1, .string t1] 23)) (ln : Int) (Lies.of_own (OwnS.alloc HO3.out _)) HXB.out (OwnS.cap HO1.out) (by have := HXL.out; omega))
      rw [HGA.out, ← HM.out] at HGX
      unfold triV at HGX
      dsimp only at HGX
      clear hb3 hc3
      dsimp only
      go_wp2_with fail
      refine HGX.out.mono ?_
      rintro e w4 ⟨rfl, hb4⟩
      have ho5 := OwnS.alloc (OwnS.below (OwnS.alloc HO3.out (.cells #[.int .u8 k1, .int .i64 p1, .string t1] 23)) hb4) (.cells #[.int .u8 k2, .int .i64 p2, .string t2] 23)
      have hc4 := HC3.out.trans (hb4.mono HC3.out.size)
      have hc5 := hc4.alloc (o := .cells #[.int .u8 k2, .int .i64 p2, .string t2] 23) hc4.size
      have hx0 := (HX03.out.belowAll hb4).alloc (.cells #[.int .u8 k2, .int .i64 p2, .string t2] 23)
      have hx1 := (HX13.out.belowAll hb4).alloc (.cells #[.int .u8 k2, .int .i64 p2, .string t2] 23)
      have hx2 := (HX23.out.belowAll hb4).alloc (.cells #[.int .u8 k2, .int .i64 p2, .string t2] 23)
      have hx3 := Blk.new w4 #[.int .u8 k2, .int .i64 p2, .string t2] 23
      dsimp only
      go_wp2_with fail
      rw [HM.out, HLN.out]
      obtain ⟨w5, hw5⟩ : ∃ w5, w5 = w4.alloc (.cells #[.int .u8 k2, .int .i64 p2, .string t2] 23) := ⟨_, rfl⟩
      rw [← hw5] at ho5 hc5 hx0 hx1 hx2 hx3 ⊢
      have HX0 := Lib.hid (fun (W : World) (hW : Below w5.heap.size w5 W) => hx0.belowAll hW)
      have HX1 := Lib.hid (fun (W : World) (hW : Below w5.heap.size w5 W) => hx1.belowAll hW)
      have HX2 := Lib.hid (fun (W : World) (hW : Below w5.heap.size w5 W) => hx2.belowAll hW)
      have HX3 := Lib.hid (fun (W : World) (hW : Below w5.heap.size w5 W) => hx3.belowAll hW)
      have HL7 := Lib.hid (fun (W : World) (hW : Below w5.heap.size w5 W) => (Lies.of_own ho5).below hW)
      have HLL := Lib.hid (fun (W : World) (hW : Below w5.heap.size w5 W) => HL0.out.below (hc5.trans (hW.mono hc5.size)))
      have HBE := Lib.hid (fun (W : World) (hW : Below w5.heap.size w5 W) => hc5.trans (hW.mono hc5.size))
      have HV := Lib.hid (fun (W : World) (hW : Below w5.heap.size w5 W) => HV0.out W (HBE.out W hW))
      have HZ := Lib.hid (show l.length + E.length ≤ 20000 by have := HEL.out; have := HN2.out; omega)
      have hB0 : Below w5.heap.size w5 w5.drew := below_drew _
      clear ho5 hc4 hc5 hx0 hx1 hx2 hx3 hw5 hb4
      refine wp_region_inv (by kernel_rfl) (fun W => Below w5.heap.size w5 W) (fun W W' => Below W.heap.size W W') (V w.heap.size w2.heap.size w3.heap.size w4.heap.size c c7 k p k1 p1 k2 p2 nx er t t1 t2 A A7 l X E) [[], [52], [], [54], [], [56], [57], [55, 58], [53, 59], [60], [61], [61], [62, 63, 61], [61, 64], [65], [66], [66], [67, 68, 66], [66, 69], [70], [71], [72, 71], [71], [73, 74, 71], [71, 75], [76], [77], [77], [78, 79, 77], [77, 80], [81], [82], [82], [84, 82], [83, 85, 82], [82, 86], [87], [88], [89, 88], [90, 88], [88, 91], [92], [93], [93, 94], [95]] (by kernel_rfl) (fun W => Below.refl _ _) (fun d W W' v => V.keep w.heap.size w2.heap.size w3.heap.size w4.heap.size c c7 k p k1 p1 k2 p2 nx er t t1 t2 A A7 l X E d W W' v) hB0 ?_ ?_
      · refine ⟨?_, ?_, ?_, ?_, ?_, ?_, ?_, ?_, ?_, ?_, ?_, ?_, ?_, ?_, ?_, ?_, ?_, ?_, ?_, ?_, ?_, ?_, ?_, ?_, ?_, ?_, ?_, ?_, ?_, ?_, ?_, ?_, ?_, ?_, ?_, ?_, ?_, ?_, ?_, ?_, ?_, ?_, ?_, ?_, ?_, trivial⟩
        · intro a W hI hsame ht
          have h7 := hsame 7 (by decide)
          change a.tmps.getD 7 undef = .slice A7 X.length c7 at h7
          rw [if_pos (by rfl)]
          clear hsame
          unfold Oper.wp
          go_simp
          exact ⟨_, rfl, hI, Below.refl _ _, fun d hd => by cases hd; exact rfl⟩
        · intro a W hI hsame ht
          obtain ⟨h52, _⟩ := ht
          change a.tmps.getD 52 undef = .slice A7 X.length c7 at h52
          rw [if_pos (by rfl)]
          clear hsame
          have hs := run_str (HL7.out W hI)
          unfold Oper.wp
          go_simp
          exact ⟨_, rfl, hI, Below.refl _ _, fun d hd => by cases hd; exact rfl⟩
        · intro a W hI hsame ht
          have h1 := hsame 1 (by decide)
          change a.tmps.getD 1 undef = .slice A l.length c at h1
          rw [if_pos (by rfl)]
          clear hsame
          unfold Oper.wp
          go_simp
          exact ⟨_, rfl, hI, Below.refl _ _, fun d hd => by cases hd; exact rfl⟩
        · intro a W hI hsame ht
          obtain ⟨h54, _⟩ := ht
          change a.tmps.getD 54 undef = .slice A l.length c at h54
          rw [if_pos (by rfl)]
          clear hsame
          have hs := run_str (HLL.out W hI)
          unfold Oper.wp
          go_simp
          exact ⟨_, rfl, hI, Below.refl _ _, fun d hd => by cases hd; exact rfl⟩
        · intro a W hI hsame ht
          have h3 := hsame 3 (by decide)
          change a.tmps.getD 3 undef = .pointer (some ⟨w.heap.size, 0, none⟩) at h3
          rw [if_pos (by rfl)]
          clear hsame
          obtain ⟨x0, x1, x2⟩ := (HX0.out W hI).cells3
          unfold Oper.wp
          go_simp
          exact ⟨_, rfl, hI, Below.refl _ _, fun d hd => by cases hd; exact rfl⟩
        · intro a W hI hsame ht
          obtain ⟨h56, _⟩ := ht
          change a.tmps.getD 56 undef = .agg #[.int .u8 k, .int .i64 p, .string t] at h56
          rw [if_pos (by rfl)]
          clear hsame
          unfold Oper.wp
          go_simp
          refine (HBY.out W).mono ?_
          rintro e' W' ⟨AA, cc, rfl, hown, hb⟩
          exact ⟨_, rfl, Below.on hI hb, hb, fun d hd => by cases hd; exact ⟨AA, cc, rfl, Lies.of_own hown⟩⟩
        · intro a W hI hsame ht
          obtain ⟨⟨A57, c57, h57, hL57⟩, _⟩ := ht
          rw [if_pos (by rfl)]
          clear hsame
          have hs := run_str hL57
          unfold Oper.wp
          go_simp
          exact ⟨_, rfl, hI, Below.refl _ _, fun d hd => by cases hd; exact rfl⟩
        · intro a W hI hsame ht
          obtain ⟨h55, h58, _⟩ := ht
          change a.tmps.getD 55 undef = .string (str l) at h55
          change a.tmps.getD 58 undef = .string (str E) at h58
          rw [if_pos (by rfl)]
          clear hsame
          have hz : ¬ (9223372036854775807 < (str l).size + (str E).size) := by rw [str_size, str_size]; have := HZ.out; omega
          unfold Oper.wp
          go_simp
          exact ⟨_, rfl, hI, Below.refl _ _, fun d hd => by cases hd; exact congrArg Value.string (by rw [str_append, HXE.out])⟩
        · intro a W hI hsame ht
          obtain ⟨h53, h59, _⟩ := ht
          change a.tmps.getD 53 undef = .string (str X) at h53
          change a.tmps.getD 59 undef = .string (str X) at h59
          rw [if_pos (by rfl)]
          clear hsame
          unfold Oper.wp
          go_simp
          exact ⟨_, rfl, hI, Below.refl _ _, fun d hd => by cases hd; exact rfl⟩
        · intro a W hI hsame ht
          obtain ⟨h60, _⟩ := ht
          change a.tmps.getD 60 undef = .bool true at h60
          rw [if_pos (by rfl)]
          clear hsame
          unfold Oper.wp
          go_simp
          exact ⟨_, rfl, hI, Below.refl _ _, fun d hd => by cases hd; exact rfl⟩
        · intro a W hI hsame ht
          obtain ⟨h61, _⟩ := ht
          change a.tmps.getD 61 undef = .bool true at h61
          have h8 := hsame 8 (by decide)
          change a.tmps.getD 8 undef = .pointer (some ⟨w2.heap.size, 0, none⟩) at h8
          rw [if_pos (wanted_true (j := 9) (d := 61) rfl rfl h61)]
          clear hsame
          obtain ⟨x0, x1, x2⟩ := (HX1.out W hI).cells3
          unfold Oper.wp
          go_simp
          exact ⟨_, rfl, hI, Below.refl _ _, fun d hd => by cases hd; exact rfl⟩
        · intro a W hI hsame ht
          obtain ⟨h61, _⟩ := ht
          change a.tmps.getD 61 undef = .bool true at h61
          have h11 := hsame 11 (by decide)
          change a.tmps.getD 11 undef = .pointer (some ⟨w3.heap.size, 0, none⟩) at h11
          rw [if_pos (wanted_true (j := 9) (d := 61) rfl rfl h61)]
          clear hsame
          obtain ⟨x0, x1, x2⟩ := (HX2.out W hI).cells3
          unfold Oper.wp
          go_simp
          exact ⟨_, rfl, hI, Below.refl _ _, fun d hd => by cases hd; exact rfl⟩
        · intro a W hI hsame ht
          obtain ⟨h62, h63, h61, _⟩ := ht
          change a.tmps.getD 62 undef = .agg #[.int .u8 k1, .int .i64 p1, .string t1] at h62
          change a.tmps.getD 63 undef = .agg #[.int .u8 k1, .int .i64 p1, .string t1] at h63
          change a.tmps.getD 61 undef = .bool true at h61
          rw [if_pos (wanted_true (j := 9) (d := 61) rfl rfl h61)]
          clear hsame
          unfold Oper.wp
          go_simp
          refine (HS1.out W).mono ?_
          rintro e' W' ⟨rfl, hb⟩
          exact ⟨_, rfl, Below.on hI hb, hb, fun d hd => by cases hd; exact rfl⟩
        · intro a W hI hsame ht
          obtain ⟨h61, h64, _⟩ := ht
          change a.tmps.getD 61 undef = .bool true at h61
          change a.tmps.getD 64 undef = .bool true at h64
          rw [if_pos (by rfl)]
          clear hsame
          unfold Oper.wp
          go_simp
          exact ⟨_, rfl, hI, Below.refl _ _, fun d hd => by cases hd; exact rfl⟩
        · intro a W hI hsame ht
          obtain ⟨h65, _⟩ := ht
          change a.tmps.getD 65 undef = .bool true at h65
          rw [if_pos (by rfl)]
          clear hsame
          unfold Oper.wp
          go_simp
          exact ⟨_, rfl, hI, Below.refl _ _, fun d hd => by cases hd; exact rfl⟩
        · intro a W hI hsame ht
          obtain ⟨h66, _⟩ := ht
          change a.tmps.getD 66 undef = .bool true at h66
          have h9 := hsame 9 (by decide)
          change a.tmps.getD 9 undef = .int .i64 nx at h9
          rw [if_pos (wanted_true (j := 14) (d := 66) rfl rfl h66)]
          clear hsame
          unfold Oper.wp
          go_simp
          exact ⟨_, rfl, hI, Below.refl _ _, fun d hd => by cases hd; exact rfl⟩
        · intro a W hI hsame ht
          obtain ⟨h66, _⟩ := ht
          change a.tmps.getD 66 undef = .bool true at h66
          have h12 := hsame 12 (by decide)
          change a.tmps.getD 12 undef = .int .i64 nx at h12
          rw [if_pos (wanted_true (j := 14) (d := 66) rfl rfl h66)]
          clear hsame
          unfold Oper.wp
          go_simp
          exact ⟨_, rfl, hI, Below.refl _ _, fun d hd => by cases hd; exact rfl⟩
        · intro a W hI hsame ht
          obtain ⟨h67, h68, h66, _⟩ := ht
          change a.tmps.getD 67 undef = .int .i64 nx at h67
          change a.tmps.getD 68 undef = .int .i64 nx at h68
          change a.tmps.getD 66 undef = .bool true at h66
          rw [if_pos (wanted_true (j := 14) (d := 66) rfl rfl h66)]
          clear hsame
          unfold Oper.wp
          go_simp
          exact ⟨_, rfl, hI, Below.refl _ _, fun d hd => by cases hd; exact rfl⟩
        · intro a W hI hsame ht
          obtain ⟨h66, h69, _⟩ := ht
          change a.tmps.getD 66 undef = .bool true at h66
          change a.tmps.getD 69 undef = .bool true at h69
          rw [if_pos (by rfl)]
          clear hsame
          unfold Oper.wp
          go_simp
          exact ⟨_, rfl, hI, Below.refl _ _, fun d hd => by cases hd; exact rfl⟩
        · intro a W hI hsame ht
          obtain ⟨h70, _⟩ := ht
          change a.tmps.getD 70 undef = .bool true at h70
          rw [if_pos (by rfl)]
          clear hsame
          unfold Oper.wp
          go_simp
          exact ⟨_, rfl, hI, Below.refl _ _, fun d hd => by cases hd; exact rfl⟩
        · intro a W hI hsame ht
          obtain ⟨h71, _⟩ := ht
          change a.tmps.getD 71 undef = .bool true at h71
          have h10 := hsame 10 (by decide)
          change a.tmps.getD 10 undef = .int .i64 er at h10
          rw [if_pos (wanted_true (j := 19) (d := 71) rfl rfl h71)]
          clear hsame
          unfold Oper.wp
          go_simp
          exact ⟨_, rfl, hI, Below.refl _ _, fun d hd => by cases hd; exact rfl⟩
        · intro a W hI hsame ht
          obtain ⟨h72, h71, _⟩ := ht
          change a.tmps.getD 72 undef = .int .i64 er at h72
          change a.tmps.getD 71 undef = .bool true at h71
          rw [if_pos (wanted_true (j := 19) (d := 71) rfl rfl h71)]
          clear hsame
          unfold Oper.wp
          go_simp
          refine (code_calls _ _).mono ?_
          rintro e' W' ⟨rfl, rfl⟩
          exact ⟨_, rfl, hI, Below.refl _ _, fun d hd => by cases hd; exact rfl⟩
        · intro a W hI hsame ht
          obtain ⟨h71, _⟩ := ht
          change a.tmps.getD 71 undef = .bool true at h71
          have h13 := hsame 13 (by decide)
          change a.tmps.getD 13 undef = .int .i64 er at h13
          rw [if_pos (wanted_true (j := 19) (d := 71) rfl rfl h71)]
          clear hsame
          unfold Oper.wp
          go_simp
          exact ⟨_, rfl, hI, Below.refl _ _, fun d hd => by cases hd; exact rfl⟩
        · intro a W hI hsame ht
          obtain ⟨h73, h74, h71, _⟩ := ht
          change a.tmps.getD 73 undef = .int .i64 er at h73
          change a.tmps.getD 74 undef = .int .i64 er at h74
          change a.tmps.getD 71 undef = .bool true at h71
          rw [if_pos (wanted_true (j := 19) (d := 71) rfl rfl h71)]
          clear hsame
          unfold Oper.wp
          go_simp
          exact ⟨_, rfl, hI, Below.refl _ _, fun d hd => by cases hd; exact rfl⟩
        · intro a W hI hsame ht
          obtain ⟨h71, h75, _⟩ := ht
          change a.tmps.getD 71 undef = .bool true at h71
          change a.tmps.getD 75 undef = .bool true at h75
          rw [if_pos (by rfl)]
          clear hsame
          unfold Oper.wp
          go_simp
          exact ⟨_, rfl, hI, Below.refl _ _, fun d hd => by cases hd; exact rfl⟩
        · intro a W hI hsame ht
          obtain ⟨h76, _⟩ := ht
          change a.tmps.getD 76 undef = .bool true at h76
          rw [if_pos (by rfl)]
          clear hsame
          unfold Oper.wp
          go_simp
          exact ⟨_, rfl, hI, Below.refl _ _, fun d hd => by cases hd; exact rfl⟩
        · intro a W hI hsame ht
          obtain ⟨h77, _⟩ := ht
          change a.tmps.getD 77 undef = .bool true at h77
          have h14 := hsame 14 (by decide)
          change a.tmps.getD 14 undef = .pointer (some ⟨w4.heap.size, 0, none⟩) at h14
          rw [if_pos (wanted_true (j := 25) (d := 77) rfl rfl h77)]
          clear hsame
          obtain ⟨x0, x1, x2⟩ := (HX3.out W hI).cells3
          unfold Oper.wp
          go_simp
          exact ⟨_, rfl, hI, Below.refl _ _, fun d hd => by cases hd; exact rfl⟩
        · intro a W hI hsame ht
          obtain ⟨h77, _⟩ := ht
          change a.tmps.getD 77 undef = .bool true at h77
          have h3 := hsame 3 (by decide)
          change a.tmps.getD 3 undef = .pointer (some ⟨w.heap.size, 0, none⟩) at h3
          rw [if_pos (wanted_true (j := 25) (d := 77) rfl rfl h77)]
          clear hsame
          obtain ⟨x0, x1, x2⟩ := (HX0.out W hI).cells3
          unfold Oper.wp
          go_simp
          exact ⟨_, rfl, hI, Below.refl _ _, fun d hd => by cases hd; exact rfl⟩
        · intro a W hI hsame ht
          obtain ⟨h78, h79, h77, _⟩ := ht
          change a.tmps.getD 78 undef = .agg #[.int .u8 k2, .int .i64 p2, .string t2] at h78
          change a.tmps.getD 79 undef = .agg #[.int .u8 k, .int .i64 p, .string t] at h79
          change a.tmps.getD 77 undef = .bool true at h77
          rw [if_pos (wanted_true (j := 25) (d := 77) rfl rfl h77)]
          clear hsame
          unfold Oper.wp
          go_simp
          refine (HS2.out W).mono ?_
          rintro e' W' ⟨rfl, hb⟩
          exact ⟨_, rfl, Below.on hI hb, hb, fun d hd => by cases hd; exact rfl⟩
        · intro a W hI hsame ht
          obtain ⟨h77, h80, _⟩ := ht
          change a.tmps.getD 77 undef = .bool true at h77
          change a.tmps.getD 80 undef = .bool true at h80
          rw [if_pos (by rfl)]
          clear hsame
          unfold Oper.wp
          go_simp
          exact ⟨_, rfl, hI, Below.refl _ _, fun d hd => by cases hd; exact rfl⟩
        · intro a W hI hsame ht
          obtain ⟨h81, _⟩ := ht
          change a.tmps.getD 81 undef = .bool true at h81
          rw [if_pos (by rfl)]
          clear hsame
          unfold Oper.wp
          go_simp
          exact ⟨_, rfl, hI, Below.refl _ _, fun d hd => by cases hd; exact rfl⟩
        · intro a W hI hsame ht
          obtain ⟨h82, _⟩ := ht
          change a.tmps.getD 82 undef = .bool true at h82
          have h15 := hsame 15 (by decide)
          change a.tmps.getD 15 undef = .int .i64 (X.length : Int) at h15
          rw [if_pos (wanted_true (j := 30) (d := 82) rfl rfl h82)]
          clear hsame
          unfold Oper.wp
          go_simp
          exact ⟨_, rfl, hI, Below.refl _ _, fun d hd => by cases hd; exact rfl⟩
        · intro a W hI hsame ht
          obtain ⟨h82, _⟩ := ht
          change a.tmps.getD 82 undef = .bool true at h82
          have h7 := hsame 7 (by decide)
          change a.tmps.getD 7 undef = .slice A7 X.length c7 at h7
          rw [if_pos (wanted_true (j := 30) (d := 82) rfl rfl h82)]
          clear hsame
          unfold Oper.wp
          go_simp
          exact ⟨_, rfl, hI, Below.refl _ _, fun d hd => by cases hd; exact rfl⟩
        · intro a W hI hsame ht
          obtain ⟨h84, h82, _⟩ := ht
          change a.tmps.getD 84 undef = .slice A7 X.length c7 at h84
          change a.tmps.getD 82 undef = .bool true at h82
          rw [if_pos (wanted_true (j := 30) (d := 82) rfl rfl h82)]
          clear hsame
          unfold Oper.wp
          go_simp
          exact ⟨_, rfl, hI, Below.refl _ _, fun d hd => by cases hd; exact rfl⟩
        · intro a W hI hsame ht
          obtain ⟨h83, h85, h82, _⟩ := ht
          change a.tmps.getD 83 undef = .int .i64 (X.length : Int) at h83
          change a.tmps.getD 85 undef = .int .i64 (X.length : Int) at h85
          change a.tmps.getD 82 undef = .bool true at h82
          rw [if_pos (wanted_true (j := 30) (d := 82) rfl rfl h82)]
          clear hsame
          unfold Oper.wp
          go_simp
          exact ⟨_, rfl, hI, Below.refl _ _, fun d hd => by cases hd; exact rfl⟩
        · intro a W hI hsame ht
          obtain ⟨h82, h86, _⟩ := ht
          change a.tmps.getD 82 undef = .bool true at h82
          change a.tmps.getD 86 undef = .bool true at h86
          rw [if_pos (by rfl)]
          clear hsame
          unfold Oper.wp
          go_simp
          exact ⟨_, rfl, hI, Below.refl _ _, fun d hd => by cases hd; exact rfl⟩
        · intro a W hI hsame ht
          obtain ⟨h87, _⟩ := ht
          change a.tmps.getD 87 undef = .bool true at h87
          rw [if_pos (by rfl)]
          clear hsame
          unfold Oper.wp
          go_simp
          exact ⟨_, rfl, hI, Below.refl _ _, fun d hd => by cases hd; exact rfl⟩
        · intro a W hI hsame ht
          obtain ⟨h88, _⟩ := ht
          change a.tmps.getD 88 undef = .bool true at h88
          have h16 := hsame 16 (by decide)
          change a.tmps.getD 16 undef = .int .i64 0 at h16
          rw [if_pos (wanted_true (j := 36) (d := 88) rfl rfl h88)]
          clear hsame
          unfold Oper.wp
          go_simp
          exact ⟨_, rfl, hI, Below.refl _ _, fun d hd => by cases hd; exact rfl⟩
        · intro a W hI hsame ht
          obtain ⟨h89, h88, _⟩ := ht
          change a.tmps.getD 89 undef = .int .i64 0 at h89
          change a.tmps.getD 88 undef = .bool true at h88
          rw [if_pos (wanted_true (j := 36) (d := 88) rfl rfl h88)]
          clear hsame
          unfold Oper.wp
          go_simp
          refine (code_calls _ _).mono ?_
          rintro e' W' ⟨rfl, rfl⟩
          exact ⟨_, rfl, hI, Below.refl _ _, fun d hd => by cases hd; exact rfl⟩
        · intro a W hI hsame ht
          obtain ⟨h90, h88, _⟩ := ht
          change a.tmps.getD 90 undef = .int .i64 0 at h90
          change a.tmps.getD 88 undef = .bool true at h88
          rw [if_pos (wanted_true (j := 36) (d := 88) rfl rfl h88)]
          clear hsame
          unfold Oper.wp
          go_simp
          exact ⟨_, rfl, hI, Below.refl _ _, fun d hd => by cases hd; exact rfl⟩
        · intro a W hI hsame ht
          obtain ⟨h88, h91, _⟩ := ht
          change a.tmps.getD 88 undef = .bool true at h88
          change a.tmps.getD 91 undef = .bool true at h91
          rw [if_pos (by rfl)]
          clear hsame
          unfold Oper.wp
          go_simp
          exact ⟨_, rfl, hI, Below.refl _ _, fun d hd => by cases hd; exact rfl⟩
        · intro a W hI hsame ht
          obtain ⟨h92, _⟩ := ht
          change a.tmps.getD 92 undef = .bool true at h92
          rw [if_pos (by rfl)]
          clear hsame
          unfold Oper.wp
          go_simp
          exact ⟨_, rfl, hI, Below.refl _ _, fun d hd => by cases hd; exact rfl⟩
        · intro a W hI hsame ht
          obtain ⟨h93, _⟩ := ht
          change a.tmps.getD 93 undef = .bool true at h93
          rw [if_pos (wanted_true (j := 41) (d := 93) rfl rfl h93)]
          clear hsame
          unfold Oper.wp
          go_simp
          refine (live_calls _ (HV.out W hI)).mono ?_
          rintro e' W' ⟨rfl, hb⟩
          exact ⟨_, rfl, Below.on hI hb, hb, fun d hd => by cases hd; exact rfl⟩
        · intro a W hI hsame ht
          obtain ⟨h93, h94, _⟩ := ht
          change a.tmps.getD 93 undef = .bool true at h93
          change a.tmps.getD 94 undef = .bool true at h94
          rw [if_pos (by rfl)]
          clear hsame
          unfold Oper.wp
          go_simp
          exact ⟨_, rfl, hI, Below.refl _ _, fun d hd => by cases hd; exact rfl⟩
        · intro a W hI hsame ht
          obtain ⟨h95, _⟩ := ht
          change a.tmps.getD 95 undef = .bool true at h95
          rw [if_pos (by rfl)]
          clear hsame
          unfold Oper.wp
          go_simp
          exact ⟨_, rfl, hI, Below.refl _ _, fun d hd => by cases hd; exact rfl⟩
      · intro a W hI hsz hdef hsame hall
        have h6 := hall 6 (by decide)
        change a.tmps.getD 6 undef = .bool true at h6
        clear hall hsame
        go_wp2
        exact bodyPost_ret (results_tmp (by rfl) _ _ _) hdef ⟨congrArg Ending.returned h6, HBE.out _ hI⟩

theorem ownD : ownKnob Tryd.prog.godebug = none := by kernel_rfl
/- From the walk to the row. -/
set_option maxRecDepth 100000 in
theorem lifted (os : Os) (started : os.Started) (H : Type) (enc : TypeId × Value → H) :
    ReturnsInHanded {} Tryd.checked os 3 .any (fun w args => (Rows.valBytesSpec.pre enc Tryd.prog Tryd.f3 [] false w args ∧ laidMetH Tryd.prog Rows.valBytesRow.laid w) ∧ sizedMet enc Tryd.prog Tryd.f3 (OpenSpec.ofChange Rows.valBytesSpec) false w args)
      (Rows.valBytesSpec.post enc Tryd.prog Tryd.f3 false true false false) := by
  refine returnsInHanded_of_change_and (C := Tryd.checked) (X := fun w _ => laidMetH Tryd.prog Rows.valBytesRow.laid w) (fun _ _ _ hh h => h.of_heap hh) ownD started (by kernel_rfl) Tryd.func3
    (ChangeSpec.witness_shaped (enc := enc) (C := Tryd.checked) (os := os) (X := fun w _ => laidMetH Tryd.prog Rows.valBytesRow.laid w) false (laidW os) #[.agg #[.int .u8 0, .int .i64 0, .string ByteArray.empty], .slice none 0 0, .int .i64 0] 8 (World.laidAll_os _ _ _) (World.shaped_of_ZipB (by kernel_rfl) (by kernel_rfl)) (by kernel_rfl) (by kernel_rfl) (by kernel_rfl) (laidW_met os _)) ?_
  intro W base args ds gs before hval0 hW _ hsized hL _
  have hval : ∀ (j : Nat) t v, Tryd.f3.params[j]? = some t → args[j]? = some v → Value.okWide Tryd.prog W .any base t v := hval0
  have hW' := hW
  obtain ⟨p, q, hA0, hV, rfl, hfz, hnd⟩ := hW
  have hA : DataW.TrodAll enc Tryd.prog W 0 (fun _ => true) true Tryd.f3.params.toList args.toList ds p := hA0
  have hsz : (DataW.weightsEach Tryd.prog (Tryd.f3.params.toList ++ Rows.valBytesSpec.plain.varTypes Tryd.prog) (ds ++ gs)).all (· ≤ reachBytes) = true := hsized
  rw [Tryd.params3] at hA hval hsz
  obtain ⟨v0, vs0, d0, ds0, p0, q0, hargs, rfl, rfl, h0, r0⟩ := trodAll_cons hA
  obtain ⟨v1, vs1, d1, ds1, p1, q1, rfl, rfl, rfl, h1, r1⟩ := trodAll_cons r0
  obtain ⟨v2, vs2, d2, ds2, p2, q2, rfl, rfl, rfl, h2, r2⟩ := trodAll_cons r1
  obtain ⟨rfl, rfl, rfl⟩ := trodAll_nil r2
  obtain rfl : args = #[v0, v1, v2] := by cases args; simp_all
  obtain ⟨rfl, rfl⟩ := trodVars_none hV
  have k0 := h0
  have lt0 : ∀ x ∈ p0, x.block < W.heap.size := by obtain ⟨m, hm⟩ := k0; exact DataW.trod_lt m _ _ _ hm
  have wt0 := weights_of_each hsz (j := 0) (t := 23) (d := d0) rfl rfl
  obtain ⟨x0, rfl, gx0⟩ := val_of_arg (hval 0 23 v0 rfl rfl) h0 wt0
  obtain ⟨a1, len1, cap1, rfl⟩ := okWide_slice Tryd.underlying24 (hval 1 24 v1 rfl rfl)
  have k1 := h1
  have lt1 : ∀ x ∈ p1, x.block < W.heap.size := by obtain ⟨m, hm⟩ := k1; exact DataW.trod_lt m _ _ _ hm
  obtain ⟨z1, w1⟩ : ∃ zs, IsRow W a1 len1 cap1 zs := by
    obtain ⟨fuel, hf⟩ := h1
    rcases open_ints Tryd.underlying24 Tryd.underlying5 (by kernel_rfl) hf with ⟨hcs, _⟩ | ⟨x, l, c, zs, hcs, _, hl, hm, hz, _, hcell, hwz⟩
    · simp [Value.cells] at hcs
      obtain ⟨rfl, rfl, rfl⟩ := hcs
      exact ⟨[], .inl ⟨rfl, rfl, rfl, rfl⟩⟩
    · simp [Value.cells] at hcs
      obtain ⟨rfl, rfl, rfl⟩ := hcs
      exact ⟨zs, .inr ⟨_, rfl, hl, hm, by simpa using hz, hcell, hwz⟩⟩
  obtain ⟨l1, rfl, lc1, lm1, ll1, lb1⟩ := bytes_of_row w1
  obtain ⟨a2, rfl, rfl, rfl, w2⟩ := open_int Tryd.underlying3 (hval 2 3 v2 rfl rfl) h2
  clear hA0 hval0
  refine (walk x0 a1 cap1 l1 a2 W gx0 lc1 lm1 ll1 lb1 w2 (show Laid W from hL)).mono fun e W' ⟨he, bel⟩ => ?_
  subst he
  exact ⟨_, rfl, _, _, _, [], _, [], hW', trodAll_mk1 (shut_bool Tryd.underlying4 _), (trodAll_cons_mk (Below.trod laidOut (by kernel_rfl) (of_decide_eq_true (by kernel_rfl)) k0 bel lt0) (trodAll_cons_mk (Below.trod laidOut (by kernel_rfl) (of_decide_eq_true (by kernel_rfl)) k1 bel lt1) (trodAll_cons_mk (shut_int Tryd.underlying3 w2) trodAll_mk0))), rfl, bel.frame _, fun h => by cases h⟩

theorem over : Rows.valBytesRow.holds Tryd.pinned (OpenSpec.ofChange Rows.valBytesSpec) :=
  OpenClaim.holds_of_wide 3 Tryd.f3 rfl rfl rfl rfl rfl rfl rfl ⟨rfl, rfl, rfl, rfl, rfl⟩ rfl rfl rfl rfl rfl (by kernel_rfl) Tryd.func3 (by kernel_rfl)
    (of_decide_eq_true (by kernel_rfl)) (by unfold Func.isWrapper; first | (rw [if_pos (by decide +kernel)]; kernel_rfl) | (rw [if_neg (by decide +kernel)]; exact ⟨rfl, rfl⟩))
    (fun os started H enc _ => lifted os started H enc)

end valBytes

/-- The statement: the row, its listed variables tied to the program's text. -/
theorem valBytes_holds : Rows.ValBytesCardSaid :=
  Claim7.holds_tied_plain_at .later [] [.data, .data, .data, .data, .sentinel, .sentinel, .pinned] true (true, "88719163f0be6c57b02e7bb98f2eaab9280edf541af439c0432cd78538f613e3") true
    valBytes.over (fun _ h => by cases h) (by kernel_rfl) (fun _ h => by cases h) valBytes_row_tie rfl ⟨rfl, rfl⟩ (by kernel_rfl) rfl
    (fun f fn hf hfn => by
      obtain rfl : f = 3 := Option.some.inj ((show Tryd.prog.funcNamed "gristmill/gristmilllaw08.ValBytes" = some 3 by kernel_rfl).symm.trans hf) |>.symm
      obtain rfl : fn = Tryd.f3 := (Option.some.inj (Tryd.func3.symm.trans hfn)).symm
      exact ⟨by kernel_rfl, fun j t ht => by
        rw [Tryd.params3] at ht
        have hm := Array.mem_of_getElem? ht
        simp only [List.mem_toArray, List.mem_cons, List.not_mem_nil, or_false] at hm
        rcases hm with rfl | rfl | rfl
        · exact (show Tryd.prog.wantsStandIn 23 = false by kernel_rfl)
        · exact (show Tryd.prog.wantsStandIn 24 = false by kernel_rfl)
        · exact (show Tryd.prog.wantsStandIn 3 = false by kernel_rfl)⟩)
    (by kernel_rfl)
#print axioms valBytes_holds
end Go.Proofs.YtdgdkkapikopnaaDoor
