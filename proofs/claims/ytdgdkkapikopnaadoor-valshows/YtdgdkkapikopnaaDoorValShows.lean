/-
  For all values v, texts s and numbers n the law ValShows returns true (val.Show and val.Number answer as the document does, a number as a text is that number again, val.Int and val.Text make the values that the document says; and the example of the page holds), and the inputs read afterwards as before. Conditions: the row's own: the listed package-level variables read as the program's text lays them (the card ties them).
-/
import Derived.Test.YtdgdkkapikopnaaDoorRows
import Derived.Test.YtdgdkkapikopnaaDoorCards
import Derived.Test.YtdgdkkapikopnaaDoorTie
import Derived.SevenTiedAt
import Derived.Test.YtdgdkkapikopnaaDoorLBV
import Derived.Test.YtdgdkkapikopnaaDoorVArg
import Derived.Test.YtdgdkkapikopnaaDoorNROrder
import Derived.Test.YtdgdkkapikopnaaDoorNShow
import Derived.Test.YtdgdkkapikopnaaDoorNRNum
import Derived.Test.YtdgdkkapikopnaaDoorInv
namespace Go.Proofs.YtdgdkkapikopnaaDoor
namespace valShows
open Go.ChangeShapes Go.WideShapes Go.ChangeAt Go.RowKit
set_option linter.unusedVariables false

/-- What each slot of the last region holds. -/
def V (N : Nat) (k p n m f : Int) (s t z : ByteArray) (d : Nat) (W : World) (v : Value) : Prop :=
  match d with
  | 40 | 42 => v = .agg #[.int .u8 k, .int .i64 p, .string t]
  | 41 | 43 => v = .string z
  | 46 | 47 => v = .int .i64 m
  | 51 | 52 | 53 => v = .int .i64 f
  | 57 | 58 | 74 | 76 => v = .int .i64 n
  | 62 | 63 => v = .int .i64 0
  | 67 | 69 => v = .string s
  | 68 | 70 => v = .agg #[.int .u8 1, .int .i64 0, .string s]
  | 75 | 77 => v = .agg #[.int .u8 0, .int .i64 n, .string ⟨#[]⟩]
  | 44 | 45 | 48 | 49 | 50 | 54 | 55 | 56 | 59 | 60 | 61 | 64 | 65 | 66 | 71 | 72 | 73 | 78 | 79 | 80 | 81 | 82 | 6 => v = .bool true
  | _ => True
theorem V.keep (N : Nat) (k p n m f : Int) (s t z : ByteArray) (d : Nat) (W W' : World) (v : Value) (hb : Below W.heap.size W W') (h : V N k p n m f s t z d W v) : V N k p n m f s t z d W' v := by
  unfold V at *
  split at h
  all_goals first | exact h | (obtain ⟨A, c, rfl, h⟩ := h; exact ⟨A, c, rfl, h.below hb⟩)

theorem ordV_same (a : Vl) : decide (ordV a a = 0) = true := by
  have h := ordV_neg a a
  exact decide_eq_true (by omega)
set_option maxRecDepth 100000 in
set_option maxHeartbeats 4000000 in
theorem walk (v : Vl) (s : ByteArray) (n : Int) (w : World) (gv : v.Good) (hs : s.size ≤ reachBytes) (hn : (Lit.int .i64 n).wf = true) (hL : Laid w) :
    Calls Tryd.prog 5 #[v.v, .string s, .int .i64 n] w fun e w' => e = .returned (.bool true) ∧ Below w.heap.size w w' := by
  have hv := errV_of_laid hL
  have htab : TabV w := fun V hV => Go.Joins.tab_stays g_tab (tab_of_laid hL) hV (Nat.le_refl _)
  have hn2 := bounds_i64 hn
  have hn3 : I64 n := ⟨by omega, by omega⟩
  have ha2 : v.s.size ≤ 140737488351232 := gv.s1
  have hs2 : s.size ≤ 140737488351232 := hs
  have hvn : I64 v.n := ⟨gv.n0, gv.n1⟩
  have hvB : ∀ W, Below w.heap.size w W → ErrV W := fun W hW => hv.below hW
  have htB : ∀ W, Below w.heap.size w W → TabV W := fun W hW V hV => htab V (hW.trans (hV.mono hW.size))
  have HV0 := Lib.hid hvB
  have HT0 := Lib.hid htB
  have HSH := Lib.hid (fun W (hT : TabV W) => show_calls v hvn W hT)
  have HRS := Lib.hid (fun W => rshow_calls v hvn W)
  have HTX := Lib.hid (text1_calls s)
  have HIN := Lib.hid (int_calls n)
  have HS1 := Lib.hid (fun W => same_calls ⟨1, 0, s⟩ ⟨1, 0, s⟩ W hs hs)
  have HS2 := Lib.hid (fun W => same_calls ⟨0, n, ⟨#[]⟩⟩ ⟨0, n, ⟨#[]⟩⟩ W (Nat.zero_le _) (Nat.zero_le _))
  rw [ordV_same] at HS1 HS2
  have HNU := Lib.hid (fun W (hW : ErrV W) => number_calls s hs W hW)
  have HRN := Lib.hid (fun W => rnumber_calls s hs W)
  have HSN := Lib.hid (fun W (hT : TabV W) => show_calls ⟨0, n, ⟨#[]⟩⟩ hn3 W hT)
  have hz21 := itS_size hn3
  have HNI := Lib.hid (show ∀ W, ErrV W → Calls Tryd.prog 15 #[.string (itS n)] W fun e w' => e = .returned (.tuple #[.int .i64 n, .int .i64 0]) ∧ Below W.heap.size W w' from fun W hW => by
    have h9 := number_calls (itS n) (Nat.le_trans hz21 (by decide)) W hW
    rw [itS_data, numD_itoa n hn3.1 hn3.2] at h9
    exact h9)
  rw [show showV ⟨0, n, ⟨#[]⟩⟩ = itS n by unfold showV; rw [if_pos rfl]] at HSN
  clear hv htab gv hs hn hL hvn hvB htB hn2
  generalize (numD s.data.toList).1 = m at *
  generalize (numD s.data.toList).2 = f at *
  generalize showV v = z at *
  generalize itS n = y at *
  obtain ⟨k, p, t⟩ := v
  unfold Vl.v at *
  dsimp only at *
  have hB1 := below_one w (.cells #[.int .u8 k, .int .i64 p, .string t] 23)
  have bx := Blk.new w #[.int .u8 k, .int .i64 p, .string t] 23
  obtain ⟨x0, x1, x2⟩ := bx.cells3
  have HB1 := Lib.hid hB1
  have HX0 := Lib.hid bx
  clear hB1 bx
  have HLV := Lib.hid (fun W hW => live_calls W (HV0.out W hW))
  by_cases h1 : 2000 < t.size
  · go_enter Tryd.func5, Tryd.ntmps5
    go_wp2_with fail
    refine (HLV.out _ HB1.out).mono ?_
    rintro e w9 ⟨rfl, hb9⟩
    dsimp only
    go_wp2
    go_ret
    exact ⟨rfl, HB1.out.trans (hb9.mono HB1.out.size)⟩
  · by_cases h2 : 2000 < s.size
    · go_enter Tryd.func5, Tryd.ntmps5
      go_wp2_with fail
      refine (HLV.out _ HB1.out).mono ?_
      rintro e w9 ⟨rfl, hb9⟩
      dsimp only
      go_wp2
      go_ret
      exact ⟨rfl, HB1.out.trans (hb9.mono HB1.out.size)⟩
    · go_enter Tryd.func5, Tryd.ntmps5
      go_wp2_with fail
      refine (HNU.out _ (HV0.out _ HB1.out)).mono ?_
      rintro e w1 ⟨rfl, hb1⟩
      have HC1 := Lib.hid (HB1.out.trans (hb1.mono HB1.out.size))
      have HX1 := Lib.hid (HX0.out.belowAll hb1)
      clear hb1
      dsimp only
      go_wp2_with fail
      refine (HRN.out _).mono ?_
      rintro e w1' ⟨rfl, he1⟩
      subst w1'
      dsimp only
      go_wp2_with fail
      refine (HIN.out _).mono ?_
      rintro e w2 ⟨rfl, hb2⟩
      have HC2 := Lib.hid (HC1.out.trans (hb2.mono HC1.out.size))
      have HX2 := Lib.hid (HX1.out.belowAll hb2)
      clear hb2
      dsimp only
      go_wp2_with fail
      refine (HSN.out _ (HT0.out _ HC2.out)).mono ?_
      rintro e w3 ⟨rfl, hb3⟩
      have HC3 := Lib.hid (HC2.out.trans (hb3.mono HC2.out.size))
      have HX3 := Lib.hid (HX2.out.belowAll hb3)
      clear hb3
      dsimp only
      go_wp2_with fail
      refine (HNI.out _ (HV0.out _ HC3.out)).mono ?_
      rintro e w4 ⟨rfl, hb4⟩
      have hc4 := HC3.out.trans (hb4.mono HC3.out.size)
      have hx4 := HX3.out.belowAll hb4
      dsimp only
      have HX := Lib.hid (fun (W : World) (hW : Below w4.heap.size w4 W) => hx4.belowAll hW)
      have HBE := Lib.hid (fun (W : World) (hW : Below w4.heap.size w4 W) => hc4.trans (hW.mono hc4.size))
      have HV := Lib.hid (fun (W : World) (hW : Below w4.heap.size w4 W) => HV0.out W (HBE.out W hW))
      have HTB := Lib.hid (fun (W : World) (hW : Below w4.heap.size w4 W) => HT0.out W (HBE.out W hW))
      have hB0 : Below w4.heap.size w4 w4.drew := below_drew _
      clear hb4 hc4 hx4
      go_wp2_with fail
      generalize hN : w.heap.size = N at *
      have HNN := Lib.hid hN
      clear hN
      refine wp_region_inv (by kernel_rfl) (fun W => Below w4.heap.size w4 W) (fun W W' => Below W.heap.size W W') (V N k p n m f s t z) [[], [40], [], [42], [41, 43], [44], [45], [45], [46, 47, 45], [45, 48], [49], [50], [51, 50], [50], [52, 53, 50], [50, 54], [55], [56], [56], [57, 58, 56], [56, 59], [60], [61], [62, 61], [63, 61], [61, 64], [65], [66], [67, 66], [66], [69, 66], [68, 70, 66], [66, 71], [72], [73], [74, 73], [73], [76, 73], [75, 77, 73], [73, 78], [79], [80], [80, 81], [82]] (by kernel_rfl) (fun W => Below.refl _ _) (fun d W W' v => V.keep N k p n m f s t z d W W' v) hB0 ?_ ?_
      · refine ⟨?_, ?_, ?_, ?_, ?_, ?_, ?_, ?_, ?_, ?_, ?_, ?_, ?_, ?_, ?_, ?_, ?_, ?_, ?_, ?_, ?_, ?_, ?_, ?_, ?_, ?_, ?_, ?_, ?_, ?_, ?_, ?_, ?_, ?_, ?_, ?_, ?_, ?_, ?_, ?_, ?_, ?_, ?_, ?_, trivial⟩
        · intro a W hI hsame ht
          have h3 := hsame 3 (by decide)
          change a.tmps.getD 3 undef = .pointer (some ⟨N, 0, none⟩) at h3
          rw [if_pos (by rfl)]
          clear hsame
          obtain ⟨x0, x1, x2⟩ := (HX.out W hI).cells3
          unfold Oper.wp
          go_simp
          exact ⟨_, rfl, hI, Below.refl _ _, fun d hd => by cases hd; exact rfl⟩
        · intro a W hI hsame ht
          obtain ⟨h40, _⟩ := ht
          change a.tmps.getD 40 undef = .agg #[.int .u8 k, .int .i64 p, .string t] at h40
          rw [if_pos (by rfl)]
          clear hsame
          unfold Oper.wp
          go_simp
          refine (HSH.out W (HTB.out W hI)).mono ?_
          rintro e' W' ⟨rfl, hb⟩
          exact ⟨_, rfl, Below.on hI hb, hb, fun d hd => by cases hd; exact rfl⟩
        · intro a W hI hsame ht
          have h3 := hsame 3 (by decide)
          change a.tmps.getD 3 undef = .pointer (some ⟨N, 0, none⟩) at h3
          rw [if_pos (by rfl)]
          clear hsame
          obtain ⟨x0, x1, x2⟩ := (HX.out W hI).cells3
          unfold Oper.wp
          go_simp
          exact ⟨_, rfl, hI, Below.refl _ _, fun d hd => by cases hd; exact rfl⟩
        · intro a W hI hsame ht
          obtain ⟨h42, _⟩ := ht
          change a.tmps.getD 42 undef = .agg #[.int .u8 k, .int .i64 p, .string t] at h42
          rw [if_pos (by rfl)]
          clear hsame
          unfold Oper.wp
          go_simp
          refine (HRS.out W).mono ?_
          rintro e' W' ⟨rfl, hb⟩
          exact ⟨_, rfl, Below.on hI hb, hb, fun d hd => by cases hd; exact rfl⟩
        · intro a W hI hsame ht
          obtain ⟨h41, h43, _⟩ := ht
          change a.tmps.getD 41 undef = .string z at h41
          change a.tmps.getD 43 undef = .string z at h43
          rw [if_pos (by rfl)]
          clear hsame
          unfold Oper.wp
          go_simp
          exact ⟨_, rfl, hI, Below.refl _ _, fun d hd => by cases hd; exact rfl⟩
        · intro a W hI hsame ht
          obtain ⟨h44, _⟩ := ht
          change a.tmps.getD 44 undef = .bool true at h44
          rw [if_pos (by rfl)]
          clear hsame
          unfold Oper.wp
          go_simp
          exact ⟨_, rfl, hI, Below.refl _ _, fun d hd => by cases hd; exact rfl⟩
        · intro a W hI hsame ht
          obtain ⟨h45, _⟩ := ht
          change a.tmps.getD 45 undef = .bool true at h45
          have h7 := hsame 7 (by decide)
          change a.tmps.getD 7 undef = .int .i64 m at h7
          rw [if_pos (wanted_true (j := 5) (d := 45) rfl rfl h45)]
          clear hsame
          unfold Oper.wp
          go_simp
          exact ⟨_, rfl, hI, Below.refl _ _, fun d hd => by cases hd; exact rfl⟩
        · intro a W hI hsame ht
          obtain ⟨h45, _⟩ := ht
          change a.tmps.getD 45 undef = .bool true at h45
          have h9 := hsame 9 (by decide)
          change a.tmps.getD 9 undef = .int .i64 m at h9
          rw [if_pos (wanted_true (j := 5) (d := 45) rfl rfl h45)]
          clear hsame
          unfold Oper.wp
          go_simp
          exact ⟨_, rfl, hI, Below.refl _ _, fun d hd => by cases hd; exact rfl⟩
        · intro a W hI hsame ht
          obtain ⟨h46, h47, h45, _⟩ := ht
          change a.tmps.getD 46 undef = .int .i64 m at h46
          change a.tmps.getD 47 undef = .int .i64 m at h47
          change a.tmps.getD 45 undef = .bool true at h45
          rw [if_pos (wanted_true (j := 5) (d := 45) rfl rfl h45)]
          clear hsame
          unfold Oper.wp
          go_simp
          exact ⟨_, rfl, hI, Below.refl _ _, fun d hd => by cases hd; exact rfl⟩
        · intro a W hI hsame ht
          obtain ⟨h45, h48, _⟩ := ht
          change a.tmps.getD 45 undef = .bool true at h45
          change a.tmps.getD 48 undef = .bool true at h48
          rw [if_pos (by rfl)]
          clear hsame
          unfold Oper.wp
          go_simp
          exact ⟨_, rfl, hI, Below.refl _ _, fun d hd => by cases hd; exact rfl⟩
        · intro a W hI hsame ht
          obtain ⟨h49, _⟩ := ht
          change a.tmps.getD 49 undef = .bool true at h49
          rw [if_pos (by rfl)]
          clear hsame
          unfold Oper.wp
          go_simp
          exact ⟨_, rfl, hI, Below.refl _ _, fun d hd => by cases hd; exact rfl⟩
        · intro a W hI hsame ht
          obtain ⟨h50, _⟩ := ht
          change a.tmps.getD 50 undef = .bool true at h50
          have h8 := hsame 8 (by decide)
          change a.tmps.getD 8 undef = .int .i64 f at h8
          rw [if_pos (wanted_true (j := 10) (d := 50) rfl rfl h50)]
          clear hsame
          unfold Oper.wp
          go_simp
          exact ⟨_, rfl, hI, Below.refl _ _, fun d hd => by cases hd; exact rfl⟩
        · intro a W hI hsame ht
          obtain ⟨h51, h50, _⟩ := ht
          change a.tmps.getD 51 undef = .int .i64 f at h51
          change a.tmps.getD 50 undef = .bool true at h50
          rw [if_pos (wanted_true (j := 10) (d := 50) rfl rfl h50)]
          clear hsame
          unfold Oper.wp
          go_simp
          refine (code_calls _ _).mono ?_
          rintro e' W' ⟨rfl, rfl⟩
          exact ⟨_, rfl, hI, Below.refl _ _, fun d hd => by cases hd; exact rfl⟩
        · intro a W hI hsame ht
          obtain ⟨h50, _⟩ := ht
          change a.tmps.getD 50 undef = .bool true at h50
          have h10 := hsame 10 (by decide)
          change a.tmps.getD 10 undef = .int .i64 f at h10
          rw [if_pos (wanted_true (j := 10) (d := 50) rfl rfl h50)]
          clear hsame
          unfold Oper.wp
          go_simp
          exact ⟨_, rfl, hI, Below.refl _ _, fun d hd => by cases hd; exact rfl⟩
        · intro a W hI hsame ht
          obtain ⟨h52, h53, h50, _⟩ := ht
          change a.tmps.getD 52 undef = .int .i64 f at h52
          change a.tmps.getD 53 undef = .int .i64 f at h53
          change a.tmps.getD 50 undef = .bool true at h50
          rw [if_pos (wanted_true (j := 10) (d := 50) rfl rfl h50)]
          clear hsame
          unfold Oper.wp
          go_simp
          exact ⟨_, rfl, hI, Below.refl _ _, fun d hd => by cases hd; exact rfl⟩
        · intro a W hI hsame ht
          obtain ⟨h50, h54, _⟩ := ht
          change a.tmps.getD 50 undef = .bool true at h50
          change a.tmps.getD 54 undef = .bool true at h54
          rw [if_pos (by rfl)]
          clear hsame
          unfold Oper.wp
          go_simp
          exact ⟨_, rfl, hI, Below.refl _ _, fun d hd => by cases hd; exact rfl⟩
        · intro a W hI hsame ht
          obtain ⟨h55, _⟩ := ht
          change a.tmps.getD 55 undef = .bool true at h55
          rw [if_pos (by rfl)]
          clear hsame
          unfold Oper.wp
          go_simp
          exact ⟨_, rfl, hI, Below.refl _ _, fun d hd => by cases hd; exact rfl⟩
        · intro a W hI hsame ht
          obtain ⟨h56, _⟩ := ht
          change a.tmps.getD 56 undef = .bool true at h56
          have h11 := hsame 11 (by decide)
          change a.tmps.getD 11 undef = .int .i64 n at h11
          rw [if_pos (wanted_true (j := 16) (d := 56) rfl rfl h56)]
          clear hsame
          unfold Oper.wp
          go_simp
          exact ⟨_, rfl, hI, Below.refl _ _, fun d hd => by cases hd; exact rfl⟩
        · intro a W hI hsame ht
          obtain ⟨h56, _⟩ := ht
          change a.tmps.getD 56 undef = .bool true at h56
          have h2 := hsame 2 (by decide)
          change a.tmps.getD 2 undef = .int .i64 n at h2
          rw [if_pos (wanted_true (j := 16) (d := 56) rfl rfl h56)]
          clear hsame
          unfold Oper.wp
          go_simp
          exact ⟨_, rfl, hI, Below.refl _ _, fun d hd => by cases hd; exact rfl⟩
        · intro a W hI hsame ht
          obtain ⟨h57, h58, h56, _⟩ := ht
          change a.tmps.getD 57 undef = .int .i64 n at h57
          change a.tmps.getD 58 undef = .int .i64 n at h58
          change a.tmps.getD 56 undef = .bool true at h56
          rw [if_pos (wanted_true (j := 16) (d := 56) rfl rfl h56)]
          clear hsame
          unfold Oper.wp
          go_simp
          exact ⟨_, rfl, hI, Below.refl _ _, fun d hd => by cases hd; exact rfl⟩
        · intro a W hI hsame ht
          obtain ⟨h56, h59, _⟩ := ht
          change a.tmps.getD 56 undef = .bool true at h56
          change a.tmps.getD 59 undef = .bool true at h59
          rw [if_pos (by rfl)]
          clear hsame
          unfold Oper.wp
          go_simp
          exact ⟨_, rfl, hI, Below.refl _ _, fun d hd => by cases hd; exact rfl⟩
        · intro a W hI hsame ht
          obtain ⟨h60, _⟩ := ht
          change a.tmps.getD 60 undef = .bool true at h60
          rw [if_pos (by rfl)]
          clear hsame
          unfold Oper.wp
          go_simp
          exact ⟨_, rfl, hI, Below.refl _ _, fun d hd => by cases hd; exact rfl⟩
        · intro a W hI hsame ht
          obtain ⟨h61, _⟩ := ht
          change a.tmps.getD 61 undef = .bool true at h61
          have h12 := hsame 12 (by decide)
          change a.tmps.getD 12 undef = .int .i64 0 at h12
          rw [if_pos (wanted_true (j := 21) (d := 61) rfl rfl h61)]
          clear hsame
          unfold Oper.wp
          go_simp
          exact ⟨_, rfl, hI, Below.refl _ _, fun d hd => by cases hd; exact rfl⟩
        · intro a W hI hsame ht
          obtain ⟨h62, h61, _⟩ := ht
          change a.tmps.getD 62 undef = .int .i64 0 at h62
          change a.tmps.getD 61 undef = .bool true at h61
          rw [if_pos (wanted_true (j := 21) (d := 61) rfl rfl h61)]
          clear hsame
          unfold Oper.wp
          go_simp
          refine (code_calls _ _).mono ?_
          rintro e' W' ⟨rfl, rfl⟩
          exact ⟨_, rfl, hI, Below.refl _ _, fun d hd => by cases hd; exact rfl⟩
        · intro a W hI hsame ht
          obtain ⟨h63, h61, _⟩ := ht
          change a.tmps.getD 63 undef = .int .i64 0 at h63
          change a.tmps.getD 61 undef = .bool true at h61
          rw [if_pos (wanted_true (j := 21) (d := 61) rfl rfl h61)]
          clear hsame
          unfold Oper.wp
          go_simp
          exact ⟨_, rfl, hI, Below.refl _ _, fun d hd => by cases hd; exact rfl⟩
        · intro a W hI hsame ht
          obtain ⟨h61, h64, _⟩ := ht
          change a.tmps.getD 61 undef = .bool true at h61
          change a.tmps.getD 64 undef = .bool true at h64
          rw [if_pos (by rfl)]
          clear hsame
          unfold Oper.wp
          go_simp
          exact ⟨_, rfl, hI, Below.refl _ _, fun d hd => by cases hd; exact rfl⟩
        · intro a W hI hsame ht
          obtain ⟨h65, _⟩ := ht
          change a.tmps.getD 65 undef = .bool true at h65
          rw [if_pos (by rfl)]
          clear hsame
          unfold Oper.wp
          go_simp
          exact ⟨_, rfl, hI, Below.refl _ _, fun d hd => by cases hd; exact rfl⟩
        · intro a W hI hsame ht
          obtain ⟨h66, _⟩ := ht
          change a.tmps.getD 66 undef = .bool true at h66
          have h1 := hsame 1 (by decide)
          change a.tmps.getD 1 undef = .string s at h1
          rw [if_pos (wanted_true (j := 26) (d := 66) rfl rfl h66)]
          clear hsame
          unfold Oper.wp
          go_simp
          exact ⟨_, rfl, hI, Below.refl _ _, fun d hd => by cases hd; exact rfl⟩
        · intro a W hI hsame ht
          obtain ⟨h67, h66, _⟩ := ht
          change a.tmps.getD 67 undef = .string s at h67
          change a.tmps.getD 66 undef = .bool true at h66
          rw [if_pos (wanted_true (j := 26) (d := 66) rfl rfl h66)]
          clear hsame
          unfold Oper.wp
          go_simp
          refine (HTX.out W).mono ?_
          rintro e' W' ⟨rfl, hb⟩
          exact ⟨_, rfl, Below.on hI hb, hb, fun d hd => by cases hd; exact rfl⟩
        · intro a W hI hsame ht
          obtain ⟨h66, _⟩ := ht
          change a.tmps.getD 66 undef = .bool true at h66
          have h1 := hsame 1 (by decide)
          change a.tmps.getD 1 undef = .string s at h1
          rw [if_pos (wanted_true (j := 26) (d := 66) rfl rfl h66)]
          clear hsame
          unfold Oper.wp
          go_simp
          exact ⟨_, rfl, hI, Below.refl _ _, fun d hd => by cases hd; exact rfl⟩
        · intro a W hI hsame ht
          obtain ⟨h69, h66, _⟩ := ht
          change a.tmps.getD 69 undef = .string s at h69
          change a.tmps.getD 66 undef = .bool true at h66
          rw [if_pos (wanted_true (j := 26) (d := 66) rfl rfl h66)]
          clear hsame
          rw [Array.getD_eq_getD_getElem?] at h69
          unfold Oper.wp
          go_simp
          exact ⟨_, rfl, hI, Below.refl _ _, fun d hd => by cases hd; exact rfl⟩
        · intro a W hI hsame ht
          obtain ⟨h68, h70, h66, _⟩ := ht
          change a.tmps.getD 68 undef = .agg #[.int .u8 1, .int .i64 0, .string s] at h68
          change a.tmps.getD 70 undef = .agg #[.int .u8 1, .int .i64 0, .string s] at h70
          change a.tmps.getD 66 undef = .bool true at h66
          rw [if_pos (wanted_true (j := 26) (d := 66) rfl rfl h66)]
          clear hsame
          unfold Oper.wp
          go_simp
          refine (HS1.out W).mono ?_
          rintro e' W' ⟨rfl, hb⟩
          exact ⟨_, rfl, Below.on hI hb, hb, fun d hd => by cases hd; exact rfl⟩
        · intro a W hI hsame ht
          obtain ⟨h66, h71, _⟩ := ht
          change a.tmps.getD 66 undef = .bool true at h66
          change a.tmps.getD 71 undef = .bool true at h71
          rw [if_pos (by rfl)]
          clear hsame
          unfold Oper.wp
          go_simp
          exact ⟨_, rfl, hI, Below.refl _ _, fun d hd => by cases hd; exact rfl⟩
        · intro a W hI hsame ht
          obtain ⟨h72, _⟩ := ht
          change a.tmps.getD 72 undef = .bool true at h72
          rw [if_pos (by rfl)]
          clear hsame
          unfold Oper.wp
          go_simp
          exact ⟨_, rfl, hI, Below.refl _ _, fun d hd => by cases hd; exact rfl⟩
        · intro a W hI hsame ht
          obtain ⟨h73, _⟩ := ht
          change a.tmps.getD 73 undef = .bool true at h73
          have h2 := hsame 2 (by decide)
          change a.tmps.getD 2 undef = .int .i64 n at h2
          rw [if_pos (wanted_true (j := 33) (d := 73) rfl rfl h73)]
          clear hsame
          unfold Oper.wp
          go_simp
          exact ⟨_, rfl, hI, Below.refl _ _, fun d hd => by cases hd; exact rfl⟩
        · intro a W hI hsame ht
          obtain ⟨h74, h73, _⟩ := ht
          change a.tmps.getD 74 undef = .int .i64 n at h74
          change a.tmps.getD 73 undef = .bool true at h73
          rw [if_pos (wanted_true (j := 33) (d := 73) rfl rfl h73)]
          clear hsame
          unfold Oper.wp
          go_simp
          refine (HIN.out W).mono ?_
          rintro e' W' ⟨rfl, hb⟩
          exact ⟨_, rfl, Below.on hI hb, hb, fun d hd => by cases hd; exact rfl⟩
        · intro a W hI hsame ht
          obtain ⟨h73, _⟩ := ht
          change a.tmps.getD 73 undef = .bool true at h73
          have h2 := hsame 2 (by decide)
          change a.tmps.getD 2 undef = .int .i64 n at h2
          rw [if_pos (wanted_true (j := 33) (d := 73) rfl rfl h73)]
          clear hsame
          unfold Oper.wp
          go_simp
          exact ⟨_, rfl, hI, Below.refl _ _, fun d hd => by cases hd; exact rfl⟩
        · intro a W hI hsame ht
          obtain ⟨h76, h73, _⟩ := ht
          change a.tmps.getD 76 undef = .int .i64 n at h76
          change a.tmps.getD 73 undef = .bool true at h73
          rw [if_pos (wanted_true (j := 33) (d := 73) rfl rfl h73)]
          clear hsame
          rw [Array.getD_eq_getD_getElem?] at h76
          unfold Oper.wp
          go_simp
          exact ⟨_, rfl, hI, Below.refl _ _, fun d hd => by cases hd; exact rfl⟩
        · intro a W hI hsame ht
          obtain ⟨h75, h77, h73, _⟩ := ht
          change a.tmps.getD 75 undef = .agg #[.int .u8 0, .int .i64 n, .string ⟨#[]⟩] at h75
          change a.tmps.getD 77 undef = .agg #[.int .u8 0, .int .i64 n, .string ⟨#[]⟩] at h77
          change a.tmps.getD 73 undef = .bool true at h73
          rw [if_pos (wanted_true (j := 33) (d := 73) rfl rfl h73)]
          clear hsame
          unfold Oper.wp
          go_simp
          refine (HS2.out W).mono ?_
          rintro e' W' ⟨rfl, hb⟩
          exact ⟨_, rfl, Below.on hI hb, hb, fun d hd => by cases hd; exact rfl⟩
        · intro a W hI hsame ht
          obtain ⟨h73, h78, _⟩ := ht
          change a.tmps.getD 73 undef = .bool true at h73
          change a.tmps.getD 78 undef = .bool true at h78
          rw [if_pos (by rfl)]
          clear hsame
          unfold Oper.wp
          go_simp
          exact ⟨_, rfl, hI, Below.refl _ _, fun d hd => by cases hd; exact rfl⟩
        · intro a W hI hsame ht
          obtain ⟨h79, _⟩ := ht
          change a.tmps.getD 79 undef = .bool true at h79
          rw [if_pos (by rfl)]
          clear hsame
          unfold Oper.wp
          go_simp
          exact ⟨_, rfl, hI, Below.refl _ _, fun d hd => by cases hd; exact rfl⟩
        · intro a W hI hsame ht
          obtain ⟨h80, _⟩ := ht
          change a.tmps.getD 80 undef = .bool true at h80
          rw [if_pos (wanted_true (j := 40) (d := 80) rfl rfl h80)]
          clear hsame
          unfold Oper.wp
          go_simp
          refine (live_calls _ (HV.out W hI)).mono ?_
          rintro e' W' ⟨rfl, hb⟩
          exact ⟨_, rfl, Below.on hI hb, hb, fun d hd => by cases hd; exact rfl⟩
        · intro a W hI hsame ht
          obtain ⟨h80, h81, _⟩ := ht
          change a.tmps.getD 80 undef = .bool true at h80
          change a.tmps.getD 81 undef = .bool true at h81
          rw [if_pos (by rfl)]
          clear hsame
          unfold Oper.wp
          go_simp
          exact ⟨_, rfl, hI, Below.refl _ _, fun d hd => by cases hd; exact rfl⟩
        · intro a W hI hsame ht
          obtain ⟨h82, _⟩ := ht
          change a.tmps.getD 82 undef = .bool true at h82
          rw [if_pos (by rfl)]
          clear hsame
          unfold Oper.wp
          go_simp
          exact ⟨_, rfl, hI, Below.refl _ _, fun d hd => by cases hd; exact rfl⟩
      · intro a W hI hsz hdef hsame hall
        have h6 := hall 6 (by decide)
        change a.tmps.getD 6 undef = .bool true at h6
        clear hall hsame
        go_wp2
        exact bodyPost_ret (results_tmp (by rfl) _ _ _) hdef ⟨congrArg Ending.returned h6, by rw [HNN.out]; exact HBE.out _ hI⟩

theorem ownD : ownKnob Tryd.prog.godebug = none := by kernel_rfl
/- From the walk to the row. -/
set_option maxRecDepth 100000 in
theorem lifted (os : Os) (started : os.Started) (H : Type) (enc : TypeId × Value → H) :
    ReturnsInHanded {} Tryd.checked os 5 .any (fun w args => (Rows.valShowsSpec.pre enc Tryd.prog Tryd.f5 [] false w args ∧ laidMetH Tryd.prog Rows.valShowsRow.laid w) ∧ sizedMet enc Tryd.prog Tryd.f5 (OpenSpec.ofChange Rows.valShowsSpec) false w args)
      (Rows.valShowsSpec.post enc Tryd.prog Tryd.f5 false true false false) := by
  refine returnsInHanded_of_change_and (C := Tryd.checked) (X := fun w _ => laidMetH Tryd.prog Rows.valShowsRow.laid w) (fun _ _ _ hh h => h.of_heap hh) ownD started (by kernel_rfl) Tryd.func5
    (ChangeSpec.witness_shaped (enc := enc) (C := Tryd.checked) (os := os) (X := fun w _ => laidMetH Tryd.prog Rows.valShowsRow.laid w) false (laidW os) #[.agg #[.int .u8 0, .int .i64 0, .string ByteArray.empty], .string ByteArray.empty, .int .i64 0] 8 (World.laidAll_os _ _ _) (World.shaped_of_ZipB (by kernel_rfl) (by kernel_rfl)) (by kernel_rfl) (by kernel_rfl) (by kernel_rfl) (laidW_met os _)) ?_
  intro W base args ds gs before hval0 hW _ hsized hL _
  have hval : ∀ (j : Nat) t v, Tryd.f5.params[j]? = some t → args[j]? = some v → Value.okWide Tryd.prog W .any base t v := hval0
  have hW' := hW
  obtain ⟨p, q, hA0, hV, rfl, hfz, hnd⟩ := hW
  have hA : DataW.TrodAll enc Tryd.prog W 0 (fun _ => true) true Tryd.f5.params.toList args.toList ds p := hA0
  have hsz : (DataW.weightsEach Tryd.prog (Tryd.f5.params.toList ++ Rows.valShowsSpec.plain.varTypes Tryd.prog) (ds ++ gs)).all (· ≤ reachBytes) = true := hsized
  rw [Tryd.params5] at hA hval hsz
  obtain ⟨v0, vs0, d0, ds0, p0, q0, hargs, rfl, rfl, h0, r0⟩ := trodAll_cons hA
  obtain ⟨v1, vs1, d1, ds1, p1, q1, rfl, rfl, rfl, h1, r1⟩ := trodAll_cons r0
  obtain ⟨v2, vs2, d2, ds2, p2, q2, rfl, rfl, rfl, h2, r2⟩ := trodAll_cons r1
  obtain ⟨rfl, rfl, rfl⟩ := trodAll_nil r2
  obtain rfl : args = #[v0, v1, v2] := by cases args; simp_all
  obtain ⟨rfl, rfl⟩ := trodVars_none hV
  have k0 := h0
  have lt0 : ∀ x ∈ p0, x.block < W.heap.size := by obtain ⟨m, hm⟩ := k0; exact DataW.trod_lt m _ _ _ hm
  have wt0 := weights_of_each hsz (j := 0) (t := 23) (d := d0) rfl rfl
  obtain ⟨x0, rfl, gx0⟩ := val_of_arg (hval 0 23 v0 rfl rfl) h0 wt0
  obtain ⟨s1, rfl, rfl, rfl, w1⟩ := Go.ChangeMaps.open_string Tryd.underlying9 (hval 1 9 v1 rfl rfl) h1
  have wt1 := weights_of_each hsz (j := 1) (t := 9) (d := _) rfl rfl
  have ws1 : s1.size ≤ reachBytes := by have := wt1 s1.data.toList.length (by simp [DataW.weights]); simpa using this
  obtain ⟨a2, rfl, rfl, rfl, w2⟩ := open_int Tryd.underlying3 (hval 2 3 v2 rfl rfl) h2
  clear hA0 hval0
  refine (walk x0 s1 a2 W gx0 ws1 w2 (show Laid W from hL)).mono fun e W' ⟨he, bel⟩ => ?_
  subst he
  exact ⟨_, rfl, _, _, _, [], _, [], hW', trodAll_mk1 (shut_bool Tryd.underlying4 _), (trodAll_cons_mk (Below.trod laidOut (by kernel_rfl) (of_decide_eq_true (by kernel_rfl)) k0 bel lt0) (trodAll_cons_mk (Go.ChangeMaps.shut_string Tryd.underlying9 w1) (trodAll_cons_mk (shut_int Tryd.underlying3 w2) trodAll_mk0))), rfl, bel.frame _, fun h => by cases h⟩

theorem over : Rows.valShowsRow.holds Tryd.pinned (OpenSpec.ofChange Rows.valShowsSpec) :=
  OpenClaim.holds_of_wide 5 Tryd.f5 rfl rfl rfl rfl rfl rfl rfl ⟨rfl, rfl, rfl, rfl, rfl⟩ rfl rfl rfl rfl rfl (by kernel_rfl) Tryd.func5 (by kernel_rfl)
    (of_decide_eq_true (by kernel_rfl)) (by unfold Func.isWrapper; first | (rw [if_pos (by decide +kernel)]; kernel_rfl) | (rw [if_neg (by decide +kernel)]; exact ⟨rfl, rfl⟩))
    (fun os started H enc _ => lifted os started H enc)

end valShows

/-- The statement: the row, its listed variables tied to the program's text. -/
theorem valShows_holds : Rows.ValShowsCardSaid :=
  Claim7.holds_tied_plain_at .later [] [.data, .data, .data, .data, .sentinel, .sentinel, .pinned] true (true, "88719163f0be6c57b02e7bb98f2eaab9280edf541af439c0432cd78538f613e3") true
    valShows.over (fun _ h => by cases h) (by kernel_rfl) (fun _ h => by cases h) valShows_row_tie rfl ⟨rfl, rfl⟩ (by kernel_rfl) rfl
    (fun f fn hf hfn => by
      obtain rfl : f = 5 := Option.some.inj ((show Tryd.prog.funcNamed "gristmill/gristmilllaw08.ValShows" = some 5 by kernel_rfl).symm.trans hf) |>.symm
      obtain rfl : fn = Tryd.f5 := (Option.some.inj (Tryd.func5.symm.trans hfn)).symm
      exact ⟨by kernel_rfl, fun j t ht => by
        rw [Tryd.params5] at ht
        have hm := Array.mem_of_getElem? ht
        simp only [List.mem_toArray, List.mem_cons, List.not_mem_nil, or_false] at hm
        rcases hm with rfl | rfl | rfl
        · exact (show Tryd.prog.wantsStandIn 23 = false by kernel_rfl)
        · exact (show Tryd.prog.wantsStandIn 9 = false by kernel_rfl)
        · exact (show Tryd.prog.wantsStandIn 3 = false by kernel_rfl)⟩)
    (by kernel_rfl)
#print axioms valShows_holds
end Go.Proofs.YtdgdkkapikopnaaDoor
