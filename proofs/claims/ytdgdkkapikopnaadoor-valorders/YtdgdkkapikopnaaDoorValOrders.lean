/-
  For all values a, b and c the law ValOrders returns true (val.Order compares as the document does, with its arguments exchanged it gives the negative, it goes on over three values; and the example of the page holds), and the values read afterwards as before. Conditions: the row's own: the listed package-level variables read as the program's text lays them (the card ties them).
-/
import Derived.Test.YtdgdkkapikopnaaDoorRows
import Derived.Test.YtdgdkkapikopnaaDoorCards
import Derived.Test.YtdgdkkapikopnaaDoorTie
import Derived.SevenTiedAt
import Derived.Test.YtdgdkkapikopnaaDoorLBV
import Derived.Test.YtdgdkkapikopnaaDoorVArg
import Derived.Test.YtdgdkkapikopnaaDoorNROrder
import Derived.Test.YtdgdkkapikopnaaDoorInv
namespace Go.Proofs.YtdgdkkapikopnaaDoor
namespace valOrders
open Go.ChangeShapes Go.WideShapes Go.ChangeAt Go.RowKit
set_option linter.unusedVariables false

/-- What each slot of the last region holds. -/
def V (N : Nat) (k n k1 n1 r : Int) (s s1 : ByteArray) (d : Nat) (W : World) (v : Value) : Prop :=
  match d with
  | 39 | 42 | 48 | 50 => v = .agg #[.int .u8 k, .int .i64 n, .string s]
  | 40 | 43 | 47 | 51 => v = .agg #[.int .u8 k1, .int .i64 n1, .string s1]
  | 41 | 44 | 52 => v = .int .i64 r
  | 49 | 53 => v = .int .i64 (-r)
  | 45 | 46 | 54 | 55 | 56 | 57 | 58 | 59 | 60 | 61 | 6 => v = .bool true
  | _ => True
theorem V.keep (N : Nat) (k n k1 n1 r : Int) (s s1 : ByteArray) (d : Nat) (W W' : World) (v : Value) (hb : Below W.heap.size W W') (h : V N k n k1 n1 r s s1 d W v) : V N k n k1 n1 r s s1 d W' v := by
  unfold V at *
  split at h
  all_goals first | exact h | (obtain ⟨A, c, rfl, h⟩ := h; exact ⟨A, c, rfl, h.below hb⟩)

/-- What holds behind the three comparisons. -/
def RelC (N : Nat) (w : World) (cx cy : Array Value) (v : Value) (W : World) : Prop := v = .bool true ∧ Below N w W ∧ Blk W N cx 23 ∧ Blk W (N + 1) cy 23
set_option maxRecDepth 100000 in
set_option maxHeartbeats 4000000 in
theorem walk (a b c : Vl) (w : World) (ga : a.Good) (gb : b.Good) (gc : c.Good) (hL : Laid w) :
    Calls Tryd.prog 4 #[a.v, b.v, c.v] w fun e w' => e = .returned (.bool true) ∧ Below w.heap.size w w' := by
  have hv := errV_of_laid hL
  have hgoes : 0 < ordV a b ∨ 0 < ordV b c ∨ ordV a c ≤ 0 := by
    by_cases h1 : 0 < ordV a b
    · exact .inl h1
    · by_cases h2 : 0 < ordV b c
      · exact .inr (.inl h2)
      · exact .inr (.inr (ordV_trans (b := b) (by omega) (by omega)))
  have HGO := Lib.hid hgoes
  have ha2 : a.s.size ≤ 140737488351232 := ga.s1
  have hb2 : b.s.size ≤ 140737488351232 := gb.s1
  have hc2 : c.s.size ≤ 140737488351232 := gc.s1
  have HO := Lib.hid (fun W => order_calls a b W)
  have HO2 := Lib.hid (fun W => order_calls b c W)
  have HO3 := Lib.hid (fun W => order_calls a c W)
  have HN := Lib.hid (fun W => order_calls b a W)
  have HD := Lib.hid (fun W => rorder_calls a b W ga.s1 gb.s1)
  rw [ordV_neg a b] at HN
  obtain ⟨o0, o1⟩ := ordV_small a b
  clear hgoes ga gb gc hL
  generalize ordV a b = r at *
  generalize ordV b c = r2 at *
  generalize ordV a c = r3 at *
  have HS0 := Lib.hid o0
  have HS1 := Lib.hid o1
  clear o0 o1
  obtain ⟨k, n, s⟩ := a
  obtain ⟨k1, n1, s1⟩ := b
  obtain ⟨k2, n2, s2⟩ := c
  unfold Vl.v at *
  dsimp only at *
  have hB3 : Below w.heap.size w (((w.alloc (.cells #[.int .u8 k, .int .i64 n, .string s] 23)).alloc (.cells #[.int .u8 k1, .int .i64 n1, .string s1] 23)).alloc (.cells #[.int .u8 k2, .int .i64 n2, .string s2] 23)) := (below_two w _ _).alloc (by simp; omega) _
  have bx := ((Blk.new w #[.int .u8 k, .int .i64 n, .string s] 23).alloc (.cells #[.int .u8 k1, .int .i64 n1, .string s1] 23)).alloc (.cells #[.int .u8 k2, .int .i64 n2, .string s2] 23)
  have b_y := (Blk.newAt (w.alloc (.cells #[.int .u8 k, .int .i64 n, .string s] 23)) #[.int .u8 k1, .int .i64 n1, .string s1] 23 (g := w.heap.size + 1) (by simp)).alloc (.cells #[.int .u8 k2, .int .i64 n2, .string s2] 23)
  have bz := Blk.newAt ((w.alloc (.cells #[.int .u8 k, .int .i64 n, .string s] 23)).alloc (.cells #[.int .u8 k1, .int .i64 n1, .string s1] 23)) #[.int .u8 k2, .int .i64 n2, .string s2] 23 (g := w.heap.size + 1 + 1) (by simp)
  obtain ⟨x0, x1, x2⟩ := bx.cells3
  obtain ⟨y0, y1, y2⟩ := b_y.cells3
  obtain ⟨z0, z1, z2⟩ := bz.cells3
  have hvB : ∀ W, Below w.heap.size w W → ErrV W := fun W hW => hv.below hW
  have HV0 := Lib.hid hvB
  have HB3 := Lib.hid hB3
  have HX0 := Lib.hid bx
  have HY0 := Lib.hid b_y
  have HZ0 := Lib.hid bz
  clear hv hvB hB3 bx b_y bz
  have hw1 : wrap64 ((s.size : Int) + (s1.size : Int)) = (s.size : Int) + (s1.size : Int) := by unfold wrap64; omega
  have HLV := Lib.hid (fun W hW => live_calls W (HV0.out W hW))
  by_cases h1 : 2000 < s.size + s1.size
  · go_enter Tryd.func4, Tryd.ntmps4
    go_wp2_with fail
    refine (HLV.out _ HB3.out).mono ?_
    rintro e w9 ⟨rfl, hb9⟩
    dsimp only
    go_wp2
    go_ret
    exact ⟨rfl, HB3.out.trans (hb9.mono HB3.out.size)⟩
  · by_cases h2 : 2000 < s2.size
    · go_enter Tryd.func4, Tryd.ntmps4
      go_wp2_with fail
      refine (HLV.out _ HB3.out).mono ?_
      rintro e w9 ⟨rfl, hb9⟩
      dsimp only
      go_wp2
      go_ret
      exact ⟨rfl, HB3.out.trans (hb9.mono HB3.out.size)⟩
    · go_enter Tryd.func4, Tryd.ntmps4
      go_upto_region 3 with fail
      generalize hN : w.heap.size = N at *
      have HNN := Lib.hid hN
      clear hN
      go_cut [7] from 23 to 38 (RelC N w #[.int .u8 k, .int .i64 n, .string s] #[.int .u8 k1, .int .i64 n1, .string s1])
      case first =>
        go_wp2_with fail
        refine (HO.out _).mono ?_
        rintro e w1 ⟨rfl, hb1⟩
        have hx1 := HX0.out.belowAll hb1
        have hy1 := HY0.out.belowAll hb1
        have hz1 := HZ0.out.belowAll hb1
        have hB1 := HB3.out.trans (hb1.mono (by rw [← HNN.out]; exact HB3.out.size))
        obtain ⟨x0, x1, x2⟩ := hx1.cells3
        obtain ⟨y0, y1, y2⟩ := hy1.cells3
        obtain ⟨z0, z1, z2⟩ := hz1.cells3
        have HX1 := Lib.hid hx1
        have HY1 := Lib.hid hy1
        have HZ1 := Lib.hid hz1
        have HB1 := Lib.hid hB1
        clear hx1 hy1 hz1 hB1 hb1
        dsimp only
        by_cases hr : 0 < r
        · have d1 : decide (0 < r) = true := by simpa using hr
          go_wp2
          go_meet
          exact ⟨rfl, HB1.out, HX1.out, HY1.out⟩
        · have d1 : decide (0 < r) = false := by simpa using hr
          go_wp2_with fail
          refine (HO2.out _).mono ?_
          rintro e w2 ⟨rfl, hb2⟩
          have hs2 : N ≤ w1.heap.size := by rw [← HNN.out]; exact Nat.le_of_lt (by have := HX1.out.lt; rw [← HNN.out] at this; exact this)
          have hx2 := HX1.out.belowAll hb2
          have hy2 := HY1.out.belowAll hb2
          have hz2 := HZ1.out.belowAll hb2
          obtain ⟨x0, x1, x2⟩ := hx2.cells3
          obtain ⟨y0, y1, y2⟩ := hy2.cells3
          obtain ⟨z0, z1, z2⟩ := hz2.cells3
          have HX2 := Lib.hid hx2
          have HY2 := Lib.hid hy2
          have HZ2 := Lib.hid hz2
          have HB2 := Lib.hid (HB1.out.trans (hb2.mono hs2))
          clear hx2 hy2 hz2 hb2
          dsimp only
          by_cases hr2 : 0 < r2
          · have d2 : decide (0 < r2) = true := by simpa using hr2
            go_wp2
            go_meet
            exact ⟨rfl, HB2.out, HX2.out, HY2.out⟩
          · have d2 : decide (0 < r2) = false := by simpa using hr2
            have d3 : decide (r3 ≤ 0) = true := by
              rcases HGO.out with h | h | h
              · exact absurd h (by omega)
              · exact absurd h (by omega)
              · simpa using h
            go_wp2_with fail
            refine (HO3.out _).mono ?_
            rintro e w3 ⟨rfl, hb3⟩
            have hs3 : N ≤ w2.heap.size := Nat.le_of_lt HX2.out.lt
            have hx3 := HX2.out.belowAll hb3
            have hy3 := HY2.out.belowAll hb3
            have HX3 := Lib.hid hx3
            have HY3 := Lib.hid hy3
            have HB3' := Lib.hid (HB2.out.trans (hb3.mono hs3))
            clear hx3 hy3 hb3
            dsimp only
            go_wp2
            go_meet
            exact ⟨rfl, HB3'.out, HX3.out, HY3.out⟩
      case rest =>
        obtain ⟨rfl, hbc, hxc, hyc⟩ := hcut
        have hsc : N ≤ wc.heap.size := Nat.le_of_lt hxc.lt
        have HBC := Lib.hid hbc
        have HX := Lib.hid (fun (W : World) (hW : Below wc.heap.size wc W) => hxc.belowAll hW)
        have HY := Lib.hid (fun (W : World) (hW : Below wc.heap.size wc W) => hyc.belowAll hW)
        have HV := Lib.hid (fun (W : World) (hW : Below wc.heap.size wc W) => HV0.out W (hbc.trans (hW.mono hsc)))
        have HBE := Lib.hid (fun (W : World) (hW : Below wc.heap.size wc W) => hbc.trans (hW.mono hsc))
        have o0 := HS0.out
        have o1 := HS1.out
        have hB0 : Below wc.heap.size wc wc.drew := below_drew _
        clear hbc hxc hyc
        go_wp2_with fail
        refine wp_region_inv (by kernel_rfl) (fun W => Below wc.heap.size wc W) (fun W W' => Below W.heap.size W W') (V N k n k1 n1 r s s1) [[], [], [39, 40], [], [], [42, 43], [41, 44], [45], [46], [46], [47, 48, 46], [46], [46], [50, 51, 46], [52, 46], [49, 53, 46], [46, 54], [55], [56], [56, 57], [58], [59], [59, 60], [61]] (by kernel_rfl) (fun W => Below.refl _ _) (fun d W W' v => V.keep N k n k1 n1 r s s1 d W W' v) hB0 ?_ ?_
        · refine ⟨?_, ?_, ?_, ?_, ?_, ?_, ?_, ?_, ?_, ?_, ?_, ?_, ?_, ?_, ?_, ?_, ?_, ?_, ?_, ?_, ?_, ?_, ?_, ?_, trivial⟩
          · intro a W hI hsame ht
            have h3 := hsame 3 (by decide)
            change a.tmps.getD 3 undef = .pointer (some ⟨N, 0, none⟩) at h3
            rw [if_pos (by rfl)]
            clear hsame
            obtain ⟨x0, x1, x2⟩ := (HX.out W hI).cells3
            unfold Oper.wp
            go_simp
            exact ⟨_, rfl, hI, Below.refl _ _, fun d hd => by cases hd; exact rfl⟩
          · intro a W hI hsame ht
            have h4 := hsame 4 (by decide)
            change a.tmps.getD 4 undef = .pointer (some ⟨N + 1, 0, none⟩) at h4
            rw [if_pos (by rfl)]
            clear hsame
            obtain ⟨x0, x1, x2⟩ := (HY.out W hI).cells3
            unfold Oper.wp
            go_simp
            exact ⟨_, rfl, hI, Below.refl _ _, fun d hd => by cases hd; exact rfl⟩
          · intro a W hI hsame ht
            obtain ⟨h39, h40, _⟩ := ht
            change a.tmps.getD 39 undef = .agg #[.int .u8 k, .int .i64 n, .string s] at h39
            change a.tmps.getD 40 undef = .agg #[.int .u8 k1, .int .i64 n1, .string s1] at h40
            rw [if_pos (by rfl)]
            clear hsame
            unfold Oper.wp
            go_simp
            refine (HO.out W).mono ?_
            rintro e' W' ⟨rfl, hb⟩
            exact ⟨_, rfl, Below.on hI hb, hb, fun d hd => by cases hd; exact rfl⟩
          · intro a W hI hsame ht
            have h3 := hsame 3 (by decide)
            change a.tmps.getD 3 undef = .pointer (some ⟨N, 0, none⟩) at h3
            rw [if_pos (by rfl)]
            clear hsame
            obtain ⟨x0, x1, x2⟩ := (HX.out W hI).cells3
            unfold Oper.wp
            go_simp
            exact ⟨_, rfl, hI, Below.refl _ _, fun d hd => by cases hd; exact rfl⟩
          · intro a W hI hsame ht
            have h4 := hsame 4 (by decide)
            change a.tmps.getD 4 undef = .pointer (some ⟨N + 1, 0, none⟩) at h4
            rw [if_pos (by rfl)]
            clear hsame
            obtain ⟨x0, x1, x2⟩ := (HY.out W hI).cells3
            unfold Oper.wp
            go_simp
            exact ⟨_, rfl, hI, Below.refl _ _, fun d hd => by cases hd; exact rfl⟩
          · intro a W hI hsame ht
            obtain ⟨h42, h43, _⟩ := ht
            change a.tmps.getD 42 undef = .agg #[.int .u8 k, .int .i64 n, .string s] at h42
            change a.tmps.getD 43 undef = .agg #[.int .u8 k1, .int .i64 n1, .string s1] at h43
            rw [if_pos (by rfl)]
            clear hsame
            unfold Oper.wp
            go_simp
            refine (HD.out W).mono ?_
            rintro e' W' ⟨rfl, hb⟩
            exact ⟨_, rfl, Below.on hI hb, hb, fun d hd => by cases hd; exact rfl⟩
          · intro a W hI hsame ht
            obtain ⟨h41, h44, _⟩ := ht
            change a.tmps.getD 41 undef = .int .i64 r at h41
            change a.tmps.getD 44 undef = .int .i64 r at h44
            rw [if_pos (by rfl)]
            clear hsame
            unfold Oper.wp
            go_simp
            exact ⟨_, rfl, hI, Below.refl _ _, fun d hd => by cases hd; exact rfl⟩
          · intro a W hI hsame ht
            obtain ⟨h45, _⟩ := ht
            change a.tmps.getD 45 undef = .bool true at h45
            rw [if_pos (by rfl)]
            clear hsame
            unfold Oper.wp
            go_simp
            exact ⟨_, rfl, hI, Below.refl _ _, fun d hd => by cases hd; exact rfl⟩
          · intro a W hI hsame ht
            obtain ⟨h46, _⟩ := ht
            change a.tmps.getD 46 undef = .bool true at h46
            have h4 := hsame 4 (by decide)
            change a.tmps.getD 4 undef = .pointer (some ⟨N + 1, 0, none⟩) at h4
            rw [if_pos (wanted_true (j := 7) (d := 46) rfl rfl h46)]
            clear hsame
            obtain ⟨x0, x1, x2⟩ := (HY.out W hI).cells3
            unfold Oper.wp
            go_simp
            exact ⟨_, rfl, hI, Below.refl _ _, fun d hd => by cases hd; exact rfl⟩
          · intro a W hI hsame ht
            obtain ⟨h46, _⟩ := ht
            change a.tmps.getD 46 undef = .bool true at h46
            have h3 := hsame 3 (by decide)
            change a.tmps.getD 3 undef = .pointer (some ⟨N, 0, none⟩) at h3
            rw [if_pos (wanted_true (j := 7) (d := 46) rfl rfl h46)]
            clear hsame
            obtain ⟨x0, x1, x2⟩ := (HX.out W hI).cells3
            unfold Oper.wp
            go_simp
            exact ⟨_, rfl, hI, Below.refl _ _, fun d hd => by cases hd; exact rfl⟩
          · intro a W hI hsame ht
            obtain ⟨h47, h48, h46, _⟩ := ht
            change a.tmps.getD 47 undef = .agg #[.int .u8 k1, .int .i64 n1, .string s1] at h47
            change a.tmps.getD 48 undef = .agg #[.int .u8 k, .int .i64 n, .string s] at h48
            change a.tmps.getD 46 undef = .bool true at h46
            rw [if_pos (wanted_true (j := 7) (d := 46) rfl rfl h46)]
            clear hsame
            unfold Oper.wp
            go_simp
            refine (HN.out W).mono ?_
            rintro e' W' ⟨rfl, hb⟩
            exact ⟨_, rfl, Below.on hI hb, hb, fun d hd => by cases hd; exact rfl⟩
          · intro a W hI hsame ht
            obtain ⟨h46, _⟩ := ht
            change a.tmps.getD 46 undef = .bool true at h46
            have h3 := hsame 3 (by decide)
            change a.tmps.getD 3 undef = .pointer (some ⟨N, 0, none⟩) at h3
            rw [if_pos (wanted_true (j := 7) (d := 46) rfl rfl h46)]
            clear hsame
            obtain ⟨x0, x1, x2⟩ := (HX.out W hI).cells3
            unfold Oper.wp
            go_simp
            exact ⟨_, rfl, hI, Below.refl _ _, fun d hd => by cases hd; exact rfl⟩
          · intro a W hI hsame ht
            obtain ⟨h46, _⟩ := ht
            change a.tmps.getD 46 undef = .bool true at h46
            have h4 := hsame 4 (by decide)
            change a.tmps.getD 4 undef = .pointer (some ⟨N + 1, 0, none⟩) at h4
            rw [if_pos (wanted_true (j := 7) (d := 46) rfl rfl h46)]
            clear hsame
            obtain ⟨x0, x1, x2⟩ := (HY.out W hI).cells3
            unfold Oper.wp
            go_simp
            exact ⟨_, rfl, hI, Below.refl _ _, fun d hd => by cases hd; exact rfl⟩
          · intro a W hI hsame ht
            obtain ⟨h50, h51, h46, _⟩ := ht
            change a.tmps.getD 50 undef = .agg #[.int .u8 k, .int .i64 n, .string s] at h50
            change a.tmps.getD 51 undef = .agg #[.int .u8 k1, .int .i64 n1, .string s1] at h51
            change a.tmps.getD 46 undef = .bool true at h46
            rw [if_pos (wanted_true (j := 7) (d := 46) rfl rfl h46)]
            clear hsame
            unfold Oper.wp
            go_simp
            refine (HO.out W).mono ?_
            rintro e' W' ⟨rfl, hb⟩
            exact ⟨_, rfl, Below.on hI hb, hb, fun d hd => by cases hd; exact rfl⟩
          · intro a W hI hsame ht
            obtain ⟨h52, h46, _⟩ := ht
            change a.tmps.getD 52 undef = .int .i64 r at h52
            change a.tmps.getD 46 undef = .bool true at h46
            rw [if_pos (wanted_true (j := 7) (d := 46) rfl rfl h46)]
            clear hsame
            have hw : IntKind.i64.wrap (-r) = -r := IntWalk.i64_in _ ⟨by omega, by omega⟩
            unfold Oper.wp
            go_simp
            exact ⟨_, rfl, hI, Below.refl _ _, fun d hd => by cases hd; exact rfl⟩
          · intro a W hI hsame ht
            obtain ⟨h49, h53, h46, _⟩ := ht
            change a.tmps.getD 49 undef = .int .i64 (-r) at h49
            change a.tmps.getD 53 undef = .int .i64 (-r) at h53
            change a.tmps.getD 46 undef = .bool true at h46
            rw [if_pos (wanted_true (j := 7) (d := 46) rfl rfl h46)]
            clear hsame
            unfold Oper.wp
            go_simp
            exact ⟨_, rfl, hI, Below.refl _ _, fun d hd => by cases hd; exact rfl⟩
          · intro a W hI hsame ht
            obtain ⟨h46, h54, _⟩ := ht
            change a.tmps.getD 46 undef = .bool true at h46
            change a.tmps.getD 54 undef = .bool true at h54
            rw [if_pos (by rfl)]
            clear hsame
            unfold Oper.wp
            go_simp
            exact ⟨_, rfl, hI, Below.refl _ _, fun d hd => by cases hd; exact rfl⟩
          · intro a W hI hsame ht
            obtain ⟨h55, _⟩ := ht
            change a.tmps.getD 55 undef = .bool true at h55
            rw [if_pos (by rfl)]
            clear hsame
            unfold Oper.wp
            go_simp
            exact ⟨_, rfl, hI, Below.refl _ _, fun d hd => by cases hd; exact rfl⟩
          · intro a W hI hsame ht
            obtain ⟨h56, _⟩ := ht
            change a.tmps.getD 56 undef = .bool true at h56
            have h7 := hsame 7 (by decide)
            change a.tmps.getD 7 undef = .bool true at h7
            rw [if_pos (wanted_true (j := 17) (d := 56) rfl rfl h56)]
            clear hsame
            unfold Oper.wp
            go_simp
            exact ⟨_, rfl, hI, Below.refl _ _, fun d hd => by cases hd; exact rfl⟩
          · intro a W hI hsame ht
            obtain ⟨h56, h57, _⟩ := ht
            change a.tmps.getD 56 undef = .bool true at h56
            change a.tmps.getD 57 undef = .bool true at h57
            rw [if_pos (by rfl)]
            clear hsame
            unfold Oper.wp
            go_simp
            exact ⟨_, rfl, hI, Below.refl _ _, fun d hd => by cases hd; exact rfl⟩
          · intro a W hI hsame ht
            obtain ⟨h58, _⟩ := ht
            change a.tmps.getD 58 undef = .bool true at h58
            rw [if_pos (by rfl)]
            clear hsame
            unfold Oper.wp
            go_simp
            exact ⟨_, rfl, hI, Below.refl _ _, fun d hd => by cases hd; exact rfl⟩
          · intro a W hI hsame ht
            obtain ⟨h59, _⟩ := ht
            change a.tmps.getD 59 undef = .bool true at h59
            rw [if_pos (wanted_true (j := 20) (d := 59) rfl rfl h59)]
            clear hsame
            unfold Oper.wp
            go_simp
            refine (live_calls _ (HV.out W hI)).mono ?_
            rintro e' W' ⟨rfl, hb⟩
            exact ⟨_, rfl, Below.on hI hb, hb, fun d hd => by cases hd; exact rfl⟩
          · intro a W hI hsame ht
            obtain ⟨h59, h60, _⟩ := ht
            change a.tmps.getD 59 undef = .bool true at h59
            change a.tmps.getD 60 undef = .bool true at h60
            rw [if_pos (by rfl)]
            clear hsame
            unfold Oper.wp
            go_simp
            exact ⟨_, rfl, hI, Below.refl _ _, fun d hd => by cases hd; exact rfl⟩
          · intro a W hI hsame ht
            obtain ⟨h61, _⟩ := ht
            change a.tmps.getD 61 undef = .bool true at h61
            rw [if_pos (by rfl)]
            clear hsame
            unfold Oper.wp
            go_simp
            exact ⟨_, rfl, hI, Below.refl _ _, fun d hd => by cases hd; exact rfl⟩
        · intro a W hI hsz hdef hsame hall
          have h6 := hall 6 (by decide)
          change a.tmps.getD 6 undef = .bool true at h6
          clear hall hsame
          go_wp2
          exact bodyPost_ret (results_tmp (by rfl) _ _ _) hdef ⟨congrArg Ending.returned h6, by rw [HNN.out]; exact HBE.out _ hI⟩

theorem ownD : ownKnob Tryd.prog.godebug = none := by kernel_rfl
/- From the walk to the row. -/
set_option maxRecDepth 100000 in
theorem lifted (os : Os) (started : os.Started) (H : Type) (enc : TypeId × Value → H) :
    ReturnsInHanded {} Tryd.checked os 4 .any (fun w args => (Rows.valOrdersSpec.pre enc Tryd.prog Tryd.f4 [] false w args ∧ laidMetH Tryd.prog Rows.valOrdersRow.laid w) ∧ sizedMet enc Tryd.prog Tryd.f4 (OpenSpec.ofChange Rows.valOrdersSpec) false w args)
      (Rows.valOrdersSpec.post enc Tryd.prog Tryd.f4 false true false false) := by
  refine returnsInHanded_of_change_and (C := Tryd.checked) (X := fun w _ => laidMetH Tryd.prog Rows.valOrdersRow.laid w) (fun _ _ _ hh h => h.of_heap hh) ownD started (by kernel_rfl) Tryd.func4
    (ChangeSpec.witness_shaped (enc := enc) (C := Tryd.checked) (os := os) (X := fun w _ => laidMetH Tryd.prog Rows.valOrdersRow.laid w) false (laidW os) #[.agg #[.int .u8 0, .int .i64 0, .string ByteArray.empty], .agg #[.int .u8 0, .int .i64 0, .string ByteArray.empty], .agg #[.int .u8 0, .int .i64 0, .string ByteArray.empty]] 8 (World.laidAll_os _ _ _) (World.shaped_of_ZipB (by kernel_rfl) (by kernel_rfl)) (by kernel_rfl) (by kernel_rfl) (by kernel_rfl) (laidW_met os _)) ?_
  intro W base args ds gs before hval0 hW _ hsized hL _
  have hval : ∀ (j : Nat) t v, Tryd.f4.params[j]? = some t → args[j]? = some v → Value.okWide Tryd.prog W .any base t v := hval0
  have hW' := hW
  obtain ⟨p, q, hA0, hV, rfl, hfz, hnd⟩ := hW
  have hA : DataW.TrodAll enc Tryd.prog W 0 (fun _ => true) true Tryd.f4.params.toList args.toList ds p := hA0
  have hsz : (DataW.weightsEach Tryd.prog (Tryd.f4.params.toList ++ Rows.valOrdersSpec.plain.varTypes Tryd.prog) (ds ++ gs)).all (· ≤ reachBytes) = true := hsized
  rw [Tryd.params4] at hA hval hsz
  obtain ⟨v0, vs0, d0, ds0, p0, q0, hargs, rfl, rfl, h0, r0⟩ := trodAll_cons hA
  obtain ⟨v1, vs1, d1, ds1, p1, q1, rfl, rfl, rfl, h1, r1⟩ := trodAll_cons r0
  obtain ⟨v2, vs2, d2, ds2, p2, q2, rfl, rfl, rfl, h2, r2⟩ := trodAll_cons r1
  obtain ⟨rfl, rfl, rfl⟩ := trodAll_nil r2
  obtain rfl : args = #[v0, v1, v2] := by cases args; simp_all
  obtain ⟨rfl, rfl⟩ := trodVars_none hV
  have k0 := h0
  have lt0 : ∀ x ∈ p0, x.block < W.heap.size := by obtain ⟨m, hm⟩ := k0; exact DataW.trod_lt m _ _ _ hm
  have wt0 := weights_of_each hsz (j := 0) (t := 23) (d := d0) rfl rfl
  obtain ⟨x0, rfl, gx0⟩ := val_of_arg (hval 0 23 v0 rfl rfl) h0 wt0
  have k1 := h1
  have lt1 : ∀ x ∈ p1, x.block < W.heap.size := by obtain ⟨m, hm⟩ := k1; exact DataW.trod_lt m _ _ _ hm
  have wt1 := weights_of_each hsz (j := 1) (t := 23) (d := d1) rfl rfl
  obtain ⟨x1, rfl, gx1⟩ := val_of_arg (hval 1 23 v1 rfl rfl) h1 wt1
  have k2 := h2
  have lt2 : ∀ x ∈ p2, x.block < W.heap.size := by obtain ⟨m, hm⟩ := k2; exact DataW.trod_lt m _ _ _ hm
  have wt2 := weights_of_each hsz (j := 2) (t := 23) (d := d2) rfl rfl
  obtain ⟨x2, rfl, gx2⟩ := val_of_arg (hval 2 23 v2 rfl rfl) h2 wt2
  clear hA0 hval0
  refine (walk x0 x1 x2 W gx0 gx1 gx2 (show Laid W from hL)).mono fun e W' ⟨he, bel⟩ => ?_
  subst he
  exact ⟨_, rfl, _, _, _, [], _, [], hW', trodAll_mk1 (shut_bool Tryd.underlying4 _), (trodAll_cons_mk (Below.trod laidOut (by kernel_rfl) (of_decide_eq_true (by kernel_rfl)) k0 bel lt0) (trodAll_cons_mk (Below.trod laidOut (by kernel_rfl) (of_decide_eq_true (by kernel_rfl)) k1 bel lt1) (trodAll_cons_mk (Below.trod laidOut (by kernel_rfl) (of_decide_eq_true (by kernel_rfl)) k2 bel lt2) trodAll_mk0))), rfl, bel.frame _, fun h => by cases h⟩

theorem over : Rows.valOrdersRow.holds Tryd.pinned (OpenSpec.ofChange Rows.valOrdersSpec) :=
  OpenClaim.holds_of_wide 4 Tryd.f4 rfl rfl rfl rfl rfl rfl rfl ⟨rfl, rfl, rfl, rfl, rfl⟩ rfl rfl rfl rfl rfl (by kernel_rfl) Tryd.func4 (by kernel_rfl)
    (of_decide_eq_true (by kernel_rfl)) (by unfold Func.isWrapper; first | (rw [if_pos (by decide +kernel)]; kernel_rfl) | (rw [if_neg (by decide +kernel)]; exact ⟨rfl, rfl⟩))
    (fun os started H enc _ => lifted os started H enc)

end valOrders

/-- The statement: the row, its listed variables tied to the program's text. -/
theorem valOrders_holds : Rows.ValOrdersCardSaid :=
  Claim7.holds_tied_plain_at .later [] [.data, .data, .data, .data, .sentinel, .sentinel, .pinned] true (true, "88719163f0be6c57b02e7bb98f2eaab9280edf541af439c0432cd78538f613e3") true
    valOrders.over (fun _ h => by cases h) (by kernel_rfl) (fun _ h => by cases h) valOrders_row_tie rfl ⟨rfl, rfl⟩ (by kernel_rfl) rfl
    (fun f fn hf hfn => by
      obtain rfl : f = 4 := Option.some.inj ((show Tryd.prog.funcNamed "gristmill/gristmilllaw08.ValOrders" = some 4 by kernel_rfl).symm.trans hf) |>.symm
      obtain rfl : fn = Tryd.f4 := (Option.some.inj (Tryd.func4.symm.trans hfn)).symm
      exact ⟨by kernel_rfl, fun j t ht => by
        rw [Tryd.params4] at ht
        have hm := Array.mem_of_getElem? ht
        simp only [List.mem_toArray, List.mem_cons, List.not_mem_nil, or_false] at hm
        rcases hm with rfl | rfl | rfl
        · exact (show Tryd.prog.wantsStandIn 23 = false by kernel_rfl)
        · exact (show Tryd.prog.wantsStandIn 23 = false by kernel_rfl)
        · exact (show Tryd.prog.wantsStandIn 23 = false by kernel_rfl)⟩)
    (by kernel_rfl)
#print axioms valOrders_holds
end Go.Proofs.YtdgdkkapikopnaaDoor
