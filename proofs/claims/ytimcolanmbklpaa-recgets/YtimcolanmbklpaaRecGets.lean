/-
  For every byte slice b and every number at the law RecGets returns true (rec.GetList and rec.GetPairs answer as the document does, error and place included; what was got, put again, is its own bytes; and the example of the page holds), and the slice reads afterwards as before. No conditions.
-/
import Derived.Test.YtimcolanmbklpaaRows
import Derived.Test.YtimcolanmbklpaaGS
import Derived.Test.YtimcolanmbklpaaRRead
import Derived.Test.YtimcolanmbklpaaRSame
import Derived.Test.YtimcolanmbklpaaRLive
import Derived.Test.YtimcolanmbklpaaInv
namespace Go.Proofs.Ytimcolanmbklpaa
namespace recGets
open Go.ChangeShapes Go.WideShapes Go.ChangeAt Go.RowKit
set_option linter.unusedVariables false

/-- What each slot of the region holds. -/
def V (a0 A8 A9 : Option Addr) (n c0 c8 m9 c9 : Nat) (X : List Int) (a1 x : Int) (d : Nat) (W : World) (v : Value) : Prop :=
  match d with
  | 90 | 91 => v = .int .i64 0
  | 92 | 93 | 101 | 102 => v = .bool false
  | 94 => v = .slice A8 X.length c8
  | 95 | 100 => v = .string (str X)
  | 96 => v = .slice a0 n c0
  | 97 => v = .int .i64 a1
  | 98 => v = .int .i64 x
  | 99 => v = .slice A9 m9 c9
  | _ => True
theorem V.keep (a0 A8 A9 : Option Addr) (n c0 c8 m9 c9 : Nat) (X : List Int) (a1 x : Int) (d : Nat) (W W' : World) (v : Value) (hb : Below W.heap.size W W') (h : V a0 A8 A9 n c0 c8 m9 c9 X a1 x d W v) : V a0 A8 A9 n c0 c8 m9 c9 X a1 x d W' v := by
  unfold V at *
  split at h
  all_goals first | exact h | (obtain ⟨A, c, rfl, h⟩ := h; exact ⟨A, c, rfl, h.below hb⟩)

set_option maxRecDepth 100000 in
set_option maxHeartbeats 4000000 in
theorem walk (a0 : Option Addr) (c0 : Nat) (l : List Int) (a1 : Int) (w : World) (hc : l.length ≤ c0) (hm : l.length ≤ maxLen) (hl : Lies w a0 c0 l) (hb : IsB l) (w1 : (Lit.int .i64 a1).wf = true) :
    Calls Try.prog 4 #[.slice a0 l.length c0, .int .i64 a1] w fun e w' => e = .returned (.bool true) ∧ Below w.heap.size w w' := by
  have hm2 : l.length ≤ 9223372036854775807 := by unfold maxLen at hm; omega
  obtain ⟨b0, b1⟩ := bounds_i64 w1
  clear w1 hm
  by_cases hlen : 3000 < l.length
  · have hd : decide ((3000 : Int) < (l.length : Int)) = true := by simp; omega
    clear hl hb
    go_enter Try.func4, Try.ntmps4
    go_wp2_with (go_at_call 9; refine (live_calls _).mono ?_; rintro e w9 ⟨rfl, hb9⟩)
    go_ret
    exact ⟨rfl, hb9⟩
  · have hd : decide ((3000 : Int) < (l.length : Int)) = false := by simp; omega
    have hl6 : l.length ≤ 1000000 := by omega
    have HG1 := Lib.hid (fun (W : World) (hW : Below w.heap.size w W) => getList_calls a0 c0 l a1 W (hl.below hW) hb hc hl6)
    have HG2 := Lib.hid (fun (W : World) (hW : Below w.heap.size w W) => rgetList_calls a0 c0 l a1 W (hl.below hW) hb hc hl6)
    have HG3 := Lib.hid (fun (W : World) (hW : Below w.heap.size w W) => getPairs_calls a0 c0 l a1 W (hl.below hW) hb hc hl6)
    have HG4 := Lib.hid (fun (W : World) (hW : Below w.heap.size w W) => rgetPairs_calls a0 c0 l a1 W (hl.below hW) hb hc hl6 (by have := getAll_len (rdS l) 2 (by omega) (getS l a1); omega))
    have hpl := getAll_len (rdP l) 1 (by omega) (getS l a1)
    have htl := getAll_len (rdS l) 1 (by omega) (getS l a1)
    have HPA := Lib.hid (fun ts x h => put_again l hb a1 ts x h)
    rw [getAll_pairs] at HG3 hpl
    obtain ⟨ts, x, e, hR⟩ : ∃ ts x e, getAll (rdS l) 1 (getS l a1) = (ts, x, e) := ⟨_, _, _, rfl⟩
    rw [hR] at HG1 HG2 HPA htl
    clear hR
    generalize (pairUp (getAll (rdS l) 2 (getS l a1)).1, (getAll (rdS l) 2 (getS l a1)).2) = Q at *
    obtain ⟨ps, z, g⟩ := Q
    dsimp only at hpl htl
    have hpm : ps.length ≤ maxLen := by unfold maxLen; omega
    have htm : ts.length ≤ maxLen := by unfold maxLen; omega
    have HL := Lib.hid hl
    clear hl hb
    go_enter Try.func4, Try.ntmps4
    go_wp2_with fail
    refine (HG1.out w (Below.refl _ _)).mono ?_
    rintro e1 w1 ⟨A1, c1, rfl, hown1, hb1⟩
    dsimp only at hown1
    dsimp only
    have C1 := Lib.hid (OwnG.cells hown1)
    clear hown1
    go_wp2_with fail
    refine (HG2.out w1 hb1).mono ?_
    rintro e2 w2 ⟨A2, c2, rfl, hown2, hb2⟩
    dsimp only at hown2
    dsimp only
    have hb12 := Below.on hb1 hb2
    have C2 := Lib.hid (OwnG.cells hown2)
    have C1' := Lib.hid (C1.out.below hb2)
    clear hown2
    go_wp2_with fail
    refine (HG3.out w2 hb12).mono ?_
    rintro e3 w3 ⟨A3, c3, rfl, hown3, hb3⟩
    dsimp only at hown3
    dsimp only
    have hb13 := Below.on hb12 hb3
    have C3 := Lib.hid (OwnG.cells hown3)
    have C1'' := Lib.hid (C1'.out.below hb3)
    have C2' := Lib.hid (C2.out.below hb3)
    clear hown3 C1 C1' C2
    go_wp2_with fail
    refine (HG4.out w3 hb13).mono ?_
    rintro e4 w4 ⟨A4, c4, rfl, hown4, hb4⟩
    dsimp only at hown4
    dsimp only
    have hb14 := Below.on hb13 hb4
    have C4 := Lib.hid (OwnG.cells hown4)
    have C3' := Lib.hid (C3.out.below hb4)
    have C1 := Lib.hid (C1''.out.below hb4)
    have C2 := Lib.hid (C2'.out.below hb4)
    clear hown4 C3 C1'' C2' HG1 HG2 HG3 HG4 hb1 hb2 hb3 hb4 hb12 hb13
    by_cases he : e = 0
    · subst he
      obtain ⟨p0, p1, p2, p3, p4⟩ := HPA.out ts x rfl
      have HP3 := Lib.hid p3
      have HP4 := Lib.hid p4
      clear p3 p4 HPA
      go_wp2_with fail
      refine (same_calls A1 A2 c1 c2 ts w4 C1.out C2.out htm).mono ?_
      rintro e5 w5 ⟨rfl, hb5⟩
      dsimp only
      have hb15 := Below.on hb14 hb5
      go_wp2_with (first
        | (go_at_call 12; refine (code_calls _ _).mono ?_; rintro e' w' ⟨rfl, rfl⟩)
        | (go_at_call 18; refine (samePairs_calls A3 A4 c3 c4 ps w5 (C3'.out.below hb5) (C4.out.below hb5) hpm).mono ?_; rintro e6 w6 ⟨rfl, hb6⟩; have hb16 := Below.on hb15 hb6))
      have HP := Lib.hid (putList_calls none 0 [] A1 c1 ts w6 (Lies.nil _) ((C1.out.below hb5).below hb6) (by simp) (fun s hs => by have := HP4.out s hs; unfold maxLen; omega) htm)
      rw [HP3.out] at HP
      obtain ⟨X, hX⟩ : ∃ X, X = (l.drop a1.toNat).take (x.toNat - a1.toNat) := ⟨_, rfl⟩
      rw [← hX] at HP
      refine HP.out.mono ?_
      rintro e8 w8 ⟨A8, c8, rfl, hown8, hb8⟩
      dsimp only at hown8
      dsimp only
      have hb18 := Below.on hb16 hb8
      have HL8 := Lib.hid (fun (W : World) (hW : Below w8.heap.size w8 W) => (Lies.of_own hown8).below hW)
      obtain ⟨A9, c9, hc9, hs9⟩ := cut_str (HL.out.below hb18) a1.toNat (x.toNat - a1.toNat) a1 x (by omega) (by omega) (by omega) hc
      rw [← hX] at hs9
      have HC9 := Lib.hid hc9
      have HS9 := Lib.hid hs9
      clear hX hown8 hc9 hs9 HP HP3 HP4 C1 C2 C3' C4 hb5 hb6 hb8 hb14 hb15 hb16 hpl htl hpm htm
      generalize x.toNat - a1.toNat = m9 at *
      obtain ⟨n, hn⟩ : ∃ n, l.length = n := ⟨_, rfl⟩
      rw [hn] at HC9 ⊢
      have hB0 : Below w8.heap.size w8 w8.drew := (Below.refl _ _).drew
      go_wp2_with fail
      refine wp_region_inv (by kernel_rfl) (fun W => Below w8.heap.size w8 W) (fun W W' => Below W.heap.size W W') (V a0 A8 A9 n c0 c8 m9 c9 X a1 x) [[], [90], [91], [92], [93], [94, 93], [93], [93], [93], [96, 97, 98, 93], [99, 93], [95, 100, 93], [93, 101]] (by kernel_rfl) (fun W => Below.refl _ _) (fun d W W' v => V.keep a0 A8 A9 n c0 c8 m9 c9 X a1 x d W W' v) hB0 ?_ ?_
      · refine ⟨?_, ?_, ?_, ?_, ?_, ?_, ?_, ?_, ?_, ?_, ?_, ?_, ?_, trivial⟩
        · intro a W hI hsame ht
          have h18 := hsame 18 (by decide)
          change a.tmps.getD 18 undef = .int .i64 0 at h18
          rw [if_pos (by rfl)]
          clear hsame
          unfold Oper.wp
          go_simp
          exact ⟨_, rfl, hI, Below.refl _ _, fun d hd => by cases hd; exact rfl⟩
        · intro a W hI hsame ht
          obtain ⟨h90, _⟩ := ht
          change a.tmps.getD 90 undef = .int .i64 0 at h90
          rw [if_pos (by rfl)]
          clear hsame
          unfold Oper.wp
          go_simp
          refine (code_calls _ _).mono ?_
          rintro e' W' ⟨rfl, rfl⟩
          exact ⟨_, rfl, hI, Below.refl _ _, fun d hd => by cases hd; exact rfl⟩
        · intro a W hI hsame ht
          obtain ⟨h91, _⟩ := ht
          change a.tmps.getD 91 undef = .int .i64 0 at h91
          rw [if_pos (by rfl)]
          clear hsame
          unfold Oper.wp
          go_simp
          exact ⟨_, rfl, hI, Below.refl _ _, fun d hd => by cases hd; exact rfl⟩
        · intro a W hI hsame ht
          obtain ⟨h92, _⟩ := ht
          change a.tmps.getD 92 undef = .bool false at h92
          rw [if_pos (by rfl)]
          clear hsame
          unfold Oper.wp
          go_simp
          exact ⟨_, rfl, hI, Below.refl _ _, fun d hd => by cases hd; exact rfl⟩
        · intro a W hI hsame ht
          obtain ⟨h93, _⟩ := ht
          change a.tmps.getD 93 undef = .bool false at h93
          have h17 := hsame 17 (by decide)
          change a.tmps.getD 17 undef = .slice A8 X.length c8 at h17
          rw [if_pos (wanted_false (j := 3) (d := 93) rfl rfl h93)]
          clear hsame
          unfold Oper.wp
          go_simp
          exact ⟨_, rfl, hI, Below.refl _ _, fun d hd => by cases hd; exact rfl⟩
        · intro a W hI hsame ht
          obtain ⟨h94, h93, _⟩ := ht
          change a.tmps.getD 94 undef = .slice A8 X.length c8 at h94
          change a.tmps.getD 93 undef = .bool false at h93
          rw [if_pos (wanted_false (j := 3) (d := 93) rfl rfl h93)]
          clear hsame
          have hs := run_str (HL8.out W hI)
          unfold Oper.wp
          go_simp
          exact ⟨_, rfl, hI, Below.refl _ _, fun d hd => by cases hd; exact rfl⟩
        · intro a W hI hsame ht
          obtain ⟨h93, _⟩ := ht
          change a.tmps.getD 93 undef = .bool false at h93
          have h0 := hsame 0 (by decide)
          change a.tmps.getD 0 undef = .slice a0 n c0 at h0
          rw [if_pos (wanted_false (j := 3) (d := 93) rfl rfl h93)]
          clear hsame
          unfold Oper.wp
          go_simp
          exact ⟨_, rfl, hI, Below.refl _ _, fun d hd => by cases hd; exact rfl⟩
        · intro a W hI hsame ht
          obtain ⟨h93, _⟩ := ht
          change a.tmps.getD 93 undef = .bool false at h93
          have h1 := hsame 1 (by decide)
          change a.tmps.getD 1 undef = .int .i64 a1 at h1
          rw [if_pos (wanted_false (j := 3) (d := 93) rfl rfl h93)]
          clear hsame
          unfold Oper.wp
          go_simp
          exact ⟨_, rfl, hI, Below.refl _ _, fun d hd => by cases hd; exact rfl⟩
        · intro a W hI hsame ht
          obtain ⟨h93, _⟩ := ht
          change a.tmps.getD 93 undef = .bool false at h93
          have h6 := hsame 6 (by decide)
          change a.tmps.getD 6 undef = .int .i64 x at h6
          rw [if_pos (wanted_false (j := 3) (d := 93) rfl rfl h93)]
          clear hsame
          unfold Oper.wp
          go_simp
          exact ⟨_, rfl, hI, Below.refl _ _, fun d hd => by cases hd; exact rfl⟩
        · intro a W hI hsame ht
          obtain ⟨h96, h97, h98, h93, _⟩ := ht
          change a.tmps.getD 96 undef = .slice a0 n c0 at h96
          change a.tmps.getD 97 undef = .int .i64 a1 at h97
          change a.tmps.getD 98 undef = .int .i64 x at h98
          change a.tmps.getD 93 undef = .bool false at h93
          rw [if_pos (wanted_false (j := 3) (d := 93) rfl rfl h93)]
          clear hsame
          have hc9 := HC9.out W
          unfold Oper.wp
          go_simp
          exact ⟨_, rfl, hI, Below.refl _ _, fun d hd => by cases hd; exact rfl⟩
        · intro a W hI hsame ht
          obtain ⟨h99, h93, _⟩ := ht
          change a.tmps.getD 99 undef = .slice A9 m9 c9 at h99
          change a.tmps.getD 93 undef = .bool false at h93
          rw [if_pos (wanted_false (j := 3) (d := 93) rfl rfl h93)]
          clear hsame
          have hs := HS9.out W hI
          unfold Oper.wp
          go_simp
          exact ⟨_, rfl, hI, Below.refl _ _, fun d hd => by cases hd; exact rfl⟩
        · intro a W hI hsame ht
          obtain ⟨h95, h100, h93, _⟩ := ht
          change a.tmps.getD 95 undef = .string (str X) at h95
          change a.tmps.getD 100 undef = .string (str X) at h100
          change a.tmps.getD 93 undef = .bool false at h93
          rw [if_pos (wanted_false (j := 3) (d := 93) rfl rfl h93)]
          clear hsame
          unfold Oper.wp
          go_simp
          exact ⟨_, rfl, hI, Below.refl _ _, fun d hd => by cases hd; exact rfl⟩
        · intro a W hI hsame ht
          obtain ⟨h93, h101, _⟩ := ht
          change a.tmps.getD 93 undef = .bool false at h93
          change a.tmps.getD 101 undef = .bool false at h101
          rw [if_pos (by rfl)]
          clear hsame
          unfold Oper.wp
          go_simp
          exact ⟨_, rfl, hI, Below.refl _ _, fun d hd => by cases hd; exact rfl⟩
      · intro a W hI hsz hdef hsame hall
        have h90 := hall 90 (by decide)
        change a.tmps.getD 90 undef = .int .i64 0 at h90
        have h91 := hall 91 (by decide)
        change a.tmps.getD 91 undef = .int .i64 0 at h91
        have h92 := hall 92 (by decide)
        change a.tmps.getD 92 undef = .bool false at h92
        have h93 := hall 93 (by decide)
        change a.tmps.getD 93 undef = .bool false at h93
        have h94 := hall 94 (by decide)
        change a.tmps.getD 94 undef = .slice A8 X.length c8 at h94
        have h95 := hall 95 (by decide)
        change a.tmps.getD 95 undef = .string (str X) at h95
        have h96 := hall 96 (by decide)
        change a.tmps.getD 96 undef = .slice a0 n c0 at h96
        have h97 := hall 97 (by decide)
        change a.tmps.getD 97 undef = .int .i64 a1 at h97
        have h98 := hall 98 (by decide)
        change a.tmps.getD 98 undef = .int .i64 x at h98
        have h99 := hall 99 (by decide)
        change a.tmps.getD 99 undef = .slice A9 m9 c9 at h99
        have h100 := hall 100 (by decide)
        change a.tmps.getD 100 undef = .string (str X) at h100
        have h101 := hall 101 (by decide)
        change a.tmps.getD 101 undef = .bool false at h101
        have h102 := hall 102 (by decide)
        change a.tmps.getD 102 undef = .bool false at h102
        have hact := act_of (l := [_, _, _, _, _, _, _, _, _, _, _, _, _, _, _, _, _, _, _, _, _, _, _, _, _, _, _, _, _, _, _, _, _, _, _, _, _, _, _, _, _, _, _, _, _, _, _, _, _, _, _, _, _, _, _, _, _, _, _, _, _, _, _, _, _, _, _, _, _, _, _, _, _, _, _, _, _, _, _, _, _, _, _, _, _, _, _, _, _, _, _, _, _, _, _, _, _, _, _, _, _, _, _, _]) (ds := []) (by exact hsz) hdef ⟨hsame 0 (by decide), hsame 1 (by decide), hsame 2 (by decide), hsame 3 (by decide), hsame 4 (by decide), hsame 5 (by decide), hsame 6 (by decide), hsame 7 (by decide), hsame 8 (by decide), hsame 9 (by decide), hsame 10 (by decide), hsame 11 (by decide), hsame 12 (by decide), hsame 13 (by decide), hsame 14 (by decide), hsame 15 (by decide), hsame 16 (by decide), hsame 17 (by decide), hsame 18 (by decide), hsame 19 (by decide), hsame 20 (by decide), hsame 21 (by decide), hsame 22 (by decide), hsame 23 (by decide), hsame 24 (by decide), hsame 25 (by decide), hsame 26 (by decide), hsame 27 (by decide), hsame 28 (by decide), hsame 29 (by decide), hsame 30 (by decide), hsame 31 (by decide), hsame 32 (by decide), hsame 33 (by decide), hsame 34 (by decide), hsame 35 (by decide), hsame 36 (by decide), hsame 37 (by decide), hsame 38 (by decide), hsame 39 (by decide), hsame 40 (by decide), hsame 41 (by decide), hsame 42 (by decide), hsame 43 (by decide), hsame 44 (by decide), hsame 45 (by decide), hsame 46 (by decide), hsame 47 (by decide), hsame 48 (by decide), hsame 49 (by decide), hsame 50 (by decide), hsame 51 (by decide), hsame 52 (by decide), hsame 53 (by decide), hsame 54 (by decide), hsame 55 (by decide), hsame 56 (by decide), hsame 57 (by decide), hsame 58 (by decide), hsame 59 (by decide), hsame 60 (by decide), hsame 61 (by decide), hsame 62 (by decide), hsame 63 (by decide), hsame 64 (by decide), hsame 65 (by decide), hsame 66 (by decide), hsame 67 (by decide), hsame 68 (by decide), hsame 69 (by decide), hsame 70 (by decide), hsame 71 (by decide), hsame 72 (by decide), hsame 73 (by decide), hsame 74 (by decide), hsame 75 (by decide), hsame 76 (by decide), hsame 77 (by decide), hsame 78 (by decide), hsame 79 (by decide), hsame 80 (by decide), hsame 81 (by decide), hsame 82 (by decide), hsame 83 (by decide), hsame 84 (by decide), hsame 85 (by decide), hsame 86 (by decide), hsame 87 (by decide), hsame 88 (by decide), hsame 89 (by decide), h90, h91, h92, h93, h94, h95, h96, h97, h98, h99, h100, h101, h102, hsame 103 (by decide), trivial⟩
        clear hall hsame hsz hdef h90 h91 h92 h93 h94 h95 h96 h97 h98 h99 h100 h101 h102
        subst hact
        go_wp2_with (go_at_call 9; refine (live_calls _).mono ?_; rintro e9 w9 ⟨rfl, hb9⟩)
        go_ret
        exact ⟨rfl, Below.on (Below.on hb18 hI) hb9⟩
    · have hne : (e == 0) = false := by simpa using he
      clear he HPA
      go_wp2_with fail
      refine (same_calls A1 A2 c1 c2 ts w4 C1.out C2.out htm).mono ?_
      rintro e5 w5 ⟨rfl, hb5⟩
      dsimp only
      have hb15 := Below.on hb14 hb5
      go_wp2_with (first
        | (go_at_call 12; refine (code_calls _ _).mono ?_; rintro e' w' ⟨rfl, rfl⟩)
        | (go_at_call 18; refine (samePairs_calls A3 A4 c3 c4 ps w5 (C3'.out.below hb5) (C4.out.below hb5) hpm).mono ?_; rintro e6 w6 ⟨rfl, hb6⟩)
        | (go_at_call 9; refine (live_calls _).mono ?_; rintro e9 w9 ⟨rfl, hb9⟩))
      go_ret
      exact ⟨rfl, Below.on (Below.on hb15 hb6) hb9⟩

/- From the walk to the row. -/
set_option maxRecDepth 100000 in
theorem lifted (os : Os) (started : os.Started) (H : Type) (enc : TypeId × Value → H) :
    ReturnsInHanded {} Try.checked os 4 .any (Rows.recGetsSpec.pre6 enc Try.prog Try.f4 Rows.recGetsRow.domain false) (Rows.recGetsSpec.post enc Try.prog Try.f4 false true false false) := by
  refine returnsInHanded_of_change_sized (C := Try.checked) own started (by kernel_rfl) Try.func4
    (ChangeSpec.witness6 (enc := enc) (C := Try.checked) false ⟨#[], #[.slice none 0 0, .int .i64 0], []⟩ 8 (by kernel_rfl) (by kernel_rfl) (by kernel_rfl) (by kernel_rfl)) ?_
  intro W base args ds gs before hval0 hW hcnd hsized _
  have hval : ∀ (j : Nat) t v, Try.f4.params[j]? = some t → args[j]? = some v → Value.okWide Try.prog W .any base t v := hval0
  have hW' := hW
  obtain ⟨p, q, hA0, hV, rfl, hfz, hnd⟩ := hW
  have hA : DataW.TrodAll enc Try.prog W 0 (fun _ => true) true Try.f4.params.toList args.toList ds p := hA0
  have hsz : (DataW.weightsEach Try.prog (Try.f4.params.toList ++ Rows.recGetsSpec.plain.varTypes Try.prog) (ds ++ gs)).all (· ≤ reachBytes) = true := hsized
  rw [Try.params4] at hA hval hsz
  obtain ⟨v0, vs0, d0, ds0, p0, q0, hargs, rfl, rfl, h0, r0⟩ := trodAll_cons hA
  obtain ⟨v1, vs1, d1, ds1, p1, q1, rfl, rfl, rfl, h1, r1⟩ := trodAll_cons r0
  obtain ⟨rfl, rfl, rfl⟩ := trodAll_nil r1
  obtain rfl : args = #[v0, v1] := by cases args; simp_all
  obtain ⟨rfl, rfl⟩ := trodVars_none hV
  obtain ⟨a0, len0, cap0, rfl⟩ := okWide_slice Try.underlying24 (hval 0 24 v0 rfl rfl)
  have k0 := h0
  have lt0 : ∀ x ∈ p0, x.block < W.heap.size := by obtain ⟨m, hm⟩ := k0; exact DataW.trod_lt m _ _ _ hm
  have wt0 := weights_of_each hsz (j := 0) (t := 24) (d := d0) rfl rfl
  obtain ⟨z0, w0⟩ : ∃ zs, IsRow W a0 len0 cap0 zs := by
    obtain ⟨fuel, hf⟩ := h0
    rcases open_ints Try.underlying24 Try.underlying5 (by kernel_rfl) hf with ⟨hcs, _⟩ | ⟨x, l, c, zs, hcs, _, hl, hm, hz, _, hcell, hwz⟩
    · simp [Value.cells] at hcs
      obtain ⟨rfl, rfl, rfl⟩ := hcs
      exact ⟨[], .inl ⟨rfl, rfl, rfl, rfl⟩⟩
    · simp [Value.cells] at hcs
      obtain ⟨rfl, rfl, rfl⟩ := hcs
      exact ⟨zs, .inr ⟨_, rfl, hl, hm, by simpa using hz, hcell, hwz⟩⟩
  obtain ⟨l0, rfl, lc0, lm0, ll0, lb0⟩ := bytes_of_row w0
  obtain ⟨a1, rfl, rfl, rfl, w1⟩ := open_int Try.underlying3 (hval 1 3 v1 rfl rfl) h1
  clear hA0 hval0
  refine (walk a0 cap0 l0 a1 W lc0 lm0 ll0 lb0 w1).mono fun e W' ⟨he, bel⟩ => ?_
  subst he
  exact ⟨_, rfl, _, _, _, [], _, [], hW', trodAll_mk1 (shut_bool Try.underlying4 _), (trodAll_cons_mk (Below.trod laidOut (by kernel_rfl) (of_decide_eq_true (by kernel_rfl)) k0 bel lt0) (trodAll_cons_mk (shut_int Try.underlying3 w1) trodAll_mk0)), rfl, bel.frame _, fun h => by cases h⟩

theorem over : Rows.recGetsRow.holds Try.pinned (OpenSpec.ofChange Rows.recGetsSpec) :=
  OpenClaim.holds_of_wide 4 Try.f4 rfl rfl rfl rfl rfl rfl rfl ⟨rfl, rfl, rfl, rfl, rfl⟩ rfl rfl rfl rfl rfl (by kernel_rfl) Try.func4 (by kernel_rfl)
    (of_decide_eq_true (by kernel_rfl)) (by unfold Func.isWrapper; first | (rw [if_pos (by decide +kernel)]; kernel_rfl) | (rw [if_neg (by decide +kernel)]; exact ⟨rfl, rfl⟩))
    (fun os started H enc _ => lifted os started H enc)

end recGets

/-- The statement. -/
theorem recGets_holds : Rows.RecGetsSaid := recGets.over
#print axioms recGets_holds
end Go.Proofs.Ytimcolanmbklpaa
