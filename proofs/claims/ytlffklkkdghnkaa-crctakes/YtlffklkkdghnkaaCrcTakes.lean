/-
  For every byte slice the law CrcTakes returns true (crc.Put and crc.Take answer as the document does, Take gives back what Put was given, and the example of the page holds), and the slice reads afterwards as before. No conditions.
-/
import Derived.Test.YtlffklkkdghnkaaRows
import Derived.Test.YtlffklkkdghnkaaTake
namespace Go.Proofs.Ytlffklkkdghnkaa
namespace crcTakes
open Go.ChangeShapes Go.WideShapes Go.ChangeAt Go.RowKit
open Go.ChangeMaps (open_string shut_string)
set_option linter.unusedVariables false

theorem take_put (l : List Int) : takeS (l ++ le4Z (sumZ l)) = (l, 0) := by
  have e : (l ++ le4Z (sumZ l)).length - 4 = l.length := by rw [List.length_append]; rfl
  unfold takeS
  rw [e, List.take_left, List.drop_left, if_neg (by rw [List.length_append]; simp [le4Z]), if_pos rfl]
theorem takeS_err (l : List Int) : 0 ≤ (takeS l).2 ∧ (takeS l).2 ≤ 1000 := by
  unfold takeS
  repeat' split
  all_goals simp


/-- What each slot of the last region holds. -/
def V (A A3 A5 A7 : Option Addr) (c c3 c5 c7 : Nat) (l P R : List Int) (e : Int) (d : Nat) (W : World) (v : Value) : Prop :=
  match d with
  | 29 | 32 | 52 => v = .slice A l.length c
  | 30 | 33 => Holds W P v
  | 31 | 34 => v = .string (str P)
  | 37 => v = .slice A3 R.length c3
  | 39 => v = .slice A5 R.length c5
  | 38 | 40 => v = .string (str R)
  | 44 | 45 | 46 => v = .int .i64 e
  | 50 => v = .slice A7 l.length c7
  | 51 | 53 => v = .string (str l)
  | 57 | 58 => v = .int .i64 0
  | 35 | 36 | 41 | 42 | 43 | 47 | 48 | 49 | 54 | 55 | 56 | 59 | 60 | 61 | 62 | 63 | 2 => v = .bool true
  | _ => True
theorem V.keep (A A3 A5 A7 : Option Addr) (c c3 c5 c7 : Nat) (l P R : List Int) (e : Int) (d : Nat) (W W' : World) (v : Value) (hb : Below W.heap.size W W') (h : V A A3 A5 A7 c c3 c5 c7 l P R e d W v) : V A A3 A5 A7 c c3 c5 c7 l P R e d W' v := by
  unfold V at *
  split at h
  all_goals first | exact h | (obtain ⟨A, c, rfl, h⟩ := h; exact ⟨A, c, rfl, h.below hb⟩)

set_option maxRecDepth 100000 in
set_option maxHeartbeats 4000000 in
theorem small (A : Option Addr) (c : Nat) (l : List Int) (w : World) (h : Lies w A c l) (hb : IsB l) (hc : l.length ≤ c) (hl : l.length ≤ 2000) :
    Calls Try.prog 4 #[.slice A l.length c] w fun e w' => e = .returned (.bool true) ∧ Below w.heap.size w w' := by
  have H := Lib.hid h
  have HT := Lib.hid (take_calls A c l w h hb hc (by omega))
  have HR := Lib.hid (fun (W : World) (hbl : Below w.heap.size w W) => rtake_calls A c l W (h.below hbl) hb hc (by omega))
  have HP := Lib.hid (fun (W : World) (hbl : Below w.heap.size w W) => put_calls A c l W (h.below hbl) hb (by omega))
  have HQ := Lib.hid (fun (W : World) (hbl : Below w.heap.size w W) => rput_calls A c l W (h.below hbl) hb (by omega))
  have hbP : IsB (l ++ le4Z (sumZ l)) := hb.append (le4Z_isB _)
  have hlP : (l ++ le4Z (sumZ l)).length ≤ 1000000 := by rw [List.length_append]; simp [le4Z]; omega
  have ht := fun (A' : Option Addr) (c' : Nat) (W : World) (h' : Lies W A' c' (l ++ le4Z (sumZ l))) (hc' : (l ++ le4Z (sumZ l)).length ≤ c') => take_calls A' c' _ W h' hbP hc' hlP
  rw [take_put] at ht
  have HTP := Lib.hid ht
  obtain ⟨he0, he1⟩ := takeS_err l
  obtain ⟨R, e, hR⟩ : ∃ R e, takeS l = (R, e) := ⟨_, _, rfl⟩
  rw [hR] at HT HR he0 he1
  simp only at he0 he1
  clear h hb ht hR hbP hlP
  generalize l ++ le4Z (sumZ l) = P at *
  go_enter Try.func4, Try.ntmps4
  go_wp2_with fail
  refine HT.out.mono ?_
  rintro e' w1 ⟨A3, c3, rfl, hown3, hb1⟩
  have HX1 := Lib.hid hown3.lies
  clear hown3
  simp only
  go_wp2_with fail
  refine (HR.out w1 hb1).mono ?_
  rintro e' w2 ⟨A5, c5, rfl, hL5, hb2'⟩
  have hb2 := Below.on hb1 hb2'
  have HX2 := Lib.hid (HX1.out.below hb2')
  have HY2 := Lib.hid hL5
  clear hL5
  simp only
  go_wp2_with fail
  refine (HP.out w2 hb2).mono ?_
  rintro e' w3 ⟨A6, c6, rfl, hown6, hb3'⟩
  have hb3 := Below.on hb2 hb3'
  have HX3 := Lib.hid (HX2.out.below hb3')
  have HY3 := Lib.hid (HY2.out.below hb3')
  have HO6 := Lib.hid (show OwnS _ _ _ _ _ from hown6)
  clear hown6
  go_wp2_with fail
  refine (HTP.out _ _ w3 HO6.out.lies HO6.out.cap).mono ?_
  rintro e' w5 ⟨A7, c7, rfl, hown7, hb5'⟩
  have hb5 := Below.on hb3 hb5'
  have HX := Lib.hid (HX3.out.below hb5')
  have HY := Lib.hid (HY3.out.below hb5')
  have HZ := Lib.hid hown7.lies
  clear hown7
  simp only
  go_wp2_with fail
  refine wp_region_inv (by kernel_rfl) (fun W => Below w5.heap.size w5 W) (fun W W' => Below W.heap.size W W') (V A A3 A5 A7 c c3 c5 c7 l P R e) [[], [29], [30], [], [32], [33], [31, 34], [35], [36], [37, 36], [36], [39, 36], [38, 40, 36], [36, 41], [42], [43], [44, 43], [43], [45, 46, 43], [43, 47], [48], [49], [50, 49], [49], [52, 49], [51, 53, 49], [49, 54], [55], [56], [57, 56], [58, 56], [56, 59], [60], [61], [61, 62], [63]] (by kernel_rfl) (fun W => Below.refl _ _) (fun d W W' v => V.keep A A3 A5 A7 c c3 c5 c7 l P R e d W W' v) (Below.refl _ _).drew ?_ ?_
  · refine ⟨?_, ?_, ?_, ?_, ?_, ?_, ?_, ?_, ?_, ?_, ?_, ?_, ?_, ?_, ?_, ?_, ?_, ?_, ?_, ?_, ?_, ?_, ?_, ?_, ?_, ?_, ?_, ?_, ?_, ?_, ?_, ?_, ?_, ?_, ?_, ?_, trivial⟩
    · intro a W hI hsame ht
      have h0 := hsame 0 (by decide)
      change a.tmps.getD 0 undef = .slice A l.length c at h0
      rw [if_pos (by rfl)]
      clear hsame
      unfold Oper.wp
      go_simp
      exact ⟨_, rfl, hI, Below.refl _ _, fun d hd => by cases hd; exact rfl⟩
    · intro a W hI hsame ht
      obtain ⟨h29, _⟩ := ht
      change a.tmps.getD 29 undef = .slice A l.length c at h29
      rw [if_pos (by rfl)]
      clear hsame
      unfold Oper.wp
      go_simp
      refine (HP.out _ (Below.on hb5 hI)).mono ?_
      rintro e' W' ⟨A, c, rfl, hown, hb⟩
      exact ⟨_, rfl, Below.on hI hb, hb, fun d hd => by cases hd; exact ⟨A, c, rfl, Lies.of_own hown⟩⟩
    · intro a W hI hsame ht
      obtain ⟨⟨A30, c30, h30, hL30⟩, _⟩ := ht
      rw [if_pos (by rfl)]
      clear hsame
      have hs := run_str hL30
      unfold Oper.wp
      go_simp
      exact ⟨_, rfl, hI, Below.refl _ _, fun d hd => by cases hd; exact rfl⟩
    · intro a W hI hsame ht
      have h0 := hsame 0 (by decide)
      change a.tmps.getD 0 undef = .slice A l.length c at h0
      rw [if_pos (by rfl)]
      clear hsame
      unfold Oper.wp
      go_simp
      exact ⟨_, rfl, hI, Below.refl _ _, fun d hd => by cases hd; exact rfl⟩
    · intro a W hI hsame ht
      obtain ⟨h32, _⟩ := ht
      change a.tmps.getD 32 undef = .slice A l.length c at h32
      rw [if_pos (by rfl)]
      clear hsame
      unfold Oper.wp
      go_simp
      refine (HQ.out _ (Below.on hb5 hI)).mono ?_
      rintro e' W' ⟨A, c, rfl, hown, hb⟩
      exact ⟨_, rfl, Below.on hI hb, hb, fun d hd => by cases hd; exact ⟨A, c, rfl, Lies.of_own hown⟩⟩
    · intro a W hI hsame ht
      obtain ⟨⟨A33, c33, h33, hL33⟩, _⟩ := ht
      rw [if_pos (by rfl)]
      clear hsame
      have hs := run_str hL33
      unfold Oper.wp
      go_simp
      exact ⟨_, rfl, hI, Below.refl _ _, fun d hd => by cases hd; exact rfl⟩
    · intro a W hI hsame ht
      obtain ⟨h31, h34, _⟩ := ht
      change a.tmps.getD 31 undef = .string (str P) at h31
      change a.tmps.getD 34 undef = .string (str P) at h34
      rw [if_pos (by rfl)]
      clear hsame
      unfold Oper.wp
      go_simp
      exact ⟨_, rfl, hI, Below.refl _ _, fun d hd => by cases hd; exact rfl⟩
    · intro a W hI hsame ht
      obtain ⟨h35, _⟩ := ht
      change a.tmps.getD 35 undef = .bool true at h35
      rw [if_pos (by rfl)]
      clear hsame
      unfold Oper.wp
      go_simp
      exact ⟨_, rfl, hI, Below.refl _ _, fun d hd => by cases hd; exact rfl⟩
    · intro a W hI hsame ht
      obtain ⟨h36, _⟩ := ht
      change a.tmps.getD 36 undef = .bool true at h36
      have h3 := hsame 3 (by decide)
      change a.tmps.getD 3 undef = .slice A3 R.length c3 at h3
      rw [if_pos (wanted_true (j := 7) (d := 36) rfl rfl h36)]
      clear hsame
      unfold Oper.wp
      go_simp
      exact ⟨_, rfl, hI, Below.refl _ _, fun d hd => by cases hd; exact rfl⟩
    · intro a W hI hsame ht
      obtain ⟨h37, h36, _⟩ := ht
      change a.tmps.getD 37 undef = .slice A3 R.length c3 at h37
      change a.tmps.getD 36 undef = .bool true at h36
      rw [if_pos (wanted_true (j := 7) (d := 36) rfl rfl h36)]
      clear hsame
      have hs := run_str (HX.out.below hI)
      unfold Oper.wp
      go_simp
      exact ⟨_, rfl, hI, Below.refl _ _, fun d hd => by cases hd; exact rfl⟩
    · intro a W hI hsame ht
      obtain ⟨h36, _⟩ := ht
      change a.tmps.getD 36 undef = .bool true at h36
      have h5 := hsame 5 (by decide)
      change a.tmps.getD 5 undef = .slice A5 R.length c5 at h5
      rw [if_pos (wanted_true (j := 7) (d := 36) rfl rfl h36)]
      clear hsame
      unfold Oper.wp
      go_simp
      exact ⟨_, rfl, hI, Below.refl _ _, fun d hd => by cases hd; exact rfl⟩
    · intro a W hI hsame ht
      obtain ⟨h39, h36, _⟩ := ht
      change a.tmps.getD 39 undef = .slice A5 R.length c5 at h39
      change a.tmps.getD 36 undef = .bool true at h36
      rw [if_pos (wanted_true (j := 7) (d := 36) rfl rfl h36)]
      clear hsame
      have hs := run_str (HY.out.below hI)
      unfold Oper.wp
      go_simp
      exact ⟨_, rfl, hI, Below.refl _ _, fun d hd => by cases hd; exact rfl⟩
    · intro a W hI hsame ht
      obtain ⟨h38, h40, h36, _⟩ := ht
      change a.tmps.getD 38 undef = .string (str R) at h38
      change a.tmps.getD 40 undef = .string (str R) at h40
      change a.tmps.getD 36 undef = .bool true at h36
      rw [if_pos (wanted_true (j := 7) (d := 36) rfl rfl h36)]
      clear hsame
      unfold Oper.wp
      go_simp
      exact ⟨_, rfl, hI, Below.refl _ _, fun d hd => by cases hd; exact rfl⟩
    · intro a W hI hsame ht
      obtain ⟨h36, h41, _⟩ := ht
      change a.tmps.getD 36 undef = .bool true at h36
      change a.tmps.getD 41 undef = .bool true at h41
      rw [if_pos (by rfl)]
      clear hsame
      unfold Oper.wp
      go_simp
      exact ⟨_, rfl, hI, Below.refl _ _, fun d hd => by cases hd; exact rfl⟩
    · intro a W hI hsame ht
      obtain ⟨h42, _⟩ := ht
      change a.tmps.getD 42 undef = .bool true at h42
      rw [if_pos (by rfl)]
      clear hsame
      unfold Oper.wp
      go_simp
      exact ⟨_, rfl, hI, Below.refl _ _, fun d hd => by cases hd; exact rfl⟩
    · intro a W hI hsame ht
      obtain ⟨h43, _⟩ := ht
      change a.tmps.getD 43 undef = .bool true at h43
      have h4 := hsame 4 (by decide)
      change a.tmps.getD 4 undef = .int .i64 e at h4
      rw [if_pos (wanted_true (j := 14) (d := 43) rfl rfl h43)]
      clear hsame
      unfold Oper.wp
      go_simp
      exact ⟨_, rfl, hI, Below.refl _ _, fun d hd => by cases hd; exact rfl⟩
    · intro a W hI hsame ht
      obtain ⟨h44, h43, _⟩ := ht
      change a.tmps.getD 44 undef = .int .i64 e at h44
      change a.tmps.getD 43 undef = .bool true at h43
      rw [if_pos (wanted_true (j := 14) (d := 43) rfl rfl h43)]
      clear hsame
      unfold Oper.wp
      go_simp
      refine (code_calls _ _ he0 he1).mono ?_
      rintro e' W' ⟨rfl, rfl⟩
      exact ⟨_, rfl, hI, Below.refl _ _, fun d hd => by cases hd; exact rfl⟩
    · intro a W hI hsame ht
      obtain ⟨h43, _⟩ := ht
      change a.tmps.getD 43 undef = .bool true at h43
      have h6 := hsame 6 (by decide)
      change a.tmps.getD 6 undef = .int .i64 e at h6
      rw [if_pos (wanted_true (j := 14) (d := 43) rfl rfl h43)]
      clear hsame
      unfold Oper.wp
      go_simp
      exact ⟨_, rfl, hI, Below.refl _ _, fun d hd => by cases hd; exact rfl⟩
    · intro a W hI hsame ht
      obtain ⟨h45, h46, h43, _⟩ := ht
      change a.tmps.getD 45 undef = .int .i64 e at h45
      change a.tmps.getD 46 undef = .int .i64 e at h46
      change a.tmps.getD 43 undef = .bool true at h43
      rw [if_pos (wanted_true (j := 14) (d := 43) rfl rfl h43)]
      clear hsame
      unfold Oper.wp
      go_simp
      exact ⟨_, rfl, hI, Below.refl _ _, fun d hd => by cases hd; exact rfl⟩
    · intro a W hI hsame ht
      obtain ⟨h43, h47, _⟩ := ht
      change a.tmps.getD 43 undef = .bool true at h43
      change a.tmps.getD 47 undef = .bool true at h47
      rw [if_pos (by rfl)]
      clear hsame
      unfold Oper.wp
      go_simp
      exact ⟨_, rfl, hI, Below.refl _ _, fun d hd => by cases hd; exact rfl⟩
    · intro a W hI hsame ht
      obtain ⟨h48, _⟩ := ht
      change a.tmps.getD 48 undef = .bool true at h48
      rw [if_pos (by rfl)]
      clear hsame
      unfold Oper.wp
      go_simp
      exact ⟨_, rfl, hI, Below.refl _ _, fun d hd => by cases hd; exact rfl⟩
    · intro a W hI hsame ht
      obtain ⟨h49, _⟩ := ht
      change a.tmps.getD 49 undef = .bool true at h49
      have h7 := hsame 7 (by decide)
      change a.tmps.getD 7 undef = .slice A7 l.length c7 at h7
      rw [if_pos (wanted_true (j := 20) (d := 49) rfl rfl h49)]
      clear hsame
      unfold Oper.wp
      go_simp
      exact ⟨_, rfl, hI, Below.refl _ _, fun d hd => by cases hd; exact rfl⟩
    · intro a W hI hsame ht
      obtain ⟨h50, h49, _⟩ := ht
      change a.tmps.getD 50 undef = .slice A7 l.length c7 at h50
      change a.tmps.getD 49 undef = .bool true at h49
      rw [if_pos (wanted_true (j := 20) (d := 49) rfl rfl h49)]
      clear hsame
      have hs := run_str (HZ.out.below hI)
      unfold Oper.wp
      go_simp
      exact ⟨_, rfl, hI, Below.refl _ _, fun d hd => by cases hd; exact rfl⟩
    · intro a W hI hsame ht
      obtain ⟨h49, _⟩ := ht
      change a.tmps.getD 49 undef = .bool true at h49
      have h0 := hsame 0 (by decide)
      change a.tmps.getD 0 undef = .slice A l.length c at h0
      rw [if_pos (wanted_true (j := 20) (d := 49) rfl rfl h49)]
      clear hsame
      unfold Oper.wp
      go_simp
      exact ⟨_, rfl, hI, Below.refl _ _, fun d hd => by cases hd; exact rfl⟩
    · intro a W hI hsame ht
      obtain ⟨h52, h49, _⟩ := ht
      change a.tmps.getD 52 undef = .slice A l.length c at h52
      change a.tmps.getD 49 undef = .bool true at h49
      rw [if_pos (wanted_true (j := 20) (d := 49) rfl rfl h49)]
      clear hsame
      have hs := run_str (H.out.below (Below.on hb5 hI))
      unfold Oper.wp
      go_simp
      exact ⟨_, rfl, hI, Below.refl _ _, fun d hd => by cases hd; exact rfl⟩
    · intro a W hI hsame ht
      obtain ⟨h51, h53, h49, _⟩ := ht
      change a.tmps.getD 51 undef = .string (str l) at h51
      change a.tmps.getD 53 undef = .string (str l) at h53
      change a.tmps.getD 49 undef = .bool true at h49
      rw [if_pos (wanted_true (j := 20) (d := 49) rfl rfl h49)]
      clear hsame
      unfold Oper.wp
      go_simp
      exact ⟨_, rfl, hI, Below.refl _ _, fun d hd => by cases hd; exact rfl⟩
    · intro a W hI hsame ht
      obtain ⟨h49, h54, _⟩ := ht
      change a.tmps.getD 49 undef = .bool true at h49
      change a.tmps.getD 54 undef = .bool true at h54
      rw [if_pos (by rfl)]
      clear hsame
      unfold Oper.wp
      go_simp
      exact ⟨_, rfl, hI, Below.refl _ _, fun d hd => by cases hd; exact rfl⟩
    · intro a W hI hsame ht
      obtain ⟨h55, _⟩ := ht
      change a.tmps.getD 55 undef = .bool true at h55
      rw [if_pos (by rfl)]
      clear hsame
      unfold Oper.wp
      go_simp
      exact ⟨_, rfl, hI, Below.refl _ _, fun d hd => by cases hd; exact rfl⟩
    · intro a W hI hsame ht
      obtain ⟨h56, _⟩ := ht
      change a.tmps.getD 56 undef = .bool true at h56
      have h8 := hsame 8 (by decide)
      change a.tmps.getD 8 undef = .int .i64 0 at h8
      rw [if_pos (wanted_true (j := 27) (d := 56) rfl rfl h56)]
      clear hsame
      unfold Oper.wp
      go_simp
      exact ⟨_, rfl, hI, Below.refl _ _, fun d hd => by cases hd; exact rfl⟩
    · intro a W hI hsame ht
      obtain ⟨h57, h56, _⟩ := ht
      change a.tmps.getD 57 undef = .int .i64 0 at h57
      change a.tmps.getD 56 undef = .bool true at h56
      rw [if_pos (wanted_true (j := 27) (d := 56) rfl rfl h56)]
      clear hsame
      unfold Oper.wp
      go_simp
      refine (code_calls _ _ (by omega) (by omega)).mono ?_
      rintro e' W' ⟨rfl, rfl⟩
      exact ⟨_, rfl, hI, Below.refl _ _, fun d hd => by cases hd; exact rfl⟩
    · intro a W hI hsame ht
      obtain ⟨h58, h56, _⟩ := ht
      change a.tmps.getD 58 undef = .int .i64 0 at h58
      change a.tmps.getD 56 undef = .bool true at h56
      rw [if_pos (wanted_true (j := 27) (d := 56) rfl rfl h56)]
      clear hsame
      unfold Oper.wp
      go_simp
      exact ⟨_, rfl, hI, Below.refl _ _, fun d hd => by cases hd; exact rfl⟩
    · intro a W hI hsame ht
      obtain ⟨h56, h59, _⟩ := ht
      change a.tmps.getD 56 undef = .bool true at h56
      change a.tmps.getD 59 undef = .bool true at h59
      rw [if_pos (by rfl)]
      clear hsame
      unfold Oper.wp
      go_simp
      exact ⟨_, rfl, hI, Below.refl _ _, fun d hd => by cases hd; exact rfl⟩
    · intro a W hI hsame ht
      obtain ⟨h60, _⟩ := ht
      change a.tmps.getD 60 undef = .bool true at h60
      rw [if_pos (by rfl)]
      clear hsame
      unfold Oper.wp
      go_simp
      exact ⟨_, rfl, hI, Below.refl _ _, fun d hd => by cases hd; exact rfl⟩
    · intro a W hI hsame ht
      obtain ⟨h61, _⟩ := ht
      change a.tmps.getD 61 undef = .bool true at h61
      rw [if_pos (wanted_true (j := 32) (d := 61) rfl rfl h61)]
      clear hsame
      unfold Oper.wp
      go_simp
      refine (live_calls _).mono ?_
      rintro e' W' ⟨rfl, hb⟩
      exact ⟨_, rfl, Below.on hI hb, hb, fun d hd => by cases hd; exact rfl⟩
    · intro a W hI hsame ht
      obtain ⟨h61, h62, _⟩ := ht
      change a.tmps.getD 61 undef = .bool true at h61
      change a.tmps.getD 62 undef = .bool true at h62
      rw [if_pos (by rfl)]
      clear hsame
      unfold Oper.wp
      go_simp
      exact ⟨_, rfl, hI, Below.refl _ _, fun d hd => by cases hd; exact rfl⟩
    · intro a W hI hsame ht
      obtain ⟨h63, _⟩ := ht
      change a.tmps.getD 63 undef = .bool true at h63
      rw [if_pos (by rfl)]
      clear hsame
      unfold Oper.wp
      go_simp
      exact ⟨_, rfl, hI, Below.refl _ _, fun d hd => by cases hd; exact rfl⟩
  · intro a W hI hsz hdef hsame hall
    have h2 := hall 2 (by decide)
    change a.tmps.getD 2 undef = .bool true at h2
    clear hall hsame
    go_wp2
    exact bodyPost_ret (results_tmp (by rfl) _ _ _) hdef ⟨congrArg Ending.returned h2, Below.on hb5 hI⟩

theorem walk (a0 : Option Addr) (len0 cap0 : Nat) (z0 : List Int) (w : World) (w0 : IsRow w a0 len0 cap0 z0) :
    Calls Try.prog 4 #[.slice a0 len0 cap0] w fun e w' => e = .returned (.bool true) ∧ Below w.heap.size w w' := by
  obtain ⟨l, rfl, hc, hm, h, hb⟩ := bytes_of_row w0
  unfold maxLen at hm
  by_cases hl : l.length ≤ 2000
  · exact small a0 cap0 l w h hb hc hl
  · clear h hb w0
    go_enter Try.func4, Try.ntmps4
    go_wp2_with (go_at_call 6; refine (live_calls _).mono ?_; rintro e w1 ⟨rfl, hb1⟩)
    go_ret
    exact ⟨rfl, hb1⟩

/- From the walk to the row. -/
set_option maxRecDepth 100000 in
theorem lifted (os : Os) (started : os.Started) (H : Type) (enc : TypeId × Value → H) :
    ReturnsInHanded {} Try.checked os 4 .any (Rows.crcTakesSpec.pre6 enc Try.prog Try.f4 Rows.crcTakesRow.domain false) (Rows.crcTakesSpec.post enc Try.prog Try.f4 false true false false) := by
  refine returnsInHanded_of_change (C := Try.checked) own started (by kernel_rfl) Try.func4
    (ChangeSpec.witness6 (enc := enc) (C := Try.checked) false ⟨#[], #[.slice none 0 0], []⟩ 8 (by kernel_rfl) (by kernel_rfl) (by kernel_rfl) (by kernel_rfl)) ?_
  intro W base args ds gs before hval0 hW hcnd _
  have hval : ∀ (j : Nat) t v, Try.f4.params[j]? = some t → args[j]? = some v → Value.okWide Try.prog W .any base t v := hval0
  have hW' := hW
  obtain ⟨p, q, hA0, hV, rfl, hfz, hnd⟩ := hW
  have hA : DataW.TrodAll enc Try.prog W 0 (fun _ => true) true Try.f4.params.toList args.toList ds p := hA0
  rw [Try.params4] at hA hval
  obtain ⟨v0, vs0, d0, ds0, p0, q0, hargs, rfl, rfl, h0, r0⟩ := trodAll_cons hA
  obtain ⟨rfl, rfl, rfl⟩ := trodAll_nil r0
  obtain rfl : args = #[v0] := by cases args; simp_all
  obtain ⟨rfl, rfl⟩ := trodVars_none hV
  obtain ⟨a0, len0, cap0, rfl⟩ := okWide_slice Try.underlying22 (hval 0 22 v0 rfl rfl)
  have k0 := h0
  have lt0 : ∀ x ∈ p0, x.block < W.heap.size := by obtain ⟨m, hm⟩ := k0; exact DataW.trod_lt m _ _ _ hm
  obtain ⟨z0, w0⟩ : ∃ zs, IsRow W a0 len0 cap0 zs := by
    obtain ⟨fuel, hf⟩ := h0
    rcases open_ints Try.underlying22 Try.underlying5 (by kernel_rfl) hf with ⟨hcs, _⟩ | ⟨x, l, c, zs, hcs, _, hl, hm, hz, _, hcell, hwz⟩
    · simp [Value.cells] at hcs
      obtain ⟨rfl, rfl, rfl⟩ := hcs
      exact ⟨[], .inl ⟨rfl, rfl, rfl, rfl⟩⟩
    · simp [Value.cells] at hcs
      obtain ⟨rfl, rfl, rfl⟩ := hcs
      exact ⟨zs, .inr ⟨_, rfl, hl, hm, by simpa using hz, hcell, hwz⟩⟩
  clear hA0 hval0
  refine (walk a0 len0 cap0 z0 W w0).mono fun e W' ⟨he, bel⟩ => ?_
  subst he
  exact ⟨_, rfl, _, _, _, [], _, [], hW', trodAll_mk1 (shut_bool Try.underlying4 _), (trodAll_cons_mk (Below.trod laidOut (by kernel_rfl) (of_decide_eq_true (by kernel_rfl)) k0 bel lt0) trodAll_mk0), rfl, bel.frame _, fun h => by cases h⟩

theorem over : Rows.crcTakesRow.holds Try.pinned (OpenSpec.ofChange Rows.crcTakesSpec) :=
  OpenClaim.holds_of_wide 4 Try.f4 rfl rfl rfl rfl rfl rfl rfl ⟨rfl, rfl, rfl, rfl, rfl⟩ rfl rfl rfl rfl rfl (by kernel_rfl) Try.func4 (by kernel_rfl)
    (of_decide_eq_true (by kernel_rfl)) (by unfold Func.isWrapper; first | (rw [if_pos (by decide +kernel)]; kernel_rfl) | (rw [if_neg (by decide +kernel)]; exact ⟨rfl, rfl⟩))
    (fun os started H enc _ => lifted os started H enc)

end crcTakes

/-- The statement. -/
theorem crcTakes_holds : Rows.CrcTakesSaid := crcTakes.over
#print axioms crcTakes_holds
end Go.Proofs.Ytlffklkkdghnkaa
