/-
  For all byte slices the law FramePuts returns true (frame.Put answers as the document does, as long as frame.Size says; frame.Get gives back the data whatever follows; and the example of the page holds), and the slices read afterwards as before. No conditions.
-/
import Derived.Test.YtikeebgclplphaaRows
import Derived.Test.YtikeebgclplphaaFLive
namespace Go.Proofs.Ytikeebgclplphaa
namespace framePuts
open Go.ChangeShapes Go.WideShapes Go.ChangeAt Go.RowKit
open Go.ChangeMaps (open_string shut_string)
set_option linter.unusedVariables false

/-- A guard that has said no, where no is asked. -/
theorem wanted_false {ops : List Oper} {o : Oper} {a : Act} {j d : Nat} (hg : o.guard = some (j, false)) (hd : (ops[j]?).bind (·.dst) = some d) (hv : a.tmps.getD d undef = .bool false) :
    Region.wanted o (yielded ops.toArray a.tmps) = true := by
  have h : a.tmps[d]? = some (.bool false) := by
    rw [Array.getD_eq_getD_getElem?] at hv
    cases ht : a.tmps[d]? with
    | none => rw [ht] at hv; exact absurd hv (by simp [undef])
    | some v => rw [ht] at hv; simpa using hv
  have hy : yielded ops.toArray a.tmps j = some false := by
    unfold yielded
    rw [List.getElem?_toArray, hd]
    simp [h]
  unfold Region.wanted
  rw [hg]
  simp [hy]

/-- What each slot of the region holds. -/
def VP (A A7 D : Option Addr) (c c7 d0 : Nat) (l r X E : List Int) (d : Nat) (W : World) (v : Value) : Prop :=
  match d with
  | 32 | 33 => v = .int .i64 0
  | 34 | 35 | 44 | 45 | 46 | 53 | 54 => v = .bool false
  | 36 => v = .slice A7 X.length c7
  | 37 | 43 => v = .string (str X)
  | 38 => v = .slice A l.length c
  | 39 => v = .string (str l)
  | 40 | 47 | 50 => v = .slice D r.length d0
  | 41 | 51 => Holds W E v
  | 42 => v = .string (str E)
  | 48 => v = .int .i64 (r.length : Int)
  | 49 | 52 => v = .int .i64 (E.length : Int)
  | _ => True
theorem VP.keep (A A7 D : Option Addr) (c c7 d0 : Nat) (l r X E : List Int) (d : Nat) (W W' : World) (v : Value) (hb : Below W.heap.size W W') (h : VP A A7 D c c7 d0 l r X E d W v) : VP A A7 D c c7 d0 l r X E d W' v := by
  unfold VP at *
  split at h
  all_goals first | exact h | (obtain ⟨A, c, rfl, h⟩ := h; exact ⟨A, c, rfl, h.below hb⟩)

set_option maxRecDepth 100000 in
set_option maxHeartbeats 4000000 in
theorem small (A D M : Option Addr) (c d0 m0 : Nat) (l r m : List Int) (w : World) (h : Lies w A c l) (hr : Lies w D d0 r) (hm : Lies w M m0 m) (hb : IsB l) (hbr : IsB r) (hbm : IsB m) (hl : l.length ≤ 500) (hrl : r.length ≤ 2000) (hml : m.length ≤ 500) :
    Calls Try.prog 3 #[.slice A l.length c, .slice D r.length d0, .slice M m.length m0] w fun e w' => e = .returned (.bool true) ∧ Below w.heap.size w w' := by
  have t1 : decide ((500 : Int) < (l.length : Int)) = false := by simp; omega
  have t2 : decide ((2000 : Int) < (r.length : Int)) = false := by simp; omega
  have t3 : decide ((500 : Int) < (m.length : Int)) = false := by simp; omega
  have HP := Lib.hid (fput_calls A c l D d0 r w h hr hbr (by omega) (by omega))
  have HBy := Lib.hid (fun (W : World) (hW : Below w.heap.size w W) => fbytes_calls D d0 r W (hr.below hW) hbr (by omega))
  have hEl : (encF r).length = vlen (r.length : Int) + r.length + 4 := encF_length r
  have hv := vlen_le (r.length : Int)
  have HSZ := Lib.hid (fun (W : World) => size_calls (r.length : Int) W (by omega) (by omega))
  rw [if_neg (by omega), show (vlen (r.length : Int) : Int) + (r.length : Int) + 4 = ((encF r).length : Int) by rw [hEl]; omega] at HSZ
  have hbX : IsB (l ++ encF r ++ m) := (hb.append (encF_isB r hbr (by omega))).append hbm
  have hG := fun (A' : Option Addr) (c' : Nat) (W : World) (h' : Lies W A' c' (l ++ encF r ++ m)) (hc' : (l ++ encF r ++ m).length ≤ c') => fget_calls A' c' (l ++ encF r ++ m) (l.length : Int) W h' hbX hc' (by rw [List.length_append, List.length_append, hEl]; omega)
  rw [getF_back l r m (by omega), show (l.length : Int) + ((encF r).length : Int) = ((l ++ encF r).length : Int) by rw [List.length_append]; omega] at hG
  have HG := Lib.hid hG
  have HL := Lib.hid h
  have HR := Lib.hid hr
  have HM := Lib.hid hm
  have hEl3 : (encF r).length ≤ 3000 := by rw [hEl]; omega
  have hXl : (l ++ encF r).length ≤ 3000 := by rw [List.length_append, hEl]; omega
  clear h hr hm hb hbr hbm hbX hG hEl hv
  generalize encF r = E at *
  obtain ⟨X, hX⟩ : ∃ X, X = l ++ E := ⟨_, rfl⟩
  rw [← hX] at HP HG hXl
  have HX := Lib.hid hX
  clear hX
  go_enter Try.func3, Try.ntmps3
  go_wp2_with (go_at_call 8; refine HP.out.mono ?_; rintro e w1 ⟨A7, c7, rfl, hown7, hb1⟩; dsimp only at hown7; have HX7 := Lib.hid (OwnS.lies hown7); clear hown7; dsimp only)
  refine wp_region_inv (by kernel_rfl) (fun W => Below w1.heap.size w1 W) (fun W W' => Below W.heap.size W W') (VP A A7 D c c7 d0 l r X E) [[], [32], [33], [34], [35], [36, 35], [35], [38, 35], [35], [40, 35], [41, 35], [39, 42, 35], [37, 43, 35], [35, 44], [45], [46], [47, 46], [48, 46], [46], [50, 46], [51, 46], [49, 52, 46], [46, 53]] (by kernel_rfl) (fun W => Below.refl _ _) (fun d W W' v => VP.keep A A7 D c c7 d0 l r X E d W W' v) (Below.refl _ _).drew ?_ ?_
  · refine ⟨?_, ?_, ?_, ?_, ?_, ?_, ?_, ?_, ?_, ?_, ?_, ?_, ?_, ?_, ?_, ?_, ?_, ?_, ?_, ?_, ?_, ?_, ?_, trivial⟩
    · intro a W hI hsame ht
      have h8 := hsame 8 (by decide)
      change a.tmps.getD 8 undef = .int .i64 0 at h8
      rw [if_pos (by rfl)]
      clear hsame
      unfold Oper.wp
      go_simp
      exact ⟨_, rfl, hI, Below.refl _ _, fun d hd => by cases hd; exact rfl⟩
    · intro a W hI hsame ht
      obtain ⟨h32, _⟩ := ht
      change a.tmps.getD 32 undef = .int .i64 0 at h32
      rw [if_pos (by rfl)]
      clear hsame
      unfold Oper.wp
      go_simp
      refine (code_calls _ _).mono ?_
      rintro e' W' ⟨rfl, rfl⟩
      exact ⟨_, rfl, hI, Below.refl _ _, fun d hd => by cases hd; exact rfl⟩
    · intro a W hI hsame ht
      obtain ⟨h33, _⟩ := ht
      change a.tmps.getD 33 undef = .int .i64 0 at h33
      rw [if_pos (by rfl)]
      clear hsame
      unfold Oper.wp
      go_simp
      exact ⟨_, rfl, hI, Below.refl _ _, fun d hd => by cases hd; exact rfl⟩
    · intro a W hI hsame ht
      obtain ⟨h34, _⟩ := ht
      change a.tmps.getD 34 undef = .bool false at h34
      rw [if_pos (by rfl)]
      clear hsame
      unfold Oper.wp
      go_simp
      exact ⟨_, rfl, hI, Below.refl _ _, fun d hd => by cases hd; exact rfl⟩
    · intro a W hI hsame ht
      obtain ⟨h35, _⟩ := ht
      change a.tmps.getD 35 undef = .bool false at h35
      have h7 := hsame 7 (by decide)
      change a.tmps.getD 7 undef = .slice A7 X.length c7 at h7
      rw [if_pos (wanted_false (j := 3) (d := 35) rfl rfl h35)]
      clear hsame
      unfold Oper.wp
      go_simp
      exact ⟨_, rfl, hI, Below.refl _ _, fun d hd => by cases hd; exact rfl⟩
    · intro a W hI hsame ht
      obtain ⟨h36, h35, _⟩ := ht
      change a.tmps.getD 36 undef = .slice A7 X.length c7 at h36
      change a.tmps.getD 35 undef = .bool false at h35
      rw [if_pos (wanted_false (j := 3) (d := 35) rfl rfl h35)]
      clear hsame
      have hs := run_str (HX7.out.below hI)
      unfold Oper.wp
      go_simp
      exact ⟨_, rfl, hI, Below.refl _ _, fun d hd => by cases hd; exact rfl⟩
    · intro a W hI hsame ht
      obtain ⟨h35, _⟩ := ht
      change a.tmps.getD 35 undef = .bool false at h35
      have h0 := hsame 0 (by decide)
      change a.tmps.getD 0 undef = .slice A l.length c at h0
      rw [if_pos (wanted_false (j := 3) (d := 35) rfl rfl h35)]
      clear hsame
      unfold Oper.wp
      go_simp
      exact ⟨_, rfl, hI, Below.refl _ _, fun d hd => by cases hd; exact rfl⟩
    · intro a W hI hsame ht
      obtain ⟨h38, h35, _⟩ := ht
      change a.tmps.getD 38 undef = .slice A l.length c at h38
      change a.tmps.getD 35 undef = .bool false at h35
      rw [if_pos (wanted_false (j := 3) (d := 35) rfl rfl h35)]
      clear hsame
      have hs := run_str (HL.out.below (Below.on hb1 hI))
      unfold Oper.wp
      go_simp
      exact ⟨_, rfl, hI, Below.refl _ _, fun d hd => by cases hd; exact rfl⟩
    · intro a W hI hsame ht
      obtain ⟨h35, _⟩ := ht
      change a.tmps.getD 35 undef = .bool false at h35
      have h1 := hsame 1 (by decide)
      change a.tmps.getD 1 undef = .slice D r.length d0 at h1
      rw [if_pos (wanted_false (j := 3) (d := 35) rfl rfl h35)]
      clear hsame
      unfold Oper.wp
      go_simp
      exact ⟨_, rfl, hI, Below.refl _ _, fun d hd => by cases hd; exact rfl⟩
    · intro a W hI hsame ht
      obtain ⟨h40, h35, _⟩ := ht
      change a.tmps.getD 40 undef = .slice D r.length d0 at h40
      change a.tmps.getD 35 undef = .bool false at h35
      rw [if_pos (wanted_false (j := 3) (d := 35) rfl rfl h35)]
      clear hsame
      unfold Oper.wp
      go_simp
      refine (HBy.out W (Below.on hb1 hI)).mono ?_
      rintro e' W' ⟨A, c, rfl, hown, hb⟩
      exact ⟨_, rfl, Below.on hI hb, hb, fun d hd => by cases hd; exact ⟨A, c, rfl, Lies.of_own hown⟩⟩
    · intro a W hI hsame ht
      obtain ⟨⟨A41, c41, h41, hL41⟩, h35, _⟩ := ht
      change a.tmps.getD 35 undef = .bool false at h35
      rw [if_pos (wanted_false (j := 3) (d := 35) rfl rfl h35)]
      clear hsame
      have hs := run_str hL41
      unfold Oper.wp
      go_simp
      exact ⟨_, rfl, hI, Below.refl _ _, fun d hd => by cases hd; exact rfl⟩
    · intro a W hI hsame ht
      obtain ⟨h39, h42, h35, _⟩ := ht
      change a.tmps.getD 39 undef = .string (str l) at h39
      change a.tmps.getD 42 undef = .string (str E) at h42
      change a.tmps.getD 35 undef = .bool false at h35
      rw [if_pos (wanted_false (j := 3) (d := 35) rfl rfl h35)]
      clear hsame
      have hz : ¬ (9223372036854775807 < (str l).size + (str E).size) := by rw [str_size, str_size]; omega
      unfold Oper.wp
      go_simp
      exact ⟨_, rfl, hI, Below.refl _ _, fun d hd => by cases hd; exact congrArg Value.string (by rw [str_append, HX.out])⟩
    · intro a W hI hsame ht
      obtain ⟨h37, h43, h35, _⟩ := ht
      change a.tmps.getD 37 undef = .string (str X) at h37
      change a.tmps.getD 43 undef = .string (str X) at h43
      change a.tmps.getD 35 undef = .bool false at h35
      rw [if_pos (wanted_false (j := 3) (d := 35) rfl rfl h35)]
      clear hsame
      unfold Oper.wp
      go_simp
      exact ⟨_, rfl, hI, Below.refl _ _, fun d hd => by cases hd; exact rfl⟩
    · intro a W hI hsame ht
      obtain ⟨h35, h44, _⟩ := ht
      change a.tmps.getD 35 undef = .bool false at h35
      change a.tmps.getD 44 undef = .bool false at h44
      rw [if_pos (by rfl)]
      clear hsame
      unfold Oper.wp
      go_simp
      exact ⟨_, rfl, hI, Below.refl _ _, fun d hd => by cases hd; exact rfl⟩
    · intro a W hI hsame ht
      obtain ⟨h45, _⟩ := ht
      change a.tmps.getD 45 undef = .bool false at h45
      rw [if_pos (by rfl)]
      clear hsame
      unfold Oper.wp
      go_simp
      exact ⟨_, rfl, hI, Below.refl _ _, fun d hd => by cases hd; exact rfl⟩
    · intro a W hI hsame ht
      obtain ⟨h46, _⟩ := ht
      change a.tmps.getD 46 undef = .bool false at h46
      have h1 := hsame 1 (by decide)
      change a.tmps.getD 1 undef = .slice D r.length d0 at h1
      rw [if_pos (wanted_false (j := 14) (d := 46) rfl rfl h46)]
      clear hsame
      unfold Oper.wp
      go_simp
      exact ⟨_, rfl, hI, Below.refl _ _, fun d hd => by cases hd; exact rfl⟩
    · intro a W hI hsame ht
      obtain ⟨h47, h46, _⟩ := ht
      change a.tmps.getD 47 undef = .slice D r.length d0 at h47
      change a.tmps.getD 46 undef = .bool false at h46
      rw [if_pos (wanted_false (j := 14) (d := 46) rfl rfl h46)]
      clear hsame
      unfold Oper.wp
      go_simp
      exact ⟨_, rfl, hI, Below.refl _ _, fun d hd => by cases hd; exact rfl⟩
    · intro a W hI hsame ht
      obtain ⟨h48, h46, _⟩ := ht
      change a.tmps.getD 48 undef = .int .i64 (r.length : Int) at h48
      change a.tmps.getD 46 undef = .bool false at h46
      rw [if_pos (wanted_false (j := 14) (d := 46) rfl rfl h46)]
      clear hsame
      unfold Oper.wp
      go_simp
      refine (HSZ.out W).mono ?_
      rintro e' W' ⟨rfl, rfl⟩
      exact ⟨_, rfl, hI, Below.refl _ _, fun d hd => by cases hd; exact rfl⟩
    · intro a W hI hsame ht
      obtain ⟨h46, _⟩ := ht
      change a.tmps.getD 46 undef = .bool false at h46
      have h1 := hsame 1 (by decide)
      change a.tmps.getD 1 undef = .slice D r.length d0 at h1
      rw [if_pos (wanted_false (j := 14) (d := 46) rfl rfl h46)]
      clear hsame
      unfold Oper.wp
      go_simp
      exact ⟨_, rfl, hI, Below.refl _ _, fun d hd => by cases hd; exact rfl⟩
    · intro a W hI hsame ht
      obtain ⟨h50, h46, _⟩ := ht
      change a.tmps.getD 50 undef = .slice D r.length d0 at h50
      change a.tmps.getD 46 undef = .bool false at h46
      rw [if_pos (wanted_false (j := 14) (d := 46) rfl rfl h46)]
      clear hsame
      unfold Oper.wp
      go_simp
      refine (HBy.out W (Below.on hb1 hI)).mono ?_
      rintro e' W' ⟨A, c, rfl, hown, hb⟩
      exact ⟨_, rfl, Below.on hI hb, hb, fun d hd => by cases hd; exact ⟨A, c, rfl, Lies.of_own hown⟩⟩
    · intro a W hI hsame ht
      obtain ⟨⟨A51, c51, h51, hL51⟩, h46, _⟩ := ht
      change a.tmps.getD 46 undef = .bool false at h46
      rw [if_pos (wanted_false (j := 14) (d := 46) rfl rfl h46)]
      clear hsame
      unfold Oper.wp
      go_simp
      exact ⟨_, rfl, hI, Below.refl _ _, fun d hd => by cases hd; exact rfl⟩
    · intro a W hI hsame ht
      obtain ⟨h49, h52, h46, _⟩ := ht
      change a.tmps.getD 49 undef = .int .i64 (E.length : Int) at h49
      change a.tmps.getD 52 undef = .int .i64 (E.length : Int) at h52
      change a.tmps.getD 46 undef = .bool false at h46
      rw [if_pos (wanted_false (j := 14) (d := 46) rfl rfl h46)]
      clear hsame
      unfold Oper.wp
      go_simp
      exact ⟨_, rfl, hI, Below.refl _ _, fun d hd => by cases hd; exact rfl⟩
    · intro a W hI hsame ht
      obtain ⟨h46, h53, _⟩ := ht
      change a.tmps.getD 46 undef = .bool false at h46
      change a.tmps.getD 53 undef = .bool false at h53
      rw [if_pos (by rfl)]
      clear hsame
      unfold Oper.wp
      go_simp
      exact ⟨_, rfl, hI, Below.refl _ _, fun d hd => by cases hd; exact rfl⟩
  · intro a W hI hsz hdef hsame hall
    have h32 := hall 32 (by decide)
    change a.tmps.getD 32 undef = .int .i64 0 at h32
    have h33 := hall 33 (by decide)
    change a.tmps.getD 33 undef = .int .i64 0 at h33
    have h34 := hall 34 (by decide)
    change a.tmps.getD 34 undef = .bool false at h34
    have h35 := hall 35 (by decide)
    change a.tmps.getD 35 undef = .bool false at h35
    have h36 := hall 36 (by decide)
    change a.tmps.getD 36 undef = .slice A7 X.length c7 at h36
    have h37 := hall 37 (by decide)
    change a.tmps.getD 37 undef = .string (str X) at h37
    have h38 := hall 38 (by decide)
    change a.tmps.getD 38 undef = .slice A l.length c at h38
    have h39 := hall 39 (by decide)
    change a.tmps.getD 39 undef = .string (str l) at h39
    have h40 := hall 40 (by decide)
    change a.tmps.getD 40 undef = .slice D r.length d0 at h40
    obtain ⟨A41, c41, h41, hL41⟩ := hall 41 (by decide)
    have h42 := hall 42 (by decide)
    change a.tmps.getD 42 undef = .string (str E) at h42
    have h43 := hall 43 (by decide)
    change a.tmps.getD 43 undef = .string (str X) at h43
    have h44 := hall 44 (by decide)
    change a.tmps.getD 44 undef = .bool false at h44
    have h45 := hall 45 (by decide)
    change a.tmps.getD 45 undef = .bool false at h45
    have h46 := hall 46 (by decide)
    change a.tmps.getD 46 undef = .bool false at h46
    have h47 := hall 47 (by decide)
    change a.tmps.getD 47 undef = .slice D r.length d0 at h47
    have h48 := hall 48 (by decide)
    change a.tmps.getD 48 undef = .int .i64 (r.length : Int) at h48
    have h49 := hall 49 (by decide)
    change a.tmps.getD 49 undef = .int .i64 (E.length : Int) at h49
    have h50 := hall 50 (by decide)
    change a.tmps.getD 50 undef = .slice D r.length d0 at h50
    obtain ⟨A51, c51, h51, hL51⟩ := hall 51 (by decide)
    have h52 := hall 52 (by decide)
    change a.tmps.getD 52 undef = .int .i64 (E.length : Int) at h52
    have h53 := hall 53 (by decide)
    change a.tmps.getD 53 undef = .bool false at h53
    have h54 := hall 54 (by decide)
    change a.tmps.getD 54 undef = .bool false at h54
    have hact := act_of (l := [_, _, _, _, _, _, _, _, _, _, _, _, _, _, _, _, _, _, _, _, _, _, _, _, _, _, _, _, _, _, _, _, _, _, _, _, _, _, _, _, _, _, _, _, _, _, _, _, _, _, _, _, _, _, _, _, _, _, _, _, _, _, _, _, _, _, _, _, _, _, _, _, _, _, _, _, _, _, _, _, _, _, _, _, _, _]) (ds := []) (by exact hsz) hdef ⟨hsame 0 (by decide), hsame 1 (by decide), hsame 2 (by decide), hsame 3 (by decide), hsame 4 (by decide), hsame 5 (by decide), hsame 6 (by decide), hsame 7 (by decide), hsame 8 (by decide), hsame 9 (by decide), hsame 10 (by decide), hsame 11 (by decide), hsame 12 (by decide), hsame 13 (by decide), hsame 14 (by decide), hsame 15 (by decide), hsame 16 (by decide), hsame 17 (by decide), hsame 18 (by decide), hsame 19 (by decide), hsame 20 (by decide), hsame 21 (by decide), hsame 22 (by decide), hsame 23 (by decide), hsame 24 (by decide), hsame 25 (by decide), hsame 26 (by decide), hsame 27 (by decide), hsame 28 (by decide), hsame 29 (by decide), hsame 30 (by decide), hsame 31 (by decide), h32, h33, h34, h35, h36, h37, h38, h39, h40, h41, h42, h43, h44, h45, h46, h47, h48, h49, h50, h51, h52, h53, h54, hsame 55 (by decide), hsame 56 (by decide), hsame 57 (by decide), hsame 58 (by decide), hsame 59 (by decide), hsame 60 (by decide), hsame 61 (by decide), hsame 62 (by decide), hsame 63 (by decide), hsame 64 (by decide), hsame 65 (by decide), hsame 66 (by decide), hsame 67 (by decide), hsame 68 (by decide), hsame 69 (by decide), hsame 70 (by decide), hsame 71 (by decide), hsame 72 (by decide), hsame 73 (by decide), hsame 74 (by decide), hsame 75 (by decide), hsame 76 (by decide), hsame 77 (by decide), hsame 78 (by decide), hsame 79 (by decide), hsame 80 (by decide), hsame 81 (by decide), hsame 82 (by decide), hsame 83 (by decide), hsame 84 (by decide), hsame 85 (by decide), trivial⟩
    clear hall hsame hsz hdef h32 h33 h34 h35 h36 h37 h38 h39 h40 h41 h42 h43 h44 h45 h46 h47 h48 h49 h50 h51 h52 h53 h54
    subst hact
    have hbW := Below.on hb1 hI
    have hbE : Below w.heap.size w (W.alloc (.cells #[] 5)) := hbW.alloc hbW.size _
    have hb0 : Below W.heap.size W (W.alloc (.cells #[] 5)) := (Below.refl _ _).alloc (Nat.le_refl _) _
    have hown0 : OwnS W.heap.size (W.alloc (.cells #[] 5)) (some ⟨W.heap.size, 0, none⟩) 0 [] := World.ownsRow_lit (size := 1) W #[] 0 (Nat.le_refl _) (by unfold maxLen; omega) rfl
    go_wp2_with (first
      | (at_builtin; refine wpList_append_bytes rfl _ _ rfl W.heap.size (some ⟨W.heap.size, 0, none⟩) 0 [] rfl hown0 A7 c7 X rfl ((HX7.out.below hI).below hb0) (by simp; omega) hb0.size ?_; intro A2 c2 w2 L2 hL2 hown2 hgrow2; have hb2 := OwnS.grow hown0 hb0 hgrow2 hb0.size; obtain rfl : L2 = X := (by rw [hL2.out]; rfl); replace hown2 := Lib.hid hown2; clear hown0 hgrow2 hL2)
      | (at_builtin; refine wpList_append_bytes rfl _ _ rfl W.heap.size A2 c2 L2 rfl hown2.out M m0 m rfl ((HM.out.below hbW).below hb2) (by omega) hb2.size ?_; intro A3 c3 w3 L3 hL3 hown3 hgrow3; have hb3 := OwnS.grow hown2.out hb2 hgrow3 hb2.size; have HC := Lib.hid (HG.out A3 c3 w3 (by rw [← hL3.out]; exact OwnS.lies hown3) (by rw [← hL3.out]; exact OwnS.cap hown3)); rw [← hL3.out] at HC; clear hown3 hgrow3)
      | (go_at_call 12; refine HC.out.mono ?_; rintro e w4 ⟨A9, c9, rfl, hL9, hc9, hT9, hb4⟩; dsimp only at hL9; have hs9 := run_str hL9; have hb24 := Below.on hbW (Below.on hb3 hb4); have hs1 := run_str (HR.out.below hb24); clear hL9 hc9 hT9; dsimp only)
      | (go_at_call 9; refine (code_calls _ _).mono ?_; rintro e w5 ⟨rfl, rfl⟩)
      | (go_at_call 7; refine (live_calls _).mono ?_; rintro e w6 ⟨rfl, hb6⟩))
    go_ret
    exact ⟨rfl, Below.on hb24 hb6⟩

theorem walk (a0 : Option Addr) (len0 cap0 : Nat) (z0 : List Int) (a1 : Option Addr) (len1 cap1 : Nat) (z1 : List Int) (a2 : Option Addr) (len2 cap2 : Nat) (z2 : List Int) (w : World) (w0 : IsRow w a0 len0 cap0 z0) (w1 : IsRow w a1 len1 cap1 z1) (w2 : IsRow w a2 len2 cap2 z2) :
    Calls Try.prog 3 #[.slice a0 len0 cap0, .slice a1 len1 cap1, .slice a2 len2 cap2] w fun e w' => e = .returned (.bool true) ∧ Below w.heap.size w w' := by
  obtain ⟨l, rfl, hc, hm, h, hb⟩ := bytes_of_row w0
  obtain ⟨r, rfl, hc1, hm1, h1, hb1⟩ := bytes_of_row w1
  obtain ⟨m, rfl, hc2, hm2, h2, hb2⟩ := bytes_of_row w2
  by_cases hl : l.length ≤ 500
  · by_cases hrl : r.length ≤ 2000
    · by_cases hml : m.length ≤ 500
      · exact small a0 a1 a2 cap0 cap1 cap2 l r m w h h1 h2 hb hb1 hb2 hl hrl hml
      · have t1 : decide ((500 : Int) < (l.length : Int)) = false := by simp; omega
        have t2 : decide ((2000 : Int) < (r.length : Int)) = false := by simp; omega
        have t3 : decide ((500 : Int) < (m.length : Int)) = true := by simp; omega
        clear h hb h1 hb1 h2 hb2 w0 w1 w2 hm hm1 hm2 hl hrl hml
        go_enter Try.func3, Try.ntmps3
        go_wp2_with (go_at_call 7; refine (live_calls _).mono ?_; rintro e w1 ⟨rfl, hb1⟩)
        go_ret
        exact ⟨rfl, hb1⟩
    · have t1 : decide ((500 : Int) < (l.length : Int)) = false := by simp; omega
      have t2 : decide ((2000 : Int) < (r.length : Int)) = true := by simp; omega
      clear h hb h1 hb1 h2 hb2 w0 w1 w2 hm hm1 hm2 hl hrl
      go_enter Try.func3, Try.ntmps3
      go_wp2_with (go_at_call 7; refine (live_calls _).mono ?_; rintro e w1 ⟨rfl, hb1⟩)
      go_ret
      exact ⟨rfl, hb1⟩
  · have t1 : decide ((500 : Int) < (l.length : Int)) = true := by simp; omega
    clear h hb h1 hb1 h2 hb2 w0 w1 w2 hm hm1 hm2 hl
    go_enter Try.func3, Try.ntmps3
    go_wp2_with (go_at_call 7; refine (live_calls _).mono ?_; rintro e w1 ⟨rfl, hb1⟩)
    go_ret
    exact ⟨rfl, hb1⟩

/- From the walk to the row. -/
set_option maxRecDepth 100000 in
theorem lifted (os : Os) (started : os.Started) (H : Type) (enc : TypeId × Value → H) :
    ReturnsInHanded {} Try.checked os 3 .any (Rows.framePutsSpec.pre6 enc Try.prog Try.f3 Rows.framePutsRow.domain false) (Rows.framePutsSpec.post enc Try.prog Try.f3 false true false false) := by
  refine returnsInHanded_of_change (C := Try.checked) own started (by kernel_rfl) Try.func3
    (ChangeSpec.witness6 (enc := enc) (C := Try.checked) false ⟨#[], #[.slice none 0 0, .slice none 0 0, .slice none 0 0], []⟩ 8 (by kernel_rfl) (by kernel_rfl) (by kernel_rfl) (by kernel_rfl)) ?_
  intro W base args ds gs before hval0 hW hcnd _
  have hval : ∀ (j : Nat) t v, Try.f3.params[j]? = some t → args[j]? = some v → Value.okWide Try.prog W .any base t v := hval0
  have hW' := hW
  obtain ⟨p, q, hA0, hV, rfl, hfz, hnd⟩ := hW
  have hA : DataW.TrodAll enc Try.prog W 0 (fun _ => true) true Try.f3.params.toList args.toList ds p := hA0
  rw [Try.params3] at hA hval
  obtain ⟨v0, vs0, d0, ds0, p0, q0, hargs, rfl, rfl, h0, r0⟩ := trodAll_cons hA
  obtain ⟨v1, vs1, d1, ds1, p1, q1, rfl, rfl, rfl, h1, r1⟩ := trodAll_cons r0
  obtain ⟨v2, vs2, d2, ds2, p2, q2, rfl, rfl, rfl, h2, r2⟩ := trodAll_cons r1
  obtain ⟨rfl, rfl, rfl⟩ := trodAll_nil r2
  obtain rfl : args = #[v0, v1, v2] := by cases args; simp_all
  obtain ⟨rfl, rfl⟩ := trodVars_none hV
  obtain ⟨a0, len0, cap0, rfl⟩ := okWide_slice Try.underlying22 (hval 0 22 v0 rfl rfl)
  have k0 := h0
  have lt0 : ∀ x ∈ p0, x.block < W.heap.size := by obtain ⟨m, hm⟩ := k0; exact DataW.trod_lt m _ _ _ hm
  obtain ⟨z0, w0⟩ : ∃ zs, IsRow W a0 len0 cap0 zs := by
    obtain ⟨fuel, hf⟩ := h0
    rcases open_ints Try.underlying22 Try.underlying5 (by kernel_rfl) hf with ⟨hcs, _⟩ | ⟨x, l, c, zs, hcs, _, hl, hm, hz, _, hcell, hwz⟩
    · simp [Value.cells] at hcs
      obtain ⟨rfl, rfl, rfl⟩ := hcs
      exact ⟨[], .inl ⟨rfl, rfl, rfl, rfl⟩⟩
    · simp [Value.cells] at hcs
      obtain ⟨rfl, rfl, rfl⟩ := hcs
      exact ⟨zs, .inr ⟨_, rfl, hl, hm, by simpa using hz, hcell, hwz⟩⟩
  obtain ⟨a1, len1, cap1, rfl⟩ := okWide_slice Try.underlying22 (hval 1 22 v1 rfl rfl)
  have k1 := h1
  have lt1 : ∀ x ∈ p1, x.block < W.heap.size := by obtain ⟨m, hm⟩ := k1; exact DataW.trod_lt m _ _ _ hm
  obtain ⟨z1, w1⟩ : ∃ zs, IsRow W a1 len1 cap1 zs := by
    obtain ⟨fuel, hf⟩ := h1
    rcases open_ints Try.underlying22 Try.underlying5 (by kernel_rfl) hf with ⟨hcs, _⟩ | ⟨x, l, c, zs, hcs, _, hl, hm, hz, _, hcell, hwz⟩
    · simp [Value.cells] at hcs
      obtain ⟨rfl, rfl, rfl⟩ := hcs
      exact ⟨[], .inl ⟨rfl, rfl, rfl, rfl⟩⟩
    · simp [Value.cells] at hcs
      obtain ⟨rfl, rfl, rfl⟩ := hcs
      exact ⟨zs, .inr ⟨_, rfl, hl, hm, by simpa using hz, hcell, hwz⟩⟩
  obtain ⟨a2, len2, cap2, rfl⟩ := okWide_slice Try.underlying22 (hval 2 22 v2 rfl rfl)
  have k2 := h2
  have lt2 : ∀ x ∈ p2, x.block < W.heap.size := by obtain ⟨m, hm⟩ := k2; exact DataW.trod_lt m _ _ _ hm
  obtain ⟨z2, w2⟩ : ∃ zs, IsRow W a2 len2 cap2 zs := by
    obtain ⟨fuel, hf⟩ := h2
    rcases open_ints Try.underlying22 Try.underlying5 (by kernel_rfl) hf with ⟨hcs, _⟩ | ⟨x, l, c, zs, hcs, _, hl, hm, hz, _, hcell, hwz⟩
    · simp [Value.cells] at hcs
      obtain ⟨rfl, rfl, rfl⟩ := hcs
      exact ⟨[], .inl ⟨rfl, rfl, rfl, rfl⟩⟩
    · simp [Value.cells] at hcs
      obtain ⟨rfl, rfl, rfl⟩ := hcs
      exact ⟨zs, .inr ⟨_, rfl, hl, hm, by simpa using hz, hcell, hwz⟩⟩
  clear hA0 hval0
  refine (walk a0 len0 cap0 z0 a1 len1 cap1 z1 a2 len2 cap2 z2 W w0 w1 w2).mono fun e W' ⟨he, bel⟩ => ?_
  subst he
  exact ⟨_, rfl, _, _, _, [], _, [], hW', trodAll_mk1 (shut_bool Try.underlying4 _), (trodAll_cons_mk (Below.trod laidOut (by kernel_rfl) (of_decide_eq_true (by kernel_rfl)) k0 bel lt0) (trodAll_cons_mk (Below.trod laidOut (by kernel_rfl) (of_decide_eq_true (by kernel_rfl)) k1 bel lt1) (trodAll_cons_mk (Below.trod laidOut (by kernel_rfl) (of_decide_eq_true (by kernel_rfl)) k2 bel lt2) trodAll_mk0))), rfl, bel.frame _, fun h => by cases h⟩

theorem over : Rows.framePutsRow.holds Try.pinned (OpenSpec.ofChange Rows.framePutsSpec) :=
  OpenClaim.holds_of_wide 3 Try.f3 rfl rfl rfl rfl rfl rfl rfl ⟨rfl, rfl, rfl, rfl, rfl⟩ rfl rfl rfl rfl rfl (by kernel_rfl) Try.func3 (by kernel_rfl)
    (of_decide_eq_true (by kernel_rfl)) (by unfold Func.isWrapper; first | (rw [if_pos (by decide +kernel)]; kernel_rfl) | (rw [if_neg (by decide +kernel)]; exact ⟨rfl, rfl⟩))
    (fun os started H enc _ => lifted os started H enc)

end framePuts

/-- The statement. -/
theorem framePuts_holds : Rows.FramePutsSaid := framePuts.over
#print axioms framePuts_holds
end Go.Proofs.Ytikeebgclplphaa
