/-
  For all lists of strings l, all lists of pairs p and all bytes more the law RecPuts returns true (what is put is the number and the texts, as the document has them, behind what was there; got again, whatever follows, it is the same list, and the place is the end; and the example of the page holds), and the arguments read afterwards as before. No conditions.
-/
import Derived.Test.YtimcolanmbklpaaRows
import Derived.Test.YtimcolanmbklpaaGS
import Derived.Test.YtimcolanmbklpaaRRead
import Derived.Test.YtimcolanmbklpaaRSame
import Derived.Test.YtimcolanmbklpaaRLive
import Derived.Test.YtimcolanmbklpaaInv
namespace Go.Proofs.Ytimcolanmbklpaa
namespace recPuts
open Go.ChangeShapes Go.WideShapes Go.ChangeAt Go.RowKit
set_option linter.unusedVariables false

/-- What each slot of the region holds. -/
def V (a0 a1 A7 A9 : Option Addr) (n0 c0 n1 c1 c7 c9 : Nat) (X7 XL XP : List Int) (d : Nat) (W : World) (v : Value) : Prop :=
  match d with
  | 40 | 41 | 42 | 43 | 44 => v = .int .i64 0
  | 45 | 46 | 53 | 54 | 55 | 61 | 62 => v = .bool false
  | 47 => v = .slice A7 X7.length c7
  | 48 | 52 => v = .string (str X7)
  | 49 => v = .slice a0 n0 c0
  | 50 => Holds W XL v
  | 51 => v = .string (str XL)
  | 56 => v = .slice A9 XP.length c9
  | 57 | 60 => v = .string (str XP)
  | 58 => v = .slice a1 n1 c1
  | 59 => Holds W XP v
  | _ => True
theorem V.keep (a0 a1 A7 A9 : Option Addr) (n0 c0 n1 c1 c7 c9 : Nat) (X7 XL XP : List Int) (d : Nat) (W W' : World) (v : Value) (hb : Below W.heap.size W W') (h : V a0 a1 A7 A9 n0 c0 n1 c1 c7 c9 X7 XL XP d W v) : V a0 a1 A7 A9 n0 c0 n1 c1 c7 c9 X7 XL XP d W' v := by
  unfold V at *
  split at h
  all_goals first | exact h | (obtain ⟨A, c, rfl, h⟩ := h; exact ⟨A, c, rfl, h.below hb⟩)

theorem encS_le {s : ByteArray} : (encS s).length ≤ s.size + 9 := by unfold encS; rw [encT_length, sl_length]; have := vlen_le (s.size : Int); omega
theorem encP_le {p : ByteArray × ByteArray} : (encP p).length ≤ szP p + 18 := by
  unfold encP szP
  rw [List.length_append, encT_length, encT_length, sl_length, sl_length]
  have := vlen_le (p.1.size : Int)
  have := vlen_le (p.2.size : Int)
  omega
theorem listS_le {ss : List ByteArray} (h : Small ByteArray.size ss) : (listB encS ss).length ≤ 650000 := by
  have h1 := flat_len (f := encS) (m := 3018) ss (fun s hs => by have := encS_le (s := s); have := h.each s hs; omega)
  have h2 := h.1
  have h3 := vlen_le (ss.length : Int)
  unfold listB
  rw [List.length_append, enc_length]
  have : 3018 * ss.length ≤ 3018 * 200 := Nat.mul_le_mul (Nat.le_refl _) h2
  omega
theorem listP_le {ss : List (ByteArray × ByteArray)} (h : Small szP ss) : (listB encP ss).length ≤ 650000 := by
  have h1 := flat_len (f := encP) (m := 3018) ss (fun s hs => by have := encP_le (p := s); have := h.each s hs; omega)
  have h2 := h.1
  have h3 := vlen_le (ss.length : Int)
  unfold listB
  rw [List.length_append, enc_length]
  have : 3018 * ss.length ≤ 3018 * 200 := Nat.mul_le_mul (Nat.le_refl _) h2
  omega
theorem flat_isB {α : Type} {f : α → List Int} {xs : List α} (h : ∀ x ∈ xs, IsB (f x)) : IsB (xs.flatMap f) := fun z hz => by
  obtain ⟨x, hx, hz⟩ := List.mem_flatMap.1 hz
  exact h x hx z hz
theorem listS_isB {ss : List ByteArray} (h : Small ByteArray.size ss) : IsB (listB encS ss) :=
  (enc_bytes _ (by omega) (by have := h.1; omega)).append (flat_isB fun s hs => encT_isB _ (sl_bytes s) (by rw [sl_length]; have := h.each s hs; omega))
theorem listP_isB {ss : List (ByteArray × ByteArray)} (h : Small szP ss) : IsB (listB encP ss) :=
  (enc_bytes _ (by omega) (by have := h.1; omega)).append (flat_isB fun s hs => by
    have h1 := h.each s hs
    unfold szP at h1
    exact (encT_isB _ (sl_bytes s.1) (by rw [sl_length]; omega)).append (encT_isB _ (sl_bytes s.2) (by rw [sl_length]; omega)))
theorem own_none (w : World) (B : Nat) (hB : B ≤ w.heap.size) : OwnS B (w.alloc (.cells #[] 5)) (some ⟨w.heap.size, 0, none⟩) 0 [] :=
  World.ownsRow_lit (size := 1) w #[] 0 hB (by unfold maxLen; omega) rfl

set_option maxRecDepth 100000 in
set_option maxHeartbeats 4000000 in
theorem walk (a0 : Option Addr) (c0 : Nat) (ss : List ByteArray) (a1 : Option Addr) (c1 : Nat) (ps : List (ByteArray × ByteArray)) (a2 : Option Addr) (c2 : Nat) (r : List Int) (w : World)
    (hsm : ss.length ≤ maxLen) (hsc : CellsG enS w a0 c0 ss) (hsz : ∀ s ∈ ss, s.size ≤ reachBytes) (hpm : ps.length ≤ maxLen) (hpc : CellsG enP w a1 c1 ps) (hpz : ∀ s ∈ ps, s.1.size ≤ reachBytes ∧ s.2.size ≤ reachBytes)
    (hrc : r.length ≤ c2) (hrm : r.length ≤ maxLen) (hrl : Lies w a2 c2 r) (hrb : IsB r) :
    Calls Try.prog 3 #[.slice a0 ss.length c0, .slice a1 ps.length c1, .slice a2 r.length c2] w fun e w' => e = .returned (.bool true) ∧ Below w.heap.size w w' := by
  have hrm2 : r.length ≤ 9223372036854775807 := by unfold maxLen at hrm; omega
  have HG1 := Lib.hid (long_calls a0 c0 ss w hsc hsz hsm)
  have HG2 := Lib.hid (fun (W : World) (hW : Below w.heap.size w W) => longPairs_calls a1 c1 ps W (hpc.below hW) hpz hpm)
  have HSC := Lib.hid hsc
  have HPC := Lib.hid hpc
  have HRL := Lib.hid hrl
  have HRB := Lib.hid hrb
  clear hsc hsz hpc hpz hrl hrb hrm
  go_enter Try.func3, Try.ntmps3
  go_wp2_with fail
  refine HG1.out.mono ?_
  rintro e w1 ⟨x, rfl, hs1, hb1⟩
  have HS1 := Lib.hid hs1
  clear hs1
  dsimp only
  cases x
  · go_wp2_with fail
    refine (HG2.out w1 hb1).mono ?_
    rintro e w2 ⟨y, rfl, hs2, hb2'⟩
    have hb2 := Below.on hb1 hb2'
    have HS2 := Lib.hid hs2
    clear hs2 hb1 hb2' HG1 HG2
    dsimp only
    cases y
    · by_cases hr5 : 500 < r.length
      · have hd : decide ((500 : Int) < (r.length : Int)) = true := by simp; omega
        go_wp2_with (go_at_call 9; refine (live_calls _).mono ?_; rintro e w9 ⟨rfl, hb9⟩)
        go_ret
        exact ⟨rfl, Below.on hb2 hb9⟩
      · have hd : decide ((500 : Int) < (r.length : Int)) = false := by simp; omega
        have hS := HS1.out (by first | rfl | trivial)
        have hP := HS2.out (by first | rfl | trivial)
        have hSe := hS.each
        have hPe := hP.each
        have hSl := hS.1
        have hPl := hP.1
        have hbl : Below w.heap.size w (w2.alloc (.cells #[.int .u8 7] 5)) := hb2.alloc hb2.size _
        have HP1 := Lib.hid (putList_calls (some ⟨w2.heap.size, 0, none⟩) 1 [7] a0 c0 ss (w2.alloc (.cells #[.int .u8 7] 5)) (lies_one w2 7) (HSC.out.below hbl) (by simp) (fun s hs => by have := hSe s hs; unfold maxLen; omega) hsm)
        have HP2 := Lib.hid (fun (W : World) (hW : Below w.heap.size w W) => putPairs_calls none 0 [] a1 c1 ps W (Lies.nil _) (HPC.out.below hW) (by simp) (fun s hs => by have := hPe s hs; unfold szP at this; unfold maxLen; exact ⟨by omega, by omega⟩) hpm)
        rw [putS_ok ss [7] (by omega) (fun s hs => by have := hSe s hs; omega)] at HP1
        rw [putP_ok ps [] (by omega) (fun s hs => by have := hPe s hs; unfold szP at this; exact ⟨by omega, by omega⟩), List.nil_append] at HP2
        have HRL4 := Lib.hid (fun (W : World) (hW : Below w.heap.size w W) => rlist_calls a0 c0 ss W (HSC.out.below hW) (by omega) (fun s hs => by have := hSe s hs; omega))
        have HRP4 := Lib.hid (fun (W : World) (hW : Below w.heap.size w W) => rpairs_calls a1 c1 ps W (HPC.out.below hW) (by omega) (fun s hs => by have := hPe s hs; unfold szP at this; exact ⟨by omega, by omega⟩))
        have hbS := texts_back ss (by omega) (fun s hs => by have := hSe s hs; omega) [7] r
        have hbP := pairs_back ps (by omega) (fun s hs => by have := hPe s hs; unfold szP at this; exact ⟨by omega, by omega⟩) [] r
        have hlS := listS_le hS
        have hlP := listP_le hP
        have hiS := listS_isB hS
        have hiP := listP_isB hP
        clear hS hP hSe hPe hSl hPl HS1 HS2
        rw [← List.length_append] at hbS hbP
        simp only [List.nil_append] at hbP
        generalize listB encS ss = XL at *
        generalize listB encP ps = XP at *
        obtain ⟨X7, hX7⟩ : ∃ X7, X7 = [7] ++ XL := ⟨_, rfl⟩
        rw [← hX7] at HP1 hbS
        have hl7 : X7.length ≤ 650001 := by rw [hX7, List.length_append]; simp; omega
        have hi7 : IsB X7 := by rw [hX7]; exact IsB.append (by intro z hz; simp at hz; omega) hiS
        have HSX := Lib.hid (show (⟨#[7]⟩ : ByteArray) ++ str XL = str X7 by rw [hX7, ← str_append]; rfl)
        have HGL := Lib.hid (fun (A : Option Addr) (c : Nat) (W : World) (h : Lies W A c (X7 ++ r)) (hc : (X7 ++ r).length ≤ c) => getList_calls A c (X7 ++ r) 1 W h (hi7.append HRB.out) hc (by rw [List.length_append]; omega))
        have HGP := Lib.hid (fun (A : Option Addr) (c : Nat) (W : World) (h : Lies W A c (XP ++ r)) (hc : (XP ++ r).length ≤ c) => getPairs_calls A c (XP ++ r) 0 W h (hiP.append HRB.out) hc (by rw [List.length_append]; omega))
        rw [show (1 : Int) = (([7] : List Int).length : Int) by rfl, hbS, show ((([7] : List Int).length : Nat) : Int) = 1 by rfl] at HGL
        rw [show (0 : Int) = (([] : List Int).length : Int) by rfl, hbP, show ((([] : List Int).length : Nat) : Int) = 0 by rfl] at HGP
        have HX7 := Lib.hid hX7
        clear hbS hbP hX7 hiS hi7 hiP
        go_wp2_with fail
        refine HP1.out.mono ?_
        rintro e w3 ⟨A7, c7, rfl, hown7, hb3'⟩
        dsimp only at hown7
        dsimp only
        have hb3 := Below.on hbl hb3'
        have HO7 := Lib.hid hown7
        clear hown7 HP1 hbl hb3' hb2
        go_wp2_with fail
        refine (HP2.out w3 hb3).mono ?_
        rintro e w4 ⟨A9, c9, rfl, hown9, hb4'⟩
        dsimp only at hown9
        dsimp only
        have hb4 := Below.on hb3 hb4'
        have HL7 := Lib.hid (fun (W : World) (hW : Below w4.heap.size w4 W) => (Lies.of_own HO7.out).below (Below.on hb4' hW))
        have HL9 := Lib.hid (fun (W : World) (hW : Below w4.heap.size w4 W) => (Lies.of_own hown9).below hW)
        have HRL0 := Lib.hid (fun (W : World) (hW : Below w4.heap.size w4 W) => HRL4.out W (Below.on hb4 hW))
        have HRP := Lib.hid (fun (W : World) (hW : Below w4.heap.size w4 W) => HRP4.out W (Below.on hb4 hW))
        clear hown9 HP2 HO7 hb4' hb3 HRL4 HRP4
        have hB0 : Below w4.heap.size w4 w4.drew := (Below.refl _ _).drew
        obtain ⟨n0, hn0⟩ : ∃ n0, ss.length = n0 := ⟨_, rfl⟩
        obtain ⟨n1, hn1⟩ : ∃ n1, ps.length = n1 := ⟨_, rfl⟩
        rw [hn0] at HRL0 ⊢
        rw [hn1] at HRP ⊢
        have HN0 := Lib.hid hn0
        have HN1 := Lib.hid hn1
        clear hn0 hn1
        go_wp2_with fail
        refine wp_region_inv (by kernel_rfl) (fun W => Below w4.heap.size w4 W) (fun W W' => Below W.heap.size W W') (V a0 a1 A7 A9 n0 c0 n1 c1 c7 c9 X7 XL XP) [[], [40], [], [42], [41, 43], [44], [45], [46], [47, 46], [46], [49, 46], [50, 46], [51, 46], [48, 52, 46], [46, 53], [54], [55], [56, 55], [55], [58, 55], [59, 55], [57, 60, 55], [55, 61]] (by kernel_rfl) (fun W => Below.refl _ _) (fun d W W' v => V.keep a0 a1 A7 A9 n0 c0 n1 c1 c7 c9 X7 XL XP d W W' v) hB0 ?_ ?_
        · refine ⟨?_, ?_, ?_, ?_, ?_, ?_, ?_, ?_, ?_, ?_, ?_, ?_, ?_, ?_, ?_, ?_, ?_, ?_, ?_, ?_, ?_, ?_, ?_, trivial⟩
          · intro a W hI hsame ht
            have h8 := hsame 8 (by decide)
            change a.tmps.getD 8 undef = .int .i64 0 at h8
            rw [if_pos (by rfl)]
            clear hsame
            unfold Oper.wp
            go_simp
            exact ⟨_, rfl, hI, Below.refl _ _, fun d hd => by cases hd; exact rfl⟩
          · intro a W hI hsame ht
            obtain ⟨h40, _⟩ := ht
            change a.tmps.getD 40 undef = .int .i64 0 at h40
            rw [if_pos (by rfl)]
            clear hsame
            unfold Oper.wp
            go_simp
            refine (code_calls _ _).mono ?_
            rintro e' W' ⟨rfl, rfl⟩
            exact ⟨_, rfl, hI, Below.refl _ _, fun d hd => by cases hd; exact rfl⟩
          · intro a W hI hsame ht
            have h10 := hsame 10 (by decide)
            change a.tmps.getD 10 undef = .int .i64 0 at h10
            rw [if_pos (by rfl)]
            clear hsame
            unfold Oper.wp
            go_simp
            exact ⟨_, rfl, hI, Below.refl _ _, fun d hd => by cases hd; exact rfl⟩
          · intro a W hI hsame ht
            obtain ⟨h42, _⟩ := ht
            change a.tmps.getD 42 undef = .int .i64 0 at h42
            rw [if_pos (by rfl)]
            clear hsame
            unfold Oper.wp
            go_simp
            refine (code_calls _ _).mono ?_
            rintro e' W' ⟨rfl, rfl⟩
            exact ⟨_, rfl, hI, Below.refl _ _, fun d hd => by cases hd; exact rfl⟩
          · intro a W hI hsame ht
            obtain ⟨h41, h43, _⟩ := ht
            change a.tmps.getD 41 undef = .int .i64 0 at h41
            change a.tmps.getD 43 undef = .int .i64 0 at h43
            rw [if_pos (by rfl)]
            clear hsame
            unfold Oper.wp
            go_simp
            exact ⟨_, rfl, hI, Below.refl _ _, fun d hd => by cases hd; exact rfl⟩
          · intro a W hI hsame ht
            obtain ⟨h44, _⟩ := ht
            change a.tmps.getD 44 undef = .int .i64 0 at h44
            rw [if_pos (by rfl)]
            clear hsame
            unfold Oper.wp
            go_simp
            exact ⟨_, rfl, hI, Below.refl _ _, fun d hd => by cases hd; exact rfl⟩
          · intro a W hI hsame ht
            obtain ⟨h45, _⟩ := ht
            change a.tmps.getD 45 undef = .bool false at h45
            rw [if_pos (by rfl)]
            clear hsame
            unfold Oper.wp
            go_simp
            exact ⟨_, rfl, hI, Below.refl _ _, fun d hd => by cases hd; exact rfl⟩
          · intro a W hI hsame ht
            obtain ⟨h46, _⟩ := ht
            change a.tmps.getD 46 undef = .bool false at h46
            have h7 := hsame 7 (by decide)
            change a.tmps.getD 7 undef = .slice A7 X7.length c7 at h7
            rw [if_pos (wanted_false (j := 6) (d := 46) rfl rfl h46)]
            clear hsame
            unfold Oper.wp
            go_simp
            exact ⟨_, rfl, hI, Below.refl _ _, fun d hd => by cases hd; exact rfl⟩
          · intro a W hI hsame ht
            obtain ⟨h47, h46, _⟩ := ht
            change a.tmps.getD 47 undef = .slice A7 X7.length c7 at h47
            change a.tmps.getD 46 undef = .bool false at h46
            rw [if_pos (wanted_false (j := 6) (d := 46) rfl rfl h46)]
            clear hsame
            have hs := run_str (HL7.out W hI)
            unfold Oper.wp
            go_simp
            exact ⟨_, rfl, hI, Below.refl _ _, fun d hd => by cases hd; exact rfl⟩
          · intro a W hI hsame ht
            obtain ⟨h46, _⟩ := ht
            change a.tmps.getD 46 undef = .bool false at h46
            have h0 := hsame 0 (by decide)
            change a.tmps.getD 0 undef = .slice a0 n0 c0 at h0
            rw [if_pos (wanted_false (j := 6) (d := 46) rfl rfl h46)]
            clear hsame
            unfold Oper.wp
            go_simp
            exact ⟨_, rfl, hI, Below.refl _ _, fun d hd => by cases hd; exact rfl⟩
          · intro a W hI hsame ht
            obtain ⟨h49, h46, _⟩ := ht
            change a.tmps.getD 49 undef = .slice a0 n0 c0 at h49
            change a.tmps.getD 46 undef = .bool false at h46
            rw [if_pos (wanted_false (j := 6) (d := 46) rfl rfl h46)]
            clear hsame
            unfold Oper.wp
            go_simp
            refine (HRL0.out W hI).mono ?_
            rintro e' W' ⟨A, c, rfl, hown, hb⟩
            exact ⟨_, rfl, Below.on hI hb, hb, fun d hd => by cases hd; exact ⟨A, c, rfl, Lies.of_own hown⟩⟩
          · intro a W hI hsame ht
            obtain ⟨⟨A50, c50, h50, hL50⟩, h46, _⟩ := ht
            change a.tmps.getD 46 undef = .bool false at h46
            rw [if_pos (wanted_false (j := 6) (d := 46) rfl rfl h46)]
            clear hsame
            have hs := run_str hL50
            unfold Oper.wp
            go_simp
            exact ⟨_, rfl, hI, Below.refl _ _, fun d hd => by cases hd; exact rfl⟩
          · intro a W hI hsame ht
            obtain ⟨h51, h46, _⟩ := ht
            change a.tmps.getD 51 undef = .string (str XL) at h51
            change a.tmps.getD 46 undef = .bool false at h46
            rw [if_pos (wanted_false (j := 6) (d := 46) rfl rfl h46)]
            clear hsame
            have hlim : ¬ 9223372036854775807 < 1 + (str XL).size := by rw [str_size]; omega
            unfold Oper.wp
            go_simp
            exact ⟨_, rfl, hI, Below.refl _ _, fun d hd => by cases hd; exact congrArg Value.string HSX.out⟩
          · intro a W hI hsame ht
            obtain ⟨h48, h52, h46, _⟩ := ht
            change a.tmps.getD 48 undef = .string (str X7) at h48
            change a.tmps.getD 52 undef = .string (str X7) at h52
            change a.tmps.getD 46 undef = .bool false at h46
            rw [if_pos (wanted_false (j := 6) (d := 46) rfl rfl h46)]
            clear hsame
            unfold Oper.wp
            go_simp
            exact ⟨_, rfl, hI, Below.refl _ _, fun d hd => by cases hd; exact rfl⟩
          · intro a W hI hsame ht
            obtain ⟨h46, h53, _⟩ := ht
            change a.tmps.getD 46 undef = .bool false at h46
            change a.tmps.getD 53 undef = .bool false at h53
            rw [if_pos (by rfl)]
            clear hsame
            unfold Oper.wp
            go_simp
            exact ⟨_, rfl, hI, Below.refl _ _, fun d hd => by cases hd; exact rfl⟩
          · intro a W hI hsame ht
            obtain ⟨h54, _⟩ := ht
            change a.tmps.getD 54 undef = .bool false at h54
            rw [if_pos (by rfl)]
            clear hsame
            unfold Oper.wp
            go_simp
            exact ⟨_, rfl, hI, Below.refl _ _, fun d hd => by cases hd; exact rfl⟩
          · intro a W hI hsame ht
            obtain ⟨h55, _⟩ := ht
            change a.tmps.getD 55 undef = .bool false at h55
            have h9 := hsame 9 (by decide)
            change a.tmps.getD 9 undef = .slice A9 XP.length c9 at h9
            rw [if_pos (wanted_false (j := 15) (d := 55) rfl rfl h55)]
            clear hsame
            unfold Oper.wp
            go_simp
            exact ⟨_, rfl, hI, Below.refl _ _, fun d hd => by cases hd; exact rfl⟩
          · intro a W hI hsame ht
            obtain ⟨h56, h55, _⟩ := ht
            change a.tmps.getD 56 undef = .slice A9 XP.length c9 at h56
            change a.tmps.getD 55 undef = .bool false at h55
            rw [if_pos (wanted_false (j := 15) (d := 55) rfl rfl h55)]
            clear hsame
            have hs := run_str (HL9.out W hI)
            unfold Oper.wp
            go_simp
            exact ⟨_, rfl, hI, Below.refl _ _, fun d hd => by cases hd; exact rfl⟩
          · intro a W hI hsame ht
            obtain ⟨h55, _⟩ := ht
            change a.tmps.getD 55 undef = .bool false at h55
            have h1 := hsame 1 (by decide)
            change a.tmps.getD 1 undef = .slice a1 n1 c1 at h1
            rw [if_pos (wanted_false (j := 15) (d := 55) rfl rfl h55)]
            clear hsame
            unfold Oper.wp
            go_simp
            exact ⟨_, rfl, hI, Below.refl _ _, fun d hd => by cases hd; exact rfl⟩
          · intro a W hI hsame ht
            obtain ⟨h58, h55, _⟩ := ht
            change a.tmps.getD 58 undef = .slice a1 n1 c1 at h58
            change a.tmps.getD 55 undef = .bool false at h55
            rw [if_pos (wanted_false (j := 15) (d := 55) rfl rfl h55)]
            clear hsame
            unfold Oper.wp
            go_simp
            refine (HRP.out W hI).mono ?_
            rintro e' W' ⟨A, c, rfl, hown, hb⟩
            exact ⟨_, rfl, Below.on hI hb, hb, fun d hd => by cases hd; exact ⟨A, c, rfl, Lies.of_own hown⟩⟩
          · intro a W hI hsame ht
            obtain ⟨⟨A59, c59, h59, hL59⟩, h55, _⟩ := ht
            change a.tmps.getD 55 undef = .bool false at h55
            rw [if_pos (wanted_false (j := 15) (d := 55) rfl rfl h55)]
            clear hsame
            have hs := run_str hL59
            unfold Oper.wp
            go_simp
            exact ⟨_, rfl, hI, Below.refl _ _, fun d hd => by cases hd; exact rfl⟩
          · intro a W hI hsame ht
            obtain ⟨h57, h60, h55, _⟩ := ht
            change a.tmps.getD 57 undef = .string (str XP) at h57
            change a.tmps.getD 60 undef = .string (str XP) at h60
            change a.tmps.getD 55 undef = .bool false at h55
            rw [if_pos (wanted_false (j := 15) (d := 55) rfl rfl h55)]
            clear hsame
            unfold Oper.wp
            go_simp
            exact ⟨_, rfl, hI, Below.refl _ _, fun d hd => by cases hd; exact rfl⟩
          · intro a W hI hsame ht
            obtain ⟨h55, h61, _⟩ := ht
            change a.tmps.getD 55 undef = .bool false at h55
            change a.tmps.getD 61 undef = .bool false at h61
            rw [if_pos (by rfl)]
            clear hsame
            unfold Oper.wp
            go_simp
            exact ⟨_, rfl, hI, Below.refl _ _, fun d hd => by cases hd; exact rfl⟩
        · intro a W hI hsz hdef hsame hall
          have h40 := hall 40 (by decide)
          change a.tmps.getD 40 undef = .int .i64 0 at h40
          have h41 := hall 41 (by decide)
          change a.tmps.getD 41 undef = .int .i64 0 at h41
          have h42 := hall 42 (by decide)
          change a.tmps.getD 42 undef = .int .i64 0 at h42
          have h43 := hall 43 (by decide)
          change a.tmps.getD 43 undef = .int .i64 0 at h43
          have h44 := hall 44 (by decide)
          change a.tmps.getD 44 undef = .int .i64 0 at h44
          have h45 := hall 45 (by decide)
          change a.tmps.getD 45 undef = .bool false at h45
          have h46 := hall 46 (by decide)
          change a.tmps.getD 46 undef = .bool false at h46
          have h47 := hall 47 (by decide)
          change a.tmps.getD 47 undef = .slice A7 X7.length c7 at h47
          have h48 := hall 48 (by decide)
          change a.tmps.getD 48 undef = .string (str X7) at h48
          have h49 := hall 49 (by decide)
          change a.tmps.getD 49 undef = .slice a0 n0 c0 at h49
          obtain ⟨A50, c50, h50, hL50⟩ := hall 50 (by decide)
          have h51 := hall 51 (by decide)
          change a.tmps.getD 51 undef = .string (str XL) at h51
          have h52 := hall 52 (by decide)
          change a.tmps.getD 52 undef = .string (str X7) at h52
          have h53 := hall 53 (by decide)
          change a.tmps.getD 53 undef = .bool false at h53
          have h54 := hall 54 (by decide)
          change a.tmps.getD 54 undef = .bool false at h54
          have h55 := hall 55 (by decide)
          change a.tmps.getD 55 undef = .bool false at h55
          have h56 := hall 56 (by decide)
          change a.tmps.getD 56 undef = .slice A9 XP.length c9 at h56
          have h57 := hall 57 (by decide)
          change a.tmps.getD 57 undef = .string (str XP) at h57
          have h58 := hall 58 (by decide)
          change a.tmps.getD 58 undef = .slice a1 n1 c1 at h58
          obtain ⟨A59, c59, h59, hL59⟩ := hall 59 (by decide)
          have h60 := hall 60 (by decide)
          change a.tmps.getD 60 undef = .string (str XP) at h60
          have h61 := hall 61 (by decide)
          change a.tmps.getD 61 undef = .bool false at h61
          have h62 := hall 62 (by decide)
          change a.tmps.getD 62 undef = .bool false at h62
          have hact := act_of (l := [_, _, _, _, _, _, _, _, _, _, _, _, _, _, _, _, _, _, _, _, _, _, _, _, _, _, _, _, _, _, _, _, _, _, _, _, _, _, _, _, _, _, _, _, _, _, _, _, _, _, _, _, _, _, _, _, _, _, _, _, _, _, _, _, _, _, _, _, _, _, _, _, _, _, _, _, _, _, _, _, _, _, _, _, _, _, _, _, _, _, _, _, _, _, _, _, _, _, _, _, _, _, _, _, _, _, _, _, _, _, _, _, _, _, _, _]) (ds := []) (by exact hsz) hdef ⟨hsame 0 (by decide), hsame 1 (by decide), hsame 2 (by decide), hsame 3 (by decide), hsame 4 (by decide), hsame 5 (by decide), hsame 6 (by decide), hsame 7 (by decide), hsame 8 (by decide), hsame 9 (by decide), hsame 10 (by decide), hsame 11 (by decide), hsame 12 (by decide), hsame 13 (by decide), hsame 14 (by decide), hsame 15 (by decide), hsame 16 (by decide), hsame 17 (by decide), hsame 18 (by decide), hsame 19 (by decide), hsame 20 (by decide), hsame 21 (by decide), hsame 22 (by decide), hsame 23 (by decide), hsame 24 (by decide), hsame 25 (by decide), hsame 26 (by decide), hsame 27 (by decide), hsame 28 (by decide), hsame 29 (by decide), hsame 30 (by decide), hsame 31 (by decide), hsame 32 (by decide), hsame 33 (by decide), hsame 34 (by decide), hsame 35 (by decide), hsame 36 (by decide), hsame 37 (by decide), hsame 38 (by decide), hsame 39 (by decide), h40, h41, h42, h43, h44, h45, h46, h47, h48, h49, h50, h51, h52, h53, h54, h55, h56, h57, h58, h59, h60, h61, h62, hsame 63 (by decide), hsame 64 (by decide), hsame 65 (by decide), hsame 66 (by decide), hsame 67 (by decide), hsame 68 (by decide), hsame 69 (by decide), hsame 70 (by decide), hsame 71 (by decide), hsame 72 (by decide), hsame 73 (by decide), hsame 74 (by decide), hsame 75 (by decide), hsame 76 (by decide), hsame 77 (by decide), hsame 78 (by decide), hsame 79 (by decide), hsame 80 (by decide), hsame 81 (by decide), hsame 82 (by decide), hsame 83 (by decide), hsame 84 (by decide), hsame 85 (by decide), hsame 86 (by decide), hsame 87 (by decide), hsame 88 (by decide), hsame 89 (by decide), hsame 90 (by decide), hsame 91 (by decide), hsame 92 (by decide), hsame 93 (by decide), hsame 94 (by decide), hsame 95 (by decide), hsame 96 (by decide), hsame 97 (by decide), hsame 98 (by decide), hsame 99 (by decide), hsame 100 (by decide), hsame 101 (by decide), hsame 102 (by decide), hsame 103 (by decide), hsame 104 (by decide), hsame 105 (by decide), hsame 106 (by decide), hsame 107 (by decide), hsame 108 (by decide), hsame 109 (by decide), hsame 110 (by decide), hsame 111 (by decide), hsame 112 (by decide), hsame 113 (by decide), hsame 114 (by decide), hsame 115 (by decide), trivial⟩
          clear hall hsame hsz hdef h40 h41 h42 h43 h44 h45 h46 h47 h48 h49 h50 h51 h52 h53 h54 h55 h56 h57 h58 h59 h60 h61 h62
          subst hact
          have hbW := Below.on hb4 hI
          have HLW9 := Lib.hid (HL9.out W hI)
          have ha10 : Below W.heap.size W (W.alloc (.cells #[] 5)) := (Below.refl _ _).alloc (Nat.le_refl _) _
          have HS10 := Lib.hid ((HL7.out W hI).below ha10)
          have HR10 := Lib.hid ((HRL.out.below hbW).below ha10)
          go_wp2_with (first
            | (at_builtin; refine wpList_append_bytes rfl _ _ rfl W.heap.size (some ⟨W.heap.size, 0, none⟩) 0 [] rfl (own_none W _ (Nat.le_refl _)) A7 c7 X7 rfl HS10.out (by simp; omega) ha10.size ?_; intro A10 c10 w10 L10 hL10 hown10 hgrow10; have hb10 := OwnS.grow (own_none W _ (Nat.le_refl _)) ha10 hgrow10 ha10.size; have hLl10 : L10.length ≤ 650001 := (by rw [hL10.out]; simp; omega); have HR10b := Lib.hid ((HRL.out.below hbW).below hb10))
            | (at_builtin; go_must (refine wpList_append_bytes rfl _ _ rfl W.heap.size A10 c10 L10 rfl hown10 a2 c2 r rfl HR10b.out (by omega) hb10.size ?_); intro A11 c11 w11 L11 hL11 hown11 hgrow11; have hb11 := OwnS.grow hown10 hb10 hgrow11 hb10.size))
          have e10 : L11 = X7 ++ r := by rw [hL11.out, hL10.out]; simp
          have HQ10 := Lib.hid (HGL.out A11 c11 w11 (by rw [← e10]; exact OwnS.lies hown11) (by rw [← e10]; exact OwnS.cap hown11))
          rw [← e10] at HQ10
          refine HQ10.out.mono ?_
          rintro e' w12 ⟨A12, c12, rfl, hown12, hb12'⟩
          dsimp only at hown12
          dsimp only
          have hb12 : Below W.heap.size W w12 := Below.on hb11 hb12'
          have HC12 := Lib.hid (OwnG.cells hown12)
          clear hown12 hown11 hown10 hL10 hL11 hgrow10 hgrow11 hb10 hb11 hb12' ha10 e10 HQ10 HS10 HR10 HR10b hLl10
          have hbV := Below.on hbW hb12
          have HLV9 := Lib.hid (HLW9.out.below hb12)
          have ha20 : Below w12.heap.size w12 (w12.alloc (.cells #[] 5)) := (Below.refl _ _).alloc (Nat.le_refl _) _
          have HS20 := Lib.hid ((HLV9.out).below ha20)
          have HR20 := Lib.hid ((HRL.out.below hbV).below ha20)
          go_wp2_with (first
            | (at_builtin; refine wpList_append_bytes rfl _ _ rfl w12.heap.size (some ⟨w12.heap.size, 0, none⟩) 0 [] rfl (own_none w12 _ (Nat.le_refl _)) A9 c9 XP rfl HS20.out (by simp; omega) ha20.size ?_; intro A20 c20 w20 L20 hL20 hown20 hgrow20; have hb20 := OwnS.grow (own_none w12 _ (Nat.le_refl _)) ha20 hgrow20 ha20.size; have hLl20 : L20.length ≤ 650001 := (by rw [hL20.out]; simp; omega); have HR20b := Lib.hid ((HRL.out.below hbV).below hb20))
            | (at_builtin; go_must (refine wpList_append_bytes rfl _ _ rfl w12.heap.size A20 c20 L20 rfl hown20 a2 c2 r rfl HR20b.out (by omega) hb20.size ?_); intro A21 c21 w21 L21 hL21 hown21 hgrow21; have hb21 := OwnS.grow hown20 hb20 hgrow21 hb20.size))
          have e20 : L21 = XP ++ r := by rw [hL21.out, hL20.out]; simp
          have HQ20 := Lib.hid (HGP.out A21 c21 w21 (by rw [← e20]; exact OwnS.lies hown21) (by rw [← e20]; exact OwnS.cap hown21))
          rw [← e20] at HQ20
          refine HQ20.out.mono ?_
          rintro e' w22 ⟨A22, c22, rfl, hown22, hb22'⟩
          dsimp only at hown22
          dsimp only
          have hb22 : Below w12.heap.size w12 w22 := Below.on hb21 hb22'
          have HC22 := Lib.hid (OwnG.cells hown22)
          clear hown22 hown21 hown20 hL20 hL21 hgrow20 hgrow21 hb20 hb21 hb22' ha20 e20 HQ20 HS20 HR20 HR20b hLl20
          have hbU := Below.on hbV hb22
          have HS1' := Lib.hid (show Calls Try.prog 17 #[.slice A12 n0 c12, .slice a0 n0 c0] w22 _ from (by
            have := same_calls A12 a0 c12 c0 ss w22 (HC12.out.below hb22) (HSC.out.below hbU) hsm
            rw [HN0.out] at this
            exact this))
          have HS2' := Lib.hid (fun (W' : World) (hW : Below w22.heap.size w22 W') => show Calls Try.prog 18 #[.slice A22 n1 c22, .slice a1 n1 c1] W' _ from (by
            have := samePairs_calls A22 a1 c22 c1 ps W' (HC22.out.below hW) (HPC.out.below (Below.on hbU hW)) hpm
            rw [HN1.out] at this
            exact this))
          rw [HN0.out, HN1.out]
          go_wp2_with (first
            | (go_at_call 17; refine HS1'.out.mono ?_; rintro e' w30 ⟨rfl, hb30⟩)
            | (go_at_call 12; refine (code_calls _ _).mono ?_; rintro e' w' ⟨rfl, rfl⟩)
            | (go_at_call 18; refine (HS2'.out w30 hb30).mono ?_; rintro e' w31 ⟨rfl, hb31⟩)
            | (go_at_call 9; refine (live_calls _).mono ?_; rintro e9 w9 ⟨rfl, hb9⟩))
          go_ret
          exact ⟨rfl, Below.on (Below.on (Below.on hbU hb30) hb31) hb9⟩
    · go_wp2_with (go_at_call 9; refine (live_calls _).mono ?_; rintro e w9 ⟨rfl, hb9⟩)
      go_ret
      exact ⟨rfl, Below.on hb2 hb9⟩
  · go_wp2_with (go_at_call 9; refine (live_calls _).mono ?_; rintro e w9 ⟨rfl, hb9⟩)
    go_ret
    exact ⟨rfl, Below.on hb1 hb9⟩

/- From the walk to the row. -/
set_option maxRecDepth 100000 in
theorem lifted (os : Os) (started : os.Started) (H : Type) (enc : TypeId × Value → H) :
    ReturnsInHanded {} Try.checked os 3 .any (Rows.recPutsSpec.pre6 enc Try.prog Try.f3 Rows.recPutsRow.domain false) (Rows.recPutsSpec.post enc Try.prog Try.f3 false true false false) := by
  refine returnsInHanded_of_change_sized (C := Try.checked) own started (by kernel_rfl) Try.func3
    (ChangeSpec.witness6 (enc := enc) (C := Try.checked) false ⟨#[], #[.slice none 0 0, .slice none 0 0, .slice none 0 0], []⟩ 8 (by kernel_rfl) (by kernel_rfl) (by kernel_rfl) (by kernel_rfl)) ?_
  intro W base args ds gs before hval0 hW hcnd hsized _
  have hval : ∀ (j : Nat) t v, Try.f3.params[j]? = some t → args[j]? = some v → Value.okWide Try.prog W .any base t v := hval0
  have hW' := hW
  obtain ⟨p, q, hA0, hV, rfl, hfz, hnd⟩ := hW
  have hA : DataW.TrodAll enc Try.prog W 0 (fun _ => true) true Try.f3.params.toList args.toList ds p := hA0
  have hsz : (DataW.weightsEach Try.prog (Try.f3.params.toList ++ Rows.recPutsSpec.plain.varTypes Try.prog) (ds ++ gs)).all (· ≤ reachBytes) = true := hsized
  rw [Try.params3] at hA hval hsz
  obtain ⟨v0, vs0, d0, ds0, p0, q0, hargs, rfl, rfl, h0, r0⟩ := trodAll_cons hA
  obtain ⟨v1, vs1, d1, ds1, p1, q1, rfl, rfl, rfl, h1, r1⟩ := trodAll_cons r0
  obtain ⟨v2, vs2, d2, ds2, p2, q2, rfl, rfl, rfl, h2, r2⟩ := trodAll_cons r1
  obtain ⟨rfl, rfl, rfl⟩ := trodAll_nil r2
  obtain rfl : args = #[v0, v1, v2] := by cases args; simp_all
  obtain ⟨rfl, rfl⟩ := trodVars_none hV
  obtain ⟨a0, len0, cap0, rfl⟩ := okWide_slice Try.underlying22 (hval 0 22 v0 rfl rfl)
  have k0 := h0
  have lt0 : ∀ x ∈ p0, x.block < W.heap.size := by obtain ⟨m, hm⟩ := k0; exact DataW.trod_lt m _ _ _ hm
  have wt0 := weights_of_each hsz (j := 0) (t := 22) (d := d0) rfl rfl
  obtain ⟨x0, xl0, xc0, xm0, xx0, xs0⟩ : ∃ xs : List (ByteArray), xs.length = len0 ∧ xs.length ≤ cap0 ∧ xs.length ≤ maxLen ∧ CellsG enS W a0 cap0 xs ∧ ∀ s ∈ xs, s.size ≤ reachBytes := by
    obtain ⟨fuel, hf⟩ := h0
    exact strs_of_arg_sized 22 9 Try.underlying22 Try.underlying9 (by kernel_rfl) hf wt0
  subst xl0
  obtain ⟨a1, len1, cap1, rfl⟩ := okWide_slice Try.underlying23 (hval 1 23 v1 rfl rfl)
  have k1 := h1
  have lt1 : ∀ x ∈ p1, x.block < W.heap.size := by obtain ⟨m, hm⟩ := k1; exact DataW.trod_lt m _ _ _ hm
  have wt1 := weights_of_each hsz (j := 1) (t := 23) (d := d1) rfl rfl
  obtain ⟨x1, xl1, xc1, xm1, xx1, xs1⟩ : ∃ xs : List (ByteArray × ByteArray), xs.length = len1 ∧ xs.length ≤ cap1 ∧ xs.length ≤ maxLen ∧ CellsG enP W a1 cap1 xs ∧ ∀ s ∈ xs, s.1.size ≤ reachBytes ∧ s.2.size ≤ reachBytes := by
    obtain ⟨fuel, hf⟩ := h1
    exact pairs_of_arg_sized 23 48 Try.underlying23 Try.underlying48 (by kernel_rfl) Try.underlying9 Try.underlying9 (by kernel_rfl) (by kernel_rfl) rfl rfl hf wt1
  subst xl1
  obtain ⟨a2, len2, cap2, rfl⟩ := okWide_slice Try.underlying24 (hval 2 24 v2 rfl rfl)
  have k2 := h2
  have lt2 : ∀ x ∈ p2, x.block < W.heap.size := by obtain ⟨m, hm⟩ := k2; exact DataW.trod_lt m _ _ _ hm
  have wt2 := weights_of_each hsz (j := 2) (t := 24) (d := d2) rfl rfl
  obtain ⟨z2, w2⟩ : ∃ zs, IsRow W a2 len2 cap2 zs := by
    obtain ⟨fuel, hf⟩ := h2
    rcases open_ints Try.underlying24 Try.underlying5 (by kernel_rfl) hf with ⟨hcs, _⟩ | ⟨x, l, c, zs, hcs, _, hl, hm, hz, _, hcell, hwz⟩
    · simp [Value.cells] at hcs
      obtain ⟨rfl, rfl, rfl⟩ := hcs
      exact ⟨[], .inl ⟨rfl, rfl, rfl, rfl⟩⟩
    · simp [Value.cells] at hcs
      obtain ⟨rfl, rfl, rfl⟩ := hcs
      exact ⟨zs, .inr ⟨_, rfl, hl, hm, by simpa using hz, hcell, hwz⟩⟩
  obtain ⟨l2, rfl, lc2, lm2, ll2, lb2⟩ := bytes_of_row w2
  clear hA0 hval0
  refine (walk a0 cap0 x0 a1 cap1 x1 a2 cap2 l2 W xm0 xx0 xs0 xm1 xx1 xs1 lc2 lm2 ll2 lb2).mono fun e W' ⟨he, bel⟩ => ?_
  subst he
  exact ⟨_, rfl, _, _, _, [], _, [], hW', trodAll_mk1 (shut_bool Try.underlying4 _), (trodAll_cons_mk (Below.trod laidOut (by kernel_rfl) (of_decide_eq_true (by kernel_rfl)) k0 bel lt0) (trodAll_cons_mk (Below.trod laidOut (by kernel_rfl) (of_decide_eq_true (by kernel_rfl)) k1 bel lt1) (trodAll_cons_mk (Below.trod laidOut (by kernel_rfl) (of_decide_eq_true (by kernel_rfl)) k2 bel lt2) trodAll_mk0))), rfl, bel.frame _, fun h => by cases h⟩

theorem over : Rows.recPutsRow.holds Try.pinned (OpenSpec.ofChange Rows.recPutsSpec) :=
  OpenClaim.holds_of_wide 3 Try.f3 rfl rfl rfl rfl rfl rfl rfl ⟨rfl, rfl, rfl, rfl, rfl⟩ rfl rfl rfl rfl rfl (by kernel_rfl) Try.func3 (by kernel_rfl)
    (of_decide_eq_true (by kernel_rfl)) (by unfold Func.isWrapper; first | (rw [if_pos (by decide +kernel)]; kernel_rfl) | (rw [if_neg (by decide +kernel)]; exact ⟨rfl, rfl⟩))
    (fun os started H enc _ => lifted os started H enc)

end recPuts

/-- The statement. -/
theorem recPuts_holds : Rows.RecPutsSaid := recPuts.over
#print axioms recPuts_holds
end Go.Proofs.Ytimcolanmbklpaa
