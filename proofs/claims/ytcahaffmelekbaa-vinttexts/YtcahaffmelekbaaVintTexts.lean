/-
  For every string, byte slice, index and limit the law VintTexts returns true (vint.PutText appends the document bytes, vint.GetText answers as the document GetText, and the example of the page holds), and the arguments read afterwards as before. No conditions.
-/
import Derived.Test.YtcahaffmelekbaaRows
import Derived.Test.YtcahaffmelekbaaLaw
import Derived.Test.YtcahaffmelekbaaText
import Derived.Test.YtcahaffmelekbaaInv
namespace Go.Proofs.Ytcahaffmelekbaa
namespace vintTexts
open Go.ChangeShapes Go.WideShapes Go.ChangeAt Go.RowKit
open Go.ChangeMaps (open_string shut_string)
set_option linter.unusedVariables false

theorem getT_err (l : List Int) (i m : Int) : 0 ≤ (getT l i m).2.2 ∧ (getT l i m).2.2 ≤ 1000 := by
  have h := getS_err l i
  unfold getT
  split
  · split
    · simp
    · split <;> simp
  · exact h

/-- A value that is a slice which reads as l. -/
def Holds (W : World) (l : List Int) (v : Value) : Prop := ∃ A c, v = .slice A l.length c ∧ Lies W A c l

/-- What each slot of the last region holds. -/
def V (s sx : ByteArray) (A : Option Addr) (c : Nat) (l L E : List Int) (y e : Int) (d : Nat) (W : World) (v : Value) : Prop :=
  match d with
  | 42 => Holds W L v
  | 47 => Holds W E v
  | 40 | 44 => v = .slice A l.length c
  | 41 | 46 => v = .string s
  | 43 => v = .string (str L)
  | 45 => v = .string (str l)
  | 48 => v = .string (str E)
  | 49 => v = .string (str l ++ str E)
  | 52 | 53 => v = .string sx
  | 57 | 58 => v = .int .i64 y
  | 62 | 63 | 64 => v = .int .i64 e
  | 50 | 51 | 54 | 55 | 56 | 59 | 60 | 61 | 65 | 66 | 67 | 68 | 69 | 8 => v = .bool true
  | _ => True
theorem V.keep (s sx : ByteArray) (A : Option Addr) (c : Nat) (l L E : List Int) (y e : Int) (d : Nat) (W W' : World) (v : Value) (hb : Below W.heap.size W W') (h : V s sx A c l L E y e d W v) : V s sx A c l L E y e d W' v := by
  unfold V at *
  split at h
  all_goals first | exact h | (obtain ⟨A, c, rfl, h⟩ := h; exact ⟨A, c, rfl, h.below hb⟩)

set_option maxRecDepth 100000 in
set_option maxHeartbeats 4000000 in
theorem small (s : ByteArray) (A : Option Addr) (c : Nat) (l : List Int) (i m : Int) (w : World) (h : Lies w A c l) (hb : IsB l) (hc : l.length ≤ c) (hs : s.size ≤ 1000) (hl : l.length ≤ 1000) (m1 : m ≤ 9223372036854775807) :
    Calls Try.prog 6 #[.string s, .slice A l.length c, .int .i64 i, .int .i64 m] w fun e w' => e = .returned (.bool true) ∧ Below w.heap.size w w' := by
  have he := getT_err l i m
  have HI := Lib.hid (getText_calls A c l i m w h hb hc (by omega) m1)
  have HJ := Lib.hid (fun (W : World) (hw : Below w.heap.size w W) => rgetText_calls A c l i m W (h.below hw) hb hc (by omega) m1)
  have HP := Lib.hid (fun (W : World) (hw : Below w.heap.size w W) => putText_calls A c l s W (h.below hw) (by omega) (by omega))
  have HE := Lib.hid (fun (W : World) => text_calls s W (by omega))
  have heq : ((str (l ++ enc s.size ++ sl s)).toList == (str l ++ str (enc s.size ++ sl s)).toList) = true := by rw [str_append, List.append_assoc]; simp
  have hv := vlen_le s.size
  have hz1 : (str l).size ≤ 1000 := by rw [str_size]; exact hl
  have hz2 : (str (enc s.size ++ sl s)).size ≤ 2000 := by rw [str_size, List.length_append, enc_length, sl_length]; omega
  have hd1 : decide ((1000 : Int) < (s.size : Int)) = false := by simp; omega
  have H := Lib.hid h
  clear h hb
  generalize l ++ enc s.size ++ sl s = L at HP heq
  generalize enc s.size ++ sl s = E at *
  obtain ⟨x, y, e, hg⟩ : ∃ x y e, getT l i m = (x, y, e) := ⟨_, _, _, rfl⟩
  rw [hg] at he HI HJ
  obtain ⟨he0, he1⟩ := he
  simp only at he0 he1
  clear hg
  unfold triT at HI HJ
  simp only at HI HJ
  generalize str x = sx at *
  go_enter Try.func6, Try.ntmps6
  go_wp2_with fail
  refine HI.out.mono ?_
  rintro e' w1 ⟨rfl, hb1⟩
  go_wp2_with fail
  refine (HJ.out w1 hb1).mono ?_
  rintro e' w2 ⟨rfl, hb2⟩
  have hB2 : Below w.heap.size w w2 := Below.on hb1 hb2
  go_wp2_with fail
  refine wp_region_inv (by kernel_rfl) (fun W => Below w.heap.size w W) (fun W W' => Below W.heap.size W W') (V s sx A c l L E y e) [[], [], [40, 41], [42], [], [44], [], [46], [47], [45, 48], [43, 49], [50], [51], [51], [52, 53, 51], [51, 54], [55], [56], [56], [57, 58, 56], [56, 59], [60], [61], [62, 61], [61], [63, 64, 61], [61, 65], [66], [67], [67, 68], [69]] (by kernel_rfl) (fun W => Below.refl _ _) (fun d W W' v => V.keep s sx A c l L E y e d W W' v) hB2.drew ?_ ?_
  · refine ⟨?_, ?_, ?_, ?_, ?_, ?_, ?_, ?_, ?_, ?_, ?_, ?_, ?_, ?_, ?_, ?_, ?_, ?_, ?_, ?_, ?_, ?_, ?_, ?_, ?_, ?_, ?_, ?_, ?_, ?_, ?_, trivial⟩
    · intro a W hI hsame ht
      have h1 := hsame 1 (by decide)
      change a.tmps.getD 1 undef = .slice A l.length c at h1
      rw [if_pos (by rfl)]
      clear hsame
      unfold Oper.wp
      go_simp
      exact ⟨_, rfl, hI, Below.refl _ _, fun d hd => by cases hd; exact rfl⟩
    · intro a W hI hsame ht
      have h0 := hsame 0 (by decide)
      change a.tmps.getD 0 undef = .string s at h0
      rw [if_pos (by rfl)]
      clear hsame
      unfold Oper.wp
      go_simp
      exact ⟨_, rfl, hI, Below.refl _ _, fun d hd => by cases hd; exact rfl⟩
    · intro a W hI hsame ht
      obtain ⟨h40, h41, _⟩ := ht
      change a.tmps.getD 40 undef = .slice A l.length c at h40
      change a.tmps.getD 41 undef = .string s at h41
      rw [if_pos (by rfl)]
      clear hsame
      unfold Oper.wp
      go_simp
      refine (HP.out _ hI).mono ?_
      rintro e' W' ⟨A, c, rfl, hown, hb⟩
      exact ⟨_, rfl, Below.on hI hb, hb, fun d hd => by cases hd; exact ⟨A, c, rfl, Lies.of_own hown⟩⟩
    · intro a W hI hsame ht
      obtain ⟨⟨A42, c42, h42, hL42⟩, _⟩ := ht
      rw [if_pos (by rfl)]
      clear hsame
      have hs := run_str hL42
      unfold Oper.wp
      go_simp
      exact ⟨_, rfl, hI, Below.refl _ _, fun d hd => by cases hd; exact rfl⟩
    · intro a W hI hsame ht
      have h1 := hsame 1 (by decide)
      change a.tmps.getD 1 undef = .slice A l.length c at h1
      rw [if_pos (by rfl)]
      clear hsame
      unfold Oper.wp
      go_simp
      exact ⟨_, rfl, hI, Below.refl _ _, fun d hd => by cases hd; exact rfl⟩
    · intro a W hI hsame ht
      obtain ⟨h44, _⟩ := ht
      change a.tmps.getD 44 undef = .slice A l.length c at h44
      rw [if_pos (by rfl)]
      clear hsame
      have hs := run_str (H.out.below hI)
      unfold Oper.wp
      go_simp
      exact ⟨_, rfl, hI, Below.refl _ _, fun d hd => by cases hd; exact rfl⟩
    · intro a W hI hsame ht
      have h0 := hsame 0 (by decide)
      change a.tmps.getD 0 undef = .string s at h0
      rw [if_pos (by rfl)]
      clear hsame
      unfold Oper.wp
      go_simp
      exact ⟨_, rfl, hI, Below.refl _ _, fun d hd => by cases hd; exact rfl⟩
    · intro a W hI hsame ht
      obtain ⟨h46, _⟩ := ht
      change a.tmps.getD 46 undef = .string s at h46
      rw [if_pos (by rfl)]
      clear hsame
      unfold Oper.wp
      go_simp
      refine (HE.out _).mono ?_
      rintro e' W' ⟨A, c, rfl, hown, hb⟩
      exact ⟨_, rfl, Below.on hI hb, hb, fun d hd => by cases hd; exact ⟨A, c, rfl, Lies.of_own hown⟩⟩
    · intro a W hI hsame ht
      obtain ⟨⟨A47, c47, h47, hL47⟩, _⟩ := ht
      rw [if_pos (by rfl)]
      clear hsame
      have hs := run_str hL47
      unfold Oper.wp
      go_simp
      exact ⟨_, rfl, hI, Below.refl _ _, fun d hd => by cases hd; exact rfl⟩
    · intro a W hI hsame ht
      obtain ⟨h45, h48, _⟩ := ht
      change a.tmps.getD 45 undef = .string (str l) at h45
      change a.tmps.getD 48 undef = .string (str E) at h48
      rw [if_pos (by rfl)]
      clear hsame
      have hadd : ¬ 9223372036854775807 < (str l).size + (str E).size := by omega
      unfold Oper.wp
      go_simp
      exact ⟨_, rfl, hI, Below.refl _ _, fun d hd => by cases hd; exact rfl⟩
    · intro a W hI hsame ht
      obtain ⟨h43, h49, _⟩ := ht
      change a.tmps.getD 43 undef = .string (str L) at h43
      change a.tmps.getD 49 undef = .string (str l ++ str E) at h49
      rw [if_pos (by rfl)]
      clear hsame
      unfold Oper.wp
      go_simp
      exact ⟨_, rfl, hI, Below.refl _ _, fun d hd => by cases hd; exact rfl⟩
    · intro a W hI hsame ht
      obtain ⟨h50, _⟩ := ht
      change a.tmps.getD 50 undef = .bool true at h50
      rw [if_pos (by rfl)]
      clear hsame
      unfold Oper.wp
      go_simp
      exact ⟨_, rfl, hI, Below.refl _ _, fun d hd => by cases hd; exact rfl⟩
    · intro a W hI hsame ht
      obtain ⟨h51, _⟩ := ht
      change a.tmps.getD 51 undef = .bool true at h51
      have h9 := hsame 9 (by decide)
      change a.tmps.getD 9 undef = .string sx at h9
      rw [if_pos (wanted_true (j := 11) (d := 51) rfl rfl h51)]
      clear hsame
      unfold Oper.wp
      go_simp
      exact ⟨_, rfl, hI, Below.refl _ _, fun d hd => by cases hd; exact rfl⟩
    · intro a W hI hsame ht
      obtain ⟨h51, _⟩ := ht
      change a.tmps.getD 51 undef = .bool true at h51
      have h12 := hsame 12 (by decide)
      change a.tmps.getD 12 undef = .string sx at h12
      rw [if_pos (wanted_true (j := 11) (d := 51) rfl rfl h51)]
      clear hsame
      unfold Oper.wp
      go_simp
      exact ⟨_, rfl, hI, Below.refl _ _, fun d hd => by cases hd; exact rfl⟩
    · intro a W hI hsame ht
      obtain ⟨h52, h53, h51, _⟩ := ht
      change a.tmps.getD 52 undef = .string sx at h52
      change a.tmps.getD 53 undef = .string sx at h53
      change a.tmps.getD 51 undef = .bool true at h51
      rw [if_pos (wanted_true (j := 11) (d := 51) rfl rfl h51)]
      clear hsame
      unfold Oper.wp
      go_simp
      exact ⟨_, rfl, hI, Below.refl _ _, fun d hd => by cases hd; exact rfl⟩
    · intro a W hI hsame ht
      obtain ⟨h51, h54, _⟩ := ht
      change a.tmps.getD 51 undef = .bool true at h51
      change a.tmps.getD 54 undef = .bool true at h54
      rw [if_pos (by rfl)]
      clear hsame
      unfold Oper.wp
      go_simp
      exact ⟨_, rfl, hI, Below.refl _ _, fun d hd => by cases hd; exact rfl⟩
    · intro a W hI hsame ht
      obtain ⟨h55, _⟩ := ht
      change a.tmps.getD 55 undef = .bool true at h55
      rw [if_pos (by rfl)]
      clear hsame
      unfold Oper.wp
      go_simp
      exact ⟨_, rfl, hI, Below.refl _ _, fun d hd => by cases hd; exact rfl⟩
    · intro a W hI hsame ht
      obtain ⟨h56, _⟩ := ht
      change a.tmps.getD 56 undef = .bool true at h56
      have h10 := hsame 10 (by decide)
      change a.tmps.getD 10 undef = .int .i64 y at h10
      rw [if_pos (wanted_true (j := 16) (d := 56) rfl rfl h56)]
      clear hsame
      unfold Oper.wp
      go_simp
      exact ⟨_, rfl, hI, Below.refl _ _, fun d hd => by cases hd; exact rfl⟩
    · intro a W hI hsame ht
      obtain ⟨h56, _⟩ := ht
      change a.tmps.getD 56 undef = .bool true at h56
      have h13 := hsame 13 (by decide)
      change a.tmps.getD 13 undef = .int .i64 y at h13
      rw [if_pos (wanted_true (j := 16) (d := 56) rfl rfl h56)]
      clear hsame
      unfold Oper.wp
      go_simp
      exact ⟨_, rfl, hI, Below.refl _ _, fun d hd => by cases hd; exact rfl⟩
    · intro a W hI hsame ht
      obtain ⟨h57, h58, h56, _⟩ := ht
      change a.tmps.getD 57 undef = .int .i64 y at h57
      change a.tmps.getD 58 undef = .int .i64 y at h58
      change a.tmps.getD 56 undef = .bool true at h56
      rw [if_pos (wanted_true (j := 16) (d := 56) rfl rfl h56)]
      clear hsame
      unfold Oper.wp
      go_simp
      exact ⟨_, rfl, hI, Below.refl _ _, fun d hd => by cases hd; exact rfl⟩
    · intro a W hI hsame ht
      obtain ⟨h56, h59, _⟩ := ht
      change a.tmps.getD 56 undef = .bool true at h56
      change a.tmps.getD 59 undef = .bool true at h59
      rw [if_pos (by rfl)]
      clear hsame
      unfold Oper.wp
      go_simp
      exact ⟨_, rfl, hI, Below.refl _ _, fun d hd => by cases hd; exact rfl⟩
    · intro a W hI hsame ht
      obtain ⟨h60, _⟩ := ht
      change a.tmps.getD 60 undef = .bool true at h60
      rw [if_pos (by rfl)]
      clear hsame
      unfold Oper.wp
      go_simp
      exact ⟨_, rfl, hI, Below.refl _ _, fun d hd => by cases hd; exact rfl⟩
    · intro a W hI hsame ht
      obtain ⟨h61, _⟩ := ht
      change a.tmps.getD 61 undef = .bool true at h61
      have h11 := hsame 11 (by decide)
      change a.tmps.getD 11 undef = .int .i64 e at h11
      rw [if_pos (wanted_true (j := 21) (d := 61) rfl rfl h61)]
      clear hsame
      unfold Oper.wp
      go_simp
      exact ⟨_, rfl, hI, Below.refl _ _, fun d hd => by cases hd; exact rfl⟩
    · intro a W hI hsame ht
      obtain ⟨h62, h61, _⟩ := ht
      change a.tmps.getD 62 undef = .int .i64 e at h62
      change a.tmps.getD 61 undef = .bool true at h61
      rw [if_pos (wanted_true (j := 21) (d := 61) rfl rfl h61)]
      clear hsame
      unfold Oper.wp
      go_simp
      refine (code_calls _ _ he0 he1).mono ?_
      rintro e' W' ⟨rfl, rfl⟩
      exact ⟨_, rfl, hI, Below.refl _ _, fun d hd => by cases hd; exact rfl⟩
    · intro a W hI hsame ht
      obtain ⟨h61, _⟩ := ht
      change a.tmps.getD 61 undef = .bool true at h61
      have h14 := hsame 14 (by decide)
      change a.tmps.getD 14 undef = .int .i64 e at h14
      rw [if_pos (wanted_true (j := 21) (d := 61) rfl rfl h61)]
      clear hsame
      unfold Oper.wp
      go_simp
      exact ⟨_, rfl, hI, Below.refl _ _, fun d hd => by cases hd; exact rfl⟩
    · intro a W hI hsame ht
      obtain ⟨h63, h64, h61, _⟩ := ht
      change a.tmps.getD 63 undef = .int .i64 e at h63
      change a.tmps.getD 64 undef = .int .i64 e at h64
      change a.tmps.getD 61 undef = .bool true at h61
      rw [if_pos (wanted_true (j := 21) (d := 61) rfl rfl h61)]
      clear hsame
      unfold Oper.wp
      go_simp
      exact ⟨_, rfl, hI, Below.refl _ _, fun d hd => by cases hd; exact rfl⟩
    · intro a W hI hsame ht
      obtain ⟨h61, h65, _⟩ := ht
      change a.tmps.getD 61 undef = .bool true at h61
      change a.tmps.getD 65 undef = .bool true at h65
      rw [if_pos (by rfl)]
      clear hsame
      unfold Oper.wp
      go_simp
      exact ⟨_, rfl, hI, Below.refl _ _, fun d hd => by cases hd; exact rfl⟩
    · intro a W hI hsame ht
      obtain ⟨h66, _⟩ := ht
      change a.tmps.getD 66 undef = .bool true at h66
      rw [if_pos (by rfl)]
      clear hsame
      unfold Oper.wp
      go_simp
      exact ⟨_, rfl, hI, Below.refl _ _, fun d hd => by cases hd; exact rfl⟩
    · intro a W hI hsame ht
      obtain ⟨h67, _⟩ := ht
      change a.tmps.getD 67 undef = .bool true at h67
      rw [if_pos (wanted_true (j := 27) (d := 67) rfl rfl h67)]
      clear hsame
      unfold Oper.wp
      go_simp
      refine (live_calls _).mono ?_
      rintro e' W' ⟨rfl, hb⟩
      exact ⟨_, rfl, Below.on hI hb, hb, fun d hd => by cases hd; exact rfl⟩
    · intro a W hI hsame ht
      obtain ⟨h67, h68, _⟩ := ht
      change a.tmps.getD 67 undef = .bool true at h67
      change a.tmps.getD 68 undef = .bool true at h68
      rw [if_pos (by rfl)]
      clear hsame
      unfold Oper.wp
      go_simp
      exact ⟨_, rfl, hI, Below.refl _ _, fun d hd => by cases hd; exact rfl⟩
    · intro a W hI hsame ht
      obtain ⟨h69, _⟩ := ht
      change a.tmps.getD 69 undef = .bool true at h69
      rw [if_pos (by rfl)]
      clear hsame
      unfold Oper.wp
      go_simp
      exact ⟨_, rfl, hI, Below.refl _ _, fun d hd => by cases hd; exact rfl⟩
  · intro a W hI hsz hdef hsame hall
    have h8 := hall 8 (by decide)
    change a.tmps.getD 8 undef = .bool true at h8
    clear hall hsame
    go_wp2
    exact bodyPost_ret (results_tmp (by rfl) _ _ _) hdef ⟨congrArg Ending.returned h8, hI⟩

theorem walk (a0 : ByteArray) (a1 : Option Addr) (len1 cap1 : Nat) (z1 : List Int) (a2 : Int) (a3 : Int) (w : World) (w0 : a0.size ≤ maxLen) (w1 : IsRow w a1 len1 cap1 z1) (w2 : (Lit.int .i64 a2).wf = true) (w3 : (Lit.int .i64 a3).wf = true) :
    Calls Try.prog 6 #[.string a0, .slice a1 len1 cap1, .int .i64 a2, .int .i64 a3] w fun e w' => e = .returned (.bool true) ∧ Below w.heap.size w w' := by
  obtain ⟨l, rfl, hc, hm, h, hb⟩ := bytes_of_row w1
  unfold maxLen at hm w0
  have hn := bounds_i64 w3
  by_cases hs : a0.size ≤ 1000
  · by_cases hl : l.length ≤ 1000
    · exact small a0 a1 cap1 l a2 a3 w h hb hc hs hl (by omega)
    · have hd : decide ((1000 : Int) < (a0.size : Int)) = false := by simp; omega
      clear h hb w1
      go_enter Try.func6, Try.ntmps6
      go_wp2_with (go_at_call 9; refine (live_calls _).mono ?_; rintro e w1 ⟨rfl, hb1⟩)
      go_ret
      exact ⟨rfl, hb1⟩
  · have hd : decide ((1000 : Int) < (a0.size : Int)) = true := by simp; omega
    clear h hb w1
    go_enter Try.func6, Try.ntmps6
    go_wp2_with (go_at_call 9; refine (live_calls _).mono ?_; rintro e w1 ⟨rfl, hb1⟩)
    go_ret
    exact ⟨rfl, hb1⟩

/- From the walk to the row. -/
set_option maxRecDepth 100000 in
theorem lifted (os : Os) (started : os.Started) (H : Type) (enc : TypeId × Value → H) :
    ReturnsInHanded {} Try.checked os 6 .any (Rows.vintTextsSpec.pre6 enc Try.prog Try.f6 Rows.vintTextsRow.domain false) (Rows.vintTextsSpec.post enc Try.prog Try.f6 false true false false) := by
  refine returnsInHanded_of_change (C := Try.checked) own started (by kernel_rfl) Try.func6
    (ChangeSpec.witness6 (enc := enc) (C := Try.checked) false ⟨#[], #[.string ByteArray.empty, .slice none 0 0, .int .i64 0, .int .i64 0], []⟩ 8 (by kernel_rfl) (by kernel_rfl) (by kernel_rfl) (by kernel_rfl)) ?_
  intro W base args ds gs before hval0 hW hcnd _
  have hval : ∀ (j : Nat) t v, Try.f6.params[j]? = some t → args[j]? = some v → Value.okWide Try.prog W .any base t v := hval0
  have hW' := hW
  obtain ⟨p, q, hA0, hV, rfl, hfz, hnd⟩ := hW
  have hA : DataW.TrodAll enc Try.prog W 0 (fun _ => true) true Try.f6.params.toList args.toList ds p := hA0
  rw [Try.params6] at hA hval
  obtain ⟨v0, vs0, d0, ds0, p0, q0, hargs, rfl, rfl, h0, r0⟩ := trodAll_cons hA
  obtain ⟨v1, vs1, d1, ds1, p1, q1, rfl, rfl, rfl, h1, r1⟩ := trodAll_cons r0
  obtain ⟨v2, vs2, d2, ds2, p2, q2, rfl, rfl, rfl, h2, r2⟩ := trodAll_cons r1
  obtain ⟨v3, vs3, d3, ds3, p3, q3, rfl, rfl, rfl, h3, r3⟩ := trodAll_cons r2
  obtain ⟨rfl, rfl, rfl⟩ := trodAll_nil r3
  obtain rfl : args = #[v0, v1, v2, v3] := by cases args; simp_all
  obtain ⟨rfl, rfl⟩ := trodVars_none hV
  obtain ⟨a0, rfl, rfl, rfl, w0⟩ := open_string Try.underlying9 (hval 0 9 v0 rfl rfl) h0
  obtain ⟨a1, len1, cap1, rfl⟩ := okWide_slice Try.underlying22 (hval 1 22 v1 rfl rfl)
  have k1 := h1
  have lt1 : ∀ x ∈ p1, x.block < W.heap.size := by obtain ⟨m, hm⟩ := k1; exact DataW.trod_lt m _ _ _ hm
  obtain ⟨z1, w1⟩ : ∃ zs, IsRow W a1 len1 cap1 zs := by
    obtain ⟨fuel, hf⟩ := h1
    rcases open_ints Try.underlying22 Try.underlying5 (by kernel_rfl) hf with ⟨hcs, _⟩ | ⟨x, l, c, zs, hcs, _, hl, hm, hz, _, hcell, hwz⟩
    · simp [Value.cells] at hcs
      obtain ⟨rfl, rfl, rfl⟩ := hcs
      exact ⟨[], .inl ⟨rfl, rfl, rfl, rfl⟩⟩
    · simp [Value.cells] at hcs
      obtain ⟨rfl, rfl, rfl⟩ := hcs
      exact ⟨zs, .inr ⟨_, rfl, hl, hm, by simpa using hz, hcell, hwz⟩⟩
  obtain ⟨a2, rfl, rfl, rfl, w2⟩ := open_int Try.underlying3 (hval 2 3 v2 rfl rfl) h2
  obtain ⟨a3, rfl, rfl, rfl, w3⟩ := open_int Try.underlying3 (hval 3 3 v3 rfl rfl) h3
  clear hA0 hval0
  refine (walk a0 a1 len1 cap1 z1 a2 a3 W w0 w1 w2 w3).mono fun e W' ⟨he, bel⟩ => ?_
  subst he
  exact ⟨_, rfl, _, _, _, [], _, [], hW', trodAll_mk1 (shut_bool Try.underlying4 _), (trodAll_cons_mk (shut_string Try.underlying9 w0) (trodAll_cons_mk (Below.trod laidOut (by kernel_rfl) (of_decide_eq_true (by kernel_rfl)) k1 bel lt1) (trodAll_cons_mk (shut_int Try.underlying3 w2) (trodAll_cons_mk (shut_int Try.underlying3 w3) trodAll_mk0)))), rfl, bel.frame _, fun h => by cases h⟩

theorem over : Rows.vintTextsRow.holds Try.pinned (OpenSpec.ofChange Rows.vintTextsSpec) :=
  OpenClaim.holds_of_wide 6 Try.f6 rfl rfl rfl rfl rfl rfl rfl ⟨rfl, rfl, rfl, rfl, rfl⟩ rfl rfl rfl rfl rfl (by kernel_rfl) Try.func6 (by kernel_rfl)
    (of_decide_eq_true (by kernel_rfl)) (by unfold Func.isWrapper; first | (rw [if_pos (by decide +kernel)]; kernel_rfl) | (rw [if_neg (by decide +kernel)]; exact ⟨rfl, rfl⟩))
    (fun os started H enc _ => lifted os started H enc)

end vintTexts

/-- The statement. -/
theorem vintTexts_holds : Rows.VintTextsSaid := vintTexts.over
#print axioms vintTexts_holds
end Go.Proofs.Ytcahaffmelekbaa
