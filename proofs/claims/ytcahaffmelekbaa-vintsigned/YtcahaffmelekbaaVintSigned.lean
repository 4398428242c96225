/-
  For every signed number, byte slice and index the law VintSigned returns true (vint.PutInt writes the document bytes, vint.GetInt answers as the document GetInt, and the example of the page holds), and the arguments read afterwards as before. No conditions.
-/
import Derived.Test.YtcahaffmelekbaaRows
import Derived.Test.YtcahaffmelekbaaLaw
import Derived.Test.YtcahaffmelekbaaInt
import Derived.Test.YtcahaffmelekbaaBytes
import Derived.Test.YtcahaffmelekbaaInv
namespace Go.Proofs.Ytcahaffmelekbaa
namespace vintSigned
open Go.ChangeShapes Go.WideShapes Go.ChangeAt Go.RowKit
open Go.ChangeMaps (open_string shut_string)
set_option linter.unusedVariables false

theorem getI_err (l : List Int) (i : Int) : 0 ≤ (getI l i).2.2 ∧ (getI l i).2.2 ≤ 1000 := by
  have h := getS_err l i
  unfold getI
  split
  · simp
  · exact h

/-- A value that is a slice which reads as l. -/
def Holds (W : World) (l : List Int) (v : Value) : Prop := ∃ A c, v = .slice A l.length c ∧ Lies W A c l

/-- What each slot of the last region holds. -/
def V (L : List Int) (n zn x y e : Int) (d : Nat) (W : World) (v : Value) : Prop :=
  match d with
  | 32 | 36 => Holds W L v
  | 31 | 34 => v = .int .i64 n
  | 35 => v = .int .u64 zn
  | 33 | 37 => v = .string (str L)
  | 40 | 41 => v = .int .i64 x
  | 45 | 46 => v = .int .i64 y
  | 50 | 51 | 52 => v = .int .i64 e
  | 38 | 39 | 42 | 43 | 44 | 47 | 48 | 49 | 53 | 54 | 55 | 56 | 57 | 6 => v = .bool true
  | _ => True
theorem V.keep (L : List Int) (n zn x y e : Int) (d : Nat) (W W' : World) (v : Value) (hb : Below W.heap.size W W') (h : V L n zn x y e d W v) : V L n zn x y e d W' v := by
  unfold V at *
  split at h
  all_goals first | exact h | (obtain ⟨A, c, rfl, h⟩ := h; exact ⟨A, c, rfl, h.below hb⟩)

set_option maxRecDepth 100000 in
set_option maxHeartbeats 4000000 in
theorem small (n : Int) (A : Option Addr) (c : Nat) (l : List Int) (i : Int) (w : World) (h : Lies w A c l) (hb : IsB l) (hc : l.length ≤ c) (hl : l.length ≤ 1000) (n0 : -9223372036854775808 ≤ n) (n1 : n ≤ 9223372036854775807) :
    Calls Try.prog 5 #[.int .i64 n, .slice A l.length c, .int .i64 i] w fun e w' => e = .returned (.bool true) ∧ Below w.heap.size w w' := by
  have he := getI_err l i
  obtain ⟨z0, z1⟩ := zig_range n n0 n1
  have HI := Lib.hid (getInt_calls A c l i w h hb hc (by omega))
  have HJ := Lib.hid (fun (W : World) (hw : Below w.heap.size w W) => rgetInt_calls A c l i W (h.below hw) hb hc (by omega))
  have hp : ∀ W : World, Calls Try.prog 19 #[.slice none 0 0, .int .i64 n] W (Own W.heap.size W (enc (zig n))) := fun W => putInt_calls none 0 [] n W (Lies.nil W) (by simp) n0 n1
  have HP := Lib.hid hp
  clear hp
  have HE := Lib.hid (fun (W : World) => bytes_calls (zig n) W z0 z1)
  have HZ := Lib.hid (fun (W : World) => signed_calls n W n0 n1)
  clear h hb
  generalize enc (zig n) = L at *
  generalize zig n = zn at *
  obtain ⟨x, y, e, hg⟩ : ∃ x y e, getI l i = (x, y, e) := ⟨_, _, _, rfl⟩
  rw [hg] at he HI HJ
  obtain ⟨he0, he1⟩ := he
  simp only at he0 he1
  clear hg
  unfold triI at HI HJ
  go_enter Try.func5, Try.ntmps5
  go_wp2_with fail
  refine HI.out.mono ?_
  rintro e' w1 ⟨rfl, hb1⟩
  go_wp2_with fail
  refine (HJ.out w1 hb1).mono ?_
  rintro e' w2 ⟨rfl, hb2⟩
  have hB2 : Below w.heap.size w w2 := Below.on hb1 hb2
  go_wp2_with fail
  refine wp_region_inv (by kernel_rfl) (fun W => Below w.heap.size w W) (fun W W' => Below W.heap.size W W') (V L n zn x y e) [[], [31], [32], [], [34], [35], [36], [33, 37], [38], [39], [39], [40, 41, 39], [39, 42], [43], [44], [44], [45, 46, 44], [44, 47], [48], [49], [50, 49], [49], [51, 52, 49], [49, 53], [54], [55], [55, 56], [57]] (by kernel_rfl) (fun W => Below.refl _ _) (fun d W W' v => V.keep L n zn x y e d W W' v) hB2.drew ?_ ?_
  · refine ⟨?_, ?_, ?_, ?_, ?_, ?_, ?_, ?_, ?_, ?_, ?_, ?_, ?_, ?_, ?_, ?_, ?_, ?_, ?_, ?_, ?_, ?_, ?_, ?_, ?_, ?_, ?_, ?_, trivial⟩
    · intro a W hI hsame ht
      have h0 := hsame 0 (by decide)
      change a.tmps.getD 0 undef = .int .i64 n at h0
      rw [if_pos (by rfl)]
      clear hsame
      unfold Oper.wp
      go_simp
      exact ⟨_, rfl, hI, Below.refl _ _, fun d hd => by cases hd; exact rfl⟩
    · intro a W hI hsame ht
      obtain ⟨h31, _⟩ := ht
      change a.tmps.getD 31 undef = .int .i64 n at h31
      rw [if_pos (by rfl)]
      clear hsame
      unfold Oper.wp
      go_simp
      refine (HP.out _).mono ?_
      rintro e' W' ⟨A, c, rfl, hown, hb⟩
      exact ⟨_, rfl, Below.on hI hb, hb, fun d hd => by cases hd; exact ⟨A, c, rfl, Lies.of_own hown⟩⟩
    · intro a W hI hsame ht
      obtain ⟨⟨A32, c32, h32, hL32⟩, _⟩ := ht
      rw [if_pos (by rfl)]
      clear hsame
      have hs := run_str hL32
      unfold Oper.wp
      go_simp
      exact ⟨_, rfl, hI, Below.refl _ _, fun d hd => by cases hd; exact rfl⟩
    · intro a W hI hsame ht
      have h0 := hsame 0 (by decide)
      change a.tmps.getD 0 undef = .int .i64 n at h0
      rw [if_pos (by rfl)]
      clear hsame
      unfold Oper.wp
      go_simp
      exact ⟨_, rfl, hI, Below.refl _ _, fun d hd => by cases hd; exact rfl⟩
    · intro a W hI hsame ht
      obtain ⟨h34, _⟩ := ht
      change a.tmps.getD 34 undef = .int .i64 n at h34
      rw [if_pos (by rfl)]
      clear hsame
      unfold Oper.wp
      go_simp
      refine (HZ.out _).mono ?_
      rintro e' W' ⟨rfl, rfl⟩
      exact ⟨_, rfl, hI, Below.refl _ _, fun d hd => by cases hd; exact rfl⟩
    · intro a W hI hsame ht
      obtain ⟨h35, _⟩ := ht
      change a.tmps.getD 35 undef = .int .u64 zn at h35
      rw [if_pos (by rfl)]
      clear hsame
      unfold Oper.wp
      go_simp
      refine (HE.out _).mono ?_
      rintro e' W' ⟨A, c, rfl, hown, hb⟩
      exact ⟨_, rfl, Below.on hI hb, hb, fun d hd => by cases hd; exact ⟨A, c, rfl, Lies.of_own hown⟩⟩
    · intro a W hI hsame ht
      obtain ⟨⟨A36, c36, h36, hL36⟩, _⟩ := ht
      rw [if_pos (by rfl)]
      clear hsame
      have hs := run_str hL36
      unfold Oper.wp
      go_simp
      exact ⟨_, rfl, hI, Below.refl _ _, fun d hd => by cases hd; exact rfl⟩
    · intro a W hI hsame ht
      obtain ⟨h33, h37, _⟩ := ht
      change a.tmps.getD 33 undef = .string (str L) at h33
      change a.tmps.getD 37 undef = .string (str L) at h37
      rw [if_pos (by rfl)]
      clear hsame
      unfold Oper.wp
      go_simp
      exact ⟨_, rfl, hI, Below.refl _ _, fun d hd => by cases hd; exact rfl⟩
    · intro a W hI hsame ht
      obtain ⟨h38, _⟩ := ht
      change a.tmps.getD 38 undef = .bool true at h38
      rw [if_pos (by rfl)]
      clear hsame
      unfold Oper.wp
      go_simp
      exact ⟨_, rfl, hI, Below.refl _ _, fun d hd => by cases hd; exact rfl⟩
    · intro a W hI hsame ht
      obtain ⟨h39, _⟩ := ht
      change a.tmps.getD 39 undef = .bool true at h39
      have h7 := hsame 7 (by decide)
      change a.tmps.getD 7 undef = .int .i64 x at h7
      rw [if_pos (wanted_true (j := 8) (d := 39) rfl rfl h39)]
      clear hsame
      unfold Oper.wp
      go_simp
      exact ⟨_, rfl, hI, Below.refl _ _, fun d hd => by cases hd; exact rfl⟩
    · intro a W hI hsame ht
      obtain ⟨h39, _⟩ := ht
      change a.tmps.getD 39 undef = .bool true at h39
      have h10 := hsame 10 (by decide)
      change a.tmps.getD 10 undef = .int .i64 x at h10
      rw [if_pos (wanted_true (j := 8) (d := 39) rfl rfl h39)]
      clear hsame
      unfold Oper.wp
      go_simp
      exact ⟨_, rfl, hI, Below.refl _ _, fun d hd => by cases hd; exact rfl⟩
    · intro a W hI hsame ht
      obtain ⟨h40, h41, h39, _⟩ := ht
      change a.tmps.getD 40 undef = .int .i64 x at h40
      change a.tmps.getD 41 undef = .int .i64 x at h41
      change a.tmps.getD 39 undef = .bool true at h39
      rw [if_pos (wanted_true (j := 8) (d := 39) rfl rfl h39)]
      clear hsame
      unfold Oper.wp
      go_simp
      exact ⟨_, rfl, hI, Below.refl _ _, fun d hd => by cases hd; exact rfl⟩
    · intro a W hI hsame ht
      obtain ⟨h39, h42, _⟩ := ht
      change a.tmps.getD 39 undef = .bool true at h39
      change a.tmps.getD 42 undef = .bool true at h42
      rw [if_pos (by rfl)]
      clear hsame
      unfold Oper.wp
      go_simp
      exact ⟨_, rfl, hI, Below.refl _ _, fun d hd => by cases hd; exact rfl⟩
    · intro a W hI hsame ht
      obtain ⟨h43, _⟩ := ht
      change a.tmps.getD 43 undef = .bool true at h43
      rw [if_pos (by rfl)]
      clear hsame
      unfold Oper.wp
      go_simp
      exact ⟨_, rfl, hI, Below.refl _ _, fun d hd => by cases hd; exact rfl⟩
    · intro a W hI hsame ht
      obtain ⟨h44, _⟩ := ht
      change a.tmps.getD 44 undef = .bool true at h44
      have h8 := hsame 8 (by decide)
      change a.tmps.getD 8 undef = .int .i64 y at h8
      rw [if_pos (wanted_true (j := 13) (d := 44) rfl rfl h44)]
      clear hsame
      unfold Oper.wp
      go_simp
      exact ⟨_, rfl, hI, Below.refl _ _, fun d hd => by cases hd; exact rfl⟩
    · intro a W hI hsame ht
      obtain ⟨h44, _⟩ := ht
      change a.tmps.getD 44 undef = .bool true at h44
      have h11 := hsame 11 (by decide)
      change a.tmps.getD 11 undef = .int .i64 y at h11
      rw [if_pos (wanted_true (j := 13) (d := 44) rfl rfl h44)]
      clear hsame
      unfold Oper.wp
      go_simp
      exact ⟨_, rfl, hI, Below.refl _ _, fun d hd => by cases hd; exact rfl⟩
    · intro a W hI hsame ht
      obtain ⟨h45, h46, h44, _⟩ := ht
      change a.tmps.getD 45 undef = .int .i64 y at h45
      change a.tmps.getD 46 undef = .int .i64 y at h46
      change a.tmps.getD 44 undef = .bool true at h44
      rw [if_pos (wanted_true (j := 13) (d := 44) rfl rfl h44)]
      clear hsame
      unfold Oper.wp
      go_simp
      exact ⟨_, rfl, hI, Below.refl _ _, fun d hd => by cases hd; exact rfl⟩
    · intro a W hI hsame ht
      obtain ⟨h44, h47, _⟩ := ht
      change a.tmps.getD 44 undef = .bool true at h44
      change a.tmps.getD 47 undef = .bool true at h47
      rw [if_pos (by rfl)]
      clear hsame
      unfold Oper.wp
      go_simp
      exact ⟨_, rfl, hI, Below.refl _ _, fun d hd => by cases hd; exact rfl⟩
    · intro a W hI hsame ht
      obtain ⟨h48, _⟩ := ht
      change a.tmps.getD 48 undef = .bool true at h48
      rw [if_pos (by rfl)]
      clear hsame
      unfold Oper.wp
      go_simp
      exact ⟨_, rfl, hI, Below.refl _ _, fun d hd => by cases hd; exact rfl⟩
    · intro a W hI hsame ht
      obtain ⟨h49, _⟩ := ht
      change a.tmps.getD 49 undef = .bool true at h49
      have h9 := hsame 9 (by decide)
      change a.tmps.getD 9 undef = .int .i64 e at h9
      rw [if_pos (wanted_true (j := 18) (d := 49) rfl rfl h49)]
      clear hsame
      unfold Oper.wp
      go_simp
      exact ⟨_, rfl, hI, Below.refl _ _, fun d hd => by cases hd; exact rfl⟩
    · intro a W hI hsame ht
      obtain ⟨h50, h49, _⟩ := ht
      change a.tmps.getD 50 undef = .int .i64 e at h50
      change a.tmps.getD 49 undef = .bool true at h49
      rw [if_pos (wanted_true (j := 18) (d := 49) rfl rfl h49)]
      clear hsame
      unfold Oper.wp
      go_simp
      refine (code_calls _ _ he0 he1).mono ?_
      rintro e' W' ⟨rfl, rfl⟩
      exact ⟨_, rfl, hI, Below.refl _ _, fun d hd => by cases hd; exact rfl⟩
    · intro a W hI hsame ht
      obtain ⟨h49, _⟩ := ht
      change a.tmps.getD 49 undef = .bool true at h49
      have h12 := hsame 12 (by decide)
      change a.tmps.getD 12 undef = .int .i64 e at h12
      rw [if_pos (wanted_true (j := 18) (d := 49) rfl rfl h49)]
      clear hsame
      unfold Oper.wp
      go_simp
      exact ⟨_, rfl, hI, Below.refl _ _, fun d hd => by cases hd; exact rfl⟩
    · intro a W hI hsame ht
      obtain ⟨h51, h52, h49, _⟩ := ht
      change a.tmps.getD 51 undef = .int .i64 e at h51
      change a.tmps.getD 52 undef = .int .i64 e at h52
      change a.tmps.getD 49 undef = .bool true at h49
      rw [if_pos (wanted_true (j := 18) (d := 49) rfl rfl h49)]
      clear hsame
      unfold Oper.wp
      go_simp
      exact ⟨_, rfl, hI, Below.refl _ _, fun d hd => by cases hd; exact rfl⟩
    · intro a W hI hsame ht
      obtain ⟨h49, h53, _⟩ := ht
      change a.tmps.getD 49 undef = .bool true at h49
      change a.tmps.getD 53 undef = .bool true at h53
      rw [if_pos (by rfl)]
      clear hsame
      unfold Oper.wp
      go_simp
      exact ⟨_, rfl, hI, Below.refl _ _, fun d hd => by cases hd; exact rfl⟩
    · intro a W hI hsame ht
      obtain ⟨h54, _⟩ := ht
      change a.tmps.getD 54 undef = .bool true at h54
      rw [if_pos (by rfl)]
      clear hsame
      unfold Oper.wp
      go_simp
      exact ⟨_, rfl, hI, Below.refl _ _, fun d hd => by cases hd; exact rfl⟩
    · intro a W hI hsame ht
      obtain ⟨h55, _⟩ := ht
      change a.tmps.getD 55 undef = .bool true at h55
      rw [if_pos (wanted_true (j := 24) (d := 55) rfl rfl h55)]
      clear hsame
      unfold Oper.wp
      go_simp
      refine (live_calls _).mono ?_
      rintro e' W' ⟨rfl, hb⟩
      exact ⟨_, rfl, Below.on hI hb, hb, fun d hd => by cases hd; exact rfl⟩
    · intro a W hI hsame ht
      obtain ⟨h55, h56, _⟩ := ht
      change a.tmps.getD 55 undef = .bool true at h55
      change a.tmps.getD 56 undef = .bool true at h56
      rw [if_pos (by rfl)]
      clear hsame
      unfold Oper.wp
      go_simp
      exact ⟨_, rfl, hI, Below.refl _ _, fun d hd => by cases hd; exact rfl⟩
    · intro a W hI hsame ht
      obtain ⟨h57, _⟩ := ht
      change a.tmps.getD 57 undef = .bool true at h57
      rw [if_pos (by rfl)]
      clear hsame
      unfold Oper.wp
      go_simp
      exact ⟨_, rfl, hI, Below.refl _ _, fun d hd => by cases hd; exact rfl⟩
  · intro a W hI hsz hdef hsame hall
    have h6 := hall 6 (by decide)
    change a.tmps.getD 6 undef = .bool true at h6
    clear hall hsame
    go_wp2
    exact bodyPost_ret (results_tmp (by rfl) _ _ _) hdef ⟨congrArg Ending.returned h6, hI⟩

theorem walk (a0 : Int) (a1 : Option Addr) (len1 cap1 : Nat) (z1 : List Int) (a2 : Int) (w : World) (w0 : (Lit.int .i64 a0).wf = true) (w1 : IsRow w a1 len1 cap1 z1) (w2 : (Lit.int .i64 a2).wf = true) :
    Calls Try.prog 5 #[.int .i64 a0, .slice a1 len1 cap1, .int .i64 a2] w fun e w' => e = .returned (.bool true) ∧ Below w.heap.size w w' := by
  obtain ⟨l, rfl, hc, hm, h, hb⟩ := bytes_of_row w1
  unfold maxLen at hm
  have hn := bounds_i64 w0
  by_cases hl : l.length ≤ 1000
  · exact small a0 a1 cap1 l a2 w h hb hc hl (by omega) (by omega)
  · clear h hb w1
    go_enter Try.func5, Try.ntmps5
    go_wp2_with (go_at_call 9; refine (live_calls _).mono ?_; rintro e w1 ⟨rfl, hb1⟩)
    go_ret
    exact ⟨rfl, hb1⟩

/- From the walk to the row. -/
set_option maxRecDepth 100000 in
theorem lifted (os : Os) (started : os.Started) (H : Type) (enc : TypeId × Value → H) :
    ReturnsInHanded {} Try.checked os 5 .any (Rows.vintSignedSpec.pre6 enc Try.prog Try.f5 Rows.vintSignedRow.domain false) (Rows.vintSignedSpec.post enc Try.prog Try.f5 false true false false) := by
  refine returnsInHanded_of_change (C := Try.checked) own started (by kernel_rfl) Try.func5
    (ChangeSpec.witness6 (enc := enc) (C := Try.checked) false ⟨#[], #[.int .i64 0, .slice none 0 0, .int .i64 0], []⟩ 8 (by kernel_rfl) (by kernel_rfl) (by kernel_rfl) (by kernel_rfl)) ?_
  intro W base args ds gs before hval0 hW hcnd _
  have hval : ∀ (j : Nat) t v, Try.f5.params[j]? = some t → args[j]? = some v → Value.okWide Try.prog W .any base t v := hval0
  have hW' := hW
  obtain ⟨p, q, hA0, hV, rfl, hfz, hnd⟩ := hW
  have hA : DataW.TrodAll enc Try.prog W 0 (fun _ => true) true Try.f5.params.toList args.toList ds p := hA0
  rw [Try.params5] at hA hval
  obtain ⟨v0, vs0, d0, ds0, p0, q0, hargs, rfl, rfl, h0, r0⟩ := trodAll_cons hA
  obtain ⟨v1, vs1, d1, ds1, p1, q1, rfl, rfl, rfl, h1, r1⟩ := trodAll_cons r0
  obtain ⟨v2, vs2, d2, ds2, p2, q2, rfl, rfl, rfl, h2, r2⟩ := trodAll_cons r1
  obtain ⟨rfl, rfl, rfl⟩ := trodAll_nil r2
  obtain rfl : args = #[v0, v1, v2] := by cases args; simp_all
  obtain ⟨rfl, rfl⟩ := trodVars_none hV
  obtain ⟨a0, rfl, rfl, rfl, w0⟩ := open_int Try.underlying3 (hval 0 3 v0 rfl rfl) h0
  obtain ⟨a1, len1, cap1, rfl⟩ := okWide_slice Try.underlying22 (hval 1 22 v1 rfl rfl)
  have k1 := h1
  have lt1 : ∀ x ∈ p1, x.block < W.heap.size := by obtain ⟨m, hm⟩ := k1; exact DataW.trod_lt m _ _ _ hm
  obtain ⟨z1, w1⟩ : ∃ zs, IsRow W a1 len1 cap1 zs := by
    obtain ⟨fuel, hf⟩ := h1
    rcases open_ints Try.underlying22 Try.underlying5 (by kernel_rfl) hf with ⟨hcs, _⟩ | ⟨x, l, c, zs, hcs, _, hl, hm, hz, _, hcell, hwz⟩
    · simp [Value.cells] at hcs
      obtain ⟨rfl, rfl, rfl⟩ := hcs
      exact ⟨[], .inl ⟨rfl, rfl, rfl, rfl⟩⟩
    · simp [Value.cells] at hcs
      obtain ⟨rfl, rfl, rfl⟩ := hcs
      exact ⟨zs, .inr ⟨_, rfl, hl, hm, by simpa using hz, hcell, hwz⟩⟩
  obtain ⟨a2, rfl, rfl, rfl, w2⟩ := open_int Try.underlying3 (hval 2 3 v2 rfl rfl) h2
  clear hA0 hval0
  refine (walk a0 a1 len1 cap1 z1 a2 W w0 w1 w2).mono fun e W' ⟨he, bel⟩ => ?_
  subst he
  exact ⟨_, rfl, _, _, _, [], _, [], hW', trodAll_mk1 (shut_bool Try.underlying4 _), (trodAll_cons_mk (shut_int Try.underlying3 w0) (trodAll_cons_mk (Below.trod laidOut (by kernel_rfl) (of_decide_eq_true (by kernel_rfl)) k1 bel lt1) (trodAll_cons_mk (shut_int Try.underlying3 w2) trodAll_mk0))), rfl, bel.frame _, fun h => by cases h⟩

theorem over : Rows.vintSignedRow.holds Try.pinned (OpenSpec.ofChange Rows.vintSignedSpec) :=
  OpenClaim.holds_of_wide 5 Try.f5 rfl rfl rfl rfl rfl rfl rfl ⟨rfl, rfl, rfl, rfl, rfl⟩ rfl rfl rfl rfl rfl (by kernel_rfl) Try.func5 (by kernel_rfl)
    (of_decide_eq_true (by kernel_rfl)) (by unfold Func.isWrapper; first | (rw [if_pos (by decide +kernel)]; kernel_rfl) | (rw [if_neg (by decide +kernel)]; exact ⟨rfl, rfl⟩))
    (fun os started H enc _ => lifted os started H enc)

end vintSigned

/-- The statement. -/
theorem vintSigned_holds : Rows.VintSignedSaid := vintSigned.over
#print axioms vintSigned_holds
end Go.Proofs.Ytcahaffmelekbaa
