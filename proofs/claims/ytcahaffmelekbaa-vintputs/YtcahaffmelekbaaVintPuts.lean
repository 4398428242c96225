/-
  For every byte slice and every number the law VintPuts returns true (vint.Put appends the document bytes, vint.Len counts them, and the example of the page holds), and the slice reads afterwards as before. No conditions.
-/
import Derived.Test.YtcahaffmelekbaaRows
import Derived.Test.YtcahaffmelekbaaLaw
import Derived.Test.YtcahaffmelekbaaBytes
import Derived.Test.YtcahaffmelekbaaInv
namespace Go.Proofs.Ytcahaffmelekbaa
namespace vintPuts
open Go.ChangeShapes Go.WideShapes Go.ChangeAt Go.RowKit
open Go.ChangeMaps (open_string shut_string)
set_option linter.unusedVariables false

/-- A value that is a slice which reads as l. -/
def Holds (W : World) (l : List Int) (v : Value) : Prop := ∃ A c, v = .slice A l.length c ∧ Lies W A c l

/-- What each slot of the last region holds. -/
def V (A : Option Addr) (c : Nat) (l L E : List Int) (n : Int) (d : Nat) (W : World) (v : Value) : Prop :=
  match d with
  | 11 => Holds W L v
  | 16 => Holds W E v
  | 9 | 13 => v = .slice A l.length c
  | 10 | 15 | 21 | 23 => v = .int .u64 n
  | 12 => v = .string (str L)
  | 14 => v = .string (str l)
  | 17 => v = .string (str E)
  | 18 => v = .string (str l ++ str E)
  | 22 | 24 => v = .int .i64 (vlen n)
  | 19 | 20 | 25 | 26 | 27 | 28 | 29 | 4 => v = .bool true
  | _ => True
theorem V.keep (A : Option Addr) (c : Nat) (l L E : List Int) (n : Int) (d : Nat) (W W' : World) (v : Value) (hb : Below W.heap.size W W') (h : V A c l L E n d W v) : V A c l L E n d W' v := by
  unfold V at *
  split at h
  all_goals first | exact h | (obtain ⟨A, c, rfl, h⟩ := h; exact ⟨A, c, rfl, h.below hb⟩)

set_option maxRecDepth 100000 in
set_option maxHeartbeats 4000000 in
theorem small (A : Option Addr) (c : Nat) (l : List Int) (n : Int) (w : World) (h : Lies w A c l) (hl : l.length ≤ 1000) (h0 : 0 ≤ n) (h1 : n < 18446744073709551616) :
    Calls Try.prog 3 #[.slice A l.length c, .int .u64 n] w fun e w' => e = .returned (.bool true) ∧ Below w.heap.size w w' := by
  have H := Lib.hid h
  have hv := vlen_le n
  have heq : ((str (l ++ enc n)).toList == (str l ++ str (enc n)).toList) = true := by rw [str_append]; simp
  have hz1 : (str l).size ≤ 1000 := by rw [str_size]; exact hl
  have hz2 : (str (enc n)).size ≤ 9 := by rw [str_size, enc_length]; exact hv
  have HP := Lib.hid (fun (W : World) (hb : Below w.heap.size w W) => put_calls A c l n W (h.below hb) (by omega) h0 h1)
  have HE := Lib.hid (fun (W : World) => bytes_calls n W h0 h1)
  clear h
  generalize l ++ enc n = L at HP heq
  generalize enc n = E at *
  go_enter Try.func3, Try.ntmps3
  go_wp2_with fail
  refine wp_region_inv (by kernel_rfl) (fun W => Below w.heap.size w W) (fun W W' => Below W.heap.size W W') (V A c l L E n) [[], [], [9, 10], [11], [], [13], [], [15], [16], [14, 17], [12, 18], [19], [20], [21, 20], [20], [23, 20], [22, 24, 20], [20, 25], [26], [27], [27, 28], [29]] (by kernel_rfl) (fun W => Below.refl _ _) (fun d W W' v => V.keep A c l L E n d W W' v) (Below.refl _ _).drew ?_ ?_
  · refine ⟨?_, ?_, ?_, ?_, ?_, ?_, ?_, ?_, ?_, ?_, ?_, ?_, ?_, ?_, ?_, ?_, ?_, ?_, ?_, ?_, ?_, ?_, trivial⟩
    · intro a W hI hsame ht
      have h0 := hsame 0 (by decide)
      change a.tmps.getD 0 undef = .slice A l.length c at h0
      rw [if_pos (by rfl)]
      clear hsame
      unfold Oper.wp
      go_simp
      exact ⟨_, rfl, hI, Below.refl _ _, fun d hd => by cases hd; exact rfl⟩
    · intro a W hI hsame ht
      have h1 := hsame 1 (by decide)
      change a.tmps.getD 1 undef = .int .u64 n at h1
      rw [if_pos (by rfl)]
      clear hsame
      unfold Oper.wp
      go_simp
      exact ⟨_, rfl, hI, Below.refl _ _, fun d hd => by cases hd; exact rfl⟩
    · intro a W hI hsame ht
      obtain ⟨h9, h10, _⟩ := ht
      change a.tmps.getD 9 undef = .slice A l.length c at h9
      change a.tmps.getD 10 undef = .int .u64 n at h10
      rw [if_pos (by rfl)]
      clear hsame
      unfold Oper.wp
      go_simp
      refine (HP.out _ hI).mono ?_
      rintro e' W' ⟨A, c, rfl, hown, hb⟩
      exact ⟨_, rfl, Below.on hI hb, hb, fun d hd => by cases hd; exact ⟨A, c, rfl, Lies.of_own hown⟩⟩
    · intro a W hI hsame ht
      obtain ⟨⟨A11, c11, h11, hL11⟩, _⟩ := ht
      rw [if_pos (by rfl)]
      clear hsame
      have hs := run_str hL11
      unfold Oper.wp
      go_simp
      exact ⟨_, rfl, hI, Below.refl _ _, fun d hd => by cases hd; exact rfl⟩
    · intro a W hI hsame ht
      have h0 := hsame 0 (by decide)
      change a.tmps.getD 0 undef = .slice A l.length c at h0
      rw [if_pos (by rfl)]
      clear hsame
      unfold Oper.wp
      go_simp
      exact ⟨_, rfl, hI, Below.refl _ _, fun d hd => by cases hd; exact rfl⟩
    · intro a W hI hsame ht
      obtain ⟨h13, _⟩ := ht
      change a.tmps.getD 13 undef = .slice A l.length c at h13
      rw [if_pos (by rfl)]
      clear hsame
      have hs := run_str (H.out.below hI)
      unfold Oper.wp
      go_simp
      exact ⟨_, rfl, hI, Below.refl _ _, fun d hd => by cases hd; exact rfl⟩
    · intro a W hI hsame ht
      have h1 := hsame 1 (by decide)
      change a.tmps.getD 1 undef = .int .u64 n at h1
      rw [if_pos (by rfl)]
      clear hsame
      unfold Oper.wp
      go_simp
      exact ⟨_, rfl, hI, Below.refl _ _, fun d hd => by cases hd; exact rfl⟩
    · intro a W hI hsame ht
      obtain ⟨h15, _⟩ := ht
      change a.tmps.getD 15 undef = .int .u64 n at h15
      rw [if_pos (by rfl)]
      clear hsame
      unfold Oper.wp
      go_simp
      refine (HE.out _).mono ?_
      rintro e' W' ⟨A, c, rfl, hown, hb⟩
      exact ⟨_, rfl, Below.on hI hb, hb, fun d hd => by cases hd; exact ⟨A, c, rfl, Lies.of_own hown⟩⟩
    · intro a W hI hsame ht
      obtain ⟨⟨A16, c16, h16, hL16⟩, _⟩ := ht
      rw [if_pos (by rfl)]
      clear hsame
      have hs := run_str hL16
      unfold Oper.wp
      go_simp
      exact ⟨_, rfl, hI, Below.refl _ _, fun d hd => by cases hd; exact rfl⟩
    · intro a W hI hsame ht
      obtain ⟨h14, h17, _⟩ := ht
      change a.tmps.getD 14 undef = .string (str l) at h14
      change a.tmps.getD 17 undef = .string (str E) at h17
      rw [if_pos (by rfl)]
      clear hsame
      have hadd : ¬ 9223372036854775807 < (str l).size + (str E).size := by omega
      unfold Oper.wp
      go_simp
      exact ⟨_, rfl, hI, Below.refl _ _, fun d hd => by cases hd; exact rfl⟩
    · intro a W hI hsame ht
      obtain ⟨h12, h18, _⟩ := ht
      change a.tmps.getD 12 undef = .string (str L) at h12
      change a.tmps.getD 18 undef = .string (str l ++ str E) at h18
      rw [if_pos (by rfl)]
      clear hsame
      unfold Oper.wp
      go_simp
      exact ⟨_, rfl, hI, Below.refl _ _, fun d hd => by cases hd; exact rfl⟩
    · intro a W hI hsame ht
      obtain ⟨h19, _⟩ := ht
      change a.tmps.getD 19 undef = .bool true at h19
      rw [if_pos (by rfl)]
      clear hsame
      unfold Oper.wp
      go_simp
      exact ⟨_, rfl, hI, Below.refl _ _, fun d hd => by cases hd; exact rfl⟩
    · intro a W hI hsame ht
      obtain ⟨h20, _⟩ := ht
      change a.tmps.getD 20 undef = .bool true at h20
      have h1 := hsame 1 (by decide)
      change a.tmps.getD 1 undef = .int .u64 n at h1
      rw [if_pos (wanted_true (j := 11) (d := 20) rfl rfl h20)]
      clear hsame
      unfold Oper.wp
      go_simp
      exact ⟨_, rfl, hI, Below.refl _ _, fun d hd => by cases hd; exact rfl⟩
    · intro a W hI hsame ht
      obtain ⟨h21, h20, _⟩ := ht
      change a.tmps.getD 21 undef = .int .u64 n at h21
      change a.tmps.getD 20 undef = .bool true at h20
      rw [if_pos (wanted_true (j := 11) (d := 20) rfl rfl h20)]
      clear hsame
      unfold Oper.wp
      go_simp
      refine (len_calls _ _).mono ?_
      rintro e' W' ⟨rfl, rfl⟩
      exact ⟨_, rfl, hI, Below.refl _ _, fun d hd => by cases hd; exact rfl⟩
    · intro a W hI hsame ht
      obtain ⟨h20, _⟩ := ht
      change a.tmps.getD 20 undef = .bool true at h20
      have h1 := hsame 1 (by decide)
      change a.tmps.getD 1 undef = .int .u64 n at h1
      rw [if_pos (wanted_true (j := 11) (d := 20) rfl rfl h20)]
      clear hsame
      unfold Oper.wp
      go_simp
      exact ⟨_, rfl, hI, Below.refl _ _, fun d hd => by cases hd; exact rfl⟩
    · intro a W hI hsame ht
      obtain ⟨h23, h20, _⟩ := ht
      change a.tmps.getD 23 undef = .int .u64 n at h23
      change a.tmps.getD 20 undef = .bool true at h20
      rw [if_pos (wanted_true (j := 11) (d := 20) rfl rfl h20)]
      clear hsame
      unfold Oper.wp
      go_simp
      refine (rlen_calls _ _).mono ?_
      rintro e' W' ⟨rfl, rfl⟩
      exact ⟨_, rfl, hI, Below.refl _ _, fun d hd => by cases hd; exact rfl⟩
    · intro a W hI hsame ht
      obtain ⟨h22, h24, h20, _⟩ := ht
      change a.tmps.getD 22 undef = .int .i64 (vlen n) at h22
      change a.tmps.getD 24 undef = .int .i64 (vlen n) at h24
      change a.tmps.getD 20 undef = .bool true at h20
      rw [if_pos (wanted_true (j := 11) (d := 20) rfl rfl h20)]
      clear hsame
      unfold Oper.wp
      go_simp
      exact ⟨_, rfl, hI, Below.refl _ _, fun d hd => by cases hd; exact rfl⟩
    · intro a W hI hsame ht
      obtain ⟨h20, h25, _⟩ := ht
      change a.tmps.getD 20 undef = .bool true at h20
      change a.tmps.getD 25 undef = .bool true at h25
      rw [if_pos (by rfl)]
      clear hsame
      unfold Oper.wp
      go_simp
      exact ⟨_, rfl, hI, Below.refl _ _, fun d hd => by cases hd; exact rfl⟩
    · intro a W hI hsame ht
      obtain ⟨h26, _⟩ := ht
      change a.tmps.getD 26 undef = .bool true at h26
      rw [if_pos (by rfl)]
      clear hsame
      unfold Oper.wp
      go_simp
      exact ⟨_, rfl, hI, Below.refl _ _, fun d hd => by cases hd; exact rfl⟩
    · intro a W hI hsame ht
      obtain ⟨h27, _⟩ := ht
      change a.tmps.getD 27 undef = .bool true at h27
      rw [if_pos (wanted_true (j := 18) (d := 27) rfl rfl h27)]
      clear hsame
      unfold Oper.wp
      go_simp
      refine (live_calls _).mono ?_
      rintro e' W' ⟨rfl, hb⟩
      exact ⟨_, rfl, Below.on hI hb, hb, fun d hd => by cases hd; exact rfl⟩
    · intro a W hI hsame ht
      obtain ⟨h27, h28, _⟩ := ht
      change a.tmps.getD 27 undef = .bool true at h27
      change a.tmps.getD 28 undef = .bool true at h28
      rw [if_pos (by rfl)]
      clear hsame
      unfold Oper.wp
      go_simp
      exact ⟨_, rfl, hI, Below.refl _ _, fun d hd => by cases hd; exact rfl⟩
    · intro a W hI hsame ht
      obtain ⟨h29, _⟩ := ht
      change a.tmps.getD 29 undef = .bool true at h29
      rw [if_pos (by rfl)]
      clear hsame
      unfold Oper.wp
      go_simp
      exact ⟨_, rfl, hI, Below.refl _ _, fun d hd => by cases hd; exact rfl⟩
  · intro a W hI hsz hdef hsame hall
    have h4 := hall 4 (by decide)
    change a.tmps.getD 4 undef = .bool true at h4
    clear hall hsame
    go_wp2
    exact bodyPost_ret (results_tmp (by rfl) _ _ _) hdef ⟨congrArg Ending.returned h4, hI⟩

theorem walk (a0 : Option Addr) (len0 cap0 : Nat) (z0 : List Int) (a1 : Int) (w : World) (w0 : IsRow w a0 len0 cap0 z0) (w1 : (Lit.int .u64 a1).wf = true) :
    Calls Try.prog 3 #[.slice a0 len0 cap0, .int .u64 a1] w fun e w' => e = .returned (.bool true) ∧ Below w.heap.size w w' := by
  obtain ⟨l, rfl, hc, hm, h, hb⟩ := bytes_of_row w0
  unfold maxLen at hm
  have hn := bounds_u64 w1
  by_cases hl : l.length ≤ 1000
  · exact small a0 cap0 l a1 w h hl (by omega) (by omega)
  · clear h hb w0
    go_enter Try.func3, Try.ntmps3
    go_wp2_with (go_at_call 9; refine (live_calls _).mono ?_; rintro e w1 ⟨rfl, hb1⟩)
    go_ret
    exact ⟨rfl, hb1⟩

/- From the walk to the row. -/
set_option maxRecDepth 100000 in
theorem lifted (os : Os) (started : os.Started) (H : Type) (enc : TypeId × Value → H) :
    ReturnsInHanded {} Try.checked os 3 .any (Rows.vintPutsSpec.pre6 enc Try.prog Try.f3 Rows.vintPutsRow.domain false) (Rows.vintPutsSpec.post enc Try.prog Try.f3 false true false false) := by
  refine returnsInHanded_of_change (C := Try.checked) own started (by kernel_rfl) Try.func3
    (ChangeSpec.witness6 (enc := enc) (C := Try.checked) false ⟨#[], #[.slice none 0 0, .int .u64 0], []⟩ 8 (by kernel_rfl) (by kernel_rfl) (by kernel_rfl) (by kernel_rfl)) ?_
  intro W base args ds gs before hval0 hW hcnd _
  have hval : ∀ (j : Nat) t v, Try.f3.params[j]? = some t → args[j]? = some v → Value.okWide Try.prog W .any base t v := hval0
  have hW' := hW
  obtain ⟨p, q, hA0, hV, rfl, hfz, hnd⟩ := hW
  have hA : DataW.TrodAll enc Try.prog W 0 (fun _ => true) true Try.f3.params.toList args.toList ds p := hA0
  rw [Try.params3] at hA hval
  obtain ⟨v0, vs0, d0, ds0, p0, q0, hargs, rfl, rfl, h0, r0⟩ := trodAll_cons hA
  obtain ⟨v1, vs1, d1, ds1, p1, q1, rfl, rfl, rfl, h1, r1⟩ := trodAll_cons r0
  obtain ⟨rfl, rfl, rfl⟩ := trodAll_nil r1
  obtain rfl : args = #[v0, v1] := by cases args; simp_all
  obtain ⟨rfl, rfl⟩ := trodVars_none hV
  obtain ⟨a0, len0, cap0, rfl⟩ := okWide_slice Try.underlying22 (hval 0 22 v0 rfl rfl)
  have k0 := h0
  have lt0 : ∀ x ∈ p0, x.block < W.heap.size := by obtain ⟨m, hm⟩ := k0; exact DataW.trod_lt m _ _ _ hm
  obtain ⟨z0, w0⟩ : ∃ zs, IsRow W a0 len0 cap0 zs := by
    obtain ⟨fuel, hf⟩ := h0
    rcases open_ints Try.underlying22 Try.underlying5 (by kernel_rfl) hf with ⟨hcs, _⟩ | ⟨x, l, c, zs, hcs, _, hl, hm, hz, _, hcell, hwz⟩
    · simp [Value.cells] at hcs
      obtain ⟨rfl, rfl, rfl⟩ := hcs
      exact ⟨[], .inl ⟨rfl, rfl, rfl, rfl⟩⟩
    · simp [Value.cells] at hcs
      obtain ⟨rfl, rfl, rfl⟩ := hcs
      exact ⟨zs, .inr ⟨_, rfl, hl, hm, by simpa using hz, hcell, hwz⟩⟩
  obtain ⟨a1, rfl, rfl, rfl, w1⟩ := open_int Try.underlying23 (hval 1 23 v1 rfl rfl) h1
  clear hA0 hval0
  refine (walk a0 len0 cap0 z0 a1 W w0 w1).mono fun e W' ⟨he, bel⟩ => ?_
  subst he
  exact ⟨_, rfl, _, _, _, [], _, [], hW', trodAll_mk1 (shut_bool Try.underlying4 _), (trodAll_cons_mk (Below.trod laidOut (by kernel_rfl) (of_decide_eq_true (by kernel_rfl)) k0 bel lt0) (trodAll_cons_mk (shut_int Try.underlying23 w1) trodAll_mk0)), rfl, bel.frame _, fun h => by cases h⟩

theorem over : Rows.vintPutsRow.holds Try.pinned (OpenSpec.ofChange Rows.vintPutsSpec) :=
  OpenClaim.holds_of_wide 3 Try.f3 rfl rfl rfl rfl rfl rfl rfl ⟨rfl, rfl, rfl, rfl, rfl⟩ rfl rfl rfl rfl rfl (by kernel_rfl) Try.func3 (by kernel_rfl)
    (of_decide_eq_true (by kernel_rfl)) (by unfold Func.isWrapper; first | (rw [if_pos (by decide +kernel)]; kernel_rfl) | (rw [if_neg (by decide +kernel)]; exact ⟨rfl, rfl⟩))
    (fun os started H enc _ => lifted os started H enc)

end vintPuts

/-- The statement. -/
theorem vintPuts_holds : Rows.VintPutsSaid := vintPuts.over
#print axioms vintPuts_holds
end Go.Proofs.Ytcahaffmelekbaa
