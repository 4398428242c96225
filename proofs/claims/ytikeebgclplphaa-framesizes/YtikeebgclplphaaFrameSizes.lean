/-
  For every number and every byte slice the law FrameSizes returns true (frame.Size gives the length of a frame, zero outside the range; what Put makes of that many zero bytes is as long; and the example of the page holds), and the slice reads afterwards as before. No conditions.
-/
import Derived.Test.YtikeebgclplphaaRows
import Derived.Test.YtikeebgclplphaaFLive
namespace Go.Proofs.Ytikeebgclplphaa
namespace frameSizes
open Go.ChangeShapes Go.WideShapes Go.ChangeAt Go.RowKit
open Go.ChangeMaps (open_string shut_string)
set_option linter.unusedVariables false

set_option maxRecDepth 20000 in
set_option maxHeartbeats 2000000 in
theorem walk (a0 : Int) (a1 : Option Addr) (len1 cap1 : Nat) (z1 : List Int) (w : World) (w0 : (Lit.int .i64 a0).wf = true) (w1 : IsRow w a1 len1 cap1 z1) :
    Calls Try.prog 6 #[.int .i64 a0, .slice a1 len1 cap1] w fun e w' => e = .returned (.bool true) ∧ Below w.heap.size w w' := by
  have hn := bounds_i64 w0
  clear w1 w0
  have HS := Lib.hid (size_calls a0 w (by omega) (by omega))
  by_cases hout : a0 < 0 ∨ 1048576 < a0
  · rw [if_pos hout] at HS
    by_cases hneg : a0 < 0
    · go_enter Try.func6, Try.ntmps6
      go_wp2_with (first
        | (go_at_call 11; refine HS.out.mono ?_; rintro e w' ⟨rfl, rfl⟩)
        | (go_at_call 7; refine (live_calls _).mono ?_; rintro e w1 ⟨rfl, hb1⟩))
      go_ret
      exact ⟨rfl, hb1⟩
    · have hbig : 1048576 < a0 := by omega
      go_enter Try.func6, Try.ntmps6
      go_wp2_with (first
        | (go_at_call 11; refine HS.out.mono ?_; rintro e w' ⟨rfl, rfl⟩)
        | (go_at_call 7; refine (live_calls _).mono ?_; rintro e w1 ⟨rfl, hb1⟩))
      go_ret
      exact ⟨rfl, hb1⟩
  · rw [if_neg hout] at HS
    have h0 : 0 ≤ a0 := by omega
    have h1 : a0 ≤ 1048576 := by omega
    have hv1 := vlen_pos a0
    have hv3 : vlen a0 ≤ 3 := vlen_least (by omega) (by omega) (by have : (2 : Int) ^ (7 * 3) = 2097152 := rfl; omega)
    clear hout
    obtain ⟨s, hs⟩ : ∃ s, s = (vlen a0 : Int) + a0 + 4 := ⟨_, rfl⟩
    rw [← hs] at HS
    by_cases h2 : 2000 < a0
    · have g1 : a0 + 4 < s := by omega
      have g2 : s ≤ a0 + 7 := by omega
      clear hs
      go_enter Try.func6, Try.ntmps6
      go_wp2_with (first
        | (go_at_call 11; refine HS.out.mono ?_; rintro e w' ⟨rfl, rfl⟩)
        | (go_at_call 7; refine (live_calls _).mono ?_; rintro e w1 ⟨rfl, hb1⟩))
      go_ret
      exact ⟨rfl, hb1⟩
    · obtain ⟨i0, hi, hz0, hz1, hz2⟩ := info_parts Try.info5
      obtain ⟨m, hm⟩ : ∃ m : Nat, a0 = m := Int.eq_ofNat_of_zero_le h0
      have hrl : (List.replicate m (0 : Int)).length = m := List.length_replicate
      have HEl := Lib.hid (show ((encF (List.replicate m 0)).length : Int) = s by rw [encF_length, hrl, ← hm, hs]; omega)
      have HP := Lib.hid (fun (A : Option Addr) (c : Nat) (W : World) (h : Lies W A c (List.replicate m 0)) => fput_calls none 0 [] A c (List.replicate m 0) W (Lies.nil _) h (by intro x hx; rw [List.eq_of_mem_replicate hx]; omega) (by simp) (by rw [hrl]; omega))
      have HRL := Lib.hid hrl
      simp only [List.nil_append, hrl, List.length_nil] at HP
      have HM := Lib.hid hm
      have hm2 : m ≤ 2000 := by omega
      clear hs hrl hm
      generalize encF (List.replicate m 0) = X at *
      have heq : ((X.length : Int) == s) = true := by rw [HEl.out]; simp
      go_enter Try.func6, Try.ntmps6
      go_wp2_with (first
        | (go_at_call 11; refine HS.out.mono ?_; rintro e w' ⟨rfl, rfl⟩)
        | (at_make; refine wpList_make_full _ rfl _ _ 22 rfl w.heap.size 5 i0 (.int .u8 0) 1 Try.underlying22 hi hz0 hz1 .i64 .i64 _ _ m rfl rfl HM.out HM.out (by rw [hz2]; omega) (by unfold maxLen; omega) (Nat.le_refl _) ?_; intro w1 hown1 hgrow1; rw [made_cells] at hown1; have hb1 : Below w.heap.size w w1 := (Below.refl _ _).grown hgrow1 (Nat.le_refl _) (by intro k hk; cases hk); have HO := Lib.hid (HP.out (some ⟨w.heap.size, 0, none⟩) m w1 (Lies.of_own (base := w.heap.size) (by rw [HRL.out]; exact hown1))); clear hown1 hgrow1)
        | (go_at_call 8; refine HO.out.mono ?_; rintro e w2 ⟨A2, c2, rfl, hown2, hb2⟩; dsimp only at hown2; clear hown2; dsimp only)
        | (go_at_call 9; refine (code_calls _ _).mono ?_; rintro e w3 ⟨rfl, rfl⟩)
        | (go_at_call 7; refine (live_calls _).mono ?_; rintro e w4 ⟨rfl, hb4⟩))
      go_ret
      exact ⟨rfl, Below.on (Below.on hb1 hb2) hb4⟩

/- From the walk to the row. -/
set_option maxRecDepth 100000 in
theorem lifted (os : Os) (started : os.Started) (H : Type) (enc : TypeId × Value → H) :
    ReturnsInHanded {} Try.checked os 6 .any (Rows.frameSizesSpec.pre6 enc Try.prog Try.f6 Rows.frameSizesRow.domain false) (Rows.frameSizesSpec.post enc Try.prog Try.f6 false true false false) := by
  refine returnsInHanded_of_change (C := Try.checked) own started (by kernel_rfl) Try.func6
    (ChangeSpec.witness6 (enc := enc) (C := Try.checked) false ⟨#[], #[.int .i64 0, .slice none 0 0], []⟩ 8 (by kernel_rfl) (by kernel_rfl) (by kernel_rfl) (by kernel_rfl)) ?_
  intro W base args ds gs before hval0 hW hcnd _
  have hval : ∀ (j : Nat) t v, Try.f6.params[j]? = some t → args[j]? = some v → Value.okWide Try.prog W .any base t v := hval0
  have hW' := hW
  obtain ⟨p, q, hA0, hV, rfl, hfz, hnd⟩ := hW
  have hA : DataW.TrodAll enc Try.prog W 0 (fun _ => true) true Try.f6.params.toList args.toList ds p := hA0
  rw [Try.params6] at hA hval
  obtain ⟨v0, vs0, d0, ds0, p0, q0, hargs, rfl, rfl, h0, r0⟩ := trodAll_cons hA
  obtain ⟨v1, vs1, d1, ds1, p1, q1, rfl, rfl, rfl, h1, r1⟩ := trodAll_cons r0
  obtain ⟨rfl, rfl, rfl⟩ := trodAll_nil r1
  obtain rfl : args = #[v0, v1] := by cases args; simp_all
  obtain ⟨rfl, rfl⟩ := trodVars_none hV
  obtain ⟨a0, rfl, rfl, rfl, w0⟩ := open_int Try.underlying3 (hval 0 3 v0 rfl rfl) h0
  obtain ⟨a1, len1, cap1, rfl⟩ := okWide_slice Try.underlying22 (hval 1 22 v1 rfl rfl)
  have k1 := h1
  have lt1 : ∀ x ∈ p1, x.block < W.heap.size := by obtain ⟨m, hm⟩ := k1; exact DataW.trod_lt m _ _ _ hm
  obtain ⟨z1, w1⟩ : ∃ zs, IsRow W a1 len1 cap1 zs := by
    obtain ⟨fuel, hf⟩ := h1
    rcases open_ints Try.underlying22 Try.underlying5 (by kernel_rfl) hf with ⟨hcs, _⟩ | ⟨x, l, c, zs, hcs, _, hl, hm, hz, _, hcell, hwz⟩
    · simp [Value.cells] at hcs
      obtain ⟨rfl, rfl, rfl⟩ := hcs
      exact ⟨[], .inl ⟨rfl, rfl, rfl, rfl⟩⟩
    · simp [Value.cells] at hcs
      obtain ⟨rfl, rfl, rfl⟩ := hcs
      exact ⟨zs, .inr ⟨_, rfl, hl, hm, by simpa using hz, hcell, hwz⟩⟩
  clear hA0 hval0
  refine (walk a0 a1 len1 cap1 z1 W w0 w1).mono fun e W' ⟨he, bel⟩ => ?_
  subst he
  exact ⟨_, rfl, _, _, _, [], _, [], hW', trodAll_mk1 (shut_bool Try.underlying4 _), (trodAll_cons_mk (shut_int Try.underlying3 w0) (trodAll_cons_mk (Below.trod laidOut (by kernel_rfl) (of_decide_eq_true (by kernel_rfl)) k1 bel lt1) trodAll_mk0)), rfl, bel.frame _, fun h => by cases h⟩

theorem over : Rows.frameSizesRow.holds Try.pinned (OpenSpec.ofChange Rows.frameSizesSpec) :=
  OpenClaim.holds_of_wide 6 Try.f6 rfl rfl rfl rfl rfl rfl rfl ⟨rfl, rfl, rfl, rfl, rfl⟩ rfl rfl rfl rfl rfl (by kernel_rfl) Try.func6 (by kernel_rfl)
    (of_decide_eq_true (by kernel_rfl)) (by unfold Func.isWrapper; first | (rw [if_pos (by decide +kernel)]; kernel_rfl) | (rw [if_neg (by decide +kernel)]; exact ⟨rfl, rfl⟩))
    (fun os started H enc _ => lifted os started H enc)

end frameSizes

/-- The statement. -/
theorem frameSizes_holds : Rows.FrameSizesSaid := frameSizes.over
#print axioms frameSizes_holds
end Go.Proofs.Ytikeebgclplphaa
