/-
  What a disk that is nil answers: the law returns true for every input. No condition.
-/
import Derived.Test.YtpnlgmnlanoncaaRows
import Derived.Test.YtpnlgmnlanoncaaDActs
import Derived.Test.YtpnlgmnlanoncaaDLive
namespace Go.Proofs.Ytpnlgmnlanoncaa
namespace diskNils
open Go.ChangeShapes Go.WideShapes Go.ChangeAt Go.RowKit
set_option linter.unusedVariables false

set_option maxRecDepth 20000 in
set_option maxHeartbeats 4000000 in
theorem walk (x : Ac) (w : World) (hG : GoodA w x) : Calls Try.prog 6 #[.agg (enA x).toArray] w fun e w' => e = .returned (.bool true) ∧ Below w.heap.size w w' := by
  have b0 := Blk.new w (enA x).toArray 36
  have hb0 := below_one w (.cells (enA x).toArray 36)
  have hlt := b0.lt
  have c1 := b0.cell 1
  have c2 := b0.cell 2
  have c4 := b0.cell 4
  have c5 := b0.cell 5
  unfold enA at *
  clear b0 hG
  have HB0 := Lib.hid hb0
  have HLT := Lib.hid hlt
  clear hb0 hlt
  go_enter Try.func6, Try.ntmps6
  go_wp2_with (first | (go_at_call 19; refine (crash_nil _ _).mono ?_; rintro e w' ⟨rfl, rfl⟩) | (go_at_call 21; refine (arm_nil _ _).mono ?_; rintro e w' ⟨rfl, rfl⟩))
  refine (read_nil _ _).mono ?_
  rintro e w1 ⟨rfl, hb1⟩
  have c2' := (hb1.cell (p := ⟨w.heap.size, 2, none⟩) HLT.out).trans c2
  have c4' := (hb1.cell (p := ⟨w.heap.size, 4, none⟩) HLT.out).trans c4
  have HB1 := Lib.hid (Below.on HB0.out hb1)
  clear hb1 c1 c2 c4 c5
  dsimp only
  go_wp2_with (first | (go_at_call 22; refine (state_nil _ _).mono ?_; rintro e w' ⟨rfl, rfl⟩) | (go_at_call 23; refine (dead_nil _).mono ?_; rintro e w' ⟨rfl, rfl⟩) | (go_at_call 24; refine (list_nil _).mono ?_; rintro e w' ⟨rfl, rfl⟩) | (go_at_call 25; refine (room_nil _).mono ?_; rintro e w' ⟨rfl, rfl⟩) | (go_at_call 11; refine (clone_nil _).mono ?_; rintro e w' ⟨rfl, rfl⟩) | (go_at_call 10; refine (code_calls _ _).mono ?_; rintro e w' ⟨rfl, rfl⟩))
  refine (append_nil _ _ _).mono ?_
  rintro e w2 ⟨rfl, hb2⟩
  have HB2 := Lib.hid (Below.on HB1.out hb2)
  clear hb2 c2' c4'
  dsimp only
  go_wp2_with (go_at_call 10; refine (code_calls _ _).mono ?_; rintro e w' ⟨rfl, rfl⟩)
  refine (sync_nil _ _).mono ?_
  rintro e w3 ⟨rfl, hb3⟩
  have HB3 := Lib.hid (Below.on HB2.out hb3)
  clear hb3
  dsimp only
  go_wp2_with (go_at_call 10; refine (code_calls _ _).mono ?_; rintro e w' ⟨rfl, rfl⟩)
  refine (remove_nil _ _).mono ?_
  rintro e w4 ⟨rfl, hb4⟩
  have HB4 := Lib.hid (Below.on HB3.out hb4)
  clear hb4
  dsimp only
  go_wp2_with (go_at_call 10; refine (code_calls _ _).mono ?_; rintro e w' ⟨rfl, rfl⟩)
  refine (cut_nil _ _ _).mono ?_
  rintro e w5 ⟨rfl, hb5⟩
  have HB5 := Lib.hid (Below.on HB4.out hb5)
  clear hb5
  dsimp only
  go_wp2_with (go_at_call 10; refine (code_calls _ _).mono ?_; rintro e w' ⟨rfl, rfl⟩)
  refine (rename_nil _ _ _).mono ?_
  rintro e w6 ⟨rfl, hb6⟩
  have HB6 := Lib.hid (Below.on HB5.out hb6)
  clear hb6
  dsimp only
  go_wp2_with (go_at_call 10; refine (code_calls _ _).mono ?_; rintro e w' ⟨rfl, rfl⟩)
  refine (live_calls _).mono ?_
  rintro e w7 ⟨rfl, hb7⟩
  have HB7 := Lib.hid (Below.on HB6.out hb7)
  clear hb7
  dsimp only
  go_wp2
  go_ret
  exact ⟨rfl, HB7.out⟩

/- From the walk to the row. -/
set_option maxRecDepth 100000 in
theorem lifted (os : Os) (started : os.Started) (H : Type) (enc : TypeId × Value → H) :
    ReturnsInHanded {} Try.checked os 6 .any (Rows.diskNilsSpec.pre6 enc Try.prog Try.f6 Rows.diskNilsRow.domain false) (Rows.diskNilsSpec.post enc Try.prog Try.f6 false true false false) := by
  refine returnsInHanded_of_change_sized (C := Try.checked) own started (by kernel_rfl) Try.func6
    (ChangeSpec.witness6 (enc := enc) (C := Try.checked) false ⟨#[], #[.agg #[.int .i64 0, .int .i64 0, .string ByteArray.empty, .string ByteArray.empty, .slice none 0 0, .slice none 0 0]], []⟩ 8 (by kernel_rfl) (by kernel_rfl) (by kernel_rfl) (by kernel_rfl)) ?_
  intro W base args ds gs before hval0 hW hcnd hsized _
  have hval : ∀ (j : Nat) t v, Try.f6.params[j]? = some t → args[j]? = some v → Value.okWide Try.prog W .any base t v := hval0
  have hW' := hW
  obtain ⟨p, q, hA0, hV, rfl, hfz, hnd⟩ := hW
  have hA : DataW.TrodAll enc Try.prog W 0 (fun _ => true) true Try.f6.params.toList args.toList ds p := hA0
  have hsz : (DataW.weightsEach Try.prog (Try.f6.params.toList ++ Rows.diskNilsSpec.plain.varTypes Try.prog) (ds ++ gs)).all (· ≤ reachBytes) = true := hsized
  rw [Try.params6] at hA hval hsz
  obtain ⟨v0, vs0, d0, ds0, p0, q0, hargs, rfl, rfl, h0, r0⟩ := trodAll_cons hA
  obtain ⟨rfl, rfl, rfl⟩ := trodAll_nil r0
  obtain rfl : args = #[v0] := by cases args; simp_all
  obtain ⟨rfl, rfl⟩ := trodVars_none hV
  have k0 := h0
  have lt0 : ∀ x ∈ p0, x.block < W.heap.size := by obtain ⟨m, hm⟩ := k0; exact DataW.trod_lt m _ _ _ hm
  have wt0 := weights_of_each hsz (j := 0) (t := 36) (d := d0) rfl rfl
  obtain ⟨x0, rfl, gx0⟩ := act_of_arg (hval 0 36 v0 rfl rfl) h0 wt0
  clear hA0 hval0
  refine (walk x0 W gx0).mono fun e W' ⟨he, bel⟩ => ?_
  subst he
  exact ⟨_, rfl, _, _, _, [], _, [], hW', trodAll_mk1 (shut_bool Try.underlying4 _), (trodAll_cons_mk (Below.trod laidOut (by kernel_rfl) (of_decide_eq_true (by kernel_rfl)) k0 bel lt0) trodAll_mk0), rfl, bel.frame _, fun h => by cases h⟩

theorem over : Rows.diskNilsRow.holds Try.pinned (OpenSpec.ofChange Rows.diskNilsSpec) :=
  OpenClaim.holds_of_wide 6 Try.f6 rfl rfl rfl rfl rfl rfl rfl ⟨rfl, rfl, rfl, rfl, rfl⟩ rfl rfl rfl rfl rfl (by kernel_rfl) Try.func6 (by kernel_rfl)
    (of_decide_eq_true (by kernel_rfl)) (by unfold Func.isWrapper; first | (rw [if_pos (by decide +kernel)]; kernel_rfl) | (rw [if_neg (by decide +kernel)]; exact ⟨rfl, rfl⟩))
    (fun os started H enc _ => lifted os started H enc)

end diskNils

/-- The statement. -/
theorem diskNils_holds : Rows.DiskNilsSaid := diskNils.over
#print axioms diskNils_holds
end Go.Proofs.Ytpnlgmnlanoncaa
