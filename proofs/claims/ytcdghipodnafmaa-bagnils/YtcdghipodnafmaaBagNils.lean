/-
  What a bag that is nil answers: the law returns true for every input. No condition.
-/
import Derived.Test.YtcdghipodnafmaaRows
import Derived.Test.YtcdghipodnafmaaBOne
import Derived.Test.YtcdghipodnafmaaBMove
import Derived.Test.YtcdghipodnafmaaBLive
import Derived.Test.YtcdghipodnafmaaBActs
namespace Go.Proofs.Ytcdghipodnafmaa
namespace bagNils
open Go.ChangeShapes Go.WideShapes Go.ChangeAt Go.RowKit
set_option linter.unusedVariables false

set_option maxRecDepth 20000 in
set_option maxHeartbeats 4000000 in
theorem walk (x : Ac) (w : World) (hG : GoodA w x) : Calls Try.prog 5 #[.agg (enA x).toArray] w fun e w' => e = .returned (.bool true) ∧ Below w.heap.size w w' := by
  have b0 := Blk.new w (enA x).toArray 39
  have hb0 := below_one w (.cells (enA x).toArray 39)
  have HB0 := Lib.hid hb0
  have HX := Lib.hid b0
  have c1 := b0.cell 1
  unfold enA at *
  clear b0 hG hb0
  go_enter Try.func5, Try.ntmps5
  go_wp2_with fail
  refine (take_nil _ _).mono ?_
  rintro e w1 ⟨rfl, hb1⟩
  have HB1 := Lib.hid (Below.on HB0.out hb1)
  have hbm := below_one w1 (.cells #[.int .i64 0, .int .i64 0, .slice none 0 0] 48)
  have HBM := Lib.hid hbm
  have b1 := (HX.out.belowAll hb1).belowAll hbm
  have HX1 := Lib.hid b1
  have bm := Blk.new w1 #[.int .i64 0, .int .i64 0, .slice none 0 0] 48
  obtain ⟨m0, m1, m2⟩ := bm.cells3
  clear hb1 hbm b1 bm c1
  dsimp only
  go_wp2_with (go_at_call 11; refine (counts_nil _).mono ?_; rintro e w' ⟨rfl, rfl⟩)
  have HSM := Lib.hid (same_zeros (w1.alloc (.cells #[.int .i64 0, .int .i64 0, .slice none 0 0] 48)))
  have hq : (w1.alloc (.cells #[.int .i64 0, .int .i64 0, .slice none 0 0] 48)).heap.size = w1.heap.size + 1 := by simp
  rw [hq] at HSM
  refine HSM.out.mono ?_
  rintro e w2 ⟨rfl, hb2⟩
  have hb2' : Below (w1.alloc (.cells #[.int .i64 0, .int .i64 0, .slice none 0 0] 48)).heap.size (w1.alloc (.cells #[.int .i64 0, .int .i64 0, .slice none 0 0] 48)) w2 := by rw [hq]; exact hb2
  have HB2 := Lib.hid (Below.on (Below.on HB1.out HBM.out) hb2')
  have b2 := HX1.out.belowAll hb2'
  have c1 := b2.cell 1
  have c2 := b2.cell 2
  have c4 := b2.cell 4
  clear hb2 hb2' b2 hq m0 m1 m2
  dsimp only
  go_wp2_with (first | (go_at_call 17; refine (lose_nil _ _).mono ?_; rintro e w' ⟨rfl, rfl⟩) | (go_at_call 18; refine (twice_nil _ _).mono ?_; rintro e w' ⟨rfl, rfl⟩) | (go_at_call 19; refine (move_nil _ _ _).mono ?_; rintro e w' ⟨rfl, rfl⟩) | (go_at_call 15; refine (up_nil _ _).mono ?_; rintro e w' ⟨rfl, rfl⟩) | (go_at_call 12; refine (len_nil _).mono ?_; rintro e w' ⟨rfl, rfl⟩) | (go_at_call 14; refine (all_nil _).mono ?_; rintro e w' ⟨rfl, rfl⟩) | (go_at_call 20; refine (send_nil _ _ _ _ _ _).mono ?_; rintro e w' ⟨rfl, rfl⟩) | (go_at_call 21; refine (set_nil _ _ _).mono ?_; rintro e w' ⟨rfl, rfl⟩) | (go_at_call 9; refine (code_calls _ _).mono ?_; rintro e w' ⟨rfl, rfl⟩))
  refine (live_calls _).mono ?_
  rintro e w3 ⟨rfl, hb3⟩
  have HB3 := Lib.hid (Below.on HB2.out hb3)
  clear hb3
  dsimp only
  go_wp2
  go_ret
  exact ⟨rfl, HB3.out⟩

/- From the walk to the row. -/
set_option maxRecDepth 100000 in
theorem lifted (os : Os) (started : os.Started) (H : Type) (enc : TypeId × Value → H) :
    ReturnsInHanded {} Try.checked os 5 .any (Rows.bagNilsSpec.pre6 enc Try.prog Try.f5 Rows.bagNilsRow.domain false) (Rows.bagNilsSpec.post enc Try.prog Try.f5 false true false false) := by
  refine returnsInHanded_of_change_sized (C := Try.checked) own started (by kernel_rfl) Try.func5
    (ChangeSpec.witness6 (enc := enc) (C := Try.checked) false ⟨#[], #[.agg #[.int .i64 0, .int .i64 0, .int .i64 0, .bool false, .slice none 0 0]], []⟩ 8 (by kernel_rfl) (by kernel_rfl) (by kernel_rfl) (by kernel_rfl)) ?_
  intro W base args ds gs before hval0 hW hcnd hsized _
  have hval : ∀ (j : Nat) t v, Try.f5.params[j]? = some t → args[j]? = some v → Value.okWide Try.prog W .any base t v := hval0
  have hW' := hW
  obtain ⟨p, q, hA0, hV, rfl, hfz, hnd⟩ := hW
  have hA : DataW.TrodAll enc Try.prog W 0 (fun _ => true) true Try.f5.params.toList args.toList ds p := hA0
  have hsz : (DataW.weightsEach Try.prog (Try.f5.params.toList ++ Rows.bagNilsSpec.plain.varTypes Try.prog) (ds ++ gs)).all (· ≤ reachBytes) = true := hsized
  rw [Try.params5] at hA hval hsz
  obtain ⟨v0, vs0, d0, ds0, p0, q0, hargs, rfl, rfl, h0, r0⟩ := trodAll_cons hA
  obtain ⟨rfl, rfl, rfl⟩ := trodAll_nil r0
  obtain rfl : args = #[v0] := by cases args; simp_all
  obtain ⟨rfl, rfl⟩ := trodVars_none hV
  have k0 := h0
  have lt0 : ∀ x ∈ p0, x.block < W.heap.size := by obtain ⟨m, hm⟩ := k0; exact DataW.trod_lt m _ _ _ hm
  have wt0 := weights_of_each hsz (j := 0) (t := 39) (d := d0) rfl rfl
  obtain ⟨x0, rfl, gx0⟩ := act_of_arg (hval 0 39 v0 rfl rfl) h0 wt0
  clear hA0 hval0
  refine (walk x0 W gx0).mono fun e W' ⟨he, bel⟩ => ?_
  subst he
  exact ⟨_, rfl, _, _, _, [], _, [], hW', trodAll_mk1 (shut_bool Try.underlying4 _), (trodAll_cons_mk (Below.trod laidOut (by kernel_rfl) (of_decide_eq_true (by kernel_rfl)) k0 bel lt0) trodAll_mk0), rfl, bel.frame _, fun h => by cases h⟩

theorem over : Rows.bagNilsRow.holds Try.pinned (OpenSpec.ofChange Rows.bagNilsSpec) :=
  OpenClaim.holds_of_wide 5 Try.f5 rfl rfl rfl rfl rfl rfl rfl ⟨rfl, rfl, rfl, rfl, rfl⟩ rfl rfl rfl rfl rfl (by kernel_rfl) Try.func5 (by kernel_rfl)
    (of_decide_eq_true (by kernel_rfl)) (by unfold Func.isWrapper; first | (rw [if_pos (by decide +kernel)]; kernel_rfl) | (rw [if_neg (by decide +kernel)]; exact ⟨rfl, rfl⟩))
    (fun os started H enc _ => lifted os started H enc)

end bagNils

/-- The statement. -/
theorem bagNils_holds : Rows.BagNilsSaid := bagNils.over
#print axioms bagNils_holds
end Go.Proofs.Ytcdghipodnafmaa
