/-
  For all numbers n and m the law RecBounds returns true (a list of more than 65,536 strings is refused, and so is a string of more than 65,536 bytes, alone or in a pair; and the example of the page holds). No conditions.
-/
import Derived.Test.YtimcolanmbklpaaRows
import Derived.Test.YtimcolanmbklpaaGS
import Derived.Test.YtimcolanmbklpaaRRes
import Derived.Test.YtimcolanmbklpaaRLive
namespace Go.Proofs.Ytimcolanmbklpaa
namespace recBounds
open Go.ChangeShapes Go.WideShapes Go.ChangeAt Go.RowKit
set_option linter.unusedVariables false

theorem zero_size (m : Nat) : (str (List.replicate m 0)).size = m := by rw [str_size, List.length_replicate]
/-- What the three calls answer. -/
theorem answers (k m : Nat) : ∃ (L1 L2 L3 : List Int) (e1 e2 : Int), putAll (fun s => wrT (sl s)) [] (List.replicate k ByteArray.empty) = (L1, e1) ∧ putAll (fun s => wrT (sl s)) [] [str (List.replicate m 0)] = (L2, e2) ∧ putAll wrP [] [(ByteArray.empty, str (List.replicate m 0))] = (L3, e2) ∧
    (e1 == 9) = decide (65536 < k) ∧ (e2 == 5) = decide (65536 < m) := by
  have hz := zero_size m
  have he : ∀ s ∈ List.replicate k ByteArray.empty, s.size ≤ 65536 := by intro s hs; rw [List.eq_of_mem_replicate hs]; decide
  have h1 : ∃ L1 e1, putAll (fun s => wrT (sl s)) [] (List.replicate k ByteArray.empty) = (L1, e1) ∧ (e1 == 9) = decide (65536 < k) := by
    by_cases hk : 65536 < k
    · exact ⟨_, _, putS_many _ _ (by rw [List.length_replicate]; exact hk), by simp [hk]⟩
    · exact ⟨_, _, putS_ok _ _ (by rw [List.length_replicate]; omega) he, by simp [hk]⟩
  have h2 : ∃ L2 L3 e2, putAll (fun s => wrT (sl s)) [] [str (List.replicate m 0)] = (L2, e2) ∧ putAll wrP [] [(ByteArray.empty, str (List.replicate m 0))] = (L3, e2) ∧ (e2 == 5) = decide (65536 < m) := by
    by_cases hm : 65536 < m
    · exact ⟨_, _, _, putS_long _ _ (by rw [hz]; exact hm), putP_long _ _ _ (by decide) (by rw [hz]; exact hm), by simp [hm]⟩
    · refine ⟨_, _, _, putS_ok _ _ (by simp) (by intro s hs; simp at hs; subst hs; omega), putP_ok _ _ (by simp) (by intro s hs; simp at hs; subst hs; exact ⟨Nat.zero_le _, by show (str (List.replicate m 0)).size ≤ 65536; omega⟩), by simp [hm]⟩
  obtain ⟨L1, e1, a, b⟩ := h1
  obtain ⟨L2, L3, e2, c, d, e⟩ := h2
  exact ⟨L1, L2, L3, e1, e2, a, c, d, b, e⟩

set_option maxRecDepth 20000 in
set_option maxHeartbeats 2000000 in
theorem walk (a0 a1 : Int) (w : World) (w0 : (Lit.int .u32 a0).wf = true) (w1 : (Lit.int .u32 a1).wf = true) :
    Calls Try.prog 6 #[.int .u32 a0, .int .u32 a1] w fun e w' => e = .returned (.bool true) ∧ Below w.heap.size w w' := by
  obtain ⟨b0, b1⟩ := bounds_u32 w0
  obtain ⟨c0, c1⟩ := bounds_u32 w1
  clear w0 w1
  obtain ⟨i0, hi, hz0, hz1, hz2⟩ := info_parts Try.info5
  obtain ⟨j0, hj, hy0, hy1, hy2⟩ := info_parts elS.info
  obtain ⟨k, hk⟩ : ∃ k : Nat, a0 % 70000 = k := Int.eq_ofNat_of_zero_le (Int.emod_nonneg _ (by omega))
  obtain ⟨m, hm⟩ : ∃ m : Nat, a1 % 70000 = m := Int.eq_ofNat_of_zero_le (Int.emod_nonneg _ (by omega))
  have hk1 : k < 70000 := by omega
  have hm1 : m < 70000 := by omega
  obtain ⟨L1, L2, L3, e1, e2, r1, r2, r3, q1, q2⟩ := answers k m
  have hzs := zero_size m
  have HZ := Lib.hid hzs
  have HP1 := Lib.hid (fun (A : Option Addr) (c : Nat) (W : World) (h : CellsG enS W A c (List.replicate k ByteArray.empty)) => putList_calls none 0 [] A c (List.replicate k ByteArray.empty) W (Lies.nil _) h (by simp) (by intro s hs; rw [List.eq_of_mem_replicate hs]; decide) (by rw [List.length_replicate]; unfold maxLen; omega))
  have HP2 := Lib.hid (fun (A : Option Addr) (c : Nat) (W : World) (h : CellsG enS W A c [str (List.replicate m 0)]) => putList_calls none 0 [] A c [str (List.replicate m 0)] W (Lies.nil _) h (by simp) (by intro s hs; simp at hs; subst hs; rw [hzs]; unfold maxLen; omega) (by unfold maxLen; simp))
  have HP3 := Lib.hid (fun (A : Option Addr) (c : Nat) (W : World) (h : CellsG enP W A c [(ByteArray.empty, str (List.replicate m 0))]) => putPairs_calls none 0 [] A c [(ByteArray.empty, str (List.replicate m 0))] W (Lies.nil _) h (by simp) (by intro s hs; simp at hs; subst hs; exact ⟨Nat.zero_le _, by show (str (List.replicate m 0)).size ≤ maxLen; rw [hzs]; unfold maxLen; omega⟩) (by unfold maxLen; simp))
  simp only [r1, List.length_replicate] at HP1
  rw [r2] at HP2
  rw [r3] at HP3
  have HK := Lib.hid hk
  have HM := Lib.hid hm
  obtain ⟨x1, hx1⟩ : ∃ x1, decide (65536 < k) = x1 := ⟨_, rfl⟩
  obtain ⟨x2, hx2⟩ : ∃ x2, decide (65536 < m) = x2 := ⟨_, rfl⟩
  rw [hx1] at q1
  rw [hx2] at q2
  have d1 : decide ((65536 : Int) < a0 % 70000) = x1 := by rw [← hx1, hk]; exact decide_eq_decide.2 (by omega)
  have d2 : decide ((65536 : Int) < a1 % 70000) = x2 := by rw [← hx2, hm]; exact decide_eq_decide.2 (by omega)
  clear hk hm r1 r2 r3 hzs hx1 hx2
  have hstr : ∀ (A : Option Addr) (W : World), Lies W A m (List.replicate m 0) → (convert 24 9 (.slice A m m)).run Try.prog W = .ok (.string (str (List.replicate m 0))) W := fun A W h => by
    have := run_str h
    rw [List.length_replicate] at this
    exact this
  have HS := Lib.hid hstr
  clear hstr
  obtain ⟨z, hz⟩ : ∃ z, z = str (List.replicate m 0) := ⟨_, rfl⟩
  rw [← hz] at HP2 HP3 HS
  clear hz
  go_enter Try.func6, Try.ntmps6
  go_wp2_with (at_make; refine wpList_make_full _ rfl _ _ 22 rfl w.heap.size 9 j0 (.string ByteArray.empty) 1 Try.underlying22 hj hy0 hy1 .i64 .i64 _ _ k rfl rfl HK.out HK.out (by rw [hy2]; omega) (by unfold maxLen; omega) (Nat.le_refl _) ?_; intro w1 hown1 hgrow1)
  have hg1 : CellsG enS w1 (some ⟨w.heap.size, 0, none⟩) k (List.replicate k ByteArray.empty) := OwnG.cells (e := 9) (sz := 1) (B := w.heap.size) (by unfold OwnG; rw [List.length_replicate, ← made_strs]; exact hown1)
  have hb1 : Below w.heap.size w w1 := (Below.refl _ _).grown hgrow1 (Nat.le_refl _) (by intro k hk; cases hk)
  refine (HP1.out _ _ _ hg1).mono ?_
  rintro e w2 ⟨A2, c2, rfl, _, hb2⟩
  dsimp only
  have hb12 := Below.on hb1 hb2
  clear hown1 hgrow1 hg1 hb1 hb2
  go_wp2_with (at_make; refine wpList_make_full _ rfl _ _ 24 rfl w2.heap.size 5 i0 (.int .u8 0) 1 Try.underlying24 hi hz0 hz1 .i64 .i64 _ _ m rfl rfl HM.out HM.out (by rw [hz2]; omega) (by unfold maxLen; omega) (Nat.le_refl _) ?_; intro w3 hown3 hgrow3; rw [made_cells] at hown3; have hs3 := HS.out (some ⟨w2.heap.size, 0, none⟩) w3 (Lies.of_own (base := w2.heap.size) (by rw [List.length_replicate]; exact hown3)); have hb3 : Below w2.heap.size w2 w3 := (Below.refl _ _).grown hgrow3 (Nat.le_refl _) (by intro k hk; cases hk); clear hown3 hgrow3)
  have hb4 : Below w3.heap.size w3 (w3.alloc (.cells #[.string z] 9)) := (Below.refl _ _).alloc (Nat.le_refl _) _
  refine (HP2.out _ _ _ (cells_one_val elS w3 z #[.string z] rfl)).mono ?_
  rintro e w5 ⟨A5, c5, rfl, _, hb5⟩
  dsimp only
  have hb15 := Below.on (Below.on (Below.on hb12 hb3) hb4) hb5
  clear hb12 hb3 hb4 hb5 hs3
  go_wp2_with (at_make; refine wpList_make_full _ rfl _ _ 24 rfl w5.heap.size 5 i0 (.int .u8 0) 1 Try.underlying24 hi hz0 hz1 .i64 .i64 _ _ m rfl rfl HM.out HM.out (by rw [hz2]; omega) (by unfold maxLen; omega) (Nat.le_refl _) ?_; intro w6 hown6 hgrow6; rw [made_cells] at hown6; have hs6 := HS.out (some ⟨w5.heap.size, 0, none⟩) w6 (Lies.of_own (base := w5.heap.size) (by rw [List.length_replicate]; exact hown6)); have hb6 : Below w5.heap.size w5 w6 := (Below.refl _ _).grown hgrow6 (Nat.le_refl _) (by intro k hk; cases hk); clear hown6 hgrow6)
  have hb7 : Below w6.heap.size w6 (w6.alloc (.cells #[.string ByteArray.empty, .string z] 48)) := (Below.refl _ _).alloc (Nat.le_refl _) _
  refine (HP3.out _ _ _ (cells_one_val elP w6 (ByteArray.empty, z) #[.string ByteArray.empty, .string z] rfl)).mono ?_
  rintro e w8 ⟨A8, c8, rfl, _, hb8⟩
  dsimp only
  have hb18 := Below.on (Below.on (Below.on hb15 hb6) hb7) hb8
  clear hb15 hb6 hb7 hb8 hs6
  go_wp2_with (first
    | (go_at_call 12; refine (code_calls _ _).mono ?_; rintro e w9 ⟨rfl, rfl⟩)
    | (go_at_call 9; refine (live_calls _).mono ?_; rintro e w9 ⟨rfl, hb9⟩))
  go_ret
  exact ⟨rfl, Below.on hb18 hb9⟩

/- From the walk to the row. -/
set_option maxRecDepth 100000 in
theorem lifted (os : Os) (started : os.Started) (H : Type) (enc : TypeId × Value → H) :
    ReturnsInHanded {} Try.checked os 6 .any (Rows.recBoundsSpec.pre6 enc Try.prog Try.f6 Rows.recBoundsRow.domain false) (Rows.recBoundsSpec.post enc Try.prog Try.f6 false true false false) := by
  refine returnsInHanded_of_change_sized (C := Try.checked) own started (by kernel_rfl) Try.func6
    (ChangeSpec.witness6 (enc := enc) (C := Try.checked) false ⟨#[], #[.int .u32 0, .int .u32 0], []⟩ 8 (by kernel_rfl) (by kernel_rfl) (by kernel_rfl) (by kernel_rfl)) ?_
  intro W base args ds gs before hval0 hW hcnd hsized _
  have hval : ∀ (j : Nat) t v, Try.f6.params[j]? = some t → args[j]? = some v → Value.okWide Try.prog W .any base t v := hval0
  have hW' := hW
  obtain ⟨p, q, hA0, hV, rfl, hfz, hnd⟩ := hW
  have hA : DataW.TrodAll enc Try.prog W 0 (fun _ => true) true Try.f6.params.toList args.toList ds p := hA0
  have hsz : (DataW.weightsEach Try.prog (Try.f6.params.toList ++ Rows.recBoundsSpec.plain.varTypes Try.prog) (ds ++ gs)).all (· ≤ reachBytes) = true := hsized
  rw [Try.params6] at hA hval hsz
  obtain ⟨v0, vs0, d0, ds0, p0, q0, hargs, rfl, rfl, h0, r0⟩ := trodAll_cons hA
  obtain ⟨v1, vs1, d1, ds1, p1, q1, rfl, rfl, rfl, h1, r1⟩ := trodAll_cons r0
  obtain ⟨rfl, rfl, rfl⟩ := trodAll_nil r1
  obtain rfl : args = #[v0, v1] := by cases args; simp_all
  obtain ⟨rfl, rfl⟩ := trodVars_none hV
  obtain ⟨a0, rfl, rfl, rfl, w0⟩ := open_int Try.underlying51 (hval 0 51 v0 rfl rfl) h0
  obtain ⟨a1, rfl, rfl, rfl, w1⟩ := open_int Try.underlying51 (hval 1 51 v1 rfl rfl) h1
  clear hA0 hval0
  refine (walk a0 a1 W w0 w1).mono fun e W' ⟨he, bel⟩ => ?_
  subst he
  exact ⟨_, rfl, _, _, _, [], _, [], hW', trodAll_mk1 (shut_bool Try.underlying4 _), (trodAll_cons_mk (shut_int Try.underlying51 w0) (trodAll_cons_mk (shut_int Try.underlying51 w1) trodAll_mk0)), rfl, bel.frame _, fun h => by cases h⟩

theorem over : Rows.recBoundsRow.holds Try.pinned (OpenSpec.ofChange Rows.recBoundsSpec) :=
  OpenClaim.holds_of_wide 6 Try.f6 rfl rfl rfl rfl rfl rfl rfl ⟨rfl, rfl, rfl, rfl, rfl⟩ rfl rfl rfl rfl rfl (by kernel_rfl) Try.func6 (by kernel_rfl)
    (of_decide_eq_true (by kernel_rfl)) (by unfold Func.isWrapper; first | (rw [if_pos (by decide +kernel)]; kernel_rfl) | (rw [if_neg (by decide +kernel)]; exact ⟨rfl, rfl⟩))
    (fun os started H enc _ => lifted os started H enc)

end recBounds

/-- The statement. -/
theorem recBounds_holds : Rows.RecBoundsSaid := recBounds.over
#print axioms recBounds_holds
end Go.Proofs.Ytimcolanmbklpaa
