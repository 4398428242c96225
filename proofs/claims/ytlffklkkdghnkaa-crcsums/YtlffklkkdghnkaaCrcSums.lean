/-
  For every two byte slices, every state and every byte the law CrcSums returns true (crc.Of, crc.More and crc.Byte answer as the document does, and the example of the page holds), and the slices read afterwards as before. No conditions.
-/
import Derived.Test.YtlffklkkdghnkaaRows
import Derived.Test.YtlffklkkdghnkaaTake
namespace Go.Proofs.Ytlffklkkdghnkaa
namespace crcSums
open Go.ChangeShapes Go.WideShapes Go.ChangeAt Go.RowKit
open Go.ChangeMaps (open_string shut_string)
set_option linter.unusedVariables false

theorem more_of (a b : List Int) : 4294967295 - runZ (4294967295 - sumZ a) b = sumZ (a ++ b) := by
  unfold sumZ
  rw [runZ_append, show (4294967295 : Int) - (4294967295 - runZ 4294967295 a) = runZ 4294967295 a by omega]

set_option maxRecDepth 100000 in
set_option maxHeartbeats 4000000 in
theorem small (A B : Option Addr) (c d : Nat) (a b : List Int) (s x : Int) (w : World) (ha : Lies w A c a) (hb : Lies w B d b) (hba : IsB a) (hbb : IsB b) (hla : a.length ≤ 2000) (hlb : b.length ≤ 2000)
    (h0 : 0 ≤ s) (h1 : s ≤ 4294967295) (h2 : 0 ≤ x) (h3 : x ≤ 255) :
    Calls Try.prog 3 #[.slice A a.length c, .slice B b.length d, .int .u32 s, .int .u8 x] w fun e w' => e = .returned (.bool true) ∧ Below w.heap.size w w' := by
  have hb1 : Below w.heap.size w (w.alloc (.cells #[] 5)) := (Below.refl _ _).alloc (Nat.le_refl _) _
  have hown1 : OwnS w.heap.size (w.alloc (.cells #[] 5)) (some ⟨w.heap.size, 0, none⟩) 0 [] := World.ownsRow_lit (size := 1) w #[] 0 (Nat.le_refl _) (by unfold maxLen; omega) rfl
  have HA := Lib.hid ha
  have HB := Lib.hid hb
  obtain ⟨sa0, sa1⟩ := sumZ_range a hba
  have HOF := Lib.hid (fun (W : World) (hbl : Below w.heap.size w W) => of_calls A c a W (ha.below hbl) hba (by omega))
  have HRF := Lib.hid (fun (W : World) (hbl : Below w.heap.size w W) => rof_calls A c a W (ha.below hbl) hba (by omega))
  have HRB := Lib.hid (fun (A' : Option Addr) (c' : Nat) (W : World) (L : List Int) (hL : L = a ++ b) (h' : Lies W A' c' L) => show Calls Try.prog 7 #[.slice A' L.length c'] W fun e w' => e = .returned (.int .u32 (sumZ (a ++ b))) ∧ W = w' by
    subst hL
    exact rof_calls A' c' (a ++ b) W h' (hba.append hbb) (by rw [List.length_append]; omega))
  have hm := fun (W : World) (hbl : Below w.heap.size w W) => more_calls B d b (sumZ a) W (hb.below hbl) hbb (by omega) sa0 sa1
  rw [more_of] at hm
  have HM := Lib.hid hm
  have HY := Lib.hid (fun W => byte_calls s x W h0 h1 h2 h3)
  have HZ := Lib.hid (fun W => rbyte_calls s x W h0 h1 h2 h3)
  clear ha hb hm
  generalize sumZ (a ++ b) = sb at *
  generalize sumZ a = sa at *
  generalize byteZ s x = y at *
  go_enter Try.func3, Try.ntmps3
  go_wp2_with (first
    | (at_builtin; first
      | (refine wpList_append_bytes rfl _ _ rfl w.heap.size (some ⟨w.heap.size, 0, none⟩) 0 [] rfl hown1 A c a rfl (HA.out.below hb1) (by simp; omega) hb1.size ?_; intro A2 c2 w2 L2 hL2 hown2 hgrow2; have hb2 := OwnS.grow hown1 hb1 hgrow2 hb1.size; obtain rfl : a = L2 := by { rw [hL2.out]; rfl }; clear hown1 hgrow2 hL2)
      | (refine wpList_append_bytes rfl _ _ rfl w.heap.size A2 c2 a rfl hown2 B d b rfl (HB.out.below hb2) (by omega) hb2.size ?_; intro A3 c3 w3 L3 hL3 hown3 hgrow3; have hb3 := OwnS.grow hown2 hb2 hgrow3 hb2.size; clear hown2 hgrow3))
    | (go_at_call 7; first
      | (refine (HRB.out _ _ _ _ hL3.out hown3.lies).mono ?_; rintro e w' ⟨rfl, rfl⟩; clear hown3)
      | (refine (HRF.out _ hb4).mono ?_; rintro e w' ⟨rfl, rfl⟩))
    | (go_at_call 8; first
      | (refine (HOF.out _ hb4).mono ?_; rintro e w5 ⟨rfl, hb5⟩; have hb6 := Below.on hb4 hb5; clear hb5)
      | (refine (HOF.out _ hb3).mono ?_; rintro e w4 ⟨rfl, hb4'⟩; have hb4 := Below.on hb3 hb4'; clear hb4'))
    | (go_at_call 9; refine (HM.out _ hb6).mono ?_; rintro e w7 ⟨rfl, hb7⟩; have hb8 := Below.on hb6 hb7; clear hb7)
    | (go_at_call 10; refine (HY.out _).mono ?_; rintro e w' ⟨rfl, rfl⟩)
    | (go_at_call 11; refine (HZ.out _).mono ?_; rintro e w' ⟨rfl, rfl⟩)
    | (go_at_call 6; refine (live_calls _).mono ?_; rintro e w9 ⟨rfl, hb9⟩))
  go_ret
  exact ⟨rfl, Below.on hb8 hb9⟩

theorem walk (a0 : Option Addr) (len0 cap0 : Nat) (z0 : List Int) (a1 : Option Addr) (len1 cap1 : Nat) (z1 : List Int) (a2 : Int) (a3 : Int) (w : World) (w0 : IsRow w a0 len0 cap0 z0) (w1 : IsRow w a1 len1 cap1 z1) (w2 : (Lit.int .u32 a2).wf = true) (w3 : (Lit.int .u8 a3).wf = true) :
    Calls Try.prog 3 #[.slice a0 len0 cap0, .slice a1 len1 cap1, .int .u32 a2, .int .u8 a3] w fun e w' => e = .returned (.bool true) ∧ Below w.heap.size w w' := by
  obtain ⟨a, rfl, hca, hma, ha, hba⟩ := bytes_of_row w0
  obtain ⟨b, rfl, hcb, hmb, hb, hbb⟩ := bytes_of_row w1
  unfold maxLen at hma hmb
  have hs := bounds_u32 w2
  have hx := bounds_u8 w3
  by_cases hla : a.length ≤ 2000
  · by_cases hlb : b.length ≤ 2000
    · exact small a0 a1 cap0 cap1 a b a2 a3 w ha hb hba hbb hla hlb (by omega) (by omega) (by omega) (by omega)
    · clear ha hb hba hbb w0 w1
      go_enter Try.func3, Try.ntmps3
      go_wp2_with (go_at_call 6; refine (live_calls _).mono ?_; rintro e w1 ⟨rfl, hb1⟩)
      go_ret
      exact ⟨rfl, hb1⟩
  · clear ha hb hba hbb w0 w1
    go_enter Try.func3, Try.ntmps3
    go_wp2_with (go_at_call 6; refine (live_calls _).mono ?_; rintro e w1 ⟨rfl, hb1⟩)
    go_ret
    exact ⟨rfl, hb1⟩

/- From the walk to the row. -/
set_option maxRecDepth 100000 in
theorem lifted (os : Os) (started : os.Started) (H : Type) (enc : TypeId × Value → H) :
    ReturnsInHanded {} Try.checked os 3 .any (Rows.crcSumsSpec.pre6 enc Try.prog Try.f3 Rows.crcSumsRow.domain false) (Rows.crcSumsSpec.post enc Try.prog Try.f3 false true false false) := by
  refine returnsInHanded_of_change (C := Try.checked) own started (by kernel_rfl) Try.func3
    (ChangeSpec.witness6 (enc := enc) (C := Try.checked) false ⟨#[], #[.slice none 0 0, .slice none 0 0, .int .u32 0, .int .u8 0], []⟩ 8 (by kernel_rfl) (by kernel_rfl) (by kernel_rfl) (by kernel_rfl)) ?_
  intro W base args ds gs before hval0 hW hcnd _
  have hval : ∀ (j : Nat) t v, Try.f3.params[j]? = some t → args[j]? = some v → Value.okWide Try.prog W .any base t v := hval0
  have hW' := hW
  obtain ⟨p, q, hA0, hV, rfl, hfz, hnd⟩ := hW
  have hA : DataW.TrodAll enc Try.prog W 0 (fun _ => true) true Try.f3.params.toList args.toList ds p := hA0
  rw [Try.params3] at hA hval
  obtain ⟨v0, vs0, d0, ds0, p0, q0, hargs, rfl, rfl, h0, r0⟩ := trodAll_cons hA
  obtain ⟨v1, vs1, d1, ds1, p1, q1, rfl, rfl, rfl, h1, r1⟩ := trodAll_cons r0
  obtain ⟨v2, vs2, d2, ds2, p2, q2, rfl, rfl, rfl, h2, r2⟩ := trodAll_cons r1
  obtain ⟨v3, vs3, d3, ds3, p3, q3, rfl, rfl, rfl, h3, r3⟩ := trodAll_cons r2
  obtain ⟨rfl, rfl, rfl⟩ := trodAll_nil r3
  obtain rfl : args = #[v0, v1, v2, v3] := by cases args; simp_all
  obtain ⟨rfl, rfl⟩ := trodVars_none hV
  obtain ⟨a0, len0, cap0, rfl⟩ := okWide_slice Try.underlying22 (hval 0 22 v0 rfl rfl)
  have k0 := h0
  have lt0 : ∀ x ∈ p0, x.block < W.heap.size := by obtain ⟨m, hm⟩ := k0; exact DataW.trod_lt m _ _ _ hm
  obtain ⟨z0, w0⟩ : ∃ zs, IsRow W a0 len0 cap0 zs := by
    obtain ⟨fuel, hf⟩ := h0
    rcases open_ints Try.underlying22 Try.underlying5 (by kernel_rfl) hf with ⟨hcs, _⟩ | ⟨x, l, c, zs, hcs, _, hl, hm, hz, _, hcell, hwz⟩
    · simp [Value.cells] at hcs
      obtain ⟨rfl, rfl, rfl⟩ := hcs
      exact ⟨[], .inl ⟨rfl, rfl, rfl, rfl⟩⟩
    · simp [Value.cells] at hcs
      obtain ⟨rfl, rfl, rfl⟩ := hcs
      exact ⟨zs, .inr ⟨_, rfl, hl, hm, by simpa using hz, hcell, hwz⟩⟩
  obtain ⟨a1, len1, cap1, rfl⟩ := okWide_slice Try.underlying22 (hval 1 22 v1 rfl rfl)
  have k1 := h1
  have lt1 : ∀ x ∈ p1, x.block < W.heap.size := by obtain ⟨m, hm⟩ := k1; exact DataW.trod_lt m _ _ _ hm
  obtain ⟨z1, w1⟩ : ∃ zs, IsRow W a1 len1 cap1 zs := by
    obtain ⟨fuel, hf⟩ := h1
    rcases open_ints Try.underlying22 Try.underlying5 (by kernel_rfl) hf with ⟨hcs, _⟩ | ⟨x, l, c, zs, hcs, _, hl, hm, hz, _, hcell, hwz⟩
    · simp [Value.cells] at hcs
      obtain ⟨rfl, rfl, rfl⟩ := hcs
      exact ⟨[], .inl ⟨rfl, rfl, rfl, rfl⟩⟩
    · simp [Value.cells] at hcs
      obtain ⟨rfl, rfl, rfl⟩ := hcs
      exact ⟨zs, .inr ⟨_, rfl, hl, hm, by simpa using hz, hcell, hwz⟩⟩
  obtain ⟨a2, rfl, rfl, rfl, w2⟩ := open_int Try.underlying23 (hval 2 23 v2 rfl rfl) h2
  obtain ⟨a3, rfl, rfl, rfl, w3⟩ := open_int Try.underlying5 (hval 3 5 v3 rfl rfl) h3
  clear hA0 hval0
  refine (walk a0 len0 cap0 z0 a1 len1 cap1 z1 a2 a3 W w0 w1 w2 w3).mono fun e W' ⟨he, bel⟩ => ?_
  subst he
  exact ⟨_, rfl, _, _, _, [], _, [], hW', trodAll_mk1 (shut_bool Try.underlying4 _), (trodAll_cons_mk (Below.trod laidOut (by kernel_rfl) (of_decide_eq_true (by kernel_rfl)) k0 bel lt0) (trodAll_cons_mk (Below.trod laidOut (by kernel_rfl) (of_decide_eq_true (by kernel_rfl)) k1 bel lt1) (trodAll_cons_mk (shut_int Try.underlying23 w2) (trodAll_cons_mk (shut_int Try.underlying5 w3) trodAll_mk0)))), rfl, bel.frame _, fun h => by cases h⟩

theorem over : Rows.crcSumsRow.holds Try.pinned (OpenSpec.ofChange Rows.crcSumsSpec) :=
  OpenClaim.holds_of_wide 3 Try.f3 rfl rfl rfl rfl rfl rfl rfl ⟨rfl, rfl, rfl, rfl, rfl⟩ rfl rfl rfl rfl rfl (by kernel_rfl) Try.func3 (by kernel_rfl)
    (of_decide_eq_true (by kernel_rfl)) (by unfold Func.isWrapper; first | (rw [if_pos (by decide +kernel)]; kernel_rfl) | (rw [if_neg (by decide +kernel)]; exact ⟨rfl, rfl⟩))
    (fun os started H enc _ => lifted os started H enc)

end crcSums

/-- The statement. -/
theorem crcSums_holds : Rows.CrcSumsSaid := crcSums.over
#print axioms crcSums_holds
end Go.Proofs.Ytlffklkkdghnkaa
