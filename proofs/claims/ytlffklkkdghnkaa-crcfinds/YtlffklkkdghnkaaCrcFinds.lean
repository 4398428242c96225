/-
  For every byte slice, every place and every change the law CrcFinds returns true (bytes that crc.Put made are refused by crc.Take with the error of checksums, if some of four consecutive bytes are changed, and the example of the page holds), and the slice reads afterwards as before. No conditions.
-/
import Derived.Test.YtlffklkkdghnkaaRows
import Derived.Test.YtlffklkkdghnkaaFind
namespace Go.Proofs.Ytlffklkkdghnkaa
namespace crcFinds
open Go.ChangeShapes Go.WideShapes Go.ChangeAt Go.RowKit
open Go.ChangeMaps (open_string shut_string)
set_option linter.unusedVariables false

/-- The relation of the loop: j bytes have been changed. -/
def RelF (B : Nat) (w : World) (P : List Int) (k : Nat) (y : Int) (A : Option Addr) (c : Nat) (v i : Value) (wr : World) : Prop :=
  ∃ j : Nat, j ≤ 4 ∧ i = .int .i64 j ∧ v = .int .u32 (y / 256 ^ j) ∧ OwnS B wr A c (chg P k y j) ∧ Below B w wr

theorem cellsOf_set (l : List Int) (i : Nat) (x : Int) : (cellsOf l).set i (.int .u8 x) = cellsOf (l.set i x) := by simp [cellsOf]

theorem relF_step {B : Nat} {w wr : World} {P : List Int} {k j g c : Nat} {y x : Int} (hj : j < 4) (hg : B ≤ g) (hx : x = (chg P k y j).getD (k + j) 0) (h : OwnS B wr (some ⟨g, 0, none⟩) c (chg P k y j)) (hb : Below B w wr) :
    RelF B w P k y (some ⟨g, 0, none⟩) c (.int .u32 (y / 256 ^ j / 256)) (.int .i64 ((j : Int) + 1)) (wr.setCell ⟨g, k + j, none⟩ (.int .u8 (bits .xor .u8 x (y / 256 ^ j % 256)))) := by
  refine ⟨j + 1, by omega, by go_num, ?_, ?_, hb.setCell (p := ⟨g, k + j, none⟩) hg _⟩
  · rw [Int.pow_succ, ← Int.ediv_ediv_of_nonneg (Int.le_of_lt (Int.pow_pos (by omega)))]
  · have := (World.ownsRow.stored h (k + j) (.int .u8 (bits .xor .u8 x (y / 256 ^ j % 256)))).1
    rw [cellsOf_set, hx] at this
    unfold OwnS
    rw [hx, chg, List.length_set]
    exact this

set_option maxRecDepth 100000 in
set_option maxHeartbeats 4000000 in
theorem small (A : Option Addr) (c : Nat) (l : List Int) (n y : Int) (w : World) (h : Lies w A c l) (hb : IsB l) (hc : l.length ≤ c) (hl : l.length ≤ 2000) (hn0 : 0 ≤ n) (hn1 : n ≤ 65535) (hy0 : 0 < y) (hy1 : y ≤ 4294967295) :
    Calls Try.prog 5 #[.slice A l.length c, .int .u16 n, .int .u32 y] w fun e w' => e = .returned (.bool true) ∧ Below w.heap.size w w' := by
  have HP := Lib.hid (put_calls A c l w h hb (by omega))
  have hyz : (y == 0) = false := by simp; omega
  have hlP : (l ++ le4Z (sumZ l)).length = l.length + 4 := by rw [List.length_append]; rfl
  have hr0 := Int.emod_nonneg n (show (l.length : Int) + 4 - 3 ≠ 0 by omega)
  have hr1 := Int.emod_lt_of_pos n (show (0 : Int) < (l.length : Int) + 4 - 3 by omega)
  obtain ⟨k, hk⟩ := Int.eq_ofNat_of_zero_le hr0
  have hkl : k ≤ l.length := by omega
  obtain ⟨hf, hfb⟩ := take_found l hb k hkl y hy0 hy1
  have HF := Lib.hid hf
  have HFB := Lib.hid hfb
  have HK := Lib.hid hk
  clear h hb hf hfb hk hr0 hr1
  generalize l ++ le4Z (sumZ l) = P at *
  have hlP' : (P.length : Int) = (l.length : Int) + 4 := by omega
  have HLP := Lib.hid hlP
  clear hlP
  go_enter Try.func5, Try.ntmps5
  go_wp2_with fail
  refine HP.out.mono ?_
  rintro e' w1 ⟨A7, c7, rfl, hown1, hb1⟩
  have HO := Lib.hid (show OwnS _ _ _ _ _ from hown1)
  clear hown1
  go_wp2_with fail
  rw [HK.out]
  go_loopw [2, 9] (RelF w.heap.size w P k y A7 c7) (fun _ i _ => 4 - (intOf i).toNat)
  case atStart => exact ⟨0, by omega, rfl, by simp, HO.out, hb1⟩
  case round =>
    obtain ⟨j, hj, rfl, rfl, hown, hbr⟩ := hrel
    have hlen := chg_length P k y j
    by_cases hlt : j < 4
    · obtain ⟨g, cap, hv, hg1, hg2⟩ := World.ownsRow.form hown (by omega)
      injection hv with hv1 hv2 hv3
      subst hv1
      have hcell : wr.cell? ⟨g, k + j, none⟩ = some (.int .u8 ((chg P k y j).getD (k + j) 0)) := by
        unfold OwnS at hown
        rw [World.ownsRow.cellAt hown (k + j) (by omega), cellsOf_get (by omega)]
      have hfz : wr.frozen? ⟨g, k + j, none⟩ = false := World.ownsRow.frozenAt hown _
      obtain ⟨x, ex⟩ : ∃ x, x = (chg P k y j).getD (k + j) 0 := ⟨_, rfl⟩
      have HS := Lib.hid (relF_step hlt hg1 ex hown hbr)
      rw [← ex] at hcell
      have hq0 : 0 ≤ y / 256 ^ j := Int.ediv_nonneg (by omega) (Int.le_of_lt (Int.pow_pos (by omega)))
      have hq1 : y / 256 ^ j ≤ y := Int.ediv_le_self _ (by omega)
      clear ex hown hv2 hv3 hlen
      generalize y / 256 ^ j = q at *
      go_wp2
      go_roundw
      case rel => exact HS.out
      case measure => simp [intOf]; omega
    · obtain rfl : j = 4 := by omega
      have ht := take_calls A7 c7 (chg P k y 4) wr hown.lies HFB.out hown.cap (by omega)
      rw [HF.out, hlen] at ht
      have HT := Lib.hid ht
      clear ht hlen hown
      go_wp2_with fail
      refine HT.out.mono ?_
      rintro e' w5 ⟨A9, c9, rfl, hown9, hb5'⟩
      have hb5 := Below.on hbr hb5'
      simp only [List.length_nil]
      clear hown9
      go_wp2_with (first
        | (go_at_call 16; refine (code_calls _ _ (by omega) (by omega)).mono ?_; rintro e w' ⟨rfl, rfl⟩)
        | (go_at_call 6; refine (live_calls _).mono ?_; rintro e w6 ⟨rfl, hb6⟩))
      go_ret
      exact ⟨rfl, Below.on hb5 hb6⟩

theorem walk (a0 : Option Addr) (len0 cap0 : Nat) (z0 : List Int) (a1 : Int) (a2 : Int) (w : World) (w0 : IsRow w a0 len0 cap0 z0) (w1 : (Lit.int .u16 a1).wf = true) (w2 : (Lit.int .u32 a2).wf = true) :
    Calls Try.prog 5 #[.slice a0 len0 cap0, .int .u16 a1, .int .u32 a2] w fun e w' => e = .returned (.bool true) ∧ Below w.heap.size w w' := by
  obtain ⟨l, rfl, hc, hm, h, hb⟩ := bytes_of_row w0
  unfold maxLen at hm
  have hn := bounds_u16 w1
  have hy := bounds_u32 w2
  by_cases hl : l.length ≤ 2000
  · by_cases hz : a2 = 0
    · subst hz
      clear h hb w0
      go_enter Try.func5, Try.ntmps5
      go_wp2_with (go_at_call 6; refine (live_calls _).mono ?_; rintro e w1 ⟨rfl, hb1⟩)
      go_ret
      exact ⟨rfl, hb1⟩
    · exact small a0 cap0 l a1 a2 w h hb hc hl (by omega) (by omega) (by omega) (by omega)
  · clear h hb w0
    go_enter Try.func5, Try.ntmps5
    go_wp2_with (go_at_call 6; refine (live_calls _).mono ?_; rintro e w1 ⟨rfl, hb1⟩)
    go_ret
    exact ⟨rfl, hb1⟩

/- From the walk to the row. -/
set_option maxRecDepth 100000 in
theorem lifted (os : Os) (started : os.Started) (H : Type) (enc : TypeId × Value → H) :
    ReturnsInHanded {} Try.checked os 5 .any (Rows.crcFindsSpec.pre6 enc Try.prog Try.f5 Rows.crcFindsRow.domain false) (Rows.crcFindsSpec.post enc Try.prog Try.f5 false true false false) := by
  refine returnsInHanded_of_change (C := Try.checked) own started (by kernel_rfl) Try.func5
    (ChangeSpec.witness6 (enc := enc) (C := Try.checked) false ⟨#[], #[.slice none 0 0, .int .u16 0, .int .u32 0], []⟩ 8 (by kernel_rfl) (by kernel_rfl) (by kernel_rfl) (by kernel_rfl)) ?_
  intro W base args ds gs before hval0 hW hcnd _
  have hval : ∀ (j : Nat) t v, Try.f5.params[j]? = some t → args[j]? = some v → Value.okWide Try.prog W .any base t v := hval0
  have hW' := hW
  obtain ⟨p, q, hA0, hV, rfl, hfz, hnd⟩ := hW
  have hA : DataW.TrodAll enc Try.prog W 0 (fun _ => true) true Try.f5.params.toList args.toList ds p := hA0
  rw [Try.params5] at hA hval
  obtain ⟨v0, vs0, d0, ds0, p0, q0, hargs, rfl, rfl, h0, r0⟩ := trodAll_cons hA
  obtain ⟨v1, vs1, d1, ds1, p1, q1, rfl, rfl, rfl, h1, r1⟩ := trodAll_cons r0
  obtain ⟨v2, vs2, d2, ds2, p2, q2, rfl, rfl, rfl, h2, r2⟩ := trodAll_cons r1
  obtain ⟨rfl, rfl, rfl⟩ := trodAll_nil r2
  obtain rfl : args = #[v0, v1, v2] := by cases args; simp_all
  obtain ⟨rfl, rfl⟩ := trodVars_none hV
  obtain ⟨a0, len0, cap0, rfl⟩ := okWide_slice Try.underlying22 (hval 0 22 v0 rfl rfl)
  have k0 := h0
  have lt0 : ∀ x ∈ p0, x.block < W.heap.size := by obtain ⟨m, hm⟩ := k0; exact DataW.trod_lt m _ _ _ hm
  obtain ⟨z0, w0⟩ : ∃ zs, IsRow W a0 len0 cap0 zs := by
    obtain ⟨fuel, hf⟩ := h0
    rcases open_ints Try.underlying22 Try.underlying5 (by kernel_rfl) hf with ⟨hcs, _⟩ | ⟨x, l, c, zs, hcs, _, hl, hm, hz, _, hcell, hwz⟩
    · simp [Value.cells] at hcs
      obtain ⟨rfl, rfl, rfl⟩ := hcs
      exact ⟨[], .inl ⟨rfl, rfl, rfl, rfl⟩⟩
    · simp [Value.cells] at hcs
      obtain ⟨rfl, rfl, rfl⟩ := hcs
      exact ⟨zs, .inr ⟨_, rfl, hl, hm, by simpa using hz, hcell, hwz⟩⟩
  obtain ⟨a1, rfl, rfl, rfl, w1⟩ := open_int Try.underlying37 (hval 1 37 v1 rfl rfl) h1
  obtain ⟨a2, rfl, rfl, rfl, w2⟩ := open_int Try.underlying23 (hval 2 23 v2 rfl rfl) h2
  clear hA0 hval0
  refine (walk a0 len0 cap0 z0 a1 a2 W w0 w1 w2).mono fun e W' ⟨he, bel⟩ => ?_
  subst he
  exact ⟨_, rfl, _, _, _, [], _, [], hW', trodAll_mk1 (shut_bool Try.underlying4 _), (trodAll_cons_mk (Below.trod laidOut (by kernel_rfl) (of_decide_eq_true (by kernel_rfl)) k0 bel lt0) (trodAll_cons_mk (shut_int Try.underlying37 w1) (trodAll_cons_mk (shut_int Try.underlying23 w2) trodAll_mk0))), rfl, bel.frame _, fun h => by cases h⟩

theorem over : Rows.crcFindsRow.holds Try.pinned (OpenSpec.ofChange Rows.crcFindsSpec) :=
  OpenClaim.holds_of_wide 5 Try.f5 rfl rfl rfl rfl rfl rfl rfl ⟨rfl, rfl, rfl, rfl, rfl⟩ rfl rfl rfl rfl rfl (by kernel_rfl) Try.func5 (by kernel_rfl)
    (of_decide_eq_true (by kernel_rfl)) (by unfold Func.isWrapper; first | (rw [if_pos (by decide +kernel)]; kernel_rfl) | (rw [if_neg (by decide +kernel)]; exact ⟨rfl, rfl⟩))
    (fun os started H enc _ => lifted os started H enc)

end crcFinds

/-- The statement. -/
theorem crcFinds_holds : Rows.CrcFindsSaid := crcFinds.over
#print axioms crcFinds_holds
end Go.Proofs.Ytlffklkkdghnkaa
