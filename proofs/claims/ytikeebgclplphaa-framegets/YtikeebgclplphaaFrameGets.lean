/-
  For every byte slice and every index the law FrameGets returns true (frame.Get and frame.All answer as the document does, and the example of the page holds), and the slice reads afterwards as before. No conditions.
-/
import Derived.Test.YtikeebgclplphaaRows
import Derived.Test.YtikeebgclplphaaFSame
import Derived.Test.YtikeebgclplphaaFLive
namespace Go.Proofs.Ytikeebgclplphaa
namespace frameGets
open Go.ChangeShapes Go.WideShapes Go.ChangeAt Go.RowKit
open Go.ChangeMaps (open_string shut_string)
set_option linter.unusedVariables false

theorem isB_of_lists {rs : List Elt} {L : List (List Int)} (h : listsOf rs = L) (hL : ∀ d ∈ L, IsB d) : ∀ r ∈ rs, IsB r.2.2 := fun r hr => hL _ (by rw [← h]; exact List.mem_map.2 ⟨r, hr, rfl⟩)
theorem allFrom_length (b : List Int) (hb : IsB b) : ∀ (f i : Nat), (allFrom f b i).1.length ≤ b.length - i := by
  intro f
  induction f with
  | zero => intro i; simp [allFrom]
  | succ f ih =>
    intro i
    unfold allFrom
    split
    · split
      · rename_i h1 h2
        have hn := getF_next b hb i (getF b i).1 (getF b i).2.1 (by rw [← h2])
        have := ih (getF b i).2.1.toNat
        simp only [List.length_cons]
        omega
      · simp
    · simp

set_option maxRecDepth 20000 in
set_option maxHeartbeats 4000000 in
theorem small (A : Option Addr) (c : Nat) (l : List Int) (i : Int) (w : World) (h : Lies w A c l) (hb : IsB l) (hc : l.length ≤ c) (hl : l.length ≤ 3000) :
    Calls Try.prog 4 #[.slice A l.length c, .int .i64 i] w fun e w' => e = .returned (.bool true) ∧ Below w.heap.size w w' := by
  have HG := Lib.hid (fget_calls A c l i w h hb hc (by omega))
  have HR := Lib.hid (fun (W : World) (hW : Below w.heap.size w W) => rfget_calls A c l i w W h hW hb hc (by omega))
  have HA := Lib.hid (fun (W : World) (hW : Below w.heap.size w W) => fall_calls A c l W (h.below hW) hb hc (by omega))
  have HB := Lib.hid (fun (W : World) (hW : Below w.heap.size w W) => rall_calls A c l W (h.below hW) hb hc (by omega))
  obtain ⟨d, x, e, hg⟩ : ∃ d x e, getF l i = (d, x, e) := ⟨_, _, _, rfl⟩
  obtain ⟨L, y, f, ha⟩ : ∃ L y f, allF l = (L, y, f) := ⟨_, _, _, rfl⟩
  have hLB := allF_isB l hb
  have hLl := allFrom_length l hb (l.length + 1) 0
  rw [show allFrom (l.length + 1) l 0 = allF l from rfl, ha] at hLl
  rw [ha] at HA HB hLB
  rw [hg] at HG HR
  dsimp only at hLl hLB
  have hLl2 : L.length ≤ 3000 := by omega
  have HLB := Lib.hid hLB
  clear h hb hg ha hLB hLl
  go_enter Try.func4, Try.ntmps4
  go_wp2_with (first
    | (go_at_call 12; refine HG.out.mono ?_; rintro e' w1 ⟨A5, c5, rfl, hL5, hc5, hT5, hb1⟩; dsimp only at hL5; replace hL5 := Lib.hid hL5; clear hc5 hT5; dsimp only)
    | (go_at_call 13; refine (HR.out _ hb1).mono ?_; rintro e' w2 ⟨A8, c8, rfl, hL8, hc8, hb2⟩; dsimp only at hL8; replace hL8 := Lib.hid hL8; clear hc8; have hb12 := Below.on hb1 hb2; dsimp only)
    | (go_at_call 14; refine (HA.out _ hb12).mono ?_; rintro e' w3 ⟨A11, c11, ra, rfl, hca, hea, hla, hb3⟩; dsimp only at hla; replace hca := Lib.hid hca; replace hea := Lib.hid hea; replace hla := Lib.hid hla; have hb13 := Below.on hb12 hb3; dsimp only)
    | (go_at_call 15; refine (HB.out _ hb13).mono ?_; rintro e' w4 ⟨A14, c14, rb, rfl, hcb, heb, hlb, hb4⟩; dsimp only at hlb; replace hcb := Lib.hid hcb; replace heb := Lib.hid heb; replace hlb := Lib.hid hlb; have hb14 := Below.on hb13 hb4; have hs5 := run_str (hL5.out.below (Below.on (Below.on hb2 hb3) hb4)); have hs8 := run_str (hL8.out.below hb14); have HSM := Lib.hid (same_calls A11 A14 c11 c14 ra rb w4 (hca.out.below hb4) hcb.out (hea.out.below hb4) heb.out (isB_of_lists hla.out HLB.out) (isB_of_lists hlb.out HLB.out) (by rw [← listsOf_length, hla.out]; omega) (by rw [← listsOf_length, hlb.out]; omega)); rw [hla.out, hlb.out, decide_eq_true rfl] at HSM; dsimp only)
    | (go_at_call 16; refine HSM.out.mono ?_; rintro e' w5 ⟨rfl, hb5⟩)
    | (go_at_call 9; refine (code_calls _ _).mono ?_; rintro e' w6 ⟨rfl, rfl⟩)
    | (go_at_call 7; refine (live_calls _).mono ?_; rintro e' w7 ⟨rfl, hb7⟩))
  go_ret
  exact ⟨rfl, Below.on (Below.on hb14 hb5) hb7⟩

theorem walk (a0 : Option Addr) (len0 cap0 : Nat) (z0 : List Int) (a1 : Int) (w : World) (w0 : IsRow w a0 len0 cap0 z0) (w1 : (Lit.int .i64 a1).wf = true) :
    Calls Try.prog 4 #[.slice a0 len0 cap0, .int .i64 a1] w fun e w' => e = .returned (.bool true) ∧ Below w.heap.size w w' := by
  obtain ⟨l, rfl, hc, hm, h, hb⟩ := bytes_of_row w0
  by_cases hl : l.length ≤ 3000
  · exact small a0 cap0 l a1 w h hb hc hl
  · clear h hb w0 hm
    go_enter Try.func4, Try.ntmps4
    go_wp2_with (go_at_call 7; refine (live_calls _).mono ?_; rintro e w1 ⟨rfl, hb1⟩)
    go_ret
    exact ⟨rfl, hb1⟩

/- From the walk to the row. -/
set_option maxRecDepth 100000 in
theorem lifted (os : Os) (started : os.Started) (H : Type) (enc : TypeId × Value → H) :
    ReturnsInHanded {} Try.checked os 4 .any (Rows.frameGetsSpec.pre6 enc Try.prog Try.f4 Rows.frameGetsRow.domain false) (Rows.frameGetsSpec.post enc Try.prog Try.f4 false true false false) := by
  refine returnsInHanded_of_change (C := Try.checked) own started (by kernel_rfl) Try.func4
    (ChangeSpec.witness6 (enc := enc) (C := Try.checked) false ⟨#[], #[.slice none 0 0, .int .i64 0], []⟩ 8 (by kernel_rfl) (by kernel_rfl) (by kernel_rfl) (by kernel_rfl)) ?_
  intro W base args ds gs before hval0 hW hcnd _
  have hval : ∀ (j : Nat) t v, Try.f4.params[j]? = some t → args[j]? = some v → Value.okWide Try.prog W .any base t v := hval0
  have hW' := hW
  obtain ⟨p, q, hA0, hV, rfl, hfz, hnd⟩ := hW
  have hA : DataW.TrodAll enc Try.prog W 0 (fun _ => true) true Try.f4.params.toList args.toList ds p := hA0
  rw [Try.params4] at hA hval
  obtain ⟨v0, vs0, d0, ds0, p0, q0, hargs, rfl, rfl, h0, r0⟩ := trodAll_cons hA
  obtain ⟨v1, vs1, d1, ds1, p1, q1, rfl, rfl, rfl, h1, r1⟩ := trodAll_cons r0
  obtain ⟨rfl, rfl, rfl⟩ := trodAll_nil r1
  obtain rfl : args = #[v0, v1] := by cases args; simp_all
  obtain ⟨rfl, rfl⟩ := trodVars_none hV
  obtain ⟨a0, len0, cap0, rfl⟩ := okWide_slice Try.underlying22 (hval 0 22 v0 rfl rfl)
  have k0 := h0
  have lt0 : ∀ x ∈ p0, x.block < W.heap.size := by obtain ⟨m, hm⟩ := k0; exact DataW.trod_lt m _ _ _ hm
  obtain ⟨z0, w0⟩ : ∃ zs, IsRow W a0 len0 cap0 zs := by
    obtain ⟨fuel, hf⟩ := h0
    rcases open_ints Try.underlying22 Try.underlying5 (by kernel_rfl) hf with ⟨hcs, _⟩ | ⟨x, l, c, zs, hcs, _, hl, hm, hz, _, hcell, hwz⟩
    · simp [Value.cells] at hcs
      obtain ⟨rfl, rfl, rfl⟩ := hcs
      exact ⟨[], .inl ⟨rfl, rfl, rfl, rfl⟩⟩
    · simp [Value.cells] at hcs
      obtain ⟨rfl, rfl, rfl⟩ := hcs
      exact ⟨zs, .inr ⟨_, rfl, hl, hm, by simpa using hz, hcell, hwz⟩⟩
  obtain ⟨a1, rfl, rfl, rfl, w1⟩ := open_int Try.underlying3 (hval 1 3 v1 rfl rfl) h1
  clear hA0 hval0
  refine (walk a0 len0 cap0 z0 a1 W w0 w1).mono fun e W' ⟨he, bel⟩ => ?_
  subst he
  exact ⟨_, rfl, _, _, _, [], _, [], hW', trodAll_mk1 (shut_bool Try.underlying4 _), (trodAll_cons_mk (Below.trod laidOut (by kernel_rfl) (of_decide_eq_true (by kernel_rfl)) k0 bel lt0) (trodAll_cons_mk (shut_int Try.underlying3 w1) trodAll_mk0)), rfl, bel.frame _, fun h => by cases h⟩

theorem over : Rows.frameGetsRow.holds Try.pinned (OpenSpec.ofChange Rows.frameGetsSpec) :=
  OpenClaim.holds_of_wide 4 Try.f4 rfl rfl rfl rfl rfl rfl rfl ⟨rfl, rfl, rfl, rfl, rfl⟩ rfl rfl rfl rfl rfl (by kernel_rfl) Try.func4 (by kernel_rfl)
    (of_decide_eq_true (by kernel_rfl)) (by unfold Func.isWrapper; first | (rw [if_pos (by decide +kernel)]; kernel_rfl) | (rw [if_neg (by decide +kernel)]; exact ⟨rfl, rfl⟩))
    (fun os started H enc _ => lifted os started H enc)

end frameGets

/-- The statement. -/
theorem frameGets_holds : Rows.FrameGetsSaid := frameGets.over
#print axioms frameGets_holds
end Go.Proofs.Ytikeebgclplphaa
