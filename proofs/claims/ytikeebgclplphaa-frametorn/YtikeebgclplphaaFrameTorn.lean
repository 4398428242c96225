/-
  For every slice of byte slices and every number the law FrameTorn returns true (frames that were cut off anywhere are read up to the last whole one, and no further; and the example of the page holds), and the slices read afterwards as before. No conditions.
-/
import Derived.Test.YtikeebgclplphaaRows
import Derived.Test.YtikeebgclplphaaFT
namespace Go.Proofs.Ytikeebgclplphaa
namespace frameTorn
open Go.ChangeShapes Go.WideShapes Go.ChangeAt Go.RowKit
open Go.ChangeMaps (open_string shut_string)
set_option linter.unusedVariables false

set_option maxRecDepth 100000 in
set_option maxHeartbeats 1000000 in
theorem walk (a0 : Option Addr) (cap0 : Nat) (rs : List Elt) (a1 : Int) (w : World) (hcap : rs.length ≤ cap0) (h : CellsL w a0 cap0 rs) (he : EachL w rs) (hb : ∀ r ∈ rs, IsB r.2.2 ∧ r.2.2.length ≤ r.2.1 ∧ r.2.2.length ≤ maxLen) (w1 : (Lit.int .u16 a1).wf = true) :
    Calls Try.prog 5 #[.slice a0 rs.length cap0, .int .u16 a1] w fun e w' => e = .returned (.bool true) ∧ Below w.heap.size w w' := by
  have hu := bounds_u16 w1
  obtain ⟨hu0, hu1⟩ := hu
  clear w1
  by_cases hlen : rs.length ≤ 30
  · have HC := Lib.hid h
    have HE := Lib.hid he
    have HB := Lib.hid hb
    have hu35 := run_underlying (P := Try.prog) Try.underlying35
    have hst := Lib.hid (RelT.start w rs)
    clear h he hb
    go_enter Try.func5, Try.ntmps5
    go_wp2
    go_loopw [5, 6, 7] (RelT w rs) (fun _ _ i _ => rs.length - (intOf i).toNat)
    case atStart => exact hst.out
    case round =>
      obtain ⟨k, hk, rfl, h300, ⟨A5, c5, L, rfl, hL, hLT, hLc⟩, ⟨Ae, ce, es, rfl, hes, howe⟩, hbw⟩ := hrel
      have HL := Lib.hid hL
      have HES := Lib.hid hes
      have H300 := Lib.hid h300
      have HLT := Lib.hid hLT
      have HOE := Lib.hid howe
      have hLl : L.length ≤ 9390 := by
        rw [hL]
        have := flatF_bound _ h300
        rw [List.length_take] at this
        omega
      have hesl : es.length = k := by rw [hes, endsOf_length]
      have HEL := Lib.hid hesl
      have hesl2 : es.length ≤ 30 := by omega
      clear hL hes h300 hLT howe hesl
      by_cases hlt : k < rs.length
      · obtain ⟨b, o, hA, hbs, hcell⟩ := HC.out.at_ (by omega)
        have hck := (hbw.cell (p := ⟨b, o + k, none⟩) hbs).trans (hcell k hlt)
        have hEk := HE.out rs[k] (List.getElem_mem hlt)
        have hBk := HB.out rs[k] (List.getElem_mem hlt)
        have hdk : (listsOf rs)[k]? = some rs[k].2.2 := by simp [listsOf, hlt]
        obtain ⟨A3, c3, d, hr3⟩ : ∃ A3 c3 d, rs[k] = (A3, c3, d) := ⟨_, _, _, rfl⟩
        rw [hr3] at hck hEk hBk hdk
        simp only [eltVal] at hck
        subst hA
        have HEk := Lib.hid (hEk.below hbw)
        have HBk := Lib.hid hBk.1
        have HDk := Lib.hid hdk
        clear hr3 hEk hBk hdk hcell
        by_cases hd3 : d.length ≤ 300
        · have HP := Lib.hid (fput_calls A5 c5 L A3 c3 d wr HLT.out.1 HEk.out HBk.out (by omega) (by omega))
          obtain ⟨X, hX⟩ : ∃ X, X = L ++ encF d := ⟨_, rfl⟩
          rw [← hX] at HP
          have HX := Lib.hid hX
          clear hX
          go_wp2_with (first
            | (go_at_call 8; refine HP.out.mono ?_; rintro e w4 ⟨A4, c4, rfl, hown4, hb4⟩; dsimp only at hown4; have HO4 := Lib.hid hown4; have HOE4 := Lib.hid (HOE.out.below hb4); have hbw4 := Below.on hbw hb4; have hbw5 : Below w.heap.size w (w4.alloc (.cells #[.int .i64 (X.length : Int)] 3)) := hbw4.alloc hbw4.size _; clear hown4; dsimp only)
            | (go_at_call 9; refine (code_calls _ _).mono ?_; rintro e w5 ⟨rfl, rfl⟩)
            | (at_builtin; go_must (refine wpList_append_ints rfl _ _ 43 Try.underlying43 rfl w.heap.size Ae ce es rfl (HOE4.out.alloc _) ⟨w4.heap.size, 0, none⟩ 1 [(X.length : Int)] rfl (cells_one_int w4 _) (by simp; omega) hbw5.size ?_); intro A6 c6 w6 R hR hown6 hgrow6; have hb6 := OwnI.grow (HOE4.out.alloc _) hbw5 hgrow6 hbw5.size))
          go_roundw
          case rel => exact RelT.step hlt HDk.out hd3 H300.out HL.out HX.out HO4.out HES.out hR.out HOE4.out hown6 hgrow6 hb6
          case measure => simp [intOf]; omega
        · go_wp2_with (go_at_call 7; refine (live_calls _).mono ?_; rintro e w7 ⟨rfl, hb7⟩)
          go_ret
          exact ⟨rfl, Below.on hbw hb7⟩
      · obtain rfl : k = rs.length := by omega
        obtain ⟨w6, rfl⟩ : ∃ w6, w6 = wr := ⟨_, rfl⟩
        obtain ⟨l, hl⟩ : ∃ l, l = listsOf rs := ⟨_, rfl⟩
        have hll : l.length = rs.length := by rw [hl, listsOf_length]
        have htk : (listsOf rs).take rs.length = l := by rw [← hl, ← hll]; exact List.take_length
        have hLF := HL.out
        have h300 := H300.out
        have hes := HES.out
        rw [htk] at hLF h300
        rw [← hl, ← hll] at hes
        have HLF := Lib.hid hLF
        have H3 := Lib.hid h300
        have HE2 := Lib.hid hes
        have HLL := Lib.hid hll
        have HLS := Lib.hid hl
        clear hLF h300 hes htk HL HES H300 hl hll
        obtain ⟨q, hq⟩ : ∃ q : Nat, a1 % ((L.length : Int) + 1) = q := Int.eq_ofNat_of_zero_le (Int.emod_nonneg _ (by omega))
        have hqL : q ≤ L.length := by have := Int.emod_lt_of_pos a1 (show (0 : Int) < (L.length : Int) + 1 by omega); omega
        go_wp2_with fail
        go_loopw [11, 12, 13] (RelU w6 l q) (fun _ _ i _ => rs.length - (intOf i).toNat)
        case atStart => exact ⟨0, by omega, rfl, rfl, rfl, by simp [flatF], Below.refl _ _⟩
        case round =>
          obtain ⟨j, hj, rfl, rfl, rfl, hjq, hbr⟩ := hrel
          rw [HLL.out] at hj
          by_cases hgo : j < rs.length ∧ (flatF (l.take (j + 1))).length ≤ q
          · obtain ⟨g, hAe, hgs, hcell⟩ := HOE.out.at_ (by rw [HEL.out]; omega)
            have hck := (hbr.cell (p := ⟨g, j, none⟩) hgs).trans (hcell j (by rw [HEL.out]; omega))
            rw [HE2.out, endsOf_get l (by rw [HLL.out]; omega)] at hck
            subst hAe
            obtain ⟨hj1, hj2⟩ := hgo
            clear hcell
            have hje : j < es.length := by rw [HEL.out]; exact hj1
            obtain ⟨t, ht⟩ : ∃ t, t = (flatF (l.take (j + 1))).length := ⟨_, rfl⟩
            rw [← ht] at hck hj2
            have HT := Lib.hid ht
            clear ht
            generalize (flatF (l.take j)).length = p at *
            have hu43 := run_underlying (P := Try.prog) Try.underlying43
            go_wp2_with fail
            go_quiet (fail)
            go_wp2_with fail
            go_roundw
            case rel => exact ⟨j + 1, by rw [HLL.out]; omega, by go_num, by go_num, by rw [← HT.out], by rw [← HT.out]; exact hj2, hbr.trans ⟨rfl, rfl, rfl, Nat.le_refl _, fun _ _ => rfl⟩⟩
            case measure => simp [intOf]; omega
          · have hstop : j < rs.length → q < (flatF (l.take (j + 1))).length := fun h1 => by
              rcases Nat.lt_or_ge q (flatF (l.take (j + 1))).length with h2 | h2
              · exact h2
              · exact absurd ⟨h1, h2⟩ hgo
            have htorn := torn_at l H3.out q j (by rw [← HLF.out]; exact hqL) (by rw [HLL.out]; exact hj) hjq (by rw [HLL.out]; exact hstop)
            rw [← HLF.out] at htorn
            obtain ⟨A7, C7, hcut7, hcl7, hcc7⟩ := cut_h HLT.out.1 hLc q (q : Int) rfl hqL
            obtain ⟨A8, C8, hcut8, hcl8, hcc8⟩ := cut_rows_h 35 Try.underlying35 HC.out hcap j (j : Int) rfl hj
            have hbl : ∀ d ∈ l, IsB d ∧ d.length ≤ 1048576 := fun d hd => by
              have h1 := H3.out d hd
              rw [HLS.out] at hd
              obtain ⟨r, hr, rfl⟩ := List.mem_map.1 hd
              exact ⟨(HB.out r hr).1, by omega⟩
            have hLB : IsB L := by rw [HLF.out]; exact flatF_isB l hbl
            have hql : (L.take q).length = q := by rw [List.length_take]; omega
            have hA := fun (W : World) (hW : Below w6.heap.size w6 W) => fall_calls A7 C7 (L.take q) W (hcl7 W hW) (hLB.take q) hcc7 (by rw [hql]; omega)
            rw [htorn] at hA
            have HA := Lib.hid hA
            have HS := Lib.hid (fun (A' : Option Addr) (c' : Nat) (ra : List Elt) (W : World) (hW : Below w.heap.size w W) (h1 : CellsL W A' c' ra) (h2 : EachL W ra) (h3 : listsOf ra = l.take j) =>
              show Calls Try.prog 16 #[.slice A' ra.length c', .slice A8 (rs.take j).length C8] W (fun e w' => e = .returned (.bool true) ∧ Below W.heap.size W w') from by
                have h4 : listsOf (rs.take j) = l.take j := by rw [listsOf_take, HLS.out]
                have h5 : ra.length ≤ 30 := by rw [← listsOf_length, h3, List.length_take]; omega
                have := same_calls A' A8 c' C8 ra (rs.take j) W h1 (hcl8 W hW) h2 (fun r hr => (HE.out r (List.mem_of_mem_take hr)).below hW)
                  (fun r hr => by
                    have : r.2.2 ∈ l.take j := by rw [← h3]; exact List.mem_map.2 ⟨r, hr, rfl⟩
                    exact (hbl _ (List.mem_of_mem_take this)).1)
                  (fun r hr => (HB.out r (List.mem_of_mem_take hr)).1) (by omega) (by rw [List.length_take]; omega)
                rw [h3, h4, decide_eq_true rfl] at this
                exact this)
            have HRJ := Lib.hid (show (rs.take j).length = j by rw [List.length_take]; omega)
            have HQL := Lib.hid hql
            clear hcl7 hcl8 hA htorn hLB hbl hcc7 hcc8 hgo hql
            generalize L.take q = T at *
            generalize rs.take j = rt at *
            have hjs : j = rs.length ∨ j < rs.length := by omega
            have fin1 : (flatF (l.take j)).length = q ∨ (flatF (l.take j)).length < q := by omega
            generalize (flatF (l.take j)).length = p at *
            rcases hjs with hjs | hjs
            · have hlast : ¬ j < es.length := by rw [HEL.out]; omega
              clear hjs hstop
              rcases fin1 with fin1 | fin1
              · subst fin1
                rw [if_pos rfl] at HA
                go_wp2_with (first
                  | (go_at_call 14; refine (HA.out _ hbr).mono ?_; rintro e w9 ⟨A14, c14, ra, rfl, hca, hea, hla, hb9⟩; dsimp only at hla; have hbw9 := Below.on hbw (Below.on hbr hb9); have HSM := Lib.hid (HS.out A14 c14 ra w9 hbw9 hca hea hla); clear hca hea hla; dsimp only)
                  | (go_at_call 16; refine HSM.out.mono ?_; rintro e w10 ⟨rfl, hb10⟩)
                  | (go_at_call 9; refine (code_calls _ _).mono ?_; rintro e w11 ⟨rfl, rfl⟩)
                  | (go_at_call 7; refine (live_calls _).mono ?_; rintro e w12 ⟨rfl, hb12⟩))
                go_ret
                exact ⟨rfl, Below.on (Below.on hbw9 hb10) hb12⟩
              · rw [if_neg (by omega)] at HA
                have g1 : (p : Int) < (q : Int) := by omega
                have g2 : ((p : Int) == (q : Int)) = false := by simp; omega
                go_wp2_with (first
                  | (go_at_call 14; refine (HA.out _ hbr).mono ?_; rintro e w9 ⟨A14, c14, ra, rfl, hca, hea, hla, hb9⟩; dsimp only at hla; have hbw9 := Below.on hbw (Below.on hbr hb9); have HSM := Lib.hid (HS.out A14 c14 ra w9 hbw9 hca hea hla); clear hca hea hla; dsimp only)
                  | (go_at_call 16; refine HSM.out.mono ?_; rintro e w10 ⟨rfl, hb10⟩)
                  | (go_at_call 9; refine (code_calls _ _).mono ?_; rintro e w11 ⟨rfl, rfl⟩)
                  | (go_at_call 7; refine (live_calls _).mono ?_; rintro e w12 ⟨rfl, hb12⟩))
                go_ret
                exact ⟨rfl, Below.on (Below.on hbw9 hb10) hb12⟩
            · obtain ⟨g, hAe, hgs, hcell⟩ := HOE.out.at_ (by rw [HEL.out]; omega)
              have hck := (hbr.cell (p := ⟨g, j, none⟩) hgs).trans (hcell j (by rw [HEL.out]; omega))
              rw [HE2.out, endsOf_get l (by rw [HLL.out]; omega)] at hck
              have hbig := hstop hjs
              have hje : j < es.length := by rw [HEL.out]; exact hjs
              subst hAe
              have hu43 := run_underlying (P := Try.prog) Try.underlying43
              clear hcell hstop hjs
              generalize (flatF (l.take (j + 1))).length = t at *
              rcases fin1 with fin1 | fin1
              · subst fin1
                rw [if_pos rfl] at HA
                go_wp2_with (first
                  | (go_at_call 14; refine (HA.out _ hbr).mono ?_; rintro e w9 ⟨A14, c14, ra, rfl, hca, hea, hla, hb9⟩; dsimp only at hla; have hbw9 := Below.on hbw (Below.on hbr hb9); have HSM := Lib.hid (HS.out A14 c14 ra w9 hbw9 hca hea hla); clear hca hea hla; dsimp only)
                  | (go_at_call 16; refine HSM.out.mono ?_; rintro e w10 ⟨rfl, hb10⟩)
                  | (go_at_call 9; refine (code_calls _ _).mono ?_; rintro e w11 ⟨rfl, rfl⟩)
                  | (go_at_call 7; refine (live_calls _).mono ?_; rintro e w12 ⟨rfl, hb12⟩))
                go_ret
                exact ⟨rfl, Below.on (Below.on hbw9 hb10) hb12⟩
              · rw [if_neg (by omega)] at HA
                have g1 : (p : Int) < (q : Int) := by omega
                have g2 : ((p : Int) == (q : Int)) = false := by simp; omega
                go_wp2_with (first
                  | (go_at_call 14; refine (HA.out _ hbr).mono ?_; rintro e w9 ⟨A14, c14, ra, rfl, hca, hea, hla, hb9⟩; dsimp only at hla; have hbw9 := Below.on hbw (Below.on hbr hb9); have HSM := Lib.hid (HS.out A14 c14 ra w9 hbw9 hca hea hla); clear hca hea hla; dsimp only)
                  | (go_at_call 16; refine HSM.out.mono ?_; rintro e w10 ⟨rfl, hb10⟩)
                  | (go_at_call 9; refine (code_calls _ _).mono ?_; rintro e w11 ⟨rfl, rfl⟩)
                  | (go_at_call 7; refine (live_calls _).mono ?_; rintro e w12 ⟨rfl, hb12⟩))
                go_ret
                exact ⟨rfl, Below.on (Below.on hbw9 hb10) hb12⟩
  · clear h he hb
    go_enter Try.func5, Try.ntmps5
    go_wp2_with (go_at_call 7; refine (live_calls _).mono ?_; rintro e w1 ⟨rfl, hb1⟩)
    go_ret
    exact ⟨rfl, hb1⟩

/- From the walk to the row. -/
set_option maxRecDepth 100000 in
theorem lifted (os : Os) (started : os.Started) (H : Type) (enc : TypeId × Value → H) :
    ReturnsInHanded {} Try.checked os 5 .any (Rows.frameTornSpec.pre6 enc Try.prog Try.f5 Rows.frameTornRow.domain false) (Rows.frameTornSpec.post enc Try.prog Try.f5 false true false false) := by
  refine returnsInHanded_of_change (C := Try.checked) own started (by kernel_rfl) Try.func5
    (ChangeSpec.witness6 (enc := enc) (C := Try.checked) false ⟨#[], #[.slice none 0 0, .int .u16 0], []⟩ 8 (by kernel_rfl) (by kernel_rfl) (by kernel_rfl) (by kernel_rfl)) ?_
  intro W base args ds gs before hval0 hW hcnd _
  have hval : ∀ (j : Nat) t v, Try.f5.params[j]? = some t → args[j]? = some v → Value.okWide Try.prog W .any base t v := hval0
  have hW' := hW
  obtain ⟨p, q, hA0, hV, rfl, hfz, hnd⟩ := hW
  have hA : DataW.TrodAll enc Try.prog W 0 (fun _ => true) true Try.f5.params.toList args.toList ds p := hA0
  rw [Try.params5] at hA hval
  obtain ⟨v0, vs0, d0, ds0, p0, q0, hargs, rfl, rfl, h0, r0⟩ := trodAll_cons hA
  obtain ⟨v1, vs1, d1, ds1, p1, q1, rfl, rfl, rfl, h1, r1⟩ := trodAll_cons r0
  obtain ⟨rfl, rfl, rfl⟩ := trodAll_nil r1
  obtain rfl : args = #[v0, v1] := by cases args; simp_all
  obtain ⟨rfl, rfl⟩ := trodVars_none hV
  obtain ⟨a0, len0, cap0, rfl⟩ := okWide_slice Try.underlying35 (hval 0 35 v0 rfl rfl)
  have k0 := h0
  have lt0 : ∀ x ∈ p0, x.block < W.heap.size := by obtain ⟨m, hm⟩ := k0; exact DataW.trod_lt m _ _ _ hm
  obtain ⟨rs, hrl, hrc, hrm, hcl, heach, hrb⟩ : ∃ rs : List Elt, rs.length = len0 ∧ rs.length ≤ cap0 ∧ rs.length ≤ maxLen ∧ CellsL W a0 cap0 rs ∧ EachL W rs ∧ ∀ r ∈ rs, IsB r.2.2 ∧ r.2.2.length ≤ r.2.1 ∧ r.2.2.length ≤ maxLen := by
    obtain ⟨fuel, hf⟩ := h0
    exact rows_of_arg 35 Try.underlying35 hf
  subst hrl
  obtain ⟨a1, rfl, rfl, rfl, w1⟩ := open_int Try.underlying42 (hval 1 42 v1 rfl rfl) h1
  clear hA0 hval0
  refine (walk a0 cap0 rs a1 W hrc hcl heach hrb w1).mono fun e W' ⟨he, bel⟩ => ?_
  subst he
  exact ⟨_, rfl, _, _, _, [], _, [], hW', trodAll_mk1 (shut_bool Try.underlying4 _), (trodAll_cons_mk (Below.trod laidOut (by kernel_rfl) (of_decide_eq_true (by kernel_rfl)) k0 bel lt0) (trodAll_cons_mk (shut_int Try.underlying42 w1) trodAll_mk0)), rfl, bel.frame _, fun h => by cases h⟩

theorem over : Rows.frameTornRow.holds Try.pinned (OpenSpec.ofChange Rows.frameTornSpec) :=
  OpenClaim.holds_of_wide 5 Try.f5 rfl rfl rfl rfl rfl rfl rfl ⟨rfl, rfl, rfl, rfl, rfl⟩ rfl rfl rfl rfl rfl (by kernel_rfl) Try.func5 (by kernel_rfl)
    (of_decide_eq_true (by kernel_rfl)) (by unfold Func.isWrapper; first | (rw [if_pos (by decide +kernel)]; kernel_rfl) | (rw [if_neg (by decide +kernel)]; exact ⟨rfl, rfl⟩))
    (fun os started H enc _ => lifted os started H enc)

end frameTorn

/-- The statement. -/
theorem frameTorn_holds : Rows.FrameTornSaid := frameTorn.over
#print axioms frameTorn_holds
end Go.Proofs.Ytikeebgclplphaa
