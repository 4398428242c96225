/-
  Contract of the program's Right. Conditions: expressions of at most 3000 parts; the table of the operations lies in memory.
  Contract of the program's Same, by slices.EqualFunc. Conditions: expressions of at most 3000 parts.
  The contract of the laws' example, out of what the program's Text answers. Conditions: as in the premises.
  What the program's functions of layer 9 answer when the listed variables read as they must. Conditions: the row's own.
-/
import Derived.Test.YtkaapfakalojaaaDoorC8
namespace Go.Proofs.YtkaapfakalojaaaDoor
open Go.ChangeShapes Go.WideShapes Go.ChangeAt Go.RowKit Go.Shelf
set_option linter.unusedVariables false
attribute [local go_sem] Oper.semAt_some
set_option maxRecDepth 100000 in
set_option maxHeartbeats 4000000 in
theorem right_calls (e : Ex) (w : World) (hsz : e.size ≤ 3000) (hAt : e.At w) (hT : OpTab w) : Calls Tryd.prog 13 #[e.v] w fun q w' => q = .returned (.int .i64 e.right) ∧ Below w.heap.size w w' := by
  have HP := Lib.hid (fun W => parts_calls e W)
  have HOT := Lib.hid (fun W (hW : Below w.heap.size w W) => hT.below hW)
  have HLE := Lib.hid (walk_length e 1)
  have HDP := Lib.hid (show maxd (e.walk 1) = e.deep by have := walk_maxd e 1 (by omega); omega)
  have HMI := Lib.hid (walk_mis e 1)
  have HLO := Lib.hid (walk_long e 1)
  have bx := Blk.new w e.cells 26
  have b1 := Blk.new (w.alloc (.cells e.cells 26)) #[.int .i64 0] 31
  have b2 := Blk.new ((w.alloc (.cells e.cells 26)).alloc (.cells #[.int .i64 0] 31)) #[.slice none 0 0] 24
  have b3 := Blk.new (((w.alloc (.cells e.cells 26)).alloc (.cells #[.int .i64 0] 31)).alloc (.cells #[.slice none 0 0] 24)) #[.int .i64 0] 3
  have b4 := Blk.new ((((w.alloc (.cells e.cells 26)).alloc (.cells #[.int .i64 0] 31)).alloc (.cells #[.slice none 0 0] 24)).alloc (.cells #[.int .i64 0] 3)) e.cells 26
  have c1 := ((b1.alloc (.cells #[.slice none 0 0] 24)).alloc (.cells #[.int .i64 0] 3)).alloc (.cells e.cells 26)
  have c2 := (b2.alloc (.cells #[.int .i64 0] 3)).alloc (.cells e.cells 26)
  have c3 := b3.alloc (.cells e.cells 26)
  simp only [World.size_alloc] at c1 c2 c3 b4
  have hst : RtI w e [] (((((w.alloc (.cells e.cells 26)).alloc (.cells #[.int .i64 0] 31)).alloc (.cells #[.slice none 0 0] 24)).alloc (.cells #[.int .i64 0] 3)).alloc (.cells e.cells 26)) :=
    ⟨c1, ⟨none, 0, c2, OwnG.nil _ _⟩, c3, b4, ((((below_one w _).alloc (by simp) _).alloc (by simp; omega) _).alloc (by simp; omega) _).alloc (by simp; omega) _, by simp⟩
  have HST := Lib.hid hst
  have HIT := Lib.hid (fun W => iter_visits 3 w W e hsz hAt (w.heap.size + 1 + 1 + 1 + 1))
  clear b1 b2 b3 b4 c1 c2 c3 hst
  unfold Ex.cells at bx HST HP
  unfold Ex.v at HP ⊢
  obtain ⟨x0, x1, x2, x3, x4⟩ := bx.cells5
  clear bx
  obtain ⟨whole, hwh⟩ : ∃ whole, whole = e.walk 1 := ⟨_, rfl⟩
  have HWH := Lib.hid hwh
  rw [← hwh] at HIT
  obtain ⟨rt, hrt⟩ : ∃ rt, rt = e.right := ⟨_, rfl⟩
  rw [← hrt]
  have HRT := Lib.hid hrt
  clear hwh hAt hrt hT
  refine (callsIn_wide (n := 4)).1 ?_
  refine callsIn_of_wp_marks Tryd.func13 rfl trivial ?_ rfl
  simp only [Tryd.ntmps13, List.size_toArray, List.length_cons, List.length_nil, Nat.reduceAdd, Nat.reduceSub, Array.replicate_succ, Array.replicate_zero, List.push_toArray, List.append_toArray, List.nil_append, List.cons_append]
  gi_wp2
  refine ⟨trivial, ?_⟩
  refine (callsIn_wide.2 (HP.out _)).mono ?_
  rintro r w' ⟨rfl, rfl⟩
  gi_wp2
  have hI0 := HST.out
  refine range_law (α := Pt) rfl (by omega) (gf := 42) (lb := #[.pointer (some ⟨w.heap.size + 1 + 1 + 1 + 1, 0, none⟩)]) rfl trivial (enters_of Tryd.func42 (by kernel_rfl) rfl)
    (HIT.out _) (fun _ => rfl) w.heap.size (by simp; omega) (RtC w) (RtI w e) (RtX w) (RtA w e) RtI.stays RtX.stays RtA.stays
    (fun pre W hi => ⟨hi.b, hi.bx⟩) RtC.stays hI0 ?assign ?body ?done ?stop
  case assign =>
    rintro L pre ⟨d, y⟩ W K hi hfx hK
    dsimp only [ptVals]
    have HFX := Lib.hid hfx.2
    have hbb := below_one W (.cells y.cells 26)
    have hst := Stays.of_below (n := w.heap.size) hbb hi.b.size
    have hcc := KpC.of_below (C := RtC w) hbb (fun k hk => RtC.stays pre W _ k hi hst hk)
    have HK := Lib.hid (hK { tmps := (RtAct w e (d, y) W.heap.size).tmps, defers := [] } (W.alloc (.cells y.cells 26)) (KeepsOthers.alloc _ _) hcc (hi.stays _ _ _ hst) ⟨W.heap.size, rfl, Blk.new _ _ _, by rw [← HWH.out]; exact HFX.out, hi.bx.lt⟩)
    unfold Ex.cells at HK
    unfold RtAct Ex.v at HK
    unfold Ex.v
    clear hI0 hfx hbb hst hcc hK hi HST HIT
    gi_wp2
    exact HK.out
  case body =>
    rintro L pre ⟨d, y⟩ a' W hi ⟨Bf, rfl, hbf, hpf, hBf⟩
    dsimp only [RtAct]
    obtain ⟨A, c, hb2, hown⟩ := hi.row
    obtain ⟨y0, y1, y2, y3, y4⟩ := cells5_of hbf
    have hle := hi.le
    have HI := Lib.hid hi
    have HB2 := Lib.hid hb2
    have HBF := Lib.hid hbf
    have HOWN := Lib.hid hown
    have HPF := Lib.hid hpf
    have hpm : (pre.map (·.2)).length = pre.length := by simp
    have c2 : W.cell? ⟨w.heap.size + 1 + 1, 0, none⟩ = some (.slice A (pre.map (·.2)).length c) := hb2.cell 0
    have f2 := hb2.free 0
    have c1 : W.cell? ⟨w.heap.size + 1, 0, none⟩ = some (.int .i64 0) := hi.res.cell 0
    have f1 := hi.res.free 0
    have hwlt : w.heap.size + 1 + 1 + 1 + 1 < W.heap.size := hi.bx.lt
    by_cases hl : pre.length = 200
    · have HS := Lib.hid (hi.stop (x := (d, y)) hl)
      rw [hpm, hl] at c2
      clear hI0 hi hbf hpf hb2 hown HB2 HOWN y0 y1 y2 y3 y4 hle hpm hl HST HIT
      gi_wp2
      exact HS.out
    · have hl2 : pre.length < 200 := by omega
      rw [hpm] at c2
      have hne : ((pre.length : Int) == 200) = false := by simp; omega
      have HL := Lib.hid hl2
      obtain ⟨ln, hln⟩ : ∃ ln, ln = pre.length := ⟨_, rfl⟩
      have HLN := Lib.hid hln
      rw [← hln] at c2 hne
      clear hI0 hi hbf hpf hb2 hown hle hpm hl hl2 hln HST HIT
      gi_wp2
      have hlm : (pre.map (·.2)).length = ln := by rw [HLN.out]; simp
      have HLM := Lib.hid hlm
      have HOWNZ := Lib.hid (show OwnG 26 5 enX (w.heap.size + 1 + 1 + 1 + 1 + 1) (W.alloc (Obj.cells #[Value.int IntKind.i64 0, Value.int IntKind.u8 0, Value.int IntKind.i64 0, Value.string ⟨#[]⟩, Value.slice none 0 0] 26)).drew A c (pre.map (·.2)) from OwnG.alloc HOWN.out _)
      have HZX := Lib.hid (show CellsG enX (W.alloc (Obj.cells #[Value.int IntKind.i64 0, Value.int IntKind.u8 0, Value.int IntKind.i64 0, Value.string ⟨#[]⟩, Value.slice none 0 0] 26)).drew (some ⟨W.heap.size, 0, none⟩) 1 [zX] from cells_one_val elX W zX _ rfl)
      have bz := Blk.alloc HBF.out (Obj.cells #[Value.int IntKind.i64 0, Value.int IntKind.u8 0, Value.int IntKind.i64 0, Value.string ⟨#[]⟩, Value.slice none 0 0] 26)
      obtain ⟨z0, z1, z2, z3, z4⟩ := cells5_of bz
      have c2z : (W.alloc (Obj.cells #[Value.int IntKind.i64 0, Value.int IntKind.u8 0, Value.int IntKind.i64 0, Value.string ⟨#[]⟩, Value.slice none 0 0] 26)).cell? ⟨w.heap.size + 1 + 1, 0, none⟩ = some (.slice A ln c) := by have := (Blk.alloc HB2.out (Obj.cells #[Value.int IntKind.i64 0, Value.int IntKind.u8 0, Value.int IntKind.i64 0, Value.string ⟨#[]⟩, Value.slice none 0 0] 26)).cell 0; rw [hlm] at this; exact this
      clear hlm bz
      refine Code.wpIn_mono (Q := fun ex a9 W9 => ex = .normal ∧ ∃ v14 v15 v16 v17 v18 v19, a9 = { tmps := #[e.v, .pointer (some ⟨w.heap.size, 0, none⟩), .pointer (some ⟨w.heap.size + 1, 0, none⟩), .pointer (some ⟨w.heap.size + 1 + 1, 0, none⟩), .pointer (some ⟨w.heap.size + 1 + 1 + 1, 0, none⟩), .int .i64 d, .pointer (some ⟨Bf, 0, none⟩), e.v,
        .func (.func 42) #[] #[.pointer (some ⟨w.heap.size + 1 + 1 + 1 + 1, 0, none⟩)], .int .i64 d, y.v, .slice A ln c, .int .i64 ln, .bool false, v14, v15, v16, v17, v18, v19, undef, undef, undef, undef, undef, undef, undef, undef, undef, undef, undef, undef], defers := [] } ∧ RtPut w e pre (d, y) W W9) ?_ ?_
      · rintro ex a9 W9 ⟨rfl, v14, v15, v16, v17, v18, v19, rfl, hP9⟩
        have c3 : W9.cell? ⟨w.heap.size + 1 + 1 + 1, 0, none⟩ = some (.int .i64 (maxd pre)) := hP9.dp.cell 0
        have f3 := hP9.dp.free 0
        obtain ⟨mx, hmx⟩ : ∃ mx, mx = maxd pre := ⟨_, rfl⟩
        rw [← hmx] at c3
        have HM := Lib.hid hmx
        have HP9 := Lib.hid hP9
        clear hP9 hmx c2 c2z f2 c1 f1 y0 y1 y2 y3 y4 z0 z1 z2 z3 z4 hne
        gi_wp2
        all_goals exact HP9.out.set HL.out _ (by rw [maxd_snoc, ← HM.out] <;> (dsimp only; omega))
      refine wpIn_region_any (by kernel_rfl) ?_
      change wpAnyIn _ _ _ _ _ _ _ _ _ (World.drew _)
      refine wpAnyIn_ready (rs := [0, 1, 3]) (by kernel_rfl) (by simp) ?_
      refine AllReadyIn.cons rfl (fun K hK => ?_) ?_
      · skip
        go_simp
        refine hK _ _ ?_
        clear hK K
        refine wpAnyIn_ready (rs := [1, 2, 3]) (by kernel_rfl) (by simp) ?_
        refine AllReadyIn.cons rfl (fun K hK => ?_) ?_
        · skip
          go_simp
          refine hK _ _ ?_
          clear hK K
          refine wpAnyIn_ready (rs := [2, 3]) (by kernel_rfl) (by simp) ?_
          refine AllReadyIn.cons rfl (fun K hK => ?_) ?_
          · skip
            go_simp
            refine hK _ _ ?_
            clear hK K
            refine wpAnyIn_ready (rs := [3]) (by kernel_rfl) (by simp) ?_
            refine AllReadyIn.cons rfl (fun K hK => ?_) ?_
            · skip
              go_simp
              refine hK _ _ ?_
              clear hK K
              refine wpAnyIn_ready (rs := [4]) (by kernel_rfl) (by simp) ?_
              refine AllReadyIn.cons rfl (fun K hK => ?_) ?_
              · skip
                refine stepIn_append_X rfl (.tmp 14) (.tmp 17) rfl (w.heap.size + 1 + 1 + 1 + 1 + 1) A c (pre.map (·.2)) (by rw [HLM.out]; rfl) HOWNZ.out (some ⟨W.heap.size, 0, none⟩) 1 [zX] rfl HZX.out (by rw [HLM.out]; have := HL.out; have := HLN.out; simp; omega) (by simp; omega) ?_
                intro A7 c7 W5 R hR ho5 hg5 hgr5
                refine hK _ _ ?_
                clear hK K
                obtain ⟨g, cur, hA7, hBg, hbg, hcur, hput⟩ := own_put (by rw [← hR.out]; exact ho5 : OwnG 26 5 enX (w.heap.size + 1 + 1 + 1 + 1 + 1) W5 A7 c7 (pre.map (·.2) ++ [zX]))
                subst hA7
                obtain ⟨rn, hrn⟩ : ∃ rn, Hid (rn = R.length) := ⟨_, Lib.hid rfl⟩
                rw [← hrn.out]
                have hrl : (ln : Int) < (rn : Int) := by rw [hrn.out, hR.out, List.length_append, HLM.out]; simp; omega
                rw [HLM.out] at hcur
                have b25 : Blk W5 (w.heap.size + 1 + 1) #[.slice A ln c] 24 := by have h := (show Blk (W.alloc (Obj.cells #[Value.int IntKind.i64 0, Value.int IntKind.u8 0, Value.int IntKind.i64 0, Value.string ⟨#[]⟩, Value.slice none 0 0] 26)).drew (w.heap.size + 1 + 1) _ 24 from Blk.alloc HB2.out _).grown hg5 (fun e => by have := (HOWN.out.row _ e).1; omega); rw [HLM.out] at h; exact h
                have q25 : W5.cell? ⟨w.heap.size + 1 + 1, 0, none⟩ = some (.slice A ln c) := b25.cell 0
                have g25 := b25.free 0
                refine wpAnyIn_ready (rs := [5, 7]) (by kernel_rfl) (by simp) ?_
                refine AllReadyIn.cons rfl (fun K hK => ?_) ?_
                · skip
                  go_simp
                  refine hK _ _ ?_
                  clear hK K
                  refine wpAnyIn_ready (rs := [6, 7]) (by kernel_rfl) (by simp) ?_
                  refine AllReadyIn.cons rfl (fun K hK => ?_) ?_
                  · skip
                    refine stepIn_store5 rfl (.tmp 19) (.tmp 15) rfl g (ln * 5) cur hbg hcur y rfl rfl ?_
                    intro W6 h6b h6k h6s h60
                    refine hK _ _ ?_
                    clear hK K
                    have b26 : Blk W6 (w.heap.size + 1 + 1) #[.slice A ln c] 24 := (h6k _ (by omega)).trans b25
                    have q26 : W6.cell? ⟨w.heap.size + 1 + 1, 0, none⟩ = some (.slice A ln c) := b26.cell 0
                    have g26 := b26.free 0
                    refine wpAnyIn_ready (rs := [7]) (by kernel_rfl) (by simp) ?_
                    refine AllReadyIn.cons rfl (fun K hK => ?_) ?_
                    · skip
                      go_simp
                      refine hK _ _ ?_
                      clear hK K
                      refine wpAnyIn_done (by kernel_rfl) ?_ _
                      have HP9 := Lib.hid (RtI.put (x := (d, y)) (W9 := W6.setCell ⟨w.heap.size + 1 + 1, 0, none⟩ (.slice (some ⟨g, 0, none⟩) rn c7)) HI.out HB2.out HOWN.out hg5 ho5 hR.out rfl hBg hput hgr5 HL.out (by rw [← hrn.out]; simpa using (b26.set 0 (.slice (some ⟨g, 0, none⟩) rn c7))) (by rw [HLM.out]; exact h6b.other (by show g ≠ w.heap.size + 1 + 1; omega) _) (fun k h1 h2 => (Below.heap_setCell _ _ _ k h2).trans (h6k k h1)) (by rw [← h6s]; simp [World.setCell]) (h60.setCell (p := ⟨w.heap.size + 1 + 1, 0, none⟩) (Nat.zero_le _) _))
                      exact ⟨rfl, _, _, _, _, _, _, rfl, HP9.out⟩
                    exact AllReadyIn.nil
                  refine AllReadyIn.cons rfl (fun K hK => ?_) ?_
                  · skip
                    go_simp
                    refine hK _ _ ?_
                    clear hK K
                    refine wpAnyIn_ready (rs := [6]) (by kernel_rfl) (by simp) ?_
                    refine AllReadyIn.cons rfl (fun K hK => ?_) ?_
                    · skip
                      refine stepIn_store5 rfl (.tmp 19) (.tmp 15) rfl g (ln * 5) cur (hbg.other (by show g ≠ w.heap.size + 1 + 1; omega) _) hcur y rfl rfl ?_
                      intro W6 h6b h6k h6s h60
                      refine hK _ _ ?_
                      clear hK K
                      refine wpAnyIn_done (by kernel_rfl) ?_ _
                      have HP9 := Lib.hid (RtI.put (x := (d, y)) (W9 := W6) HI.out HB2.out HOWN.out hg5 ho5 hR.out rfl hBg hput hgr5 HL.out (by rw [← hrn.out]; exact (h6k _ (by omega)).trans (by have h := b25.set 0 (.slice (some ⟨g, 0, none⟩) rn c7); simp at h; exact h)) (by rw [HLM.out]; exact h6b) (fun k h1 h2 => (h6k k h1).trans (Below.heap_setCell _ _ _ k h2)) (by rw [h6s]; simp [World.setCell]) (((Below.refl 0 W5).setCell (p := ⟨w.heap.size + 1 + 1, 0, none⟩) (Nat.zero_le _) _).trans h60))
                      exact ⟨rfl, _, _, _, _, _, _, rfl, HP9.out⟩
                    exact AllReadyIn.nil
                  exact AllReadyIn.nil
                refine AllReadyIn.cons rfl (fun K hK => ?_) ?_
                · skip
                  go_simp
                  refine hK _ _ ?_
                  clear hK K
                  refine wpAnyIn_ready (rs := [5]) (by kernel_rfl) (by simp) ?_
                  refine AllReadyIn.cons rfl (fun K hK => ?_) ?_
                  · skip
                    go_simp
                    refine hK _ _ ?_
                    clear hK K
                    refine wpAnyIn_ready (rs := [6]) (by kernel_rfl) (by simp) ?_
                    refine AllReadyIn.cons rfl (fun K hK => ?_) ?_
                    · skip
                      refine stepIn_store5 rfl (.tmp 19) (.tmp 15) rfl g (ln * 5) cur (hbg.other (by show g ≠ w.heap.size + 1 + 1; omega) _) hcur y rfl rfl ?_
                      intro W6 h6b h6k h6s h60
                      refine hK _ _ ?_
                      clear hK K
                      refine wpAnyIn_done (by kernel_rfl) ?_ _
                      have HP9 := Lib.hid (RtI.put (x := (d, y)) (W9 := W6) HI.out HB2.out HOWN.out hg5 ho5 hR.out rfl hBg hput hgr5 HL.out (by rw [← hrn.out]; exact (h6k _ (by omega)).trans (by have h := b25.set 0 (.slice (some ⟨g, 0, none⟩) rn c7); simp at h; exact h)) (by rw [HLM.out]; exact h6b) (fun k h1 h2 => (h6k k h1).trans (Below.heap_setCell _ _ _ k h2)) (by rw [h6s]; simp [World.setCell]) (((Below.refl 0 W5).setCell (p := ⟨w.heap.size + 1 + 1, 0, none⟩) (Nat.zero_le _) _).trans h60))
                      exact ⟨rfl, _, _, _, _, _, _, rfl, HP9.out⟩
                    exact AllReadyIn.nil
                  exact AllReadyIn.nil
                exact AllReadyIn.nil
              exact AllReadyIn.nil
            exact AllReadyIn.nil
          refine AllReadyIn.cons rfl (fun K hK => ?_) ?_
          · skip
            go_simp
            refine hK _ _ ?_
            clear hK K
            refine wpAnyIn_ready (rs := [2]) (by kernel_rfl) (by simp) ?_
            refine AllReadyIn.cons rfl (fun K hK => ?_) ?_
            · skip
              go_simp
              refine hK _ _ ?_
              clear hK K
              refine wpAnyIn_ready (rs := [4]) (by kernel_rfl) (by simp) ?_
              refine AllReadyIn.cons rfl (fun K hK => ?_) ?_
              · skip
                refine stepIn_append_X rfl (.tmp 14) (.tmp 17) rfl (w.heap.size + 1 + 1 + 1 + 1 + 1) A c (pre.map (·.2)) (by rw [HLM.out]; rfl) HOWNZ.out (some ⟨W.heap.size, 0, none⟩) 1 [zX] rfl HZX.out (by rw [HLM.out]; have := HL.out; have := HLN.out; simp; omega) (by simp; omega) ?_
                intro A7 c7 W5 R hR ho5 hg5 hgr5
                refine hK _ _ ?_
                clear hK K
                obtain ⟨g, cur, hA7, hBg, hbg, hcur, hput⟩ := own_put (by rw [← hR.out]; exact ho5 : OwnG 26 5 enX (w.heap.size + 1 + 1 + 1 + 1 + 1) W5 A7 c7 (pre.map (·.2) ++ [zX]))
                subst hA7
                obtain ⟨rn, hrn⟩ : ∃ rn, Hid (rn = R.length) := ⟨_, Lib.hid rfl⟩
                rw [← hrn.out]
                have hrl : (ln : Int) < (rn : Int) := by rw [hrn.out, hR.out, List.length_append, HLM.out]; simp; omega
                rw [HLM.out] at hcur
                have b25 : Blk W5 (w.heap.size + 1 + 1) #[.slice A ln c] 24 := by have h := (show Blk (W.alloc (Obj.cells #[Value.int IntKind.i64 0, Value.int IntKind.u8 0, Value.int IntKind.i64 0, Value.string ⟨#[]⟩, Value.slice none 0 0] 26)).drew (w.heap.size + 1 + 1) _ 24 from Blk.alloc HB2.out _).grown hg5 (fun e => by have := (HOWN.out.row _ e).1; omega); rw [HLM.out] at h; exact h
                have q25 : W5.cell? ⟨w.heap.size + 1 + 1, 0, none⟩ = some (.slice A ln c) := b25.cell 0
                have g25 := b25.free 0
                refine wpAnyIn_ready (rs := [5, 7]) (by kernel_rfl) (by simp) ?_
                refine AllReadyIn.cons rfl (fun K hK => ?_) ?_
                · skip
                  go_simp
                  refine hK _ _ ?_
                  clear hK K
                  refine wpAnyIn_ready (rs := [6, 7]) (by kernel_rfl) (by simp) ?_
                  refine AllReadyIn.cons rfl (fun K hK => ?_) ?_
                  · skip
                    refine stepIn_store5 rfl (.tmp 19) (.tmp 15) rfl g (ln * 5) cur hbg hcur y rfl rfl ?_
                    intro W6 h6b h6k h6s h60
                    refine hK _ _ ?_
                    clear hK K
                    have b26 : Blk W6 (w.heap.size + 1 + 1) #[.slice A ln c] 24 := (h6k _ (by omega)).trans b25
                    have q26 : W6.cell? ⟨w.heap.size + 1 + 1, 0, none⟩ = some (.slice A ln c) := b26.cell 0
                    have g26 := b26.free 0
                    refine wpAnyIn_ready (rs := [7]) (by kernel_rfl) (by simp) ?_
                    refine AllReadyIn.cons rfl (fun K hK => ?_) ?_
                    · skip
                      go_simp
                      refine hK _ _ ?_
                      clear hK K
                      refine wpAnyIn_done (by kernel_rfl) ?_ _
                      have HP9 := Lib.hid (RtI.put (x := (d, y)) (W9 := W6.setCell ⟨w.heap.size + 1 + 1, 0, none⟩ (.slice (some ⟨g, 0, none⟩) rn c7)) HI.out HB2.out HOWN.out hg5 ho5 hR.out rfl hBg hput hgr5 HL.out (by rw [← hrn.out]; simpa using (b26.set 0 (.slice (some ⟨g, 0, none⟩) rn c7))) (by rw [HLM.out]; exact h6b.other (by show g ≠ w.heap.size + 1 + 1; omega) _) (fun k h1 h2 => (Below.heap_setCell _ _ _ k h2).trans (h6k k h1)) (by rw [← h6s]; simp [World.setCell]) (h60.setCell (p := ⟨w.heap.size + 1 + 1, 0, none⟩) (Nat.zero_le _) _))
                      exact ⟨rfl, _, _, _, _, _, _, rfl, HP9.out⟩
                    exact AllReadyIn.nil
                  refine AllReadyIn.cons rfl (fun K hK => ?_) ?_
                  · skip
                    go_simp
                    refine hK _ _ ?_
                    clear hK K
                    refine wpAnyIn_ready (rs := [6]) (by kernel_rfl) (by simp) ?_
                    refine AllReadyIn.cons rfl (fun K hK => ?_) ?_
                    · skip
                      refine stepIn_store5 rfl (.tmp 19) (.tmp 15) rfl g (ln * 5) cur (hbg.other (by show g ≠ w.heap.size + 1 + 1; omega) _) hcur y rfl rfl ?_
                      intro W6 h6b h6k h6s h60
                      refine hK _ _ ?_
                      clear hK K
                      refine wpAnyIn_done (by kernel_rfl) ?_ _
                      have HP9 := Lib.hid (RtI.put (x := (d, y)) (W9 := W6) HI.out HB2.out HOWN.out hg5 ho5 hR.out rfl hBg hput hgr5 HL.out (by rw [← hrn.out]; exact (h6k _ (by omega)).trans (by have h := b25.set 0 (.slice (some ⟨g, 0, none⟩) rn c7); simp at h; exact h)) (by rw [HLM.out]; exact h6b) (fun k h1 h2 => (h6k k h1).trans (Below.heap_setCell _ _ _ k h2)) (by rw [h6s]; simp [World.setCell]) (((Below.refl 0 W5).setCell (p := ⟨w.heap.size + 1 + 1, 0, none⟩) (Nat.zero_le _) _).trans h60))
                      exact ⟨rfl, _, _, _, _, _, _, rfl, HP9.out⟩
                    exact AllReadyIn.nil
                  exact AllReadyIn.nil
                refine AllReadyIn.cons rfl (fun K hK => ?_) ?_
                · skip
                  go_simp
                  refine hK _ _ ?_
                  clear hK K
                  refine wpAnyIn_ready (rs := [5]) (by kernel_rfl) (by simp) ?_
                  refine AllReadyIn.cons rfl (fun K hK => ?_) ?_
                  · skip
                    go_simp
                    refine hK _ _ ?_
                    clear hK K
                    refine wpAnyIn_ready (rs := [6]) (by kernel_rfl) (by simp) ?_
                    refine AllReadyIn.cons rfl (fun K hK => ?_) ?_
                    · skip
                      refine stepIn_store5 rfl (.tmp 19) (.tmp 15) rfl g (ln * 5) cur (hbg.other (by show g ≠ w.heap.size + 1 + 1; omega) _) hcur y rfl rfl ?_
                      intro W6 h6b h6k h6s h60
                      refine hK _ _ ?_
                      clear hK K
                      refine wpAnyIn_done (by kernel_rfl) ?_ _
                      have HP9 := Lib.hid (RtI.put (x := (d, y)) (W9 := W6) HI.out HB2.out HOWN.out hg5 ho5 hR.out rfl hBg hput hgr5 HL.out (by rw [← hrn.out]; exact (h6k _ (by omega)).trans (by have h := b25.set 0 (.slice (some ⟨g, 0, none⟩) rn c7); simp at h; exact h)) (by rw [HLM.out]; exact h6b) (fun k h1 h2 => (h6k k h1).trans (Below.heap_setCell _ _ _ k h2)) (by rw [h6s]; simp [World.setCell]) (((Below.refl 0 W5).setCell (p := ⟨w.heap.size + 1 + 1, 0, none⟩) (Nat.zero_le _) _).trans h60))
                      exact ⟨rfl, _, _, _, _, _, _, rfl, HP9.out⟩
                    exact AllReadyIn.nil
                  exact AllReadyIn.nil
                exact AllReadyIn.nil
              exact AllReadyIn.nil
            exact AllReadyIn.nil
          exact AllReadyIn.nil
        refine AllReadyIn.cons rfl (fun K hK => ?_) ?_
        · skip
          go_simp
          refine hK _ _ ?_
          clear hK K
          refine wpAnyIn_ready (rs := [1, 3]) (by kernel_rfl) (by simp) ?_
          refine AllReadyIn.cons rfl (fun K hK => ?_) ?_
          · skip
            go_simp
            refine hK _ _ ?_
            clear hK K
            refine wpAnyIn_ready (rs := [3]) (by kernel_rfl) (by simp) ?_
            refine AllReadyIn.cons rfl (fun K hK => ?_) ?_
            · skip
              go_simp
              refine hK _ _ ?_
              clear hK K
              refine wpAnyIn_ready (rs := [4]) (by kernel_rfl) (by simp) ?_
              refine AllReadyIn.cons rfl (fun K hK => ?_) ?_
              · skip
                refine stepIn_append_X rfl (.tmp 14) (.tmp 17) rfl (w.heap.size + 1 + 1 + 1 + 1 + 1) A c (pre.map (·.2)) (by rw [HLM.out]; rfl) HOWNZ.out (some ⟨W.heap.size, 0, none⟩) 1 [zX] rfl HZX.out (by rw [HLM.out]; have := HL.out; have := HLN.out; simp; omega) (by simp; omega) ?_
                intro A7 c7 W5 R hR ho5 hg5 hgr5
                refine hK _ _ ?_
                clear hK K
                obtain ⟨g, cur, hA7, hBg, hbg, hcur, hput⟩ := own_put (by rw [← hR.out]; exact ho5 : OwnG 26 5 enX (w.heap.size + 1 + 1 + 1 + 1 + 1) W5 A7 c7 (pre.map (·.2) ++ [zX]))
                subst hA7
                obtain ⟨rn, hrn⟩ : ∃ rn, Hid (rn = R.length) := ⟨_, Lib.hid rfl⟩
                rw [← hrn.out]
                have hrl : (ln : Int) < (rn : Int) := by rw [hrn.out, hR.out, List.length_append, HLM.out]; simp; omega
                rw [HLM.out] at hcur
                have b25 : Blk W5 (w.heap.size + 1 + 1) #[.slice A ln c] 24 := by have h := (show Blk (W.alloc (Obj.cells #[Value.int IntKind.i64 0, Value.int IntKind.u8 0, Value.int IntKind.i64 0, Value.string ⟨#[]⟩, Value.slice none 0 0] 26)).drew (w.heap.size + 1 + 1) _ 24 from Blk.alloc HB2.out _).grown hg5 (fun e => by have := (HOWN.out.row _ e).1; omega); rw [HLM.out] at h; exact h
                have q25 : W5.cell? ⟨w.heap.size + 1 + 1, 0, none⟩ = some (.slice A ln c) := b25.cell 0
                have g25 := b25.free 0
                refine wpAnyIn_ready (rs := [5, 7]) (by kernel_rfl) (by simp) ?_
                refine AllReadyIn.cons rfl (fun K hK => ?_) ?_
                · skip
                  go_simp
                  refine hK _ _ ?_
                  clear hK K
                  refine wpAnyIn_ready (rs := [6, 7]) (by kernel_rfl) (by simp) ?_
                  refine AllReadyIn.cons rfl (fun K hK => ?_) ?_
                  · skip
                    refine stepIn_store5 rfl (.tmp 19) (.tmp 15) rfl g (ln * 5) cur hbg hcur y rfl rfl ?_
                    intro W6 h6b h6k h6s h60
                    refine hK _ _ ?_
                    clear hK K
                    have b26 : Blk W6 (w.heap.size + 1 + 1) #[.slice A ln c] 24 := (h6k _ (by omega)).trans b25
                    have q26 : W6.cell? ⟨w.heap.size + 1 + 1, 0, none⟩ = some (.slice A ln c) := b26.cell 0
                    have g26 := b26.free 0
                    refine wpAnyIn_ready (rs := [7]) (by kernel_rfl) (by simp) ?_
                    refine AllReadyIn.cons rfl (fun K hK => ?_) ?_
                    · skip
                      go_simp
                      refine hK _ _ ?_
                      clear hK K
                      refine wpAnyIn_done (by kernel_rfl) ?_ _
                      have HP9 := Lib.hid (RtI.put (x := (d, y)) (W9 := W6.setCell ⟨w.heap.size + 1 + 1, 0, none⟩ (.slice (some ⟨g, 0, none⟩) rn c7)) HI.out HB2.out HOWN.out hg5 ho5 hR.out rfl hBg hput hgr5 HL.out (by rw [← hrn.out]; simpa using (b26.set 0 (.slice (some ⟨g, 0, none⟩) rn c7))) (by rw [HLM.out]; exact h6b.other (by show g ≠ w.heap.size + 1 + 1; omega) _) (fun k h1 h2 => (Below.heap_setCell _ _ _ k h2).trans (h6k k h1)) (by rw [← h6s]; simp [World.setCell]) (h60.setCell (p := ⟨w.heap.size + 1 + 1, 0, none⟩) (Nat.zero_le _) _))
                      exact ⟨rfl, _, _, _, _, _, _, rfl, HP9.out⟩
                    exact AllReadyIn.nil
                  refine AllReadyIn.cons rfl (fun K hK => ?_) ?_
                  · skip
                    go_simp
                    refine hK _ _ ?_
                    clear hK K
                    refine wpAnyIn_ready (rs := [6]) (by kernel_rfl) (by simp) ?_
                    refine AllReadyIn.cons rfl (fun K hK => ?_) ?_
                    · skip
                      refine stepIn_store5 rfl (.tmp 19) (.tmp 15) rfl g (ln * 5) cur (hbg.other (by show g ≠ w.heap.size + 1 + 1; omega) _) hcur y rfl rfl ?_
                      intro W6 h6b h6k h6s h60
                      refine hK _ _ ?_
                      clear hK K
                      refine wpAnyIn_done (by kernel_rfl) ?_ _
                      have HP9 := Lib.hid (RtI.put (x := (d, y)) (W9 := W6) HI.out HB2.out HOWN.out hg5 ho5 hR.out rfl hBg hput hgr5 HL.out (by rw [← hrn.out]; exact (h6k _ (by omega)).trans (by have h := b25.set 0 (.slice (some ⟨g, 0, none⟩) rn c7); simp at h; exact h)) (by rw [HLM.out]; exact h6b) (fun k h1 h2 => (h6k k h1).trans (Below.heap_setCell _ _ _ k h2)) (by rw [h6s]; simp [World.setCell]) (((Below.refl 0 W5).setCell (p := ⟨w.heap.size + 1 + 1, 0, none⟩) (Nat.zero_le _) _).trans h60))
                      exact ⟨rfl, _, _, _, _, _, _, rfl, HP9.out⟩
                    exact AllReadyIn.nil
                  exact AllReadyIn.nil
                refine AllReadyIn.cons rfl (fun K hK => ?_) ?_
                · skip
                  go_simp
                  refine hK _ _ ?_
                  clear hK K
                  refine wpAnyIn_ready (rs := [5]) (by kernel_rfl) (by simp) ?_
                  refine AllReadyIn.cons rfl (fun K hK => ?_) ?_
                  · skip
                    go_simp
                    refine hK _ _ ?_
                    clear hK K
                    refine wpAnyIn_ready (rs := [6]) (by kernel_rfl) (by simp) ?_
                    refine AllReadyIn.cons rfl (fun K hK => ?_) ?_
                    · skip
                      refine stepIn_store5 rfl (.tmp 19) (.tmp 15) rfl g (ln * 5) cur (hbg.other (by show g ≠ w.heap.size + 1 + 1; omega) _) hcur y rfl rfl ?_
                      intro W6 h6b h6k h6s h60
                      refine hK _ _ ?_
                      clear hK K
                      refine wpAnyIn_done (by kernel_rfl) ?_ _
                      have HP9 := Lib.hid (RtI.put (x := (d, y)) (W9 := W6) HI.out HB2.out HOWN.out hg5 ho5 hR.out rfl hBg hput hgr5 HL.out (by rw [← hrn.out]; exact (h6k _ (by omega)).trans (by have h := b25.set 0 (.slice (some ⟨g, 0, none⟩) rn c7); simp at h; exact h)) (by rw [HLM.out]; exact h6b) (fun k h1 h2 => (h6k k h1).trans (Below.heap_setCell _ _ _ k h2)) (by rw [h6s]; simp [World.setCell]) (((Below.refl 0 W5).setCell (p := ⟨w.heap.size + 1 + 1, 0, none⟩) (Nat.zero_le _) _).trans h60))
                      exact ⟨rfl, _, _, _, _, _, _, rfl, HP9.out⟩
                    exact AllReadyIn.nil
                  exact AllReadyIn.nil
                exact AllReadyIn.nil
              exact AllReadyIn.nil
            exact AllReadyIn.nil
          refine AllReadyIn.cons rfl (fun K hK => ?_) ?_
          · skip
            go_simp
            refine hK _ _ ?_
            clear hK K
            refine wpAnyIn_ready (rs := [1]) (by kernel_rfl) (by simp) ?_
            refine AllReadyIn.cons rfl (fun K hK => ?_) ?_
            · skip
              go_simp
              refine hK _ _ ?_
              clear hK K
              refine wpAnyIn_ready (rs := [4]) (by kernel_rfl) (by simp) ?_
              refine AllReadyIn.cons rfl (fun K hK => ?_) ?_
              · skip
                refine stepIn_append_X rfl (.tmp 14) (.tmp 17) rfl (w.heap.size + 1 + 1 + 1 + 1 + 1) A c (pre.map (·.2)) (by rw [HLM.out]; rfl) HOWNZ.out (some ⟨W.heap.size, 0, none⟩) 1 [zX] rfl HZX.out (by rw [HLM.out]; have := HL.out; have := HLN.out; simp; omega) (by simp; omega) ?_
                intro A7 c7 W5 R hR ho5 hg5 hgr5
                refine hK _ _ ?_
                clear hK K
                obtain ⟨g, cur, hA7, hBg, hbg, hcur, hput⟩ := own_put (by rw [← hR.out]; exact ho5 : OwnG 26 5 enX (w.heap.size + 1 + 1 + 1 + 1 + 1) W5 A7 c7 (pre.map (·.2) ++ [zX]))
                subst hA7
                obtain ⟨rn, hrn⟩ : ∃ rn, Hid (rn = R.length) := ⟨_, Lib.hid rfl⟩
                rw [← hrn.out]
                have hrl : (ln : Int) < (rn : Int) := by rw [hrn.out, hR.out, List.length_append, HLM.out]; simp; omega
                rw [HLM.out] at hcur
                have b25 : Blk W5 (w.heap.size + 1 + 1) #[.slice A ln c] 24 := by have h := (show Blk (W.alloc (Obj.cells #[Value.int IntKind.i64 0, Value.int IntKind.u8 0, Value.int IntKind.i64 0, Value.string ⟨#[]⟩, Value.slice none 0 0] 26)).drew (w.heap.size + 1 + 1) _ 24 from Blk.alloc HB2.out _).grown hg5 (fun e => by have := (HOWN.out.row _ e).1; omega); rw [HLM.out] at h; exact h
                have q25 : W5.cell? ⟨w.heap.size + 1 + 1, 0, none⟩ = some (.slice A ln c) := b25.cell 0
                have g25 := b25.free 0
                refine wpAnyIn_ready (rs := [5, 7]) (by kernel_rfl) (by simp) ?_
                refine AllReadyIn.cons rfl (fun K hK => ?_) ?_
                · skip
                  go_simp
                  refine hK _ _ ?_
                  clear hK K
                  refine wpAnyIn_ready (rs := [6, 7]) (by kernel_rfl) (by simp) ?_
                  refine AllReadyIn.cons rfl (fun K hK => ?_) ?_
                  · skip
                    refine stepIn_store5 rfl (.tmp 19) (.tmp 15) rfl g (ln * 5) cur hbg hcur y rfl rfl ?_
                    intro W6 h6b h6k h6s h60
                    refine hK _ _ ?_
                    clear hK K
                    have b26 : Blk W6 (w.heap.size + 1 + 1) #[.slice A ln c] 24 := (h6k _ (by omega)).trans b25
                    have q26 : W6.cell? ⟨w.heap.size + 1 + 1, 0, none⟩ = some (.slice A ln c) := b26.cell 0
                    have g26 := b26.free 0
                    refine wpAnyIn_ready (rs := [7]) (by kernel_rfl) (by simp) ?_
                    refine AllReadyIn.cons rfl (fun K hK => ?_) ?_
                    · skip
                      go_simp
                      refine hK _ _ ?_
                      clear hK K
                      refine wpAnyIn_done (by kernel_rfl) ?_ _
                      have HP9 := Lib.hid (RtI.put (x := (d, y)) (W9 := W6.setCell ⟨w.heap.size + 1 + 1, 0, none⟩ (.slice (some ⟨g, 0, none⟩) rn c7)) HI.out HB2.out HOWN.out hg5 ho5 hR.out rfl hBg hput hgr5 HL.out (by rw [← hrn.out]; simpa using (b26.set 0 (.slice (some ⟨g, 0, none⟩) rn c7))) (by rw [HLM.out]; exact h6b.other (by show g ≠ w.heap.size + 1 + 1; omega) _) (fun k h1 h2 => (Below.heap_setCell _ _ _ k h2).trans (h6k k h1)) (by rw [← h6s]; simp [World.setCell]) (h60.setCell (p := ⟨w.heap.size + 1 + 1, 0, none⟩) (Nat.zero_le _) _))
                      exact ⟨rfl, _, _, _, _, _, _, rfl, HP9.out⟩
                    exact AllReadyIn.nil
                  refine AllReadyIn.cons rfl (fun K hK => ?_) ?_
                  · skip
                    go_simp
                    refine hK _ _ ?_
                    clear hK K
                    refine wpAnyIn_ready (rs := [6]) (by kernel_rfl) (by simp) ?_
                    refine AllReadyIn.cons rfl (fun K hK => ?_) ?_
                    · skip
                      refine stepIn_store5 rfl (.tmp 19) (.tmp 15) rfl g (ln * 5) cur (hbg.other (by show g ≠ w.heap.size + 1 + 1; omega) _) hcur y rfl rfl ?_
                      intro W6 h6b h6k h6s h60
                      refine hK _ _ ?_
                      clear hK K
                      refine wpAnyIn_done (by kernel_rfl) ?_ _
                      have HP9 := Lib.hid (RtI.put (x := (d, y)) (W9 := W6) HI.out HB2.out HOWN.out hg5 ho5 hR.out rfl hBg hput hgr5 HL.out (by rw [← hrn.out]; exact (h6k _ (by omega)).trans (by have h := b25.set 0 (.slice (some ⟨g, 0, none⟩) rn c7); simp at h; exact h)) (by rw [HLM.out]; exact h6b) (fun k h1 h2 => (h6k k h1).trans (Below.heap_setCell _ _ _ k h2)) (by rw [h6s]; simp [World.setCell]) (((Below.refl 0 W5).setCell (p := ⟨w.heap.size + 1 + 1, 0, none⟩) (Nat.zero_le _) _).trans h60))
                      exact ⟨rfl, _, _, _, _, _, _, rfl, HP9.out⟩
                    exact AllReadyIn.nil
                  exact AllReadyIn.nil
                refine AllReadyIn.cons rfl (fun K hK => ?_) ?_
                · skip
                  go_simp
                  refine hK _ _ ?_
                  clear hK K
                  refine wpAnyIn_ready (rs := [5]) (by kernel_rfl) (by simp) ?_
                  refine AllReadyIn.cons rfl (fun K hK => ?_) ?_
                  · skip
                    go_simp
                    refine hK _ _ ?_
                    clear hK K
                    refine wpAnyIn_ready (rs := [6]) (by kernel_rfl) (by simp) ?_
                    refine AllReadyIn.cons rfl (fun K hK => ?_) ?_
                    · skip
                      refine stepIn_store5 rfl (.tmp 19) (.tmp 15) rfl g (ln * 5) cur (hbg.other (by show g ≠ w.heap.size + 1 + 1; omega) _) hcur y rfl rfl ?_
                      intro W6 h6b h6k h6s h60
                      refine hK _ _ ?_
                      clear hK K
                      refine wpAnyIn_done (by kernel_rfl) ?_ _
                      have HP9 := Lib.hid (RtI.put (x := (d, y)) (W9 := W6) HI.out HB2.out HOWN.out hg5 ho5 hR.out rfl hBg hput hgr5 HL.out (by rw [← hrn.out]; exact (h6k _ (by omega)).trans (by have h := b25.set 0 (.slice (some ⟨g, 0, none⟩) rn c7); simp at h; exact h)) (by rw [HLM.out]; exact h6b) (fun k h1 h2 => (h6k k h1).trans (Below.heap_setCell _ _ _ k h2)) (by rw [h6s]; simp [World.setCell]) (((Below.refl 0 W5).setCell (p := ⟨w.heap.size + 1 + 1, 0, none⟩) (Nat.zero_le _) _).trans h60))
                      exact ⟨rfl, _, _, _, _, _, _, rfl, HP9.out⟩
                    exact AllReadyIn.nil
                  exact AllReadyIn.nil
                exact AllReadyIn.nil
              exact AllReadyIn.nil
            exact AllReadyIn.nil
          exact AllReadyIn.nil
        refine AllReadyIn.cons rfl (fun K hK => ?_) ?_
        · skip
          go_simp
          refine hK _ _ ?_
          clear hK K
          refine wpAnyIn_ready (rs := [1, 2]) (by kernel_rfl) (by simp) ?_
          refine AllReadyIn.cons rfl (fun K hK => ?_) ?_
          · skip
            go_simp
            refine hK _ _ ?_
            clear hK K
            refine wpAnyIn_ready (rs := [2]) (by kernel_rfl) (by simp) ?_
            refine AllReadyIn.cons rfl (fun K hK => ?_) ?_
            · skip
              go_simp
              refine hK _ _ ?_
              clear hK K
              refine wpAnyIn_ready (rs := [4]) (by kernel_rfl) (by simp) ?_
              refine AllReadyIn.cons rfl (fun K hK => ?_) ?_
              · skip
                refine stepIn_append_X rfl (.tmp 14) (.tmp 17) rfl (w.heap.size + 1 + 1 + 1 + 1 + 1) A c (pre.map (·.2)) (by rw [HLM.out]; rfl) HOWNZ.out (some ⟨W.heap.size, 0, none⟩) 1 [zX] rfl HZX.out (by rw [HLM.out]; have := HL.out; have := HLN.out; simp; omega) (by simp; omega) ?_
                intro A7 c7 W5 R hR ho5 hg5 hgr5
                refine hK _ _ ?_
                clear hK K
                obtain ⟨g, cur, hA7, hBg, hbg, hcur, hput⟩ := own_put (by rw [← hR.out]; exact ho5 : OwnG 26 5 enX (w.heap.size + 1 + 1 + 1 + 1 + 1) W5 A7 c7 (pre.map (·.2) ++ [zX]))
                subst hA7
                obtain ⟨rn, hrn⟩ : ∃ rn, Hid (rn = R.length) := ⟨_, Lib.hid rfl⟩
                rw [← hrn.out]
                have hrl : (ln : Int) < (rn : Int) := by rw [hrn.out, hR.out, List.length_append, HLM.out]; simp; omega
                rw [HLM.out] at hcur
                have b25 : Blk W5 (w.heap.size + 1 + 1) #[.slice A ln c] 24 := by have h := (show Blk (W.alloc (Obj.cells #[Value.int IntKind.i64 0, Value.int IntKind.u8 0, Value.int IntKind.i64 0, Value.string ⟨#[]⟩, Value.slice none 0 0] 26)).drew (w.heap.size + 1 + 1) _ 24 from Blk.alloc HB2.out _).grown hg5 (fun e => by have := (HOWN.out.row _ e).1; omega); rw [HLM.out] at h; exact h
                have q25 : W5.cell? ⟨w.heap.size + 1 + 1, 0, none⟩ = some (.slice A ln c) := b25.cell 0
                have g25 := b25.free 0
                refine wpAnyIn_ready (rs := [5, 7]) (by kernel_rfl) (by simp) ?_
                refine AllReadyIn.cons rfl (fun K hK => ?_) ?_
                · skip
                  go_simp
                  refine hK _ _ ?_
                  clear hK K
                  refine wpAnyIn_ready (rs := [6, 7]) (by kernel_rfl) (by simp) ?_
                  refine AllReadyIn.cons rfl (fun K hK => ?_) ?_
                  · skip
                    refine stepIn_store5 rfl (.tmp 19) (.tmp 15) rfl g (ln * 5) cur hbg hcur y rfl rfl ?_
                    intro W6 h6b h6k h6s h60
                    refine hK _ _ ?_
                    clear hK K
                    have b26 : Blk W6 (w.heap.size + 1 + 1) #[.slice A ln c] 24 := (h6k _ (by omega)).trans b25
                    have q26 : W6.cell? ⟨w.heap.size + 1 + 1, 0, none⟩ = some (.slice A ln c) := b26.cell 0
                    have g26 := b26.free 0
                    refine wpAnyIn_ready (rs := [7]) (by kernel_rfl) (by simp) ?_
                    refine AllReadyIn.cons rfl (fun K hK => ?_) ?_
                    · skip
                      go_simp
                      refine hK _ _ ?_
                      clear hK K
                      refine wpAnyIn_done (by kernel_rfl) ?_ _
                      have HP9 := Lib.hid (RtI.put (x := (d, y)) (W9 := W6.setCell ⟨w.heap.size + 1 + 1, 0, none⟩ (.slice (some ⟨g, 0, none⟩) rn c7)) HI.out HB2.out HOWN.out hg5 ho5 hR.out rfl hBg hput hgr5 HL.out (by rw [← hrn.out]; simpa using (b26.set 0 (.slice (some ⟨g, 0, none⟩) rn c7))) (by rw [HLM.out]; exact h6b.other (by show g ≠ w.heap.size + 1 + 1; omega) _) (fun k h1 h2 => (Below.heap_setCell _ _ _ k h2).trans (h6k k h1)) (by rw [← h6s]; simp [World.setCell]) (h60.setCell (p := ⟨w.heap.size + 1 + 1, 0, none⟩) (Nat.zero_le _) _))
                      exact ⟨rfl, _, _, _, _, _, _, rfl, HP9.out⟩
                    exact AllReadyIn.nil
                  refine AllReadyIn.cons rfl (fun K hK => ?_) ?_
                  · skip
                    go_simp
                    refine hK _ _ ?_
                    clear hK K
                    refine wpAnyIn_ready (rs := [6]) (by kernel_rfl) (by simp) ?_
                    refine AllReadyIn.cons rfl (fun K hK => ?_) ?_
                    · skip
                      refine stepIn_store5 rfl (.tmp 19) (.tmp 15) rfl g (ln * 5) cur (hbg.other (by show g ≠ w.heap.size + 1 + 1; omega) _) hcur y rfl rfl ?_
                      intro W6 h6b h6k h6s h60
                      refine hK _ _ ?_
                      clear hK K
                      refine wpAnyIn_done (by kernel_rfl) ?_ _
                      have HP9 := Lib.hid (RtI.put (x := (d, y)) (W9 := W6) HI.out HB2.out HOWN.out hg5 ho5 hR.out rfl hBg hput hgr5 HL.out (by rw [← hrn.out]; exact (h6k _ (by omega)).trans (by have h := b25.set 0 (.slice (some ⟨g, 0, none⟩) rn c7); simp at h; exact h)) (by rw [HLM.out]; exact h6b) (fun k h1 h2 => (h6k k h1).trans (Below.heap_setCell _ _ _ k h2)) (by rw [h6s]; simp [World.setCell]) (((Below.refl 0 W5).setCell (p := ⟨w.heap.size + 1 + 1, 0, none⟩) (Nat.zero_le _) _).trans h60))
                      exact ⟨rfl, _, _, _, _, _, _, rfl, HP9.out⟩
                    exact AllReadyIn.nil
                  exact AllReadyIn.nil
                refine AllReadyIn.cons rfl (fun K hK => ?_) ?_
                · skip
                  go_simp
                  refine hK _ _ ?_
                  clear hK K
                  refine wpAnyIn_ready (rs := [5]) (by kernel_rfl) (by simp) ?_
                  refine AllReadyIn.cons rfl (fun K hK => ?_) ?_
                  · skip
                    go_simp
                    refine hK _ _ ?_
                    clear hK K
                    refine wpAnyIn_ready (rs := [6]) (by kernel_rfl) (by simp) ?_
                    refine AllReadyIn.cons rfl (fun K hK => ?_) ?_
                    · skip
                      refine stepIn_store5 rfl (.tmp 19) (.tmp 15) rfl g (ln * 5) cur (hbg.other (by show g ≠ w.heap.size + 1 + 1; omega) _) hcur y rfl rfl ?_
                      intro W6 h6b h6k h6s h60
                      refine hK _ _ ?_
                      clear hK K
                      refine wpAnyIn_done (by kernel_rfl) ?_ _
                      have HP9 := Lib.hid (RtI.put (x := (d, y)) (W9 := W6) HI.out HB2.out HOWN.out hg5 ho5 hR.out rfl hBg hput hgr5 HL.out (by rw [← hrn.out]; exact (h6k _ (by omega)).trans (by have h := b25.set 0 (.slice (some ⟨g, 0, none⟩) rn c7); simp at h; exact h)) (by rw [HLM.out]; exact h6b) (fun k h1 h2 => (h6k k h1).trans (Below.heap_setCell _ _ _ k h2)) (by rw [h6s]; simp [World.setCell]) (((Below.refl 0 W5).setCell (p := ⟨w.heap.size + 1 + 1, 0, none⟩) (Nat.zero_le _) _).trans h60))
                      exact ⟨rfl, _, _, _, _, _, _, rfl, HP9.out⟩
                    exact AllReadyIn.nil
                  exact AllReadyIn.nil
                exact AllReadyIn.nil
              exact AllReadyIn.nil
            exact AllReadyIn.nil
          refine AllReadyIn.cons rfl (fun K hK => ?_) ?_
          · skip
            go_simp
            refine hK _ _ ?_
            clear hK K
            refine wpAnyIn_ready (rs := [1]) (by kernel_rfl) (by simp) ?_
            refine AllReadyIn.cons rfl (fun K hK => ?_) ?_
            · skip
              go_simp
              refine hK _ _ ?_
              clear hK K
              refine wpAnyIn_ready (rs := [4]) (by kernel_rfl) (by simp) ?_
              refine AllReadyIn.cons rfl (fun K hK => ?_) ?_
              · skip
                refine stepIn_append_X rfl (.tmp 14) (.tmp 17) rfl (w.heap.size + 1 + 1 + 1 + 1 + 1) A c (pre.map (·.2)) (by rw [HLM.out]; rfl) HOWNZ.out (some ⟨W.heap.size, 0, none⟩) 1 [zX] rfl HZX.out (by rw [HLM.out]; have := HL.out; have := HLN.out; simp; omega) (by simp; omega) ?_
                intro A7 c7 W5 R hR ho5 hg5 hgr5
                refine hK _ _ ?_
                clear hK K
                obtain ⟨g, cur, hA7, hBg, hbg, hcur, hput⟩ := own_put (by rw [← hR.out]; exact ho5 : OwnG 26 5 enX (w.heap.size + 1 + 1 + 1 + 1 + 1) W5 A7 c7 (pre.map (·.2) ++ [zX]))
                subst hA7
                obtain ⟨rn, hrn⟩ : ∃ rn, Hid (rn = R.length) := ⟨_, Lib.hid rfl⟩
                rw [← hrn.out]
                have hrl : (ln : Int) < (rn : Int) := by rw [hrn.out, hR.out, List.length_append, HLM.out]; simp; omega
                rw [HLM.out] at hcur
                have b25 : Blk W5 (w.heap.size + 1 + 1) #[.slice A ln c] 24 := by have h := (show Blk (W.alloc (Obj.cells #[Value.int IntKind.i64 0, Value.int IntKind.u8 0, Value.int IntKind.i64 0, Value.string ⟨#[]⟩, Value.slice none 0 0] 26)).drew (w.heap.size + 1 + 1) _ 24 from Blk.alloc HB2.out _).grown hg5 (fun e => by have := (HOWN.out.row _ e).1; omega); rw [HLM.out] at h; exact h
                have q25 : W5.cell? ⟨w.heap.size + 1 + 1, 0, none⟩ = some (.slice A ln c) := b25.cell 0
                have g25 := b25.free 0
                refine wpAnyIn_ready (rs := [5, 7]) (by kernel_rfl) (by simp) ?_
                refine AllReadyIn.cons rfl (fun K hK => ?_) ?_
                · skip
                  go_simp
                  refine hK _ _ ?_
                  clear hK K
                  refine wpAnyIn_ready (rs := [6, 7]) (by kernel_rfl) (by simp) ?_
                  refine AllReadyIn.cons rfl (fun K hK => ?_) ?_
                  · skip
                    refine stepIn_store5 rfl (.tmp 19) (.tmp 15) rfl g (ln * 5) cur hbg hcur y rfl rfl ?_
                    intro W6 h6b h6k h6s h60
                    refine hK _ _ ?_
                    clear hK K
                    have b26 : Blk W6 (w.heap.size + 1 + 1) #[.slice A ln c] 24 := (h6k _ (by omega)).trans b25
                    have q26 : W6.cell? ⟨w.heap.size + 1 + 1, 0, none⟩ = some (.slice A ln c) := b26.cell 0
                    have g26 := b26.free 0
                    refine wpAnyIn_ready (rs := [7]) (by kernel_rfl) (by simp) ?_
                    refine AllReadyIn.cons rfl (fun K hK => ?_) ?_
                    · skip
                      go_simp
                      refine hK _ _ ?_
                      clear hK K
                      refine wpAnyIn_done (by kernel_rfl) ?_ _
                      have HP9 := Lib.hid (RtI.put (x := (d, y)) (W9 := W6.setCell ⟨w.heap.size + 1 + 1, 0, none⟩ (.slice (some ⟨g, 0, none⟩) rn c7)) HI.out HB2.out HOWN.out hg5 ho5 hR.out rfl hBg hput hgr5 HL.out (by rw [← hrn.out]; simpa using (b26.set 0 (.slice (some ⟨g, 0, none⟩) rn c7))) (by rw [HLM.out]; exact h6b.other (by show g ≠ w.heap.size + 1 + 1; omega) _) (fun k h1 h2 => (Below.heap_setCell _ _ _ k h2).trans (h6k k h1)) (by rw [← h6s]; simp [World.setCell]) (h60.setCell (p := ⟨w.heap.size + 1 + 1, 0, none⟩) (Nat.zero_le _) _))
                      exact ⟨rfl, _, _, _, _, _, _, rfl, HP9.out⟩
                    exact AllReadyIn.nil
                  refine AllReadyIn.cons rfl (fun K hK => ?_) ?_
                  · skip
                    go_simp
                    refine hK _ _ ?_
                    clear hK K
                    refine wpAnyIn_ready (rs := [6]) (by kernel_rfl) (by simp) ?_
                    refine AllReadyIn.cons rfl (fun K hK => ?_) ?_
                    · skip
                      refine stepIn_store5 rfl (.tmp 19) (.tmp 15) rfl g (ln * 5) cur (hbg.other (by show g ≠ w.heap.size + 1 + 1; omega) _) hcur y rfl rfl ?_
                      intro W6 h6b h6k h6s h60
                      refine hK _ _ ?_
                      clear hK K
                      refine wpAnyIn_done (by kernel_rfl) ?_ _
                      have HP9 := Lib.hid (RtI.put (x := (d, y)) (W9 := W6) HI.out HB2.out HOWN.out hg5 ho5 hR.out rfl hBg hput hgr5 HL.out (by rw [← hrn.out]; exact (h6k _ (by omega)).trans (by have h := b25.set 0 (.slice (some ⟨g, 0, none⟩) rn c7); simp at h; exact h)) (by rw [HLM.out]; exact h6b) (fun k h1 h2 => (h6k k h1).trans (Below.heap_setCell _ _ _ k h2)) (by rw [h6s]; simp [World.setCell]) (((Below.refl 0 W5).setCell (p := ⟨w.heap.size + 1 + 1, 0, none⟩) (Nat.zero_le _) _).trans h60))
                      exact ⟨rfl, _, _, _, _, _, _, rfl, HP9.out⟩
                    exact AllReadyIn.nil
                  exact AllReadyIn.nil
                refine AllReadyIn.cons rfl (fun K hK => ?_) ?_
                · skip
                  go_simp
                  refine hK _ _ ?_
                  clear hK K
                  refine wpAnyIn_ready (rs := [5]) (by kernel_rfl) (by simp) ?_
                  refine AllReadyIn.cons rfl (fun K hK => ?_) ?_
                  · skip
                    go_simp
                    refine hK _ _ ?_
                    clear hK K
                    refine wpAnyIn_ready (rs := [6]) (by kernel_rfl) (by simp) ?_
                    refine AllReadyIn.cons rfl (fun K hK => ?_) ?_
                    · skip
                      refine stepIn_store5 rfl (.tmp 19) (.tmp 15) rfl g (ln * 5) cur (hbg.other (by show g ≠ w.heap.size + 1 + 1; omega) _) hcur y rfl rfl ?_
                      intro W6 h6b h6k h6s h60
                      refine hK _ _ ?_
                      clear hK K
                      refine wpAnyIn_done (by kernel_rfl) ?_ _
                      have HP9 := Lib.hid (RtI.put (x := (d, y)) (W9 := W6) HI.out HB2.out HOWN.out hg5 ho5 hR.out rfl hBg hput hgr5 HL.out (by rw [← hrn.out]; exact (h6k _ (by omega)).trans (by have h := b25.set 0 (.slice (some ⟨g, 0, none⟩) rn c7); simp at h; exact h)) (by rw [HLM.out]; exact h6b) (fun k h1 h2 => (h6k k h1).trans (Below.heap_setCell _ _ _ k h2)) (by rw [h6s]; simp [World.setCell]) (((Below.refl 0 W5).setCell (p := ⟨w.heap.size + 1 + 1, 0, none⟩) (Nat.zero_le _) _).trans h60))
                      exact ⟨rfl, _, _, _, _, _, _, rfl, HP9.out⟩
                    exact AllReadyIn.nil
                  exact AllReadyIn.nil
                exact AllReadyIn.nil
              exact AllReadyIn.nil
            exact AllReadyIn.nil
          exact AllReadyIn.nil
        exact AllReadyIn.nil
      refine AllReadyIn.cons rfl (fun K hK => ?_) ?_
      · skip
        go_simp
        refine hK _ _ ?_
        clear hK K
        refine wpAnyIn_ready (rs := [0, 3]) (by kernel_rfl) (by simp) ?_
        refine AllReadyIn.cons rfl (fun K hK => ?_) ?_
        · skip
          go_simp
          refine hK _ _ ?_
          clear hK K
          refine wpAnyIn_ready (rs := [2, 3]) (by kernel_rfl) (by simp) ?_
          refine AllReadyIn.cons rfl (fun K hK => ?_) ?_
          · skip
            go_simp
            refine hK _ _ ?_
            clear hK K
            refine wpAnyIn_ready (rs := [3]) (by kernel_rfl) (by simp) ?_
            refine AllReadyIn.cons rfl (fun K hK => ?_) ?_
            · skip
              go_simp
              refine hK _ _ ?_
              clear hK K
              refine wpAnyIn_ready (rs := [4]) (by kernel_rfl) (by simp) ?_
              refine AllReadyIn.cons rfl (fun K hK => ?_) ?_
              · skip
                refine stepIn_append_X rfl (.tmp 14) (.tmp 17) rfl (w.heap.size + 1 + 1 + 1 + 1 + 1) A c (pre.map (·.2)) (by rw [HLM.out]; rfl) HOWNZ.out (some ⟨W.heap.size, 0, none⟩) 1 [zX] rfl HZX.out (by rw [HLM.out]; have := HL.out; have := HLN.out; simp; omega) (by simp; omega) ?_
                intro A7 c7 W5 R hR ho5 hg5 hgr5
                refine hK _ _ ?_
                clear hK K
                obtain ⟨g, cur, hA7, hBg, hbg, hcur, hput⟩ := own_put (by rw [← hR.out]; exact ho5 : OwnG 26 5 enX (w.heap.size + 1 + 1 + 1 + 1 + 1) W5 A7 c7 (pre.map (·.2) ++ [zX]))
                subst hA7
                obtain ⟨rn, hrn⟩ : ∃ rn, Hid (rn = R.length) := ⟨_, Lib.hid rfl⟩
                rw [← hrn.out]
                have hrl : (ln : Int) < (rn : Int) := by rw [hrn.out, hR.out, List.length_append, HLM.out]; simp; omega
                rw [HLM.out] at hcur
                have b25 : Blk W5 (w.heap.size + 1 + 1) #[.slice A ln c] 24 := by have h := (show Blk (W.alloc (Obj.cells #[Value.int IntKind.i64 0, Value.int IntKind.u8 0, Value.int IntKind.i64 0, Value.string ⟨#[]⟩, Value.slice none 0 0] 26)).drew (w.heap.size + 1 + 1) _ 24 from Blk.alloc HB2.out _).grown hg5 (fun e => by have := (HOWN.out.row _ e).1; omega); rw [HLM.out] at h; exact h
                have q25 : W5.cell? ⟨w.heap.size + 1 + 1, 0, none⟩ = some (.slice A ln c) := b25.cell 0
                have g25 := b25.free 0
                refine wpAnyIn_ready (rs := [5, 7]) (by kernel_rfl) (by simp) ?_
                refine AllReadyIn.cons rfl (fun K hK => ?_) ?_
                · skip
                  go_simp
                  refine hK _ _ ?_
                  clear hK K
                  refine wpAnyIn_ready (rs := [6, 7]) (by kernel_rfl) (by simp) ?_
                  refine AllReadyIn.cons rfl (fun K hK => ?_) ?_
                  · skip
                    refine stepIn_store5 rfl (.tmp 19) (.tmp 15) rfl g (ln * 5) cur hbg hcur y rfl rfl ?_
                    intro W6 h6b h6k h6s h60
                    refine hK _ _ ?_
                    clear hK K
                    have b26 : Blk W6 (w.heap.size + 1 + 1) #[.slice A ln c] 24 := (h6k _ (by omega)).trans b25
                    have q26 : W6.cell? ⟨w.heap.size + 1 + 1, 0, none⟩ = some (.slice A ln c) := b26.cell 0
                    have g26 := b26.free 0
                    refine wpAnyIn_ready (rs := [7]) (by kernel_rfl) (by simp) ?_
                    refine AllReadyIn.cons rfl (fun K hK => ?_) ?_
                    · skip
                      go_simp
                      refine hK _ _ ?_
                      clear hK K
                      refine wpAnyIn_done (by kernel_rfl) ?_ _
                      have HP9 := Lib.hid (RtI.put (x := (d, y)) (W9 := W6.setCell ⟨w.heap.size + 1 + 1, 0, none⟩ (.slice (some ⟨g, 0, none⟩) rn c7)) HI.out HB2.out HOWN.out hg5 ho5 hR.out rfl hBg hput hgr5 HL.out (by rw [← hrn.out]; simpa using (b26.set 0 (.slice (some ⟨g, 0, none⟩) rn c7))) (by rw [HLM.out]; exact h6b.other (by show g ≠ w.heap.size + 1 + 1; omega) _) (fun k h1 h2 => (Below.heap_setCell _ _ _ k h2).trans (h6k k h1)) (by rw [← h6s]; simp [World.setCell]) (h60.setCell (p := ⟨w.heap.size + 1 + 1, 0, none⟩) (Nat.zero_le _) _))
                      exact ⟨rfl, _, _, _, _, _, _, rfl, HP9.out⟩
                    exact AllReadyIn.nil
                  refine AllReadyIn.cons rfl (fun K hK => ?_) ?_
                  · skip
                    go_simp
                    refine hK _ _ ?_
                    clear hK K
                    refine wpAnyIn_ready (rs := [6]) (by kernel_rfl) (by simp) ?_
                    refine AllReadyIn.cons rfl (fun K hK => ?_) ?_
                    · skip
                      refine stepIn_store5 rfl (.tmp 19) (.tmp 15) rfl g (ln * 5) cur (hbg.other (by show g ≠ w.heap.size + 1 + 1; omega) _) hcur y rfl rfl ?_
                      intro W6 h6b h6k h6s h60
                      refine hK _ _ ?_
                      clear hK K
                      refine wpAnyIn_done (by kernel_rfl) ?_ _
                      have HP9 := Lib.hid (RtI.put (x := (d, y)) (W9 := W6) HI.out HB2.out HOWN.out hg5 ho5 hR.out rfl hBg hput hgr5 HL.out (by rw [← hrn.out]; exact (h6k _ (by omega)).trans (by have h := b25.set 0 (.slice (some ⟨g, 0, none⟩) rn c7); simp at h; exact h)) (by rw [HLM.out]; exact h6b) (fun k h1 h2 => (h6k k h1).trans (Below.heap_setCell _ _ _ k h2)) (by rw [h6s]; simp [World.setCell]) (((Below.refl 0 W5).setCell (p := ⟨w.heap.size + 1 + 1, 0, none⟩) (Nat.zero_le _) _).trans h60))
                      exact ⟨rfl, _, _, _, _, _, _, rfl, HP9.out⟩
                    exact AllReadyIn.nil
                  exact AllReadyIn.nil
                refine AllReadyIn.cons rfl (fun K hK => ?_) ?_
                · skip
                  go_simp
                  refine hK _ _ ?_
                  clear hK K
                  refine wpAnyIn_ready (rs := [5]) (by kernel_rfl) (by simp) ?_
                  refine AllReadyIn.cons rfl (fun K hK => ?_) ?_
                  · skip
                    go_simp
                    refine hK _ _ ?_
                    clear hK K
                    refine wpAnyIn_ready (rs := [6]) (by kernel_rfl) (by simp) ?_
                    refine AllReadyIn.cons rfl (fun K hK => ?_) ?_
                    · skip
                      refine stepIn_store5 rfl (.tmp 19) (.tmp 15) rfl g (ln * 5) cur (hbg.other (by show g ≠ w.heap.size + 1 + 1; omega) _) hcur y rfl rfl ?_
                      intro W6 h6b h6k h6s h60
                      refine hK _ _ ?_
                      clear hK K
                      refine wpAnyIn_done (by kernel_rfl) ?_ _
                      have HP9 := Lib.hid (RtI.put (x := (d, y)) (W9 := W6) HI.out HB2.out HOWN.out hg5 ho5 hR.out rfl hBg hput hgr5 HL.out (by rw [← hrn.out]; exact (h6k _ (by omega)).trans (by have h := b25.set 0 (.slice (some ⟨g, 0, none⟩) rn c7); simp at h; exact h)) (by rw [HLM.out]; exact h6b) (fun k h1 h2 => (h6k k h1).trans (Below.heap_setCell _ _ _ k h2)) (by rw [h6s]; simp [World.setCell]) (((Below.refl 0 W5).setCell (p := ⟨w.heap.size + 1 + 1, 0, none⟩) (Nat.zero_le _) _).trans h60))
                      exact ⟨rfl, _, _, _, _, _, _, rfl, HP9.out⟩
                    exact AllReadyIn.nil
                  exact AllReadyIn.nil
                exact AllReadyIn.nil
              exact AllReadyIn.nil
            exact AllReadyIn.nil
          refine AllReadyIn.cons rfl (fun K hK => ?_) ?_
          · skip
            go_simp
            refine hK _ _ ?_
            clear hK K
            refine wpAnyIn_ready (rs := [2]) (by kernel_rfl) (by simp) ?_
            refine AllReadyIn.cons rfl (fun K hK => ?_) ?_
            · skip
              go_simp
              refine hK _ _ ?_
              clear hK K
              refine wpAnyIn_ready (rs := [4]) (by kernel_rfl) (by simp) ?_
              refine AllReadyIn.cons rfl (fun K hK => ?_) ?_
              · skip
                refine stepIn_append_X rfl (.tmp 14) (.tmp 17) rfl (w.heap.size + 1 + 1 + 1 + 1 + 1) A c (pre.map (·.2)) (by rw [HLM.out]; rfl) HOWNZ.out (some ⟨W.heap.size, 0, none⟩) 1 [zX] rfl HZX.out (by rw [HLM.out]; have := HL.out; have := HLN.out; simp; omega) (by simp; omega) ?_
                intro A7 c7 W5 R hR ho5 hg5 hgr5
                refine hK _ _ ?_
                clear hK K
                obtain ⟨g, cur, hA7, hBg, hbg, hcur, hput⟩ := own_put (by rw [← hR.out]; exact ho5 : OwnG 26 5 enX (w.heap.size + 1 + 1 + 1 + 1 + 1) W5 A7 c7 (pre.map (·.2) ++ [zX]))
                subst hA7
                obtain ⟨rn, hrn⟩ : ∃ rn, Hid (rn = R.length) := ⟨_, Lib.hid rfl⟩
                rw [← hrn.out]
                have hrl : (ln : Int) < (rn : Int) := by rw [hrn.out, hR.out, List.length_append, HLM.out]; simp; omega
                rw [HLM.out] at hcur
                have b25 : Blk W5 (w.heap.size + 1 + 1) #[.slice A ln c] 24 := by have h := (show Blk (W.alloc (Obj.cells #[Value.int IntKind.i64 0, Value.int IntKind.u8 0, Value.int IntKind.i64 0, Value.string ⟨#[]⟩, Value.slice none 0 0] 26)).drew (w.heap.size + 1 + 1) _ 24 from Blk.alloc HB2.out _).grown hg5 (fun e => by have := (HOWN.out.row _ e).1; omega); rw [HLM.out] at h; exact h
                have q25 : W5.cell? ⟨w.heap.size + 1 + 1, 0, none⟩ = some (.slice A ln c) := b25.cell 0
                have g25 := b25.free 0
                refine wpAnyIn_ready (rs := [5, 7]) (by kernel_rfl) (by simp) ?_
                refine AllReadyIn.cons rfl (fun K hK => ?_) ?_
                · skip
                  go_simp
                  refine hK _ _ ?_
                  clear hK K
                  refine wpAnyIn_ready (rs := [6, 7]) (by kernel_rfl) (by simp) ?_
                  refine AllReadyIn.cons rfl (fun K hK => ?_) ?_
                  · skip
                    refine stepIn_store5 rfl (.tmp 19) (.tmp 15) rfl g (ln * 5) cur hbg hcur y rfl rfl ?_
                    intro W6 h6b h6k h6s h60
                    refine hK _ _ ?_
                    clear hK K
                    have b26 : Blk W6 (w.heap.size + 1 + 1) #[.slice A ln c] 24 := (h6k _ (by omega)).trans b25
                    have q26 : W6.cell? ⟨w.heap.size + 1 + 1, 0, none⟩ = some (.slice A ln c) := b26.cell 0
                    have g26 := b26.free 0
                    refine wpAnyIn_ready (rs := [7]) (by kernel_rfl) (by simp) ?_
                    refine AllReadyIn.cons rfl (fun K hK => ?_) ?_
                    · skip
                      go_simp
                      refine hK _ _ ?_
                      clear hK K
                      refine wpAnyIn_done (by kernel_rfl) ?_ _
                      have HP9 := Lib.hid (RtI.put (x := (d, y)) (W9 := W6.setCell ⟨w.heap.size + 1 + 1, 0, none⟩ (.slice (some ⟨g, 0, none⟩) rn c7)) HI.out HB2.out HOWN.out hg5 ho5 hR.out rfl hBg hput hgr5 HL.out (by rw [← hrn.out]; simpa using (b26.set 0 (.slice (some ⟨g, 0, none⟩) rn c7))) (by rw [HLM.out]; exact h6b.other (by show g ≠ w.heap.size + 1 + 1; omega) _) (fun k h1 h2 => (Below.heap_setCell _ _ _ k h2).trans (h6k k h1)) (by rw [← h6s]; simp [World.setCell]) (h60.setCell (p := ⟨w.heap.size + 1 + 1, 0, none⟩) (Nat.zero_le _) _))
                      exact ⟨rfl, _, _, _, _, _, _, rfl, HP9.out⟩
                    exact AllReadyIn.nil
                  refine AllReadyIn.cons rfl (fun K hK => ?_) ?_
                  · skip
                    go_simp
                    refine hK _ _ ?_
                    clear hK K
                    refine wpAnyIn_ready (rs := [6]) (by kernel_rfl) (by simp) ?_
                    refine AllReadyIn.cons rfl (fun K hK => ?_) ?_
                    · skip
                      refine stepIn_store5 rfl (.tmp 19) (.tmp 15) rfl g (ln * 5) cur (hbg.other (by show g ≠ w.heap.size + 1 + 1; omega) _) hcur y rfl rfl ?_
                      intro W6 h6b h6k h6s h60
                      refine hK _ _ ?_
                      clear hK K
                      refine wpAnyIn_done (by kernel_rfl) ?_ _
                      have HP9 := Lib.hid (RtI.put (x := (d, y)) (W9 := W6) HI.out HB2.out HOWN.out hg5 ho5 hR.out rfl hBg hput hgr5 HL.out (by rw [← hrn.out]; exact (h6k _ (by omega)).trans (by have h := b25.set 0 (.slice (some ⟨g, 0, none⟩) rn c7); simp at h; exact h)) (by rw [HLM.out]; exact h6b) (fun k h1 h2 => (h6k k h1).trans (Below.heap_setCell _ _ _ k h2)) (by rw [h6s]; simp [World.setCell]) (((Below.refl 0 W5).setCell (p := ⟨w.heap.size + 1 + 1, 0, none⟩) (Nat.zero_le _) _).trans h60))
                      exact ⟨rfl, _, _, _, _, _, _, rfl, HP9.out⟩
                    exact AllReadyIn.nil
                  exact AllReadyIn.nil
                refine AllReadyIn.cons rfl (fun K hK => ?_) ?_
                · skip
                  go_simp
                  refine hK _ _ ?_
                  clear hK K
                  refine wpAnyIn_ready (rs := [5]) (by kernel_rfl) (by simp) ?_
                  refine AllReadyIn.cons rfl (fun K hK => ?_) ?_
                  · skip
                    go_simp
                    refine hK _ _ ?_
                    clear hK K
                    refine wpAnyIn_ready (rs := [6]) (by kernel_rfl) (by simp) ?_
                    refine AllReadyIn.cons rfl (fun K hK => ?_) ?_
                    · skip
                      refine stepIn_store5 rfl (.tmp 19) (.tmp 15) rfl g (ln * 5) cur (hbg.other (by show g ≠ w.heap.size + 1 + 1; omega) _) hcur y rfl rfl ?_
                      intro W6 h6b h6k h6s h60
                      refine hK _ _ ?_
                      clear hK K
                      refine wpAnyIn_done (by kernel_rfl) ?_ _
                      have HP9 := Lib.hid (RtI.put (x := (d, y)) (W9 := W6) HI.out HB2.out HOWN.out hg5 ho5 hR.out rfl hBg hput hgr5 HL.out (by rw [← hrn.out]; exact (h6k _ (by omega)).trans (by have h := b25.set 0 (.slice (some ⟨g, 0, none⟩) rn c7); simp at h; exact h)) (by rw [HLM.out]; exact h6b) (fun k h1 h2 => (h6k k h1).trans (Below.heap_setCell _ _ _ k h2)) (by rw [h6s]; simp [World.setCell]) (((Below.refl 0 W5).setCell (p := ⟨w.heap.size + 1 + 1, 0, none⟩) (Nat.zero_le _) _).trans h60))
                      exact ⟨rfl, _, _, _, _, _, _, rfl, HP9.out⟩
                    exact AllReadyIn.nil
                  exact AllReadyIn.nil
                exact AllReadyIn.nil
              exact AllReadyIn.nil
            exact AllReadyIn.nil
          exact AllReadyIn.nil
        refine AllReadyIn.cons rfl (fun K hK => ?_) ?_
        · skip
          go_simp
          refine hK _ _ ?_
          clear hK K
          refine wpAnyIn_ready (rs := [0]) (by kernel_rfl) (by simp) ?_
          refine AllReadyIn.cons rfl (fun K hK => ?_) ?_
          · skip
            go_simp
            refine hK _ _ ?_
            clear hK K
            refine wpAnyIn_ready (rs := [2]) (by kernel_rfl) (by simp) ?_
            refine AllReadyIn.cons rfl (fun K hK => ?_) ?_
            · skip
              go_simp
              refine hK _ _ ?_
              clear hK K
              refine wpAnyIn_ready (rs := [4]) (by kernel_rfl) (by simp) ?_
              refine AllReadyIn.cons rfl (fun K hK => ?_) ?_
              · skip
                refine stepIn_append_X rfl (.tmp 14) (.tmp 17) rfl (w.heap.size + 1 + 1 + 1 + 1 + 1) A c (pre.map (·.2)) (by rw [HLM.out]; rfl) HOWNZ.out (some ⟨W.heap.size, 0, none⟩) 1 [zX] rfl HZX.out (by rw [HLM.out]; have := HL.out; have := HLN.out; simp; omega) (by simp; omega) ?_
                intro A7 c7 W5 R hR ho5 hg5 hgr5
                refine hK _ _ ?_
                clear hK K
                obtain ⟨g, cur, hA7, hBg, hbg, hcur, hput⟩ := own_put (by rw [← hR.out]; exact ho5 : OwnG 26 5 enX (w.heap.size + 1 + 1 + 1 + 1 + 1) W5 A7 c7 (pre.map (·.2) ++ [zX]))
                subst hA7
                obtain ⟨rn, hrn⟩ : ∃ rn, Hid (rn = R.length) := ⟨_, Lib.hid rfl⟩
                rw [← hrn.out]
                have hrl : (ln : Int) < (rn : Int) := by rw [hrn.out, hR.out, List.length_append, HLM.out]; simp; omega
                rw [HLM.out] at hcur
                have b25 : Blk W5 (w.heap.size + 1 + 1) #[.slice A ln c] 24 := by have h := (show Blk (W.alloc (Obj.cells #[Value.int IntKind.i64 0, Value.int IntKind.u8 0, Value.int IntKind.i64 0, Value.string ⟨#[]⟩, Value.slice none 0 0] 26)).drew (w.heap.size + 1 + 1) _ 24 from Blk.alloc HB2.out _).grown hg5 (fun e => by have := (HOWN.out.row _ e).1; omega); rw [HLM.out] at h; exact h
                have q25 : W5.cell? ⟨w.heap.size + 1 + 1, 0, none⟩ = some (.slice A ln c) := b25.cell 0
                have g25 := b25.free 0
                refine wpAnyIn_ready (rs := [5, 7]) (by kernel_rfl) (by simp) ?_
                refine AllReadyIn.cons rfl (fun K hK => ?_) ?_
                · skip
                  go_simp
                  refine hK _ _ ?_
                  clear hK K
                  refine wpAnyIn_ready (rs := [6, 7]) (by kernel_rfl) (by simp) ?_
                  refine AllReadyIn.cons rfl (fun K hK => ?_) ?_
                  · skip
                    refine stepIn_store5 rfl (.tmp 19) (.tmp 15) rfl g (ln * 5) cur hbg hcur y rfl rfl ?_
                    intro W6 h6b h6k h6s h60
                    refine hK _ _ ?_
                    clear hK K
                    have b26 : Blk W6 (w.heap.size + 1 + 1) #[.slice A ln c] 24 := (h6k _ (by omega)).trans b25
                    have q26 : W6.cell? ⟨w.heap.size + 1 + 1, 0, none⟩ = some (.slice A ln c) := b26.cell 0
                    have g26 := b26.free 0
                    refine wpAnyIn_ready (rs := [7]) (by kernel_rfl) (by simp) ?_
                    refine AllReadyIn.cons rfl (fun K hK => ?_) ?_
                    · skip
                      go_simp
                      refine hK _ _ ?_
                      clear hK K
                      refine wpAnyIn_done (by kernel_rfl) ?_ _
                      have HP9 := Lib.hid (RtI.put (x := (d, y)) (W9 := W6.setCell ⟨w.heap.size + 1 + 1, 0, none⟩ (.slice (some ⟨g, 0, none⟩) rn c7)) HI.out HB2.out HOWN.out hg5 ho5 hR.out rfl hBg hput hgr5 HL.out (by rw [← hrn.out]; simpa using (b26.set 0 (.slice (some ⟨g, 0, none⟩) rn c7))) (by rw [HLM.out]; exact h6b.other (by show g ≠ w.heap.size + 1 + 1; omega) _) (fun k h1 h2 => (Below.heap_setCell _ _ _ k h2).trans (h6k k h1)) (by rw [← h6s]; simp [World.setCell]) (h60.setCell (p := ⟨w.heap.size + 1 + 1, 0, none⟩) (Nat.zero_le _) _))
                      exact ⟨rfl, _, _, _, _, _, _, rfl, HP9.out⟩
                    exact AllReadyIn.nil
                  refine AllReadyIn.cons rfl (fun K hK => ?_) ?_
                  · skip
                    go_simp
                    refine hK _ _ ?_
                    clear hK K
                    refine wpAnyIn_ready (rs := [6]) (by kernel_rfl) (by simp) ?_
                    refine AllReadyIn.cons rfl (fun K hK => ?_) ?_
                    · skip
                      refine stepIn_store5 rfl (.tmp 19) (.tmp 15) rfl g (ln * 5) cur (hbg.other (by show g ≠ w.heap.size + 1 + 1; omega) _) hcur y rfl rfl ?_
                      intro W6 h6b h6k h6s h60
                      refine hK _ _ ?_
                      clear hK K
                      refine wpAnyIn_done (by kernel_rfl) ?_ _
                      have HP9 := Lib.hid (RtI.put (x := (d, y)) (W9 := W6) HI.out HB2.out HOWN.out hg5 ho5 hR.out rfl hBg hput hgr5 HL.out (by rw [← hrn.out]; exact (h6k _ (by omega)).trans (by have h := b25.set 0 (.slice (some ⟨g, 0, none⟩) rn c7); simp at h; exact h)) (by rw [HLM.out]; exact h6b) (fun k h1 h2 => (h6k k h1).trans (Below.heap_setCell _ _ _ k h2)) (by rw [h6s]; simp [World.setCell]) (((Below.refl 0 W5).setCell (p := ⟨w.heap.size + 1 + 1, 0, none⟩) (Nat.zero_le _) _).trans h60))
                      exact ⟨rfl, _, _, _, _, _, _, rfl, HP9.out⟩
                    exact AllReadyIn.nil
                  exact AllReadyIn.nil
                refine AllReadyIn.cons rfl (fun K hK => ?_) ?_
                · skip
                  go_simp
                  refine hK _ _ ?_
                  clear hK K
                  refine wpAnyIn_ready (rs := [5]) (by kernel_rfl) (by simp) ?_
                  refine AllReadyIn.cons rfl (fun K hK => ?_) ?_
                  · skip
                    go_simp
                    refine hK _ _ ?_
                    clear hK K
                    refine wpAnyIn_ready (rs := [6]) (by kernel_rfl) (by simp) ?_
                    refine AllReadyIn.cons rfl (fun K hK => ?_) ?_
                    · skip
                      refine stepIn_store5 rfl (.tmp 19) (.tmp 15) rfl g (ln * 5) cur (hbg.other (by show g ≠ w.heap.size + 1 + 1; omega) _) hcur y rfl rfl ?_
                      intro W6 h6b h6k h6s h60
                      refine hK _ _ ?_
                      clear hK K
                      refine wpAnyIn_done (by kernel_rfl) ?_ _
                      have HP9 := Lib.hid (RtI.put (x := (d, y)) (W9 := W6) HI.out HB2.out HOWN.out hg5 ho5 hR.out rfl hBg hput hgr5 HL.out (by rw [← hrn.out]; exact (h6k _ (by omega)).trans (by have h := b25.set 0 (.slice (some ⟨g, 0, none⟩) rn c7); simp at h; exact h)) (by rw [HLM.out]; exact h6b) (fun k h1 h2 => (h6k k h1).trans (Below.heap_setCell _ _ _ k h2)) (by rw [h6s]; simp [World.setCell]) (((Below.refl 0 W5).setCell (p := ⟨w.heap.size + 1 + 1, 0, none⟩) (Nat.zero_le _) _).trans h60))
                      exact ⟨rfl, _, _, _, _, _, _, rfl, HP9.out⟩
                    exact AllReadyIn.nil
                  exact AllReadyIn.nil
                exact AllReadyIn.nil
              exact AllReadyIn.nil
            exact AllReadyIn.nil
          exact AllReadyIn.nil
        exact AllReadyIn.nil
      refine AllReadyIn.cons rfl (fun K hK => ?_) ?_
      · skip
        go_simp
        refine hK _ _ ?_
        clear hK K
        refine wpAnyIn_ready (rs := [0, 1]) (by kernel_rfl) (by simp) ?_
        refine AllReadyIn.cons rfl (fun K hK => ?_) ?_
        · skip
          go_simp
          refine hK _ _ ?_
          clear hK K
          refine wpAnyIn_ready (rs := [1, 2]) (by kernel_rfl) (by simp) ?_
          refine AllReadyIn.cons rfl (fun K hK => ?_) ?_
          · skip
            go_simp
            refine hK _ _ ?_
            clear hK K
            refine wpAnyIn_ready (rs := [2]) (by kernel_rfl) (by simp) ?_
            refine AllReadyIn.cons rfl (fun K hK => ?_) ?_
            · skip
              go_simp
              refine hK _ _ ?_
              clear hK K
              refine wpAnyIn_ready (rs := [4]) (by kernel_rfl) (by simp) ?_
              refine AllReadyIn.cons rfl (fun K hK => ?_) ?_
              · skip
                refine stepIn_append_X rfl (.tmp 14) (.tmp 17) rfl (w.heap.size + 1 + 1 + 1 + 1 + 1) A c (pre.map (·.2)) (by rw [HLM.out]; rfl) HOWNZ.out (some ⟨W.heap.size, 0, none⟩) 1 [zX] rfl HZX.out (by rw [HLM.out]; have := HL.out; have := HLN.out; simp; omega) (by simp; omega) ?_
                intro A7 c7 W5 R hR ho5 hg5 hgr5
                refine hK _ _ ?_
                clear hK K
                obtain ⟨g, cur, hA7, hBg, hbg, hcur, hput⟩ := own_put (by rw [← hR.out]; exact ho5 : OwnG 26 5 enX (w.heap.size + 1 + 1 + 1 + 1 + 1) W5 A7 c7 (pre.map (·.2) ++ [zX]))
                subst hA7
                obtain ⟨rn, hrn⟩ : ∃ rn, Hid (rn = R.length) := ⟨_, Lib.hid rfl⟩
                rw [← hrn.out]
                have hrl : (ln : Int) < (rn : Int) := by rw [hrn.out, hR.out, List.length_append, HLM.out]; simp; omega
                rw [HLM.out] at hcur
                have b25 : Blk W5 (w.heap.size + 1 + 1) #[.slice A ln c] 24 := by have h := (show Blk (W.alloc (Obj.cells #[Value.int IntKind.i64 0, Value.int IntKind.u8 0, Value.int IntKind.i64 0, Value.string ⟨#[]⟩, Value.slice none 0 0] 26)).drew (w.heap.size + 1 + 1) _ 24 from Blk.alloc HB2.out _).grown hg5 (fun e => by have := (HOWN.out.row _ e).1; omega); rw [HLM.out] at h; exact h
                have q25 : W5.cell? ⟨w.heap.size + 1 + 1, 0, none⟩ = some (.slice A ln c) := b25.cell 0
                have g25 := b25.free 0
                refine wpAnyIn_ready (rs := [5, 7]) (by kernel_rfl) (by simp) ?_
                refine AllReadyIn.cons rfl (fun K hK => ?_) ?_
                · skip
                  go_simp
                  refine hK _ _ ?_
                  clear hK K
                  refine wpAnyIn_ready (rs := [6, 7]) (by kernel_rfl) (by simp) ?_
                  refine AllReadyIn.cons rfl (fun K hK => ?_) ?_
                  · skip
                    refine stepIn_store5 rfl (.tmp 19) (.tmp 15) rfl g (ln * 5) cur hbg hcur y rfl rfl ?_
                    intro W6 h6b h6k h6s h60
                    refine hK _ _ ?_
                    clear hK K
                    have b26 : Blk W6 (w.heap.size + 1 + 1) #[.slice A ln c] 24 := (h6k _ (by omega)).trans b25
                    have q26 : W6.cell? ⟨w.heap.size + 1 + 1, 0, none⟩ = some (.slice A ln c) := b26.cell 0
                    have g26 := b26.free 0
                    refine wpAnyIn_ready (rs := [7]) (by kernel_rfl) (by simp) ?_
                    refine AllReadyIn.cons rfl (fun K hK => ?_) ?_
                    · skip
                      go_simp
                      refine hK _ _ ?_
                      clear hK K
                      refine wpAnyIn_done (by kernel_rfl) ?_ _
                      have HP9 := Lib.hid (RtI.put (x := (d, y)) (W9 := W6.setCell ⟨w.heap.size + 1 + 1, 0, none⟩ (.slice (some ⟨g, 0, none⟩) rn c7)) HI.out HB2.out HOWN.out hg5 ho5 hR.out rfl hBg hput hgr5 HL.out (by rw [← hrn.out]; simpa using (b26.set 0 (.slice (some ⟨g, 0, none⟩) rn c7))) (by rw [HLM.out]; exact h6b.other (by show g ≠ w.heap.size + 1 + 1; omega) _) (fun k h1 h2 => (Below.heap_setCell _ _ _ k h2).trans (h6k k h1)) (by rw [← h6s]; simp [World.setCell]) (h60.setCell (p := ⟨w.heap.size + 1 + 1, 0, none⟩) (Nat.zero_le _) _))
                      exact ⟨rfl, _, _, _, _, _, _, rfl, HP9.out⟩
                    exact AllReadyIn.nil
                  refine AllReadyIn.cons rfl (fun K hK => ?_) ?_
                  · skip
                    go_simp
                    refine hK _ _ ?_
                    clear hK K
                    refine wpAnyIn_ready (rs := [6]) (by kernel_rfl) (by simp) ?_
                    refine AllReadyIn.cons rfl (fun K hK => ?_) ?_
                    · skip
                      refine stepIn_store5 rfl (.tmp 19) (.tmp 15) rfl g (ln * 5) cur (hbg.other (by show g ≠ w.heap.size + 1 + 1; omega) _) hcur y rfl rfl ?_
                      intro W6 h6b h6k h6s h60
                      refine hK _ _ ?_
                      clear hK K
                      refine wpAnyIn_done (by kernel_rfl) ?_ _
                      have HP9 := Lib.hid (RtI.put (x := (d, y)) (W9 := W6) HI.out HB2.out HOWN.out hg5 ho5 hR.out rfl hBg hput hgr5 HL.out (by rw [← hrn.out]; exact (h6k _ (by omega)).trans (by have h := b25.set 0 (.slice (some ⟨g, 0, none⟩) rn c7); simp at h; exact h)) (by rw [HLM.out]; exact h6b) (fun k h1 h2 => (h6k k h1).trans (Below.heap_setCell _ _ _ k h2)) (by rw [h6s]; simp [World.setCell]) (((Below.refl 0 W5).setCell (p := ⟨w.heap.size + 1 + 1, 0, none⟩) (Nat.zero_le _) _).trans h60))
                      exact ⟨rfl, _, _, _, _, _, _, rfl, HP9.out⟩
                    exact AllReadyIn.nil
                  exact AllReadyIn.nil
                refine AllReadyIn.cons rfl (fun K hK => ?_) ?_
                · skip
                  go_simp
                  refine hK _ _ ?_
                  clear hK K
                  refine wpAnyIn_ready (rs := [5]) (by kernel_rfl) (by simp) ?_
                  refine AllReadyIn.cons rfl (fun K hK => ?_) ?_
                  · skip
                    go_simp
                    refine hK _ _ ?_
                    clear hK K
                    refine wpAnyIn_ready (rs := [6]) (by kernel_rfl) (by simp) ?_
                    refine AllReadyIn.cons rfl (fun K hK => ?_) ?_
                    · skip
                      refine stepIn_store5 rfl (.tmp 19) (.tmp 15) rfl g (ln * 5) cur (hbg.other (by show g ≠ w.heap.size + 1 + 1; omega) _) hcur y rfl rfl ?_
                      intro W6 h6b h6k h6s h60
                      refine hK _ _ ?_
                      clear hK K
                      refine wpAnyIn_done (by kernel_rfl) ?_ _
                      have HP9 := Lib.hid (RtI.put (x := (d, y)) (W9 := W6) HI.out HB2.out HOWN.out hg5 ho5 hR.out rfl hBg hput hgr5 HL.out (by rw [← hrn.out]; exact (h6k _ (by omega)).trans (by have h := b25.set 0 (.slice (some ⟨g, 0, none⟩) rn c7); simp at h; exact h)) (by rw [HLM.out]; exact h6b) (fun k h1 h2 => (h6k k h1).trans (Below.heap_setCell _ _ _ k h2)) (by rw [h6s]; simp [World.setCell]) (((Below.refl 0 W5).setCell (p := ⟨w.heap.size + 1 + 1, 0, none⟩) (Nat.zero_le _) _).trans h60))
                      exact ⟨rfl, _, _, _, _, _, _, rfl, HP9.out⟩
                    exact AllReadyIn.nil
                  exact AllReadyIn.nil
                exact AllReadyIn.nil
              exact AllReadyIn.nil
            exact AllReadyIn.nil
          refine AllReadyIn.cons rfl (fun K hK => ?_) ?_
          · skip
            go_simp
            refine hK _ _ ?_
            clear hK K
            refine wpAnyIn_ready (rs := [1]) (by kernel_rfl) (by simp) ?_
            refine AllReadyIn.cons rfl (fun K hK => ?_) ?_
            · skip
              go_simp
              refine hK _ _ ?_
              clear hK K
              refine wpAnyIn_ready (rs := [4]) (by kernel_rfl) (by simp) ?_
              refine AllReadyIn.cons rfl (fun K hK => ?_) ?_
              · skip
                refine stepIn_append_X rfl (.tmp 14) (.tmp 17) rfl (w.heap.size + 1 + 1 + 1 + 1 + 1) A c (pre.map (·.2)) (by rw [HLM.out]; rfl) HOWNZ.out (some ⟨W.heap.size, 0, none⟩) 1 [zX] rfl HZX.out (by rw [HLM.out]; have := HL.out; have := HLN.out; simp; omega) (by simp; omega) ?_
                intro A7 c7 W5 R hR ho5 hg5 hgr5
                refine hK _ _ ?_
                clear hK K
                obtain ⟨g, cur, hA7, hBg, hbg, hcur, hput⟩ := own_put (by rw [← hR.out]; exact ho5 : OwnG 26 5 enX (w.heap.size + 1 + 1 + 1 + 1 + 1) W5 A7 c7 (pre.map (·.2) ++ [zX]))
                subst hA7
                obtain ⟨rn, hrn⟩ : ∃ rn, Hid (rn = R.length) := ⟨_, Lib.hid rfl⟩
                rw [← hrn.out]
                have hrl : (ln : Int) < (rn : Int) := by rw [hrn.out, hR.out, List.length_append, HLM.out]; simp; omega
                rw [HLM.out] at hcur
                have b25 : Blk W5 (w.heap.size + 1 + 1) #[.slice A ln c] 24 := by have h := (show Blk (W.alloc (Obj.cells #[Value.int IntKind.i64 0, Value.int IntKind.u8 0, Value.int IntKind.i64 0, Value.string ⟨#[]⟩, Value.slice none 0 0] 26)).drew (w.heap.size + 1 + 1) _ 24 from Blk.alloc HB2.out _).grown hg5 (fun e => by have := (HOWN.out.row _ e).1; omega); rw [HLM.out] at h; exact h
                have q25 : W5.cell? ⟨w.heap.size + 1 + 1, 0, none⟩ = some (.slice A ln c) := b25.cell 0
                have g25 := b25.free 0
                refine wpAnyIn_ready (rs := [5, 7]) (by kernel_rfl) (by simp) ?_
                refine AllReadyIn.cons rfl (fun K hK => ?_) ?_
                · skip
                  go_simp
                  refine hK _ _ ?_
                  clear hK K
                  refine wpAnyIn_ready (rs := [6, 7]) (by kernel_rfl) (by simp) ?_
                  refine AllReadyIn.cons rfl (fun K hK => ?_) ?_
                  · skip
                    refine stepIn_store5 rfl (.tmp 19) (.tmp 15) rfl g (ln * 5) cur hbg hcur y rfl rfl ?_
                    intro W6 h6b h6k h6s h60
                    refine hK _ _ ?_
                    clear hK K
                    have b26 : Blk W6 (w.heap.size + 1 + 1) #[.slice A ln c] 24 := (h6k _ (by omega)).trans b25
                    have q26 : W6.cell? ⟨w.heap.size + 1 + 1, 0, none⟩ = some (.slice A ln c) := b26.cell 0
                    have g26 := b26.free 0
                    refine wpAnyIn_ready (rs := [7]) (by kernel_rfl) (by simp) ?_
                    refine AllReadyIn.cons rfl (fun K hK => ?_) ?_
                    · skip
                      go_simp
                      refine hK _ _ ?_
                      clear hK K
                      refine wpAnyIn_done (by kernel_rfl) ?_ _
                      have HP9 := Lib.hid (RtI.put (x := (d, y)) (W9 := W6.setCell ⟨w.heap.size + 1 + 1, 0, none⟩ (.slice (some ⟨g, 0, none⟩) rn c7)) HI.out HB2.out HOWN.out hg5 ho5 hR.out rfl hBg hput hgr5 HL.out (by rw [← hrn.out]; simpa using (b26.set 0 (.slice (some ⟨g, 0, none⟩) rn c7))) (by rw [HLM.out]; exact h6b.other (by show g ≠ w.heap.size + 1 + 1; omega) _) (fun k h1 h2 => (Below.heap_setCell _ _ _ k h2).trans (h6k k h1)) (by rw [← h6s]; simp [World.setCell]) (h60.setCell (p := ⟨w.heap.size + 1 + 1, 0, none⟩) (Nat.zero_le _) _))
                      exact ⟨rfl, _, _, _, _, _, _, rfl, HP9.out⟩
                    exact AllReadyIn.nil
                  refine AllReadyIn.cons rfl (fun K hK => ?_) ?_
                  · skip
                    go_simp
                    refine hK _ _ ?_
                    clear hK K
                    refine wpAnyIn_ready (rs := [6]) (by kernel_rfl) (by simp) ?_
                    refine AllReadyIn.cons rfl (fun K hK => ?_) ?_
                    · skip
                      refine stepIn_store5 rfl (.tmp 19) (.tmp 15) rfl g (ln * 5) cur (hbg.other (by show g ≠ w.heap.size + 1 + 1; omega) _) hcur y rfl rfl ?_
                      intro W6 h6b h6k h6s h60
                      refine hK _ _ ?_
                      clear hK K
                      refine wpAnyIn_done (by kernel_rfl) ?_ _
                      have HP9 := Lib.hid (RtI.put (x := (d, y)) (W9 := W6) HI.out HB2.out HOWN.out hg5 ho5 hR.out rfl hBg hput hgr5 HL.out (by rw [← hrn.out]; exact (h6k _ (by omega)).trans (by have h := b25.set 0 (.slice (some ⟨g, 0, none⟩) rn c7); simp at h; exact h)) (by rw [HLM.out]; exact h6b) (fun k h1 h2 => (h6k k h1).trans (Below.heap_setCell _ _ _ k h2)) (by rw [h6s]; simp [World.setCell]) (((Below.refl 0 W5).setCell (p := ⟨w.heap.size + 1 + 1, 0, none⟩) (Nat.zero_le _) _).trans h60))
                      exact ⟨rfl, _, _, _, _, _, _, rfl, HP9.out⟩
                    exact AllReadyIn.nil
                  exact AllReadyIn.nil
                refine AllReadyIn.cons rfl (fun K hK => ?_) ?_
                · skip
                  go_simp
                  refine hK _ _ ?_
                  clear hK K
                  refine wpAnyIn_ready (rs := [5]) (by kernel_rfl) (by simp) ?_
                  refine AllReadyIn.cons rfl (fun K hK => ?_) ?_
                  · skip
                    go_simp
                    refine hK _ _ ?_
                    clear hK K
                    refine wpAnyIn_ready (rs := [6]) (by kernel_rfl) (by simp) ?_
                    refine AllReadyIn.cons rfl (fun K hK => ?_) ?_
                    · skip
                      refine stepIn_store5 rfl (.tmp 19) (.tmp 15) rfl g (ln * 5) cur (hbg.other (by show g ≠ w.heap.size + 1 + 1; omega) _) hcur y rfl rfl ?_
                      intro W6 h6b h6k h6s h60
                      refine hK _ _ ?_
                      clear hK K
                      refine wpAnyIn_done (by kernel_rfl) ?_ _
                      have HP9 := Lib.hid (RtI.put (x := (d, y)) (W9 := W6) HI.out HB2.out HOWN.out hg5 ho5 hR.out rfl hBg hput hgr5 HL.out (by rw [← hrn.out]; exact (h6k _ (by omega)).trans (by have h := b25.set 0 (.slice (some ⟨g, 0, none⟩) rn c7); simp at h; exact h)) (by rw [HLM.out]; exact h6b) (fun k h1 h2 => (h6k k h1).trans (Below.heap_setCell _ _ _ k h2)) (by rw [h6s]; simp [World.setCell]) (((Below.refl 0 W5).setCell (p := ⟨w.heap.size + 1 + 1, 0, none⟩) (Nat.zero_le _) _).trans h60))
                      exact ⟨rfl, _, _, _, _, _, _, rfl, HP9.out⟩
                    exact AllReadyIn.nil
                  exact AllReadyIn.nil
                exact AllReadyIn.nil
              exact AllReadyIn.nil
            exact AllReadyIn.nil
          exact AllReadyIn.nil
        refine AllReadyIn.cons rfl (fun K hK => ?_) ?_
        · skip
          go_simp
          refine hK _ _ ?_
          clear hK K
          refine wpAnyIn_ready (rs := [0]) (by kernel_rfl) (by simp) ?_
          refine AllReadyIn.cons rfl (fun K hK => ?_) ?_
          · skip
            go_simp
            refine hK _ _ ?_
            clear hK K
            refine wpAnyIn_ready (rs := [2]) (by kernel_rfl) (by simp) ?_
            refine AllReadyIn.cons rfl (fun K hK => ?_) ?_
            · skip
              go_simp
              refine hK _ _ ?_
              clear hK K
              refine wpAnyIn_ready (rs := [4]) (by kernel_rfl) (by simp) ?_
              refine AllReadyIn.cons rfl (fun K hK => ?_) ?_
              · skip
                refine stepIn_append_X rfl (.tmp 14) (.tmp 17) rfl (w.heap.size + 1 + 1 + 1 + 1 + 1) A c (pre.map (·.2)) (by rw [HLM.out]; rfl) HOWNZ.out (some ⟨W.heap.size, 0, none⟩) 1 [zX] rfl HZX.out (by rw [HLM.out]; have := HL.out; have := HLN.out; simp; omega) (by simp; omega) ?_
                intro A7 c7 W5 R hR ho5 hg5 hgr5
                refine hK _ _ ?_
                clear hK K
                obtain ⟨g, cur, hA7, hBg, hbg, hcur, hput⟩ := own_put (by rw [← hR.out]; exact ho5 : OwnG 26 5 enX (w.heap.size + 1 + 1 + 1 + 1 + 1) W5 A7 c7 (pre.map (·.2) ++ [zX]))
                subst hA7
                obtain ⟨rn, hrn⟩ : ∃ rn, Hid (rn = R.length) := ⟨_, Lib.hid rfl⟩
                rw [← hrn.out]
                have hrl : (ln : Int) < (rn : Int) := by rw [hrn.out, hR.out, List.length_append, HLM.out]; simp; omega
                rw [HLM.out] at hcur
                have b25 : Blk W5 (w.heap.size + 1 + 1) #[.slice A ln c] 24 := by have h := (show Blk (W.alloc (Obj.cells #[Value.int IntKind.i64 0, Value.int IntKind.u8 0, Value.int IntKind.i64 0, Value.string ⟨#[]⟩, Value.slice none 0 0] 26)).drew (w.heap.size + 1 + 1) _ 24 from Blk.alloc HB2.out _).grown hg5 (fun e => by have := (HOWN.out.row _ e).1; omega); rw [HLM.out] at h; exact h
                have q25 : W5.cell? ⟨w.heap.size + 1 + 1, 0, none⟩ = some (.slice A ln c) := b25.cell 0
                have g25 := b25.free 0
                refine wpAnyIn_ready (rs := [5, 7]) (by kernel_rfl) (by simp) ?_
                refine AllReadyIn.cons rfl (fun K hK => ?_) ?_
                · skip
                  go_simp
                  refine hK _ _ ?_
                  clear hK K
                  refine wpAnyIn_ready (rs := [6, 7]) (by kernel_rfl) (by simp) ?_
                  refine AllReadyIn.cons rfl (fun K hK => ?_) ?_
                  · skip
                    refine stepIn_store5 rfl (.tmp 19) (.tmp 15) rfl g (ln * 5) cur hbg hcur y rfl rfl ?_
                    intro W6 h6b h6k h6s h60
                    refine hK _ _ ?_
                    clear hK K
                    have b26 : Blk W6 (w.heap.size + 1 + 1) #[.slice A ln c] 24 := (h6k _ (by omega)).trans b25
                    have q26 : W6.cell? ⟨w.heap.size + 1 + 1, 0, none⟩ = some (.slice A ln c) := b26.cell 0
                    have g26 := b26.free 0
                    refine wpAnyIn_ready (rs := [7]) (by kernel_rfl) (by simp) ?_
                    refine AllReadyIn.cons rfl (fun K hK => ?_) ?_
                    · skip
                      go_simp
                      refine hK _ _ ?_
                      clear hK K
                      refine wpAnyIn_done (by kernel_rfl) ?_ _
                      have HP9 := Lib.hid (RtI.put (x := (d, y)) (W9 := W6.setCell ⟨w.heap.size + 1 + 1, 0, none⟩ (.slice (some ⟨g, 0, none⟩) rn c7)) HI.out HB2.out HOWN.out hg5 ho5 hR.out rfl hBg hput hgr5 HL.out (by rw [← hrn.out]; simpa using (b26.set 0 (.slice (some ⟨g, 0, none⟩) rn c7))) (by rw [HLM.out]; exact h6b.other (by show g ≠ w.heap.size + 1 + 1; omega) _) (fun k h1 h2 => (Below.heap_setCell _ _ _ k h2).trans (h6k k h1)) (by rw [← h6s]; simp [World.setCell]) (h60.setCell (p := ⟨w.heap.size + 1 + 1, 0, none⟩) (Nat.zero_le _) _))
                      exact ⟨rfl, _, _, _, _, _, _, rfl, HP9.out⟩
                    exact AllReadyIn.nil
                  refine AllReadyIn.cons rfl (fun K hK => ?_) ?_
                  · skip
                    go_simp
                    refine hK _ _ ?_
                    clear hK K
                    refine wpAnyIn_ready (rs := [6]) (by kernel_rfl) (by simp) ?_
                    refine AllReadyIn.cons rfl (fun K hK => ?_) ?_
                    · skip
                      refine stepIn_store5 rfl (.tmp 19) (.tmp 15) rfl g (ln * 5) cur (hbg.other (by show g ≠ w.heap.size + 1 + 1; omega) _) hcur y rfl rfl ?_
                      intro W6 h6b h6k h6s h60
                      refine hK _ _ ?_
                      clear hK K
                      refine wpAnyIn_done (by kernel_rfl) ?_ _
                      have HP9 := Lib.hid (RtI.put (x := (d, y)) (W9 := W6) HI.out HB2.out HOWN.out hg5 ho5 hR.out rfl hBg hput hgr5 HL.out (by rw [← hrn.out]; exact (h6k _ (by omega)).trans (by have h := b25.set 0 (.slice (some ⟨g, 0, none⟩) rn c7); simp at h; exact h)) (by rw [HLM.out]; exact h6b) (fun k h1 h2 => (h6k k h1).trans (Below.heap_setCell _ _ _ k h2)) (by rw [h6s]; simp [World.setCell]) (((Below.refl 0 W5).setCell (p := ⟨w.heap.size + 1 + 1, 0, none⟩) (Nat.zero_le _) _).trans h60))
                      exact ⟨rfl, _, _, _, _, _, _, rfl, HP9.out⟩
                    exact AllReadyIn.nil
                  exact AllReadyIn.nil
                refine AllReadyIn.cons rfl (fun K hK => ?_) ?_
                · skip
                  go_simp
                  refine hK _ _ ?_
                  clear hK K
                  refine wpAnyIn_ready (rs := [5]) (by kernel_rfl) (by simp) ?_
                  refine AllReadyIn.cons rfl (fun K hK => ?_) ?_
                  · skip
                    go_simp
                    refine hK _ _ ?_
                    clear hK K
                    refine wpAnyIn_ready (rs := [6]) (by kernel_rfl) (by simp) ?_
                    refine AllReadyIn.cons rfl (fun K hK => ?_) ?_
                    · skip
                      refine stepIn_store5 rfl (.tmp 19) (.tmp 15) rfl g (ln * 5) cur (hbg.other (by show g ≠ w.heap.size + 1 + 1; omega) _) hcur y rfl rfl ?_
                      intro W6 h6b h6k h6s h60
                      refine hK _ _ ?_
                      clear hK K
                      refine wpAnyIn_done (by kernel_rfl) ?_ _
                      have HP9 := Lib.hid (RtI.put (x := (d, y)) (W9 := W6) HI.out HB2.out HOWN.out hg5 ho5 hR.out rfl hBg hput hgr5 HL.out (by rw [← hrn.out]; exact (h6k _ (by omega)).trans (by have h := b25.set 0 (.slice (some ⟨g, 0, none⟩) rn c7); simp at h; exact h)) (by rw [HLM.out]; exact h6b) (fun k h1 h2 => (h6k k h1).trans (Below.heap_setCell _ _ _ k h2)) (by rw [h6s]; simp [World.setCell]) (((Below.refl 0 W5).setCell (p := ⟨w.heap.size + 1 + 1, 0, none⟩) (Nat.zero_le _) _).trans h60))
                      exact ⟨rfl, _, _, _, _, _, _, rfl, HP9.out⟩
                    exact AllReadyIn.nil
                  exact AllReadyIn.nil
                exact AllReadyIn.nil
              exact AllReadyIn.nil
            exact AllReadyIn.nil
          exact AllReadyIn.nil
        exact AllReadyIn.nil
      exact AllReadyIn.nil
  case done =>
    rintro D xs W hD hS hi hK
    have hxs : xs = e.walk 1 := by rw [hS, HWH.out]
    subst hxs
    obtain ⟨A, c, hb2, hown⟩ := hi.row
    have hlen := HLE.out
    have hle := hi.le
    have hs200 : ¬ 200 < e.size := by omega
    have hD0 : w.heap.size ≤ D := by simp at hD; omega
    have c3 : W.cell? ⟨w.heap.size + 1 + 1 + 1, 0, none⟩ = some (.int .i64 (maxd (e.walk 1))) := hi.dp.cell 0
    have c1 : W.cell? ⟨w.heap.size + 1, 0, none⟩ = some (.int .i64 0) := hi.res.cell 0
    have f1 := hi.res.free 0
    have c2 : W.cell? ⟨w.heap.size + 1 + 1, 0, none⟩ = some (.slice A ((e.walk 1).map (·.2)).length c) := hb2.cell 0
    rw [HDP.out] at c3
    have hfin : ∀ (a : Act) (W9 : World) (n : Int), a.defers = [{ target := .collected D, args := #[] }] → a.tmps.getD 2 undef = .pointer (some ⟨w.heap.size + 1, 0, none⟩) → Below W.heap.size W W9 → n = rt →
        bodyPostM Fence.wide 4 Tryd.prog Tryd.f13 (fun q w' => q = .returned (.int .i64 rt) ∧ Below w.heap.size w w') Exit.ret a (W9.setCell ⟨w.heap.size + 1, 0, none⟩ (.int .i64 n)) := fun a W9 n h1 h2 h3 h4 => by
      subst h4
      have hb9 : Blk (W9.setCell ⟨w.heap.size + 1, 0, none⟩ (.int .i64 n)) (w.heap.size + 1) #[.int .i64 n] 31 := by
        have h := (hi.res.belowAll h3).set 0 (.int .i64 n)
        simp at h; exact h
      have hd9 : (W9.setCell ⟨w.heap.size + 1, 0, none⟩ (.int .i64 n)).heap[D]? = some (.deferred (some [])) := by
        rw [Below.heap_setCell _ _ _ _ (fun hh => by
          have hh' : D = w.heap.size + 1 := hh
          have h := hi.res
          unfold Blk at h
          rw [← hh', hK] at h
          cases h)]
        exact (h3.block D (Array.getElem?_eq_some_iff.1 hK).1).trans hK
      refine ret_cell rfl h1 h2 hd9 hb9 ⟨rfl, ?_⟩
      exact ((hi.b.trans (h3.mono hi.b.size)).setCell (p := ⟨w.heap.size + 1, 0, none⟩) (by show w.heap.size ≤ w.heap.size + 1; omega) _).trans (Stays.putObj (n := w.heap.size) _ hd9 rfl hD0).below
    have HF := Lib.hid hfin
    have hcl := hown.cells
    have hlm : ((e.walk 1).map (·.2)).length ≤ 1000 := by simp; omega
    have HM1 := Lib.hid (mis_contains_calls A c _ W hcl hlm (HOT.out W hi.b))
    have HM2 := Lib.hid (fun W9 (hb : Below W.heap.size W W9) => long_contains_calls A c _ W9 (hcl.below hb) hlm)
    rw [HMI.out] at HM1
    simp only [HLO.out] at HM2
    have hrt : rt = if 20 < e.deep then 8 else if e.shaped = false then 3 else if e.wide = true then 5 else 0 := by rw [HRT.out]; unfold Ex.right; rw [if_neg hs200]
    have HRE := Lib.hid hi.res
    have HB3 := Lib.hid hb2
    generalize ((e.walk 1).map (·.2)).length = ln at *
    clear hI0 hi hb2 hown hlen hle hs200 hfin hcl hlm hK hD HST HIT HLE HDP HMI HLO hS hsz
    by_cases hd : 20 < e.deep
    · rw [if_pos hd] at hrt
      have hdd : decide ((20 : Int) < e.deep) = true := decide_eq_true hd
      have HR := Lib.hid hrt
      clear hrt hd
      gi_wp2
      exact HF.out _ _ _ rfl rfl (Below.refl _ _) HR.out.symm
    · rw [if_neg hd] at hrt
      have hdd : decide ((20 : Int) < e.deep) = false := decide_eq_false hd
      have hrt2 : e.shaped = false → rt = 3 := fun h => by rw [hrt, if_pos h]
      have hrt3 : e.shaped = true → rt = if e.wide = true then 5 else 0 := fun h => by rw [hrt, if_neg (by rw [h]; simp)]
      clear hrt hd
      cases hsh : e.shaped with
      | false =>
        have HR := Lib.hid (hrt2 hsh)
        rw [hsh] at HM1
        clear hrt2 hrt3 hsh
        gi_wp2
        refine ⟨trivial, ?_⟩
        refine (callsIn_wide.2 HM1.out).mono ?_
        rintro q w2 ⟨rfl, hb2⟩
        have d1 : w2.cell? ⟨w.heap.size + 1, 0, none⟩ = some (.int .i64 0) := (HRE.out.belowAll hb2).cell 0
        have g1 := (HRE.out.belowAll hb2).free 0
        have HB2 := Lib.hid hb2
        clear hb2
        gi_wp2
        exact HF.out _ _ _ rfl rfl HB2.out HR.out.symm
      | true =>
        have HR3 := Lib.hid (hrt3 hsh)
        rw [hsh] at HM1
        clear hrt2 hrt3 hsh
        gi_wp2
        refine ⟨trivial, ?_⟩
        refine (callsIn_wide.2 HM1.out).mono ?_
        rintro q w2 ⟨rfl, hb2⟩
        have d2 : w2.cell? ⟨w.heap.size + 1 + 1, 0, none⟩ = some (.slice A ln c) := (HB3.out.belowAll hb2).cell 0
        have HB2 := Lib.hid hb2
        have HM3 := Lib.hid (HM2.out w2 hb2)
        clear hb2
        cases hw : e.wide with
        | true =>
          have HR := Lib.hid (show rt = 5 by rw [HR3.out, hw]; rfl)
          rw [hw] at HM3
          clear hw
          gi_wp2
          refine ⟨trivial, ?_⟩
          refine (callsIn_wide.2 HM3.out).mono ?_
          rintro q w3 ⟨rfl, hb3⟩
          have HB4 := Lib.hid (HB2.out.trans (hb3.mono HB2.out.size))
          have d1 : w3.cell? ⟨w.heap.size + 1, 0, none⟩ = some (.int .i64 0) := (HRE.out.belowAll HB4.out).cell 0
          have g1 := (HRE.out.belowAll HB4.out).free 0
          clear hb3
          gi_wp2
          exact HF.out _ _ _ rfl rfl HB4.out HR.out.symm
        | false =>
          have HR := Lib.hid (show rt = 0 by rw [HR3.out, hw]; rfl)
          rw [hw] at HM3
          clear hw
          gi_wp2
          refine ⟨trivial, ?_⟩
          refine (callsIn_wide.2 HM3.out).mono ?_
          rintro q w3 ⟨rfl, hb3⟩
          have HB4 := Lib.hid (HB2.out.trans (hb3.mono HB2.out.size))
          have d1 : w3.cell? ⟨w.heap.size + 1, 0, none⟩ = some (.int .i64 0) := (HRE.out.belowAll HB4.out).cell 0
          have g1 := (HRE.out.belowAll HB4.out).free 0
          clear hb3
          gi_wp2
          exact HF.out _ _ _ rfl rfl HB4.out HR.out.symm
  case stop =>
    rintro D cd pre W hD ⟨hp, hpn⟩ ⟨rfl, hb9, hB, hl9⟩ hK
    have hD0 : w.heap.size ≤ D := by simp at hD; omega
    have h9 : rt = 9 := by
      rw [HRT.out]
      unfold Ex.right
      have h1 := hp.length_le
      have h2 := HLE.out
      rw [HWH.out] at h1
      rw [if_pos (by omega)]
    have HR := Lib.hid h9
    have HB9 := Lib.hid hb9
    have HBB := Lib.hid hB
    have HK := Lib.hid hK
    clear hI0 hb9 hB hl9 hK hD hp hpn h9 HST HIT
    gi_wp2
    refine ret_cell rfl rfl rfl HK.out HB9.out ⟨by rw [HR.out], ?_⟩
    exact HBB.out.trans (Stays.putObj (n := w.heap.size) _ HK.out rfl hD0).below
end Go.Proofs.YtkaapfakalojaaaDoor
namespace Go.Proofs.YtkaapfakalojaaaDoor
open Go.ChangeShapes Go.WideShapes Go.ChangeAt Go.RowKit
set_option linter.unusedVariables false
set_option maxRecDepth 20000
def RelE (l l2 : List Ex) (w1 : World) (i : Value) (wr : World) : Prop := ∃ k : Nat, i = .int .i64 k ∧ k ≤ l.length ∧ Hid (sameL (l.take k) (l2.take k) = true) ∧ Below w1.heap.size w1 wr
theorem sameL_next {l r : List Ex} {j : Nat} {x y : Ex} (hx : l[j]? = some x) (hy : r[j]? = some y) (h : sameL (l.take j) (r.take j) = true) : sameL (l.take (j + 1)) (r.take (j + 1)) = x.same y := by
  have hj1 : j < l.length := (List.getElem?_eq_some_iff.1 hx).1
  have hj2 : j < r.length := (List.getElem?_eq_some_iff.1 hy).1
  rw [take_snoc hx, take_snoc hy, sameL_append (by simp; omega), h]
  simp [sameL]
theorem sameL_stop {l r : List Ex} {j : Nat} (h : l.length = r.length) (h2 : sameL (l.take j) (r.take j) = false) : sameL l r = false := by
  have h3 := sameL_append (a := l.take j) (a2 := r.take j) (b := l.drop j) (b2 := r.drop j) (by simp; omega)
  rw [List.take_append_drop, List.take_append_drop, h2, Bool.false_and] at h3
  exact h3
set_option maxHeartbeats 4000000 in
theorem equal_calls (A B : Option Addr) (c d : Nat) (l r : List Ex) (w : World) (hl : CellsG enX w A c l) (hr : CellsG enX w B d r) (hn : l.length ≤ 3000) (hm : r.length ≤ 9223372036854775807)
    (hS : ∀ x ∈ l, ∀ y ∈ r, ∀ W, Below w.heap.size w W → Calls Tryd.prog 18 #[x.v, y.v] W fun q w' => q = .returned (.bool (x.same y)) ∧ Below W.heap.size W w') :
    Calls Tryd.prog 38 #[.slice A l.length c, .slice B r.length d, .func (.func 18) #[] #[]] w fun q w' => q = .returned (.bool (decide (l.length = r.length) && sameL l r)) ∧ Below w.heap.size w w' := by
  have HL := Lib.hid hl
  have HR := Lib.hid hr
  have HS := Lib.hid hS
  obtain ⟨ln, hln⟩ : ∃ ln, ln = l.length := ⟨_, rfl⟩
  obtain ⟨rn, hrn⟩ : ∃ rn, rn = r.length := ⟨_, rfl⟩
  have HLN := Lib.hid hln
  have HRN := Lib.hid hrn
  rw [← hln] at hn ⊢
  rw [← hrn] at hm ⊢
  clear hl hr hS hln hrn
  by_cases hlr : ln = rn
  · subst hlr
    rw [decide_eq_true rfl, Bool.true_and]
    have e1 : ((ln : Int) != (ln : Int)) = false := by simp
    obtain ⟨z, hz⟩ : ∃ z, z = sameL l r := ⟨_, rfl⟩
    rw [← hz]
    have HZ := Lib.hid hz
    clear hz hm
    go_enter Tryd.func38, Tryd.ntmps38
    go_wp2_with fail
    go_loopw [17] (RelE l r w) (fun i _ => 3001 - (intOf i).toNat)
    case atStart => exact ⟨0, rfl, Nat.zero_le _, Lib.hid (by simp [sameL]), Below.refl _ _⟩
    case round =>
      obtain ⟨j, rfl, hj, hsa, hbr⟩ := hrel
      rw [← HLN.out] at hj
      have HBR := Lib.hid hbr
      have HSA := Lib.hid hsa.out
      clear hbr hsa
      by_cases hlt : j < ln
      · obtain ⟨x, hx⟩ : ∃ x, l[j]? = some x := ⟨l[j]'(by rw [← HLN.out]; exact hlt), by simp⟩
        obtain ⟨y, hy⟩ : ∃ y, r[j]? = some y := ⟨r[j]'(by rw [← HRN.out]; exact hlt), by simp⟩
        obtain ⟨b, o, hA, hb, hck⟩ := arg_cells HL.out (by rw [← HLN.out]; omega)
        obtain ⟨b2, o2, hA2, hb2, hck2⟩ := arg_cells HR.out (by rw [← HRN.out]; omega)
        subst hA hA2
        obtain ⟨a0, a1, a2, a3, a4⟩ := hck j x hx wr HBR.out
        have hba := below_one wr (.cells #[.int .i64 x.op, .int .u8 x.vl.k, .int .i64 x.vl.n, .string x.vl.s, .slice x.adr x.args.length x.cp] 26)
        have hbb := hba.alloc (by simp) (.cells #[.int .i64 y.op, .int .u8 y.vl.k, .int .i64 y.vl.n, .string y.vl.s, .slice y.adr y.args.length y.cp] 26)
        obtain ⟨q0, q1, q2, q3, q4⟩ := hck2 j y hy _ (HBR.out.trans (hba.mono HBR.out.size))
        have bx1 := Blk.new wr #[.int .i64 x.op, .int .u8 x.vl.k, .int .i64 x.vl.n, .string x.vl.s, .slice x.adr x.args.length x.cp] 26
        have bx := bx1.alloc (.cells #[.int .i64 y.op, .int .u8 y.vl.k, .int .i64 y.vl.n, .string y.vl.s, .slice y.adr y.args.length y.cp] 26)
        have b_y := Blk.newAt (wr.alloc (.cells #[.int .i64 x.op, .int .u8 x.vl.k, .int .i64 x.vl.n, .string x.vl.s, .slice x.adr x.args.length x.cp] 26)) #[.int .i64 y.op, .int .u8 y.vl.k, .int .i64 y.vl.n, .string y.vl.s, .slice y.adr y.args.length y.cp] 26 (g := wr.heap.size + 1) (by simp)
        obtain ⟨u0, u1, u2, u3, u4⟩ := bx.cells5
        obtain ⟨t0, t1, t2, t3, t4⟩ := b_y.cells5
        have HBB := Lib.hid (HBR.out.trans (hbb.mono HBR.out.size))
        have HC := Lib.hid (HS.out x (List.mem_of_getElem? hx) y (List.mem_of_getElem? hy) _ HBB.out)
        have hnx := sameL_next hx hy HSA.out
        obtain ⟨v, hv⟩ : ∃ v, v = x.same y := ⟨_, rfl⟩
        rw [← hv] at HC hnx
        have HNX := Lib.hid hnx
        unfold Ex.v at HC
        have h1i : (j : Int) < (ln : Int) := by omega
        generalize x.op = p0 at *
        generalize x.vl.k = p1 at *
        generalize x.vl.n = p2 at *
        generalize x.vl.s = p3 at *
        generalize x.adr = p4 at *
        generalize x.args.length = p5 at *
        generalize x.cp = p6 at *
        generalize y.op = s0 at *
        generalize y.vl.k = s1 at *
        generalize y.vl.n = s2 at *
        generalize y.vl.s = s3 at *
        generalize y.adr = s4 at *
        generalize y.args.length = s5 at *
        generalize y.cp = s6 at *
        clear hck hck2 hx hy hv hnx hb hb2 hba hbb bx bx1 b_y hj
        go_wp2_with fail
        refine HC.out.mono ?_
        rintro q w2 ⟨rfl, hbw⟩
        have HBW := Lib.hid (HBB.out.trans (hbw.mono HBB.out.size))
        clear hbw
        dsimp only
        cases v with
        | true =>
          go_wp2
          go_roundw
          case rel => exact ⟨j + 1, by go_num, by rw [← HLN.out]; omega, HNX, HBW.out⟩
          case measure => simp [intOf]; omega
        | false =>
          go_wp2
          go_ret
          exact ⟨by rw [HZ.out, sameL_stop (by rw [← HLN.out, ← HRN.out]) HNX.out]; rfl, HBW.out⟩
      · have h1i : ¬ (j : Int) < (ln : Int) := by omega
        have hze : z = true := by
          have h9 := HSA.out
          rw [show j = ln by omega, List.take_of_length_le (by rw [← HLN.out]; omega), List.take_of_length_le (by rw [← HRN.out]; omega)] at h9
          rw [HZ.out, h9]
        have HZE := Lib.hid hze
        clear hze
        go_wp2
        go_ret
        exact ⟨by rw [HZE.out]; rfl, HBR.out⟩
  · have e1 : ((ln : Int) != (rn : Int)) = true := by simp; omega
    rw [decide_eq_false hlr, Bool.false_and]
    clear hlr
    go_enter Tryd.func38, Tryd.ntmps38
    go_wp2
    go_ret
    exact ⟨rfl, Below.refl _ _⟩
set_option maxHeartbeats 8000000 in
theorem psame_calls : ∀ (x : Ex) (y : Ex) (w : World), x.size ≤ 3000 → y.Good → x.At w → y.At w → Calls Tryd.prog 18 #[x.v, y.v] w fun q w' => q = .returned (.bool (x.same y)) ∧ Below w.heap.size w w' := by
  intro x
  induction x using Ex.ind with
  | h op v A c l ih =>
    intro y w hsz hgy hAx hAy
    obtain ⟨op2, v2, A2, c2, l2⟩ := y
    simp only [Ex.At] at hAx hAy
    simp only [Ex.Good] at hgy
    simp only [Ex.same]
    obtain ⟨hcl, hal⟩ := hAx
    obtain ⟨hcl2, hal2⟩ := hAy
    have hl3 : l.length ≤ 3000 := by
      have h9 := hsz
      simp only [Ex.size] at h9
      have := sizeL_len l
      omega
    have hm2 : l2.length ≤ 9223372036854775807 := by have := hgy.2.1; unfold maxLen at this; omega
    have HO := Lib.hid (fun W => order_calls v v2 W)
    have HEQ := Lib.hid (fun W (hW : Below w.heap.size w W) => equal_calls A A2 c c2 l l2 W (hcl.below hW) (hcl2.below hW) hl3 hm2 (fun e he e2 he2 W2 hW2 => ih e he e2 W2 (by have := size_arg (op := op) (v := v) (A := A) (c := c) he; omega) (goodL_mem hgy.2.2 e2 he2) (Ex.At.below (hW.trans (hW2.mono hW.size)) e (atL_mem hal e he)) (Ex.At.below (hW.trans (hW2.mono hW.size)) e2 (atL_mem hal2 e2 he2))))
    unfold Ex.v
    simp only [Ex.op, Ex.vl, Ex.adr, Ex.args, Ex.cp]
    obtain ⟨z, hz⟩ : ∃ z, z = ordV v v2 := ⟨_, rfl⟩
    rw [← hz] at HO ⊢
    unfold Vl.v at HO
    obtain ⟨k, n, s⟩ := v
    obtain ⟨k2, n2, s2⟩ := v2
    dsimp only at HO ⊢
    obtain ⟨e, he⟩ : ∃ e, e = (decide (l.length = l2.length) && sameL l l2) := ⟨_, rfl⟩
    rw [← he] at HEQ
    obtain ⟨t, ht⟩ : ∃ t, t = ((decide (op = op2) && (decide (l.length = l2.length) && (decide (op ≠ 0) || decide (z = 0)))) && sameL l l2) := ⟨_, rfl⟩
    rw [← ht]
    have htt : t = (decide (op = op2) && ((decide (op ≠ 0) || decide (z = 0)) && e)) := by
      rw [ht, he]
      cases decide (op = op2) <;> cases decide (l.length = l2.length) <;> cases (decide (op ≠ 0) || decide (z = 0)) <;> cases sameL l l2 <;> rfl
    generalize l.length = ln at *
    generalize l2.length = ln2 at *
    have hB1 := below_two w (.cells #[.int .i64 op, .int .u8 k, .int .i64 n, .string s, .slice A ln c] 26) (.cells #[.int .i64 op2, .int .u8 k2, .int .i64 n2, .string s2, .slice A2 ln2 c2] 26)
    have bx := (Blk.new w #[.int .i64 op, .int .u8 k, .int .i64 n, .string s, .slice A ln c] 26).alloc (.cells #[.int .i64 op2, .int .u8 k2, .int .i64 n2, .string s2, .slice A2 ln2 c2] 26)
    have b_y := Blk.newAt (w.alloc (.cells #[.int .i64 op, .int .u8 k, .int .i64 n, .string s, .slice A ln c] 26)) #[.int .i64 op2, .int .u8 k2, .int .i64 n2, .string s2, .slice A2 ln2 c2] 26 (g := w.heap.size + 1) (by simp)
    obtain ⟨x0, x1, x2, x3, x4⟩ := bx.cells5
    obtain ⟨t0, t1, t2, t3, t4⟩ := b_y.cells5
    have HB1 := Lib.hid hB1
    have HBX := Lib.hid bx
    have HBY := Lib.hid b_y
    clear ih hsz hgy hcl hal hcl2 hal2 hz he ht hl3 hm2 hB1 bx b_y
    by_cases h1 : op = op2
    · have e1 : (op != op2) = false := by simpa using h1
      rw [decide_eq_true h1, Bool.true_and] at htt
      by_cases h0 : op = 0
      · have e0 : (op == 0) = true := by simpa using h0
        rw [show decide (op ≠ 0) = false by simp [h0], Bool.false_or] at htt
        by_cases hz : z = 0
        · have ez : (z != 0) = false := by simpa using hz
          rw [decide_eq_true hz, Bool.true_and] at htt
          have HT := Lib.hid htt
          clear h1 h0 hz htt
          go_enter Tryd.func18, Tryd.ntmps18
          go_wp2_with fail
          refine (HO.out _).mono ?_
          rintro q w2 ⟨rfl, hb2⟩
          obtain ⟨x0, x1, x2, x3, x4⟩ := (HBX.out.belowAll hb2).cells5
          obtain ⟨t0, t1, t2, t3, t4⟩ := (HBY.out.belowAll hb2).cells5
          have HB2 := Lib.hid (HB1.out.trans (hb2.mono HB1.out.size))
          clear hb2
          dsimp only
          go_wp2_with fail
          refine (HEQ.out _ HB2.out).mono ?_
          rintro q w3 ⟨rfl, hb3⟩
          have HB3 := Lib.hid (HB2.out.trans (hb3.mono HB2.out.size))
          clear hb3
          dsimp only
          go_wp2
          go_ret
          exact ⟨by rw [HT.out]; rfl, HB3.out⟩
        · have ez : (z != 0) = true := by simpa using hz
          rw [decide_eq_false hz, Bool.false_and] at htt
          have HT := Lib.hid htt
          clear h1 h0 hz htt
          go_enter Tryd.func18, Tryd.ntmps18
          go_wp2_with fail
          refine (HO.out _).mono ?_
          rintro q w2 ⟨rfl, hb2⟩
          have HB2 := Lib.hid (HB1.out.trans (hb2.mono HB1.out.size))
          clear hb2
          dsimp only
          go_wp2
          go_ret
          exact ⟨by rw [HT.out]; rfl, HB2.out⟩
      · have e0 : (op == 0) = false := by simpa using h0
        rw [show decide (op ≠ 0) = true by simp [h0], Bool.true_or, Bool.true_and] at htt
        have HT := Lib.hid htt
        clear h1 h0 htt
        go_enter Tryd.func18, Tryd.ntmps18
        go_wp2_with fail
        refine (HEQ.out _ HB1.out).mono ?_
        rintro q w3 ⟨rfl, hb3⟩
        have HB3 := Lib.hid (HB1.out.trans (hb3.mono HB1.out.size))
        clear hb3
        dsimp only
        go_wp2
        go_ret
        exact ⟨by rw [HT.out]; rfl, HB3.out⟩
    · have e1 : (op != op2) = true := by simpa using h1
      rw [decide_eq_false h1, Bool.false_and] at htt
      have HT := Lib.hid htt
      clear h1 htt
      go_enter Tryd.func18, Tryd.ntmps18
      go_wp2
      go_ret
      exact ⟨by rw [HT.out]; rfl, HB1.out⟩
end Go.Proofs.YtkaapfakalojaaaDoor
namespace Go.Proofs.YtkaapfakalojaaaDoor
open Go.ChangeShapes Go.WideShapes Go.ChangeAt Go.RowKit
set_option linter.unusedVariables false
set_option maxRecDepth 20000
def vz : Vl := ⟨0, 0, ⟨#[]⟩⟩
/-- The example's expression, its arguments at block g. -/
def liveE (g : Nat) : Ex := .node 8 vz (some ⟨g, 0, none⟩) 2 [.node 2 vz none 0 [], .node 0 ⟨0, 5, ⟨#[]⟩⟩ none 0 []]
def liveCs : Array Value := #[.int .i64 2, .int .u8 0, .int .i64 0, .string ⟨#[]⟩, .slice none 0 0, .int .i64 0, .int .u8 0, .int .i64 5, .string ⟨#[]⟩, .slice none 0 0]
theorem vl_good (n : Int) (h0 : -9223372036854775808 ≤ n) (h1 : n ≤ 9223372036854775807) : Vl.Good ⟨0, n, ⟨#[]⟩⟩ := ⟨Int.le_refl _, by show (0 : Int) ≤ 255; omega, h0, h1, Nat.zero_le _⟩
theorem liveE_good (g : Nat) : (liveE g).Good := by
  unfold liveE vz
  simp only [Ex.Good, goodL, List.length_cons, List.length_nil]
  have h1 := vl_good 0 (by omega) (by omega)
  have h2 := vl_good 5 (by omega) (by omega)
  refine ⟨⟨⟨by omega, by omega⟩, h1⟩, by unfold maxLen; omega, ⟨⟨⟨by omega, by omega⟩, h1⟩, by omega, trivial⟩, ⟨⟨⟨by omega, by omega⟩, h2⟩, by omega, trivial⟩, trivial⟩
theorem liveE_small (g : Nat) : (liveE g).size + (liveE g).txt ≤ 3000 := by
  unfold liveE vz
  simp only [Ex.size, Ex.txt, sizeL, txtL]
  have : (⟨#[]⟩ : ByteArray).size = 0 := rfl
  omega
theorem liveE_text (g : Nat) : str (liveE g).text = ⟨#[40, 97, 100, 100, 32, 111, 102, 102, 32, 53, 41]⟩ := by
  have h5 : num10 5 = [53] := by
    rw [num10_pos (by omega), show (5 : Int).natAbs = 5 from rfl, dgs_small (by omega)]; rfl
  unfold liveE vz
  simp only [Ex.text, textL, List.length_cons, List.length_nil]
  rw [if_neg (by decide), if_neg (by decide), if_neg (by decide), if_pos (by decide), if_pos (by decide), if_pos (by decide), h5]
  rfl
theorem liveE_at (w : World) {g : Nat} (hg : g = w.heap.size) : (liveE g).At (w.alloc (.cells liveCs 26)) := by
  have hb := Blk.newAt w liveCs 26 hg
  unfold liveE
  simp only [Ex.At, atL]
  refine ⟨.inr ⟨_, rfl, fun j u hu => ?_⟩, ⟨CellsG.nil _ _, trivial⟩, ⟨CellsG.nil _ _, trivial⟩, trivial⟩
  have e : (⟨g, 0, none⟩ : Addr).add j = ⟨g, j, none⟩ := by
    unfold Addr.add
    split
    · rename_i hz; rw [hz]
    · simp
  rw [e, hb.cell j, ← Array.getElem?_toList]
  exact hu
theorem live_of (w : World) (HT : ∀ (e : Ex) (W : World), Below w.heap.size w W → e.size + e.txt ≤ 3000 → e.Good → e.At W → Calls Tryd.prog 15 #[e.v] W fun q w' => q = .returned (.string (str e.text)) ∧ Below W.heap.size W w') :
    Calls Tryd.prog 7 #[] w fun q w' => q = .returned (.bool true) ∧ Below w.heap.size w w' := by
  have hB1 := below_one w (.cells liveCs 26)
  have HC := Lib.hid (HT (liveE w.heap.size) (w.alloc (.cells liveCs 26)) hB1 (liveE_small _) (liveE_good _) (liveE_at w rfl))
  rw [liveE_text] at HC
  have HB1 := Lib.hid hB1
  rw [show (liveE w.heap.size).v = .agg #[.int .i64 8, .int .u8 0, .int .i64 0, .string ⟨#[]⟩, .slice (some ⟨w.heap.size, 0, none⟩) 2 2] from rfl] at HC
  unfold liveCs at HC HB1
  clear hB1 HT
  go_enter Tryd.func7, Tryd.ntmps7
  go_wp2_with fail
  refine HC.out.mono ?_
  rintro q w2 ⟨rfl, hb2⟩
  have HB2 := Lib.hid (HB1.out.trans (hb2.mono HB1.out.size))
  clear hb2
  dsimp only
  go_wp2
  go_ret
  exact ⟨rfl, HB2.out⟩
end Go.Proofs.YtkaapfakalojaaaDoor
namespace Go.Proofs.YtkaapfakalojaaaDoor
open Go.ChangeShapes Go.WideShapes Go.ChangeAt Go.RowKit
set_option linter.unusedVariables false
theorem tabV_of {w : World} (h : Lib.TabIs Tryd.prog w "internal/strconv.uint64pow10" .u64 Lib.pow10Tab) : TabV w := fun V hV => by
  have hg : Tryd.prog.globalNamed "internal/strconv.uint64pow10" = some 2 := by kernel_rfl
  exact Go.Joins.var_stays hg h hV (Nat.le_refl _)
theorem TabV.later {w W : World} (h : TabV w) (hW : Below w.heap.size w W) : TabV W := fun V hV => h V (hW.trans (hV.mono hW.size))
theorem p9_of_laid {w : World} (hL : Laid w) : P9 w := by
  have hT := optab_of_laid hL
  have hV := tabV_of (tab_of_laid hL)
  have hs3 : ∀ e : Ex, e.size + e.txt ≤ 3000 → e.size ≤ 3000 := fun e h => by have := txt_nonneg e; omega
  have htext : ∀ (e : Ex) (W : World), Below w.heap.size w W → e.size + e.txt ≤ 3000 → e.Good → e.At W → Calls Tryd.prog 15 #[e.v] W fun q w' => q = .returned (.string (str e.text)) ∧ Below W.heap.size W w' :=
    fun e W hW hs hg hA => ptext_calls e W hs hg hA (hT.below hW) (hV.later hW)
  exact {
    size := fun e W hW hs hg hA => size_calls e W (hs3 e hs) hA
    deep := fun e W hW hs hg hA => deep_calls e W (hs3 e hs) hA
    right := fun e W hW hs hg hA => right_calls e W (hs3 e hs) hA (hT.below hW)
    text := htext
    same := fun x y W hW hx hy hgx hgy hAx hAy => psame_calls x y W (hs3 x hx) hgy hAx hAy
    live := fun W hW => live_of W (fun e W2 hW2 hs hg hA => htext e W2 (hW.trans (hW2.mono hW.size)) hs hg hA)
    name := fun op W hW => (name_calls op W (hT.below hW)).mono (fun q w' h => ⟨h.1, by rw [h.2]; exact Below.refl _ _⟩)
    find := fun s W hW _ => find_calls s W (hT.below hW)
    arity := fun op W hW => (arity_calls op W (hT.below hW)).mono (fun q w' h => ⟨h.1, by rw [h.2]; exact Below.refl _ _⟩)
    quote := fun s W hW hs => pquote_calls s (by omega) W }
end Go.Proofs.YtkaapfakalojaaaDoor
