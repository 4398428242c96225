/-
  Contracts of the program's Get and of the document's Get. Conditions: bytes of at most 1,000,000.
-/
import Derived.Test.YtdgdkkapikopnaaDoorNGet
namespace Go.Proofs.YtdgdkkapikopnaaDoor
open Go.ChangeShapes Go.WideShapes Go.ChangeAt Go.RowKit
set_option linter.unusedVariables false
set_option maxRecDepth 20000
section
variable {A : Option Addr} {c : Nat} {l : List Int} {w : World}
set_option maxHeartbeats 2000000 in
theorem getv_calls (i : Int) (h : Lies w A c l) (hb : IsB l) (hc : l.length ≤ c) (hl : l.length ≤ 1000000) :
    Calls Tryd.prog 8 #[.slice A l.length c, .int .i64 i] w fun e w' => e = .returned (triV (getV l i)) ∧ Below w.heap.size w w' := by
  have hB1 := below_one w (.cells #[.int .u8 0, .int .i64 0, .string ⟨#[]⟩] 23)
  have bx := Blk.new w #[.int .u8 0, .int .i64 0, .string ⟨#[]⟩] 23
  obtain ⟨y0, y1, y2⟩ := bx.cells3
  obtain ⟨z0, z1, z2⟩ := bx.free3
  have HB1 := Lib.hid hB1
  have HX := Lib.hid bx
  have HH := Lib.hid h
  have HIB := Lib.hid hb
  have HLC := Lib.hid hc
  obtain ⟨r, hr⟩ : ∃ r, r = getV l i := ⟨_, rfl⟩
  rw [← hr]
  unfold getV at hr
  clear hB1 bx
  by_cases h1 : i < 0 ∨ (l.length : Int) < i
  · rw [if_pos h1] at hr
    subst hr
    unfold triV v0
    dsimp only
    generalize l.length = ln at *
    by_cases h2 : i < 0
    · have d1 : decide (i < 0) = true := by simpa using h2
      clear h hb hc hl
      go_enter Tryd.func8, Tryd.ntmps8
      go_wp2
      exact bodyPost_ret (results_cell_tmp2 rfl _ _ _ _ _ rfl (lv23 HX.out)) rfl ⟨rfl, HB1.out⟩
    · have d1 : decide (i < 0) = false := by simpa using h2
      have d2 : decide ((ln : Int) < i) = true := decide_eq_true (by omega)
      clear h hb hc hl
      go_enter Tryd.func8, Tryd.ntmps8
      go_wp2
      exact bodyPost_ret (results_cell_tmp2 rfl _ _ _ _ _ rfl (lv23 HX.out)) rfl ⟨rfl, HB1.out⟩
  · rw [if_neg h1] at hr
    have d1 : decide (i < 0) = false := decide_eq_false (by omega)
    have d2 : decide ((l.length : Int) < i) = false := decide_eq_false (by omega)
    by_cases h2 : i = l.length
    · rw [if_pos h2] at hr
      have e1 : (i == (l.length : Int)) = true := beq_iff_eq.2 h2
      subst hr
      unfold triV v0
      dsimp only
      clear h2
      generalize l.length = ln at *
      clear h hb hc hl
      go_enter Tryd.func8, Tryd.ntmps8
      go_wp2
      exact bodyPost_ret (results_cell_tmp2 rfl _ _ _ _ _ rfl (lv23 HX.out)) rfl ⟨rfl, HB1.out⟩
    · rw [if_neg h2] at hr
      have e1 : (i == (l.length : Int)) = false := beq_eq_false_iff_ne.2 h2
      obtain ⟨j, rfl⟩ : ∃ j : Nat, i = j := ⟨i.toNat, by omega⟩
      have hjl : j < l.length := by omega
      obtain ⟨g, o, hA, hg, hcell⟩ := h.at_ (by omega)
      subst hA
      rw [Int.toNat_natCast] at hr
      have hx := IsB.getD hb hjl
      obtain ⟨x, hxx⟩ : ∃ x, x = l.getD j 0 := ⟨_, rfl⟩
      have ck0 := hcell j hjl
      rw [← hxx] at hr hx ck0
      have ck1 := (HB1.out.cell (p := ⟨g, o + j, none⟩) hg).trans ck0
      have hji : (j : Int) < (l.length : Int) := by omega
      have hwj : wrap64 ((j : Int) + 1) = (j : Int) + 1 := by unfold wrap64; omega
      have HG := Lib.hid (getNumber_calls (w := (w.alloc (.cells #[.int .u8 0, .int .i64 0, .string ⟨#[]⟩] 23))) ((j : Int) + 1) (HH.out.below HB1.out) HIB.out HLC.out hl)
      have HT := Lib.hid (getText1_calls (w := (w.alloc (.cells #[.int .u8 0, .int .i64 0, .string ⟨#[]⟩] 23))) ((j : Int) + 1) (HH.out.below HB1.out) HIB.out HLC.out hl)
      have HGI := Lib.hid (getI_err (l := l) (i := (j : Int) + 1))
      clear hcell h hb hc ck0 hxx h1 h2
      rw [show (if (getT l ((j : Int) + 1) 65536).2.2 = 0 then ((⟨1, 0, str (getT l ((j : Int) + 1) 65536).1⟩ : Vl), (getT l ((j : Int) + 1) 65536).2.1, (0 : Int)) else (v0, 0, (getT l ((j : Int) + 1) 65536).2.2)) = getX l ((j : Int) + 1) from rfl] at hr
      generalize getI l ((j : Int) + 1) = gi at *
      generalize getX l ((j : Int) + 1) = gx at *
      generalize l.length = ln at *
      by_cases hx0 : x = 0
      · rw [if_pos hx0] at hr
        subst hr
        have q0 : (x == 0) = true := beq_iff_eq.2 hx0
        unfold triV at HG ⊢
        dsimp only at HG ⊢
        clear hx hx0 HT HGI
        go_enter Tryd.func8, Tryd.ntmps8
        go_wp2_with fail
        refine HG.out.mono ?_
        rintro e' w1 ⟨rfl, hb1⟩
        have b1 := HX.out.belowAll hb1
        obtain ⟨y0, y1, y2⟩ := b1.cells3
        obtain ⟨z0, z1, z2⟩ := b1.free3
        have HX1 := Lib.hid b1
        have HC1 := Lib.hid (HB1.out.trans (hb1.mono HB1.out.size))
        clear b1 hb1
        dsimp only
        go_wp2
        exact bodyPost_ret (results_cell_tmp2 rfl _ _ _ _ _ rfl (lv23 (HX1.out.set3 _ _ _))) rfl ⟨rfl, below_set3 HC1.out (Nat.le_refl _) _ _ _⟩
      · rw [if_neg hx0] at hr
        have q0 : (x == 0) = false := beq_eq_false_iff_ne.2 hx0
        by_cases hx1 : x = 1
        · rw [if_pos hx1] at hr
          subst hr
          have q1 : (x == 1) = true := beq_iff_eq.2 hx1
          unfold triV at HT ⊢
          clear hx hx0 hx1 HG HGI
          go_enter Tryd.func8, Tryd.ntmps8
          go_wp2_with fail
          refine HT.out.mono ?_
          rintro e' w1 ⟨rfl, hb1⟩
          have b1 := HX.out.belowAll hb1
          obtain ⟨y0, y1, y2⟩ := b1.cells3
          obtain ⟨z0, z1, z2⟩ := b1.free3
          have HX1 := Lib.hid b1
          have HC1 := Lib.hid (HB1.out.trans (hb1.mono HB1.out.size))
          clear b1 hb1
          dsimp only
          go_wp2
          exact bodyPost_ret (results_cell_tmp2 rfl _ _ _ _ _ rfl (lv23 (HX1.out.set3 _ _ _))) rfl ⟨rfl, below_set3 HC1.out (Nat.le_refl _) _ _ _⟩
        · rw [if_neg hx1] at hr
          subst hr
          have q1 : (x == 1) = false := beq_eq_false_iff_ne.2 hx1
          unfold triV v0
          dsimp only
          clear hx hx0 hx1 HG HGI HT
          go_enter Tryd.func8, Tryd.ntmps8
          go_wp2
          exact bodyPost_ret (results_cell_tmp2 rfl _ _ _ _ _ rfl (lv23 HX.out)) rfl ⟨rfl, HB1.out⟩
set_option maxHeartbeats 2000000 in
theorem rgetv_calls (i : Int) (h : Lies w A c l) (hb : IsB l) (hc : l.length ≤ c) (hl : l.length ≤ 1000000) :
    Calls Tryd.prog 9 #[.slice A l.length c, .int .i64 i] w fun e w' => e = .returned (triV (getV l i)) ∧ Below w.heap.size w w' := by
  have hB1 := below_one w (.cells #[.int .u8 0, .int .i64 0, .string ⟨#[]⟩] 23)
  have bx := Blk.new w #[.int .u8 0, .int .i64 0, .string ⟨#[]⟩] 23
  obtain ⟨y0, y1, y2⟩ := bx.cells3
  obtain ⟨z0, z1, z2⟩ := bx.free3
  have HB1 := Lib.hid hB1
  have HX := Lib.hid bx
  have HH := Lib.hid h
  have HIB := Lib.hid hb
  have HLC := Lib.hid hc
  obtain ⟨r, hr⟩ : ∃ r, r = getV l i := ⟨_, rfl⟩
  rw [← hr]
  unfold getV at hr
  clear hB1 bx
  by_cases h1 : i < 0 ∨ (l.length : Int) < i
  · rw [if_pos h1] at hr
    subst hr
    unfold triV v0
    dsimp only
    generalize l.length = ln at *
    by_cases h2 : i < 0
    · have d1 : decide (i < 0) = true := by simpa using h2
      clear h hb hc hl
      go_enter Tryd.func9, Tryd.ntmps9
      go_wp2
      exact bodyPost_ret (results_cell_tmp2 rfl _ _ _ _ _ rfl (lv23 HX.out)) rfl ⟨rfl, HB1.out⟩
    · have d1 : decide (i < 0) = false := by simpa using h2
      have d2 : decide ((ln : Int) < i) = true := decide_eq_true (by omega)
      clear h hb hc hl
      go_enter Tryd.func9, Tryd.ntmps9
      go_wp2
      exact bodyPost_ret (results_cell_tmp2 rfl _ _ _ _ _ rfl (lv23 HX.out)) rfl ⟨rfl, HB1.out⟩
  · rw [if_neg h1] at hr
    have d1 : decide (i < 0) = false := decide_eq_false (by omega)
    have d2 : decide ((l.length : Int) < i) = false := decide_eq_false (by omega)
    by_cases h2 : i = l.length
    · rw [if_pos h2] at hr
      have e1 : (i == (l.length : Int)) = true := beq_iff_eq.2 h2
      subst hr
      unfold triV v0
      dsimp only
      clear h2
      generalize l.length = ln at *
      clear h hb hc hl
      go_enter Tryd.func9, Tryd.ntmps9
      go_wp2
      exact bodyPost_ret (results_cell_tmp2 rfl _ _ _ _ _ rfl (lv23 HX.out)) rfl ⟨rfl, HB1.out⟩
    · rw [if_neg h2] at hr
      have e1 : (i == (l.length : Int)) = false := beq_eq_false_iff_ne.2 h2
      obtain ⟨j, rfl⟩ : ∃ j : Nat, i = j := ⟨i.toNat, by omega⟩
      have hjl : j < l.length := by omega
      obtain ⟨g, o, hA, hg, hcell⟩ := h.at_ (by omega)
      subst hA
      rw [Int.toNat_natCast] at hr
      have hx := IsB.getD hb hjl
      obtain ⟨x, hxx⟩ : ∃ x, x = l.getD j 0 := ⟨_, rfl⟩
      have ck0 := hcell j hjl
      rw [← hxx] at hr hx ck0
      have ck1 := (HB1.out.cell (p := ⟨g, o + j, none⟩) hg).trans ck0
      have hji : (j : Int) < (l.length : Int) := by omega
      have hwj : wrap64 ((j : Int) + 1) = (j : Int) + 1 := by unfold wrap64; omega
      have HG := Lib.hid (rgetInt_calls (some ⟨g, o, none⟩) c l ((j : Int) + 1) (w.alloc (.cells #[.int .u8 0, .int .i64 0, .string ⟨#[]⟩] 23)) (HH.out.below HB1.out) HIB.out HLC.out hl)
      have HT := Lib.hid (rgetText_calls (some ⟨g, o, none⟩) c l ((j : Int) + 1) 65536 (w.alloc (.cells #[.int .u8 0, .int .i64 0, .string ⟨#[]⟩] 23)) (HH.out.below HB1.out) HIB.out HLC.out hl (by decide))
      have HGI := Lib.hid (getI_err (l := l) (i := (j : Int) + 1))
      clear hcell h hb hc ck0 hxx h1 h2
      unfold triI at HG
      unfold triT at HT
      generalize getI l ((j : Int) + 1) = gi at *
      generalize getT l ((j : Int) + 1) 65536 = gt at *
      obtain ⟨gn, gxx, ge⟩ := gi
      obtain ⟨tq, tx, te⟩ := gt
      dsimp only at HG HT hr HGI
      generalize str tq = tqs at *
      generalize l.length = ln at *
      by_cases hx0 : x = 0
      · rw [if_pos hx0] at hr
        subst hr
        have q0 : (x == 0) = true := beq_iff_eq.2 hx0
        have q1 : decide (1 < x) = false := decide_eq_false (by omega)
        unfold triV
        dsimp only
        clear hx hx0 HT HGI
        go_enter Tryd.func9, Tryd.ntmps9
        go_wp2_with fail
        refine HG.out.mono ?_
        rintro e' w1 ⟨rfl, hb1⟩
        have b1 := HX.out.belowAll hb1
        obtain ⟨y0, y1, y2⟩ := b1.cells3
        obtain ⟨z0, z1, z2⟩ := b1.free3
        have HX1 := Lib.hid b1
        have HC1 := Lib.hid (HB1.out.trans (hb1.mono HB1.out.size))
        clear b1 hb1
        dsimp only
        go_wp2
        exact bodyPost_ret (results_cell_tmp2 rfl _ _ _ _ _ rfl (lv23 (HX1.out.set3 _ _ _))) rfl ⟨rfl, below_set3 HC1.out (Nat.le_refl _) _ _ _⟩
      · rw [if_neg hx0] at hr
        have q0 : (x == 0) = false := beq_eq_false_iff_ne.2 hx0
        by_cases hx1 : x = 1
        · rw [if_pos hx1] at hr
          have q1 : decide (1 < x) = false := decide_eq_false (by omega)
          clear HG HGI
          by_cases hte : te = 0
          · rw [if_pos hte] at hr
            subst hr
            have q2 : (te != 0) = false := by simpa using hte
            unfold triV
            dsimp only
            clear hx hx0 hx1 hte
            go_enter Tryd.func9, Tryd.ntmps9
            go_wp2_with fail
            refine HT.out.mono ?_
            rintro e' w1 ⟨rfl, hb1⟩
            have b1 := HX.out.belowAll hb1
            obtain ⟨y0, y1, y2⟩ := b1.cells3
            obtain ⟨z0, z1, z2⟩ := b1.free3
            have HX1 := Lib.hid b1
            have HC1 := Lib.hid (HB1.out.trans (hb1.mono HB1.out.size))
            clear b1 hb1
            dsimp only
            go_wp2
            exact bodyPost_ret (results_cell_tmp2 rfl _ _ _ _ _ rfl (lv23 (HX1.out.set3 _ _ _))) rfl ⟨rfl, below_set3 HC1.out (Nat.le_refl _) _ _ _⟩
          · rw [if_neg hte] at hr
            subst hr
            have q2 : (te != 0) = true := by simpa using hte
            unfold triV v0
            dsimp only
            clear hx hx0 hx1 hte
            go_enter Tryd.func9, Tryd.ntmps9
            go_wp2_with fail
            refine HT.out.mono ?_
            rintro e' w1 ⟨rfl, hb1⟩
            have b1 := HX.out.belowAll hb1
            obtain ⟨y0, y1, y2⟩ := b1.cells3
            obtain ⟨z0, z1, z2⟩ := b1.free3
            have HX1 := Lib.hid b1
            have HC1 := Lib.hid (HB1.out.trans (hb1.mono HB1.out.size))
            clear b1 hb1
            dsimp only
            go_wp2
            exact bodyPost_ret (results_cell_tmp2 rfl _ _ _ _ _ rfl (lv23 (HX1.out.set3 _ _ _))) rfl ⟨rfl, below_set3 HC1.out (Nat.le_refl _) _ _ _⟩
        · rw [if_neg hx1] at hr
          subst hr
          have q1 : decide (1 < x) = true := decide_eq_true (by omega)
          unfold triV v0
          dsimp only
          clear hx hx0 hx1 HG HGI HT
          go_enter Tryd.func9, Tryd.ntmps9
          go_wp2
          exact bodyPost_ret (results_cell_tmp2 rfl _ _ _ _ _ rfl (lv23 HX.out)) rfl ⟨rfl, HB1.out⟩
end
end Go.Proofs.YtdgdkkapikopnaaDoor
