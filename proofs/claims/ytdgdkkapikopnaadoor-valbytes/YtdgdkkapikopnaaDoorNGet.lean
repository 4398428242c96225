/-
  Contracts of the program's Get and of the document's Get. Conditions: bytes of at most 1,000,000.
-/
import Derived.Test.YtdgdkkapikopnaaDoorNPut
import Derived.Test.YtdgdkkapikopnaaDoorNShow
namespace Go.Proofs.YtdgdkkapikopnaaDoor
open Go.ChangeShapes Go.WideShapes Go.ChangeAt Go.RowKit
set_option linter.unusedVariables false
set_option maxRecDepth 20000
def triV (r : Vl × Int × Int) : Value := .tuple #[.agg #[.int .u8 r.1.k, .int .i64 r.1.n, .string r.1.s], .int .i64 r.2.1, .int .i64 r.2.2]
theorem getI_err {l : List Int} {i : Int} (h : (getI l i).2.2 ≠ 0) : getI l i = (0, 0, (getI l i).2.2) := by
  unfold getI at *
  split
  · rename_i h1; rw [if_pos h1] at h; exact absurd rfl h
  · rfl
section
variable {A : Option Addr} {c : Nat} {l : List Int} {w : World}
theorem getNumber_calls (i : Int) (h : Lies w A c l) (hb : IsB l) (hc : l.length ≤ c) (hl : l.length ≤ 1000000) :
    Calls Tryd.prog 25 #[.slice A l.length c, .int .i64 i] w fun e w' => e = .returned (triV (⟨0, (getI l i).1, ⟨#[]⟩⟩, (getI l i).2.1, (getI l i).2.2)) ∧ Below w.heap.size w w' := by
  have hB1 := below_one w (.cells #[.int .u8 0, .int .i64 0, .string ⟨#[]⟩] 23)
  have bx := Blk.new w #[.int .u8 0, .int .i64 0, .string ⟨#[]⟩] 23
  have HG := Lib.hid (getInt_calls A c l i (w.alloc (.cells #[.int .u8 0, .int .i64 0, .string ⟨#[]⟩] 23)) (h.below hB1) hb hc hl)
  have HE := Lib.hid (getI_err (l := l) (i := i))
  unfold triI at HG
  unfold triV
  dsimp only
  generalize getI l i = g at *
  obtain ⟨n, x, e⟩ := g
  dsimp only at HG HE ⊢
  have HB1 := Lib.hid hB1
  have HX := Lib.hid bx
  have HI := Lib.hid (int_calls n)
  unfold Vl.v at HI
  dsimp only at HI
  generalize l.length = ln at *
  clear h hb hc hl hB1 bx
  by_cases he : e = 0
  · have hee : (e != 0) = false := by simpa using he
    go_enter Tryd.func25, Tryd.ntmps25
    go_wp2_with fail
    refine HG.out.mono ?_
    rintro e' w1 ⟨rfl, hb1⟩
    have b1 := HX.out.belowAll hb1
    have HX1 := Lib.hid b1
    have HC1 := Lib.hid (HB1.out.trans (hb1.mono HB1.out.size))
    clear b1 hb1
    dsimp only
    go_wp2_with fail
    refine (HI.out _).mono ?_
    rintro e' w2 ⟨rfl, hb2⟩
    have b2 := HX1.out.belowAll hb2
    obtain ⟨y0, y1, y2⟩ := b2.cells3
    obtain ⟨z0, z1, z2⟩ := b2.free3
    have HX2 := Lib.hid b2
    have HC2 := Lib.hid (HC1.out.trans (hb2.mono HC1.out.size))
    clear b2 hb2
    dsimp only
    go_wp2
    refine bodyPost_ret (results_cell_tmp2 rfl _ _ _ _ _ rfl (lv23 (HX2.out.set3 _ _ _))) rfl ⟨?_, below_set3 HC2.out (Nat.le_refl _) _ _ _⟩
    rw [he]; rfl
  · have hee : (e != 0) = true := by simpa using he
    have h2 := HE.out he
    obtain ⟨rfl, rfl⟩ : n = 0 ∧ x = 0 := by injection h2 with h3 h4; injection h4 with h5 h6; exact ⟨h3, h5⟩
    clear h2
    go_enter Tryd.func25, Tryd.ntmps25
    go_wp2_with fail
    refine HG.out.mono ?_
    rintro e' w1 ⟨rfl, hb1⟩
    have b1 := HX.out.belowAll hb1
    obtain ⟨y0, y1, y2⟩ := b1.cells3
    obtain ⟨z0, z1, z2⟩ := b1.free3
    have HX1 := Lib.hid b1
    have HC1 := Lib.hid (HB1.out.trans (hb1.mono HB1.out.size))
    clear b1 hb1
    dsimp only
    go_wp2
    exact bodyPost_ret (results_cell_tmp2 rfl _ _ _ _ _ rfl (lv23 (HX1.out.set3 _ _ _))) rfl ⟨rfl, below_set3 HC1.out (Nat.le_refl _) _ _ _⟩
/-- The value of a text's bytes. -/
def getX (l : List Int) (i : Int) : Vl × Int × Int := if (getT l i 65536).2.2 = 0 then (⟨1, 0, str (getT l i 65536).1⟩, (getT l i 65536).2.1, 0) else (v0, 0, (getT l i 65536).2.2)
theorem getText1_calls (i : Int) (h : Lies w A c l) (hb : IsB l) (hc : l.length ≤ c) (hl : l.length ≤ 1000000) :
    Calls Tryd.prog 26 #[.slice A l.length c, .int .i64 i] w fun e w' => e = .returned (triV (getX l i)) ∧ Below w.heap.size w w' := by
  have hB1 := below_one w (.cells #[.int .u8 0, .int .i64 0, .string ⟨#[]⟩] 23)
  have bx := Blk.new w #[.int .u8 0, .int .i64 0, .string ⟨#[]⟩] 23
  have HG := Lib.hid (getText_calls A c l i 65536 (w.alloc (.cells #[.int .u8 0, .int .i64 0, .string ⟨#[]⟩] 23)) (h.below hB1) hb hc hl (by decide))
  unfold triT at HG
  unfold triV getX
  generalize getT l i 65536 = g at *
  obtain ⟨q, x, e⟩ := g
  dsimp only at HG ⊢
  have HB1 := Lib.hid hB1
  have HX := Lib.hid bx
  have HI := Lib.hid (text1_calls (str q))
  unfold Vl.v at HI
  dsimp only at HI
  generalize str q = t at *
  generalize l.length = ln at *
  clear h hb hc hl hB1 bx
  by_cases he : e = 0
  · have hee : (e != 0) = false := by simpa using he
    rw [if_pos he]
    go_enter Tryd.func26, Tryd.ntmps26
    go_wp2_with fail
    refine HG.out.mono ?_
    rintro e' w1 ⟨rfl, hb1⟩
    have b1 := HX.out.belowAll hb1
    have HX1 := Lib.hid b1
    have HC1 := Lib.hid (HB1.out.trans (hb1.mono HB1.out.size))
    clear b1 hb1
    dsimp only
    go_wp2_with fail
    refine (HI.out _).mono ?_
    rintro e' w2 ⟨rfl, hb2⟩
    have b2 := HX1.out.belowAll hb2
    obtain ⟨y0, y1, y2⟩ := b2.cells3
    obtain ⟨z0, z1, z2⟩ := b2.free3
    have HX2 := Lib.hid b2
    have HC2 := Lib.hid (HC1.out.trans (hb2.mono HC1.out.size))
    clear b2 hb2
    dsimp only
    go_wp2
    exact bodyPost_ret (results_cell_tmp2 rfl _ _ _ _ _ rfl (lv23 (HX2.out.set3 _ _ _))) rfl ⟨rfl, below_set3 HC2.out (Nat.le_refl _) _ _ _⟩
  · have hee : (e != 0) = true := by simpa using he
    rw [if_neg he]
    unfold v0
    dsimp only
    go_enter Tryd.func26, Tryd.ntmps26
    go_wp2_with fail
    refine HG.out.mono ?_
    rintro e' w1 ⟨rfl, hb1⟩
    have b1 := HX.out.belowAll hb1
    obtain ⟨y0, y1, y2⟩ := b1.cells3
    obtain ⟨z0, z1, z2⟩ := b1.free3
    have HX1 := Lib.hid b1
    have HC1 := Lib.hid (HB1.out.trans (hb1.mono HB1.out.size))
    clear b1 hb1
    dsimp only
    go_wp2
    exact bodyPost_ret (results_cell_tmp2 rfl _ _ _ _ _ rfl (lv23 (HX1.out.set3 _ _ _))) rfl ⟨rfl, below_set3 HC1.out (Nat.le_refl _) _ _ _⟩
end
end Go.Proofs.YtdgdkkapikopnaaDoor
