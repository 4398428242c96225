/-
  Contracts of the program's Show, Int and Text, and of the document's Show. Conditions: numbers of 64 bits; the table of powers of ten reads as its initialiser lays it.
-/
import Derived.Test.YtdgdkkapikopnaaDoorNPlain
import Derived.Test.YtdgdkkapikopnaaDoorNDec
import Derived.Test.YtdgdkkapikopnaaDoorShelf
namespace Go.Proofs.YtdgdkkapikopnaaDoor
open Go.ChangeShapes Go.WideShapes Go.ChangeAt Go.RowKit
set_option linter.unusedVariables false
set_option maxRecDepth 20000
/-- A number in decimal. -/
def itS (n : Int) : ByteArray := ⟨(Lib.itoa n).toArray⟩
theorem str_num10 (n : Int) : str (num10 n) = itS n := by
  apply ByteArray.ext
  apply Array.toList_inj.1
  rw [str_data, num10, List.map_map]
  show _ = (Lib.itoa n).toArray.toList
  rw [List.toList_toArray]
  conv => rhs; rw [← List.map_id (Lib.itoa n)]
  apply List.map_congr_left
  intro x _
  simp
theorem itS_data (n : Int) : (itS n).data.toList = Lib.itoa n := by unfold itS; simp
theorem itS_size {n : Int} (h : I64 n) : (itS n).size ≤ 21 := by
  have h1 := Lib.itoa_length_le n h.1 h.2
  show (Lib.itoa n).toArray.size ≤ 21
  simpa using h1
/-- A value as a text. -/
def showV (a : Vl) : ByteArray := if a.k = 0 then itS a.n else a.s
def TabV (w : World) : Prop := ∀ V, Below w.heap.size w V → Lib.TabIs Tryd.prog V "internal/strconv.uint64pow10" .u64 Lib.pow10Tab
theorem itoa_calls (n : Int) (hn : I64 n) (w : World) (hT : TabV w) : Calls Tryd.prog 40 #[.int .i64 n] w fun e w' => e = .returned (.string (itS n)) ∧ Below w.heap.size w w' := by
  refine (Tryd.strconv_Itoa n hn.1 hn.2 w (hT w (Below.refl _ _))).mono ?_
  rintro e w' ⟨rfl, k, os, rfl⟩
  exact ⟨rfl, Lib.below_grow _ _ (Nat.le_refl _) _ _⟩
theorem show_calls (a : Vl) (ga : I64 a.n) (w : World) (hT : TabV w) : Calls Tryd.prog 17 #[a.v] w fun e w' => e = .returned (.string (showV a)) ∧ Below w.heap.size w w' := by
  obtain ⟨k, n, s⟩ := a
  unfold Vl.v showV
  dsimp only at ga ⊢
  have b4 := Blk.new w #[.int .u8 k, .int .i64 n, .string s] 23
  have hB := below_one w (.cells #[.int .u8 k, .int .i64 n, .string s] 23)
  have HI := Lib.hid (itoa_calls n ga (w.alloc (.cells #[.int .u8 k, .int .i64 n, .string s] 23)) (fun V hV => hT V (hB.trans (hV.mono hB.size))))
  have HB := Lib.hid hB
  obtain ⟨x0, x1, x2⟩ := b4.cells3
  clear b4 hB ga hT
  by_cases h : k = 0
  · rw [if_pos h]
    subst h
    go_enter Tryd.func17, Tryd.ntmps17
    go_wp2_with fail
    refine HI.out.mono ?_
    rintro e w' ⟨rfl, hb⟩
    have HB' := Lib.hid hb
    clear hb
    dsimp only
    go_wp2
    go_ret
    exact ⟨rfl, HB.out.trans (HB'.out.mono HB.out.size)⟩
  · rw [if_neg h]
    have h' : (k == 0) = false := by simpa using h
    go_enter Tryd.func17, Tryd.ntmps17
    go_wp2
    go_ret
    exact ⟨rfl, HB.out⟩
theorem rshow_calls (a : Vl) (ga : I64 a.n) (w : World) : Calls Tryd.prog 19 #[a.v] w fun e w' => e = .returned (.string (showV a)) ∧ Below w.heap.size w w' := by
  obtain ⟨k, n, s⟩ := a
  unfold Vl.v showV
  dsimp only at ga ⊢
  have b4 := Blk.new w #[.int .u8 k, .int .i64 n, .string s] 23
  have hB := below_one w (.cells #[.int .u8 k, .int .i64 n, .string s] 23)
  have HI := Lib.hid (rnum10_calls n ga (w.alloc (.cells #[.int .u8 k, .int .i64 n, .string s] 23)))
  rw [str_num10] at HI
  have HB := Lib.hid hB
  obtain ⟨x0, x1, x2⟩ := b4.cells3
  clear b4 hB ga
  by_cases h : k = 0
  · rw [if_pos h]
    subst h
    go_enter Tryd.func19, Tryd.ntmps19
    go_wp2_with fail
    refine HI.out.mono ?_
    rintro e w' ⟨rfl, hb⟩
    subst w'
    dsimp only
    go_wp2
    go_ret
    exact ⟨rfl, HB.out⟩
  · rw [if_neg h]
    have h' : (k == 0) = false := by simpa using h
    go_enter Tryd.func19, Tryd.ntmps19
    go_wp2
    go_ret
    exact ⟨rfl, HB.out⟩
theorem int_calls (n : Int) (w : World) : Calls Tryd.prog 18 #[.int .i64 n] w fun e w' => e = .returned (Vl.v ⟨0, n, ⟨#[]⟩⟩) ∧ Below w.heap.size w w' := by
  have b5 := Blk.new w #[.int .u8 0, .int .i64 0, .string ⟨#[]⟩] 23
  obtain ⟨x0, x1, x2⟩ := b5.cells3
  obtain ⟨z0, z1, z2⟩ := b5.free3
  clear b5
  unfold Vl.v
  dsimp only
  go_enter Tryd.func18, Tryd.ntmps18
  go_wp2
  exact bodyPost_ret (results_cell1 rfl _ _ _ _ _ rfl (lv23 (Blk.newAt _ _ _ rfl))) rfl ⟨rfl, below_one w _⟩
theorem text1_calls (s : ByteArray) (w : World) : Calls Tryd.prog 20 #[.string s] w fun e w' => e = .returned (Vl.v ⟨1, 0, s⟩) ∧ Below w.heap.size w w' := by
  have b5 := Blk.new w #[.int .u8 0, .int .i64 0, .string ⟨#[]⟩] 23
  obtain ⟨x0, x1, x2⟩ := b5.cells3
  obtain ⟨z0, z1, z2⟩ := b5.free3
  clear b5
  unfold Vl.v
  dsimp only
  go_enter Tryd.func20, Tryd.ntmps20
  go_wp2
  exact bodyPost_ret (results_cell1 rfl _ _ _ _ _ rfl (lv23 (Blk.newAt _ _ _ rfl))) rfl ⟨rfl, below_one w _⟩
end Go.Proofs.YtdgdkkapikopnaaDoor
