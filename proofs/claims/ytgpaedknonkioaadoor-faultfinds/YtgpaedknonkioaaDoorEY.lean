/-
  Contracts of fault.addText and addTexts. Conditions: an error that New, In and Both made, of at most a million bytes of text; the table of powers of ten reads as its initialiser lays it.
-/
import Derived.Test.YtgpaedknonkioaaDoorEX
import Derived.Test.YtgpaedknonkioaaDoorEA
namespace Go.Proofs.YtgpaedknonkioaaDoor
open Go.ChangeShapes Go.WideShapes Go.ChangeAt Go.RowKit
set_option linter.unusedVariables false

theorem Txt.pre {B : Nat} {w w1 : World} {r : List Int} {e : Ending} {w' : World} (h : Fr B w w1) (k : Txt B w1 r e w') : Txt B w r e w' := by
  obtain ⟨A, c, he, ho, hf⟩ := k
  exact ⟨A, c, he, ho, h.trans hf⟩

set_option maxRecDepth 100000 in
set_option maxHeartbeats 2000000 in
theorem addText_nil (B : Nat) (A : Option Addr) (c : Nat) (l : List Int) (w : World) (h : OwnS B w A c l) (hB : B ≤ w.heap.size) (hl : l.length ≤ 100000000) :
    Calls Tryd.prog 27 #[.slice A l.length c, .nilIface] w (Txt B w (l ++ [111, 107])) := by
  have HO := Lib.hid h
  have HL := Lib.hid (show sl ⟨#[111, 107]⟩ = [111, 107] by decide)
  clear h
  go_enter Tryd.func27, Tryd.ntmps27
  go_wp2_with (at_builtin; go_must (refine wpList_append_text rfl _ _ rfl B A c l rfl HO.out ⟨#[111, 107]⟩ rfl (by have : (⟨#[111, 107]⟩ : ByteArray).size = 2 := rfl; omega) hB ?_); intro A3 c3 w3 L3 hL3 hown3 hf3)
  go_ret
  obtain rfl := hL3.out
  rw [HL.out] at hown3 ⊢
  exact ⟨A3, c3, rfl, hown3, hf3⟩

set_option maxRecDepth 100000 in
set_option maxHeartbeats 2000000 in
theorem addText_num (n : Int) (hn : I64 n) (B : Nat) (A : Option Addr) (c : Nat) (l : List Int) (w : World) (h : OwnS B w A c l) (hB : B ≤ w.heap.size) (hl : l.length ≤ 100000000) (hT : Tab B w) :
    Calls Tryd.prog 27 #[.slice A l.length c, .iface 39 (.int .i64 n)] w (Txt B w (l ++ (Er.num n).tell)) := by
  have HO := Lib.hid h
  have HL := Lib.hid (show sl ⟨#[101, 114, 114, 111, 114, 32]⟩ = [101, 114, 114, 111, 114, 32] by decide)
  have HT := Lib.hid hT
  have hno := nil_no 39 (.int .i64 n)
  have k1 := n39
  clear h hT
  go_enter Tryd.func27, Tryd.ntmps27
  go_wp2_with (at_builtin; go_must (refine wpList_append_text rfl _ _ rfl B A c l rfl HO.out ⟨#[101, 114, 114, 111, 114, 32]⟩ rfl (by have : (⟨#[101, 114, 114, 111, 114, 32]⟩ : ByteArray).size = 6 := rfl; omega) hB ?_); intro A3 c3 w3 L3 hL3 hown3 hf3; refine Hid.out ?_)
  refine Lib.hid ?_
  have hlen : L3.length ≤ l.length + 6 := by rw [hL3.out, HL.out]; simp
  have HC := Lib.hid (appInt_calls n hn B A3 c3 L3 w3 hown3 (hf3.size hB) (by omega) (HT.out.on hf3.1))
  obtain ⟨L4, hL4⟩ : ∃ L4, L4 = L3 ++ num10 n := ⟨_, rfl⟩
  rw [← hL4] at HC
  have HL4 := Lib.hid hL4
  clear hL4
  go_wp2_with (go_at_call 42; refine HC.out.mono ?_; rintro e w4 ⟨A4, c4, rfl, ho4, hf4⟩)
  go_ret
  have he : l ++ (Er.num n).tell = L4 := by rw [HL4.out, hL3.out, HL.out, Er.tell, List.append_assoc]
  rw [he]
  exact ⟨A4, c4, rfl, ho4, hf3.trans hf4⟩

set_option maxRecDepth 100000 in
set_option maxHeartbeats 4000000 in
theorem addText_stage (s : ByteArray) (no : Int) (hno : I64 no) (ty : TypeId) (x : Value) (R : List Int) (B : Nat) (A : Option Addr) (c : Nat) (l : List Int) (w : World) (h : OwnS B w A c l) (hB : B ≤ w.heap.size) (hl : l.length + s.size ≤ 100000000) (hT : Tab B w)
    (HU : Hid (∀ W A1 c1 l1, Fr B w W → l1 = l ++ (sl s ++ ([32] ++ (num10 no ++ [58, 32]))) → OwnS B W A1 c1 l1 → Calls Tryd.prog 27 #[.slice A1 l1.length c1, .iface ty x] W (Txt B W R))) :
    Calls Tryd.prog 27 #[.slice A l.length c, .iface 45 (.agg #[.string s, .int .i64 no, .iface ty x])] w (Txt B w R) := by
  have hb1 := Blk.new w #[.string s, .int .i64 no, .iface ty x] 45
  have HO := Lib.hid (h.alloc (.cells #[.string s, .int .i64 no, .iface ty x] 45))
  have hf1 : Fr B w (w.alloc (.cells #[.string s, .int .i64 no, .iface ty x] 45)) := (Fr.refl _ _).alloc hB _
  have HL := Lib.hid (show sl ⟨#[58, 32]⟩ = [58, 32] by decide)
  have HT := Lib.hid hT
  have hn := nil_no 45 (.agg #[.string s, .int .i64 no, .iface ty x])
  have k1 := n45
  have k2 := s45
  clear h hT
  go_enter Tryd.func27, Tryd.ntmps27
  go_wp2_with (at_builtin; go_must (refine wpList_append_text rfl _ _ rfl B A c l rfl HO.out s rfl (by omega) (hf1.size hB) ?_); intro A2 c2 w2 L2 hL2 hown2 hf2; refine Hid.out ?_)
  refine Lib.hid ?_
  have hlen2 : L2.length ≤ l.length + s.size := by rw [hL2.out, List.length_append, sl_length]; exact Nat.le_refl _
  have hb2 := hb1.kept hf2.2 (by decide)
  have hB2 := (hf1.trans hf2).size hB
  have HO2 := Lib.hid (hown2.alloc (.cells #[.int .u8 32] 5))
  have hf2' := (Fr.refl B w2).alloc hB2 (.cells #[.int .u8 32] 5)
  go_wp2_with (at_builtin; go_must (refine wpList_append_some rfl _ _ rfl B A2 c2 L2 rfl HO2.out (some ⟨w2.heap.size, 0, none⟩) 1 [32] rfl (lies_one w2 32) (by simp; omega) (hf2'.size hB2) ?_); intro A3 c3 w3 L3 hL3 hown3 hf3; refine Hid.out ?_)
  refine Lib.hid ?_
  have hlen3 : L3.length ≤ l.length + s.size + 1 := by rw [hL3.out, List.length_append]; exact Nat.add_le_add_right hlen2 1
  have hf13 := ((hf1.trans hf2).trans hf2').trans hf3
  have hB3 := hf13.size hB
  have hb3 := (hb2.alloc (.cells #[.int .u8 32] 5)).kept hf3.2 (by decide)
  have e3 := hb3.cell 1
  simp at e3
  have HC := Lib.hid (appInt_calls no hno B A3 c3 L3 w3 hown3 hB3 (by omega) (HT.out.on hf13.1))
  obtain ⟨L4, hL4⟩ : ∃ L4, L4 = L3 ++ num10 no := ⟨_, rfl⟩
  have hn4 := num10_len hno
  have hlen4 : L4.length ≤ l.length + s.size + 22 := by rw [hL4, List.length_append]; omega
  rw [← hL4] at HC
  have HL4 := Lib.hid hL4
  clear hL4
  go_wp2_with (go_at_call 42; refine HC.out.mono ?_; rintro e w4 ⟨A4, c4, rfl, ho4, hf4⟩; refine Hid.out ?_)
  refine Lib.hid ?_
  have hf14 := hf13.trans hf4
  have hB4 := hf14.size hB
  have hb4 := hb3.kept hf4.2 (by decide)
  have HO4 := Lib.hid ho4
  go_wp2_with (at_builtin; go_must (refine wpList_append_text rfl _ _ rfl B A4 c4 L4 rfl HO4.out ⟨#[58, 32]⟩ rfl (by have : (⟨#[58, 32]⟩ : ByteArray).size = 2 := rfl; omega) hB4 ?_); intro A5 c5 w5 L5 hL5 hown5 hf5; refine Hid.out ?_)
  refine Lib.hid ?_
  have hf15 := hf14.trans hf5
  have hb5 := hb4.kept hf5.2 (by decide)
  have e5 := hb5.cell 2
  simp at e5
  have HU5 := Lib.hid (HU.out w5 A5 c5 L5 hf15 (by rw [hL5.out, HL.out, HL4.out, hL3.out, hL2.out]; simp only [List.append_assoc]) hown5)
  go_wp2_with (go_at_call 27; refine HU5.out.mono ?_; rintro e w6 ⟨A6, c6, rfl, ho6, hf6⟩)
  go_ret
  exact ⟨A6, c6, rfl, ho6, hf15.trans hf6⟩
end Go.Proofs.YtgpaedknonkioaaDoor
