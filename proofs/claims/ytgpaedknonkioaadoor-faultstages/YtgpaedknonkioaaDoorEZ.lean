/-
  Contracts of fault.addTexts, addText and Tell. Conditions: an error that New, In and Both made, of at most a million bytes of text, or nil; the table of powers of ten reads as its initialiser lays it.
-/
import Derived.Test.YtgpaedknonkioaaDoorEY
import Derived.Test.YtgpaedknonkioaaDoorEL
namespace Go.Proofs.YtgpaedknonkioaaDoor
open Go.ChangeShapes Go.WideShapes Go.ChangeAt Go.RowKit
set_option linter.unusedVariables false

set_option maxRecDepth 100000 in
set_option maxHeartbeats 4000000 in
theorem addTexts_calls (q d : Nat) (ua ub : Value) (ta tb : List Int) (B : Nat) (A : Option Addr) (c : Nat) (l : List Int) (w : World) (h : OwnS B w A c l) (hB : B ≤ w.heap.size) (hl : l.length + ta.length + tb.length ≤ 10000000)
    (h1 : w.cell? ⟨q, 0, none⟩ = some ua) (h2 : w.cell? ⟨q, 1, none⟩ = some ub) (hq : q < B)
    (HA : Hid (∀ W A1 c1 l1, Fr B w W → l1.length ≤ l.length + 1 → OwnS B W A1 c1 l1 → Calls Tryd.prog 27 #[.slice A1 l1.length c1, ua] W (Txt B W (l1 ++ ta))))
    (HU : Hid (∀ W A1 c1 l1, Fr B w W → l1.length ≤ l.length + ta.length + 3 → OwnS B W A1 c1 l1 → Calls Tryd.prog 27 #[.slice A1 l1.length c1, ub] W (Txt B W (l1 ++ tb)))) :
    Calls Tryd.prog 43 #[.slice A l.length c, .slice (some ⟨q, 0, none⟩) 2 d] w (Txt B w (l ++ ([40] ++ (ta ++ ([59, 32] ++ (tb ++ [41])))))) := by
  have HO := Lib.hid (h.alloc (.cells #[.int .u8 40] 5))
  have hf0 : Fr B w (w.alloc (.cells #[.int .u8 40] 5)) := (Fr.refl _ _).alloc hB _
  have HL := Lib.hid (show sl ⟨#[59, 32]⟩ = [59, 32] by decide)
  clear h
  obtain ⟨R, hR⟩ : ∃ R, R = l ++ ([40] ++ (ta ++ ([59, 32] ++ (tb ++ [41])))) := ⟨_, rfl⟩
  rw [← hR]
  have HR := Lib.hid hR
  clear hR
  go_enter Tryd.func43, Tryd.ntmps43
  go_wp2_with (at_builtin; go_must (refine wpList_append_some rfl _ _ rfl B A c l rfl HO.out (some ⟨w.heap.size, 0, none⟩) 1 [40] rfl (lies_one w 40) (by simp; omega) (hf0.size hB) ?_); intro A1 c1 w1 L1 hL1 hown1 hf1; refine Hid.out ?_)
  refine Lib.hid ?_
  have hlen1 : L1.length ≤ l.length + 1 := by rw [hL1.out, List.length_append]; exact Nat.le_refl _
  have hf01 := hf0.trans hf1
  have g1 := (hf01.1.cell (p := ⟨q, 0, none⟩) hq).trans h1
  have HC := Lib.hid (HA.out w1 A1 c1 L1 hf01 hlen1 hown1)
  obtain ⟨L2, hL2⟩ : ∃ L2, L2 = L1 ++ ta := ⟨_, rfl⟩
  rw [← hL2] at HC
  have hlen2 : L2.length ≤ l.length + ta.length + 1 := by rw [hL2, List.length_append]; omega
  have HL2 := Lib.hid hL2
  clear hL2
  go_wp2_with (at_builtin; fail)
  refine wp_loop_rounds 3 ?_
  rw [rounds_succ]
  go_wp2_with (go_at_call 27; refine HC.out.mono ?_; rintro e w2 ⟨A2, c2, rfl, ho2, hf2⟩; refine Hid.out ?_)
  refine Lib.hid ?_
  have hf02 := hf01.trans hf2
  have hB2 := hf02.size hB
  have g2 := (hf02.1.cell (p := ⟨q, 1, none⟩) hq).trans h2
  have HO2 := Lib.hid ho2
  go_wp2_with (at_builtin; fail)
  rw [rounds_succ]
  go_wp2_with (at_builtin; go_must (refine wpList_append_text rfl _ _ rfl B A2 c2 L2 rfl HO2.out ⟨#[59, 32]⟩ rfl (by have : (⟨#[59, 32]⟩ : ByteArray).size = 2 := rfl; omega) hB2 ?_); intro A3 c3 w3 L3 hL3 hown3 hf3; refine Hid.out ?_)
  refine Lib.hid ?_
  have hlen3 : L3.length ≤ l.length + ta.length + 3 := by rw [hL3.out, List.length_append, HL.out]; simp; omega
  have hf03 := hf02.trans hf3
  have HC3 := Lib.hid (HU.out w3 A3 c3 L3 hf03 hlen3 hown3)
  obtain ⟨L4, hL4⟩ : ∃ L4, L4 = L3 ++ tb := ⟨_, rfl⟩
  rw [← hL4] at HC3
  have hlen4 : L4.length ≤ l.length + ta.length + tb.length + 3 := by rw [hL4, List.length_append]; omega
  have HL4 := Lib.hid hL4
  clear hL4
  go_wp2_with (go_at_call 27; refine HC3.out.mono ?_; rintro e w4 ⟨A4, c4, rfl, ho4, hf4⟩; refine Hid.out ?_)
  refine Lib.hid ?_
  have hf04 := hf03.trans hf4
  have hB4 := hf04.size hB
  go_wp2_with (at_builtin; fail)
  rw [rounds_succ]
  have HO4 := Lib.hid (ho4.alloc (.cells #[.int .u8 41] 5))
  have hf5 := (Fr.refl B w4).alloc hB4 (.cells #[.int .u8 41] 5)
  go_wp2_with (at_builtin; go_must (refine wpList_append_some rfl _ _ rfl B A4 c4 L4 rfl HO4.out (some ⟨w4.heap.size, 0, none⟩) 1 [41] rfl (lies_one w4 41) (by simp; omega) (hf5.size hB4) ?_); intro A6 c6 w6 L6 hL6 hown6 hf6)
  go_ret
  have he : R = L6 := by rw [HR.out, hL6.out, HL4.out, hL3.out, HL.out, HL2.out, hL1.out]; simp only [List.append_assoc]
  rw [he]
  exact ⟨A6, c6, rfl, hown6, (hf04.trans hf5).trans hf6⟩

set_option maxRecDepth 100000 in
set_option maxHeartbeats 2000000 in
theorem addText_two (p q d : Nat) (R : List Int) (B : Nat) (A : Option Addr) (c : Nat) (l : List Int) (w : World) (h0 : w.cell? ⟨p, 0, none⟩ = some (.slice (some ⟨q, 0, none⟩) 2 d))
    (HC : Hid (Calls Tryd.prog 43 #[.slice A l.length c, .slice (some ⟨q, 0, none⟩) 2 d] w (Txt B w R))) :
    Calls Tryd.prog 27 #[.slice A l.length c, .iface 86 (.pointer (some ⟨p, 0, none⟩))] w (Txt B w R) := by
  have HJ := Lib.hid (joinUnwrap_calls p q d w h0)
  clear h0
  have hn := nil_no 86 (.pointer (some ⟨p, 0, none⟩))
  have k1 := n86
  have k2 := s86
  have k3 := sev86
  have k4 := joinUn
  go_enter Tryd.func27, Tryd.ntmps27
  go_wp2_with (first
    | (go_at_call 83; refine HJ.out.mono ?_; rintro e w1 ⟨rfl, rfl⟩)
    | (go_at_call 43; refine HC.out.mono ?_; rintro e w1 ⟨A1, c1, rfl, ho, hf⟩))
  go_ret
  exact ⟨A1, c1, rfl, ho, hf⟩

/-- addText: the text of the error behind what was there. -/
theorem addText_calls (w0 : World) (hT : Tab w0.heap.size w0) : ∀ (t : Er) (v : Value) (w : World) (A : Option Addr) (c : Nat) (l : List Int), t.ok → IsE w0 t v → Below w0.heap.size w0 w → OwnS w0.heap.size w A c l → l.length + t.wt ≤ 10000000 →
    Calls Tryd.prog 27 #[.slice A l.length c, v] w (Txt w0.heap.size w (l ++ t.tell))
  | .num n, v, w, A, c, l, hk, hv, hb, ho, hl => by
    obtain rfl := hv
    exact addText_num n hk.1 _ A c l w ho hb.size (by omega) (hT.on hb)
  | .stage s no t, v, w, A, c, l, hk, ⟨u, hv, hu⟩, hb, ho, hl => by
    subst hv
    simp only [Er.wt] at hl
    obtain ⟨ty, x, rfl⟩ := hu.iface
    refine addText_stage s no hk.1 ty x _ _ A c l w ho hb.size (by omega) (hT.on hb) (Lib.hid fun W A1 c1 l1 hW hl1 hoW => ?_)
    have := num10_len hk.1
    have := sl_length s
    have := addText_calls w0 hT t _ W A1 c1 l1 hk.2 hu (hb.trans hW.1) hoW (by rw [hl1]; simp; omega)
    rw [Er.tell]
    rw [hl1] at this ⊢
    simp only [List.append_assoc] at this
    exact this
  | .two a b, v, w, A, c, l, hk, ⟨p, q, d, ua, ub, hv, k0, k1, k2, ka, kb⟩, hb, ho, hl => by
    subst hv
    simp only [Er.wt] at hl
    have hta := Er.tell_le a hk.1
    have htb := Er.tell_le b hk.2
    have e0 := (hb.cell (block_lt_of_cell k0)).trans k0
    have e1 := (hb.cell (block_lt_of_cell k1)).trans k1
    have e2 := (hb.cell (block_lt_of_cell k2)).trans k2
    refine addText_two p q d _ _ A c l w e0 (Lib.hid (addTexts_calls q d ua ub a.tell b.tell _ A c l w ho hb.size (by omega) e1 e2 (block_lt_of_cell k1) (Lib.hid fun W A1 c1 l1 hW hl1 hoW => ?_) (Lib.hid fun W A1 c1 l1 hW hl1 hoW => ?_)))
    · exact addText_calls w0 hT a ua W A1 c1 l1 hk.1 ka (hb.trans hW.1) hoW (by omega)
    · exact addText_calls w0 hT b ub W A1 c1 l1 hk.2 kb (hb.trans hW.1) hoW (by omega)
  termination_by t => t

def tellO : Option Er → List Int
  | none => [111, 107]
  | some t => t.tell

theorem tell1_calls (t : Option Er) (v : Value) (w W : World) (g : Nat) (h : IsO w t v) (hb : Below w.heap.size w W) (ht : ∀ e, t = some e → e.ok ∧ e.wt ≤ 1000000) (hT : Tab w.heap.size w) (h1 : Blk W g #[v] 26) (h2 : Blk W (g + 1) #[.slice none 0 0] 60) (hg : w.heap.size ≤ g) :
    Calls Tryd.prog 26 #[.pointer (some ⟨g, 0, none⟩), .pointer (some ⟨g + 1, 0, none⟩)] W fun e w' => e = .returned (.tuple #[]) ∧ ∃ A c, Blk w' (g + 1) #[.slice A (tellO t).length c] 60 ∧ Lies w' A c (tellO t) ∧ Below w.heap.size w w' := by
  have c1 := h1.cell 0
  have HC : Hid (Calls Tryd.prog 27 #[.slice none 0 0, v] W (Txt w.heap.size W (tellO t))) := by
    cases t with
    | none =>
      obtain rfl : v = .nilIface := h
      exact Lib.hid (addText_nil w.heap.size none 0 [] W (OwnS.nil _ _) hb.size (by simp))
    | some t => exact Lib.hid (addText_calls w hT t v W none 0 [] (ht t rfl).1 h hb (OwnS.nil _ _) (by have := (ht t rfl).2; simp; omega))
  simp at c1
  have H2 := Lib.hid h2
  clear h h1 h2 ht
  generalize tellO t = R at *
  go_enter Tryd.func26, Tryd.ntmps26
  go_wp2_with (go_at_call 27; refine HC.out.mono ?_; rintro e w1 ⟨A1, c1, rfl, ho, hb1, hk⟩; have hB1 := H2.out.kept hk (by decide); have f1 := hB1.cell 0; have f2 := hB1.free 0; simp at f1)
  go_end0
  refine ⟨rfl, A1, c1, ?_, OwnS.lies (ho.kept (kept_set hB1 0 _) (by decide)), (hb.trans hb1).setCell (by simp; omega) _⟩
  have := hB1.set 0 (.slice A1 R.length c1)
  simpa using this

theorem tell_calls (t : Option Er) (v : Value) (w : World) (h : IsO w t v) (ht : ∀ e, t = some e → e.ok ∧ e.wt ≤ 1000000) (hT : Tab w.heap.size w) : Calls Tryd.prog 11 #[v] w fun e w' => e = .returned (.string (str (tellO t))) ∧ Below w.heap.size w w' := by
  have hv : ∃ ty x, v = .nilIface ∨ v = .iface ty x := by
    cases t with
    | none => exact ⟨0, .nilIface, .inl h⟩
    | some t => obtain ⟨ty, x, hx⟩ := IsE.iface (t := t) h; exact ⟨ty, x, .inr hx⟩
  have hd : Below w.heap.size w ((w.alloc (.cells #[v] 26)).alloc (.cells #[.slice none 0 0] 60)) := ((Below.refl _ _).alloc (Nat.le_refl _) _).alloc (by simp) _
  have HC := Lib.hid (calmly26 _ _ _ _ (tell1_calls t v w _ w.heap.size h hd ht hT ((Blk.new w #[v] 26).alloc _) (by have := Blk.new (w.alloc (.cells #[v] 26)) #[.slice none 0 0] 60; simpa using this) (Nat.le_refl _)))
  have hmf := make_func
  generalize tellO t = R at *
  clear h ht hd hT
  rcases hv with ⟨ty, x, rfl | rfl⟩
  all_goals
    go_enter Tryd.func11, Tryd.ntmps11
    go_wp2_with (go_at_call 23; refine HC.out.mono ?_; rintro e w1 ⟨rfl, A, c, hb, hc, hB⟩; have f := hb.cell 0; have fs := run_str hc; simp at f)
    go_ret
    exact ⟨rfl, hB⟩
end Go.Proofs.YtgpaedknonkioaaDoor
