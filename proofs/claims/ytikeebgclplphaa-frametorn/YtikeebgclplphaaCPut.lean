/-
  Contracts of crc.written and crc.Put, and of the document Put. Conditions: slices of at most a million bytes, each from 0 to 255.
-/
import Derived.Test.YtikeebgclplphaaCOf
import Derived.Test.YtikeebgclplphaaGrow
namespace Go.Proofs.Ytikeebgclplphaa
open Go.ChangeShapes Go.WideShapes Go.ChangeAt Go.RowKit
set_option linter.unusedVariables false

/-- A number in four bytes, the least significant first. -/
def le4Z (s : Int) : List Int := [s % 256, s / 256 % 256, s / 65536 % 256, s / 16777216 % 256]

theorem written_calls (s : Int) (w : World) (h0 : 0 ≤ s) (h1 : s ≤ 4294967295) : Calls Try.prog 30 #[.int .u32 s] w (Own w.heap.size w (le4Z s)) := by
  have e : le4Z s = [s % 256, s / 256 % 256, s / 65536 % 256, s / 16777216] := by
    unfold le4Z
    rw [Int.emod_eq_of_lt (show 0 ≤ s / 16777216 by omega) (by omega)]
  rw [e]
  go_enter Try.func30, Try.ntmps30
  go_wp2
  go_ret
  exact ⟨_, 4, rfl, World.ownsRow_lit (size := 1) w #[.int .u8 (s % 256), .int .u8 (s / 256 % 256), .int .u8 (s / 65536 % 256), .int .u8 (s / 16777216)] 4 (Nat.le_refl _) (by unfold maxLen; omega) rfl, (Below.refl _ _).alloc (Nat.le_refl _) _⟩

set_option maxHeartbeats 1000000 in
theorem cput_calls (A : Option Addr) (c : Nat) (l : List Int) (w : World) (h : Lies w A c l) (hb : IsB l) (hl : l.length ≤ 1000000) :
    Calls Try.prog 19 #[.slice A l.length c] w (Own w.heap.size w (l ++ le4Z (sumZ l))) := by
  obtain ⟨i0, hi, hz0, hz1, hz2⟩ := info_parts Try.info5
  obtain ⟨s0, s1⟩ := sumZ_range l hb
  have HO := Lib.hid (fun (W : World) (hbl : Below w.heap.size w W) => of_calls A c l W (h.below hbl) hb hl)
  have H := Lib.hid h
  clear h hb
  generalize sumZ l = s at *
  go_enter Try.func19, Try.ntmps19
  go_wp2_with (first
    | (at_make; refine wpList_make_own _ rfl _ _ 22 rfl w.heap.size 5 i0 (.int .u8 0) 1 Try.underlying22 hi hz0 hz1 .i64 .i64 _ (l.length + 4) rfl rfl (by omega) (by rw [hz2]; omega) (by unfold maxLen; omega) (Nat.le_refl _) ?_; intro w1 hown1 hgrow1; have hb1 : Below w.heap.size w w1 := (Below.refl _ _).grown hgrow1 (Nat.le_refl _) (by intro k hk; cases hk))
    | (at_builtin; go_must (refine wpList_append_bytes rfl _ _ rfl w.heap.size (some ⟨w.heap.size, 0, none⟩) (l.length + 4) [] rfl hown1 A c l rfl (H.out.below hb1) (by simp; omega) hb1.size ?_); intro A2 c2 w2 L2 hL2 hown2 hgrow2))
  have hb2 := OwnS.grow (l := []) hown1 hb1 hgrow2 hb1.size
  obtain rfl : L2 = l := by rw [hL2.out]; rfl
  refine (HO.out _ hb2).mono ?_
  rintro e w3 ⟨rfl, hb3⟩
  have hown3 := hown2.below hb3
  go_wp2_with fail
  refine (written_calls s w3 s0 s1).mono ?_
  rintro e w4 ⟨A4, c4, rfl, hown4, hb4⟩
  have hown5 := hown3.below hb4
  have hb5 := Below.on (Below.on hb2 hb3) hb4
  clear hown1 hgrow1 hown2 hgrow2 hown3
  go_wp2_with (at_builtin; go_must (refine wpList_append_bytes rfl _ _ rfl w.heap.size A2 c2 L2 rfl hown5 A4 c4 (le4Z s) rfl (Lies.of_own hown4) (by simp [le4Z]; omega) hb5.size ?_); intro A6 c6 w6 L6 hL6 hown6 hgrow6)
  go_ret
  rw [← hL6.out]
  exact ⟨A6, c6, rfl, hown6, hown5.grow hb5 hgrow6 hb5.size⟩

/-- The relation of the loop of the document Put: j bytes of the checksum have been written. -/
def RelP (B : Nat) (w : World) (l : List Int) (s : Int) (n v i : Value) (wr : World) : Prop :=
  ∃ j : Nat, j ≤ 4 ∧ i = .int .i64 j ∧ n = .int .u32 (s / 256 ^ j) ∧ (∃ A c L, v = .slice A L.length c ∧ L = l ++ (le4Z s).take j ∧ OwnS B wr A c L) ∧ Below B w wr

theorem le4Z_step (s : Int) (h0 : 0 ≤ s) (h1 : s ≤ 4294967295) {j : Nat} (h : j < 4) : (le4Z s).take (j + 1) = (le4Z s).take j ++ [s / 256 ^ j % 256] := by
  have : j = 0 ∨ j = 1 ∨ j = 2 ∨ j = 3 := by omega
  rcases this with rfl | rfl | rfl | rfl <;> simp [le4Z]

theorem relP_step {B : Nat} {w w4 : World} {l L3 L4 : List Int} {s : Int} {j : Nat} {A4 : Option Addr} {c4 : Nat} (h0 : 0 ≤ s) (h1 : s ≤ 4294967295) (h : j < 4) (hL3 : L3 = l ++ (le4Z s).take j) (hL4 : L4 = L3 ++ [s / 256 ^ j % 256])
    (hown : OwnS B w4 A4 c4 L4) (hb : Below B w w4) : RelP B w l s (.int .u32 (s / 256 ^ j / 256)) (.slice A4 L4.length c4) (.int .i64 ((j : Int) + 1)) w4 := by
  refine ⟨j + 1, by omega, by go_num, ?_, ⟨A4, c4, L4, rfl, ?_, hown⟩, hb⟩
  · rw [Int.pow_succ, ← Int.ediv_ediv_of_nonneg (Int.le_of_lt (Int.pow_pos (by omega)))]
  · rw [hL4, hL3, le4Z_step s h0 h1 h, List.append_assoc]

set_option maxHeartbeats 1000000 in
theorem crput_calls (A : Option Addr) (c : Nat) (l : List Int) (w : World) (h : Lies w A c l) (hb : IsB l) (hl : l.length ≤ 1000000) :
    Calls Try.prog 20 #[.slice A l.length c] w (Own w.heap.size w (l ++ le4Z (sumZ l))) := by
  obtain ⟨s0, s1⟩ := sumZ_range l hb
  have HO := Lib.hid (rof_calls A c l w h hb hl)
  have H := Lib.hid h
  have hb1 : Below w.heap.size w (w.alloc (.cells #[] 5)) := (Below.refl _ _).alloc (Nat.le_refl _) _
  have hown1 : OwnS w.heap.size (w.alloc (.cells #[] 5)) (some ⟨w.heap.size, 0, none⟩) 0 [] := World.ownsRow_lit (size := 1) w #[] 0 (Nat.le_refl _) (by unfold maxLen; omega) rfl
  clear h hb
  generalize sumZ l = s at *
  go_enter Try.func20, Try.ntmps20
  go_wp2_with (first
    | (go_at_call 32; refine HO.out.mono ?_; rintro e w' ⟨rfl, rfl⟩)
    | (at_builtin; go_must (refine wpList_append_bytes rfl _ _ rfl w.heap.size (some ⟨w.heap.size, 0, none⟩) 0 [] rfl hown1 A c l rfl (H.out.below hb1) (by simp; omega) hb1.size ?_); intro A2 c2 w2 L2 hL2 hown2 hgrow2))
  have hb2 := OwnS.grow hown1 hb1 hgrow2 hb1.size
  obtain rfl : L2 = l := by rw [hL2.out]; rfl
  clear hown1 hgrow2 hL2
  have H2 := Lib.hid hown2
  clear hown2
  go_loopw [3, 4, 5] (RelP w.heap.size w L2 s) (fun _ _ i _ => 4 - (intOf i).toNat)
  case atStart => exact ⟨0, by omega, rfl, by simp, ⟨A2, c2, L2, rfl, by simp, H2.out⟩, hb2⟩
  case round =>
    obtain ⟨j, hj, rfl, rfl, ⟨A3, c3, L3, rfl, hL3, hown3⟩, hb3⟩ := hrel
    have EL := Lib.hid hL3
    have hlen : L3.length ≤ 1000004 := by rw [hL3]; simp [le4Z]; omega
    clear hL3
    by_cases hlt : j < 4
    · have hq0 : 0 ≤ s / 256 ^ j := Int.ediv_nonneg s0 (Int.le_of_lt (Int.pow_pos (by omega)))
      have hq1 : s / 256 ^ j ≤ s := Int.ediv_le_self _ s0
      have HS := Lib.hid (fun (A4 : Option Addr) (c4 : Nat) (L4 : List Int) (w4 : World) (hL4 : L4 = L3 ++ [s / 256 ^ j % 256]) (hown4 : OwnS w.heap.size w4 A4 c4 L4) (hb4 : Below w.heap.size w w4) => relP_step (w := w) s0 s1 hlt EL.out hL4 hown4 hb4)
      generalize s / 256 ^ j = q at *
      have hbs := hb3.size
      have hb4 : Below w.heap.size w (wr.alloc (.cells #[.int .u8 (q % 256)] 5)) := hb3.alloc hbs _
      have hown4 := World.ownsRow.alloc hown3 (.cells #[.int .u8 (q % 256)] 5)
      go_wp2_with (at_builtin; go_must (refine wpList_append_bytes rfl _ _ rfl w.heap.size A3 c3 L3 rfl hown4 (some ⟨wr.heap.size, 0, none⟩) 1 [q % 256] rfl (lies_one wr (q % 256)) (by simp; omega) hb4.size ?_); intro A5 c5 w5 L5 hL5 hown5 hgrow5; have hb5 := OwnS.grow hown4 hb4 hgrow5 hb4.size)
      go_roundw
      case rel => exact HS.out A5 c5 L5 w5 hL5.out hown5 hb5
      case measure => simp [intOf]; omega
    · obtain rfl : j = 4 := by omega
      go_wp2
      go_ret
      have e : L3 = L2 ++ le4Z s := by rw [EL.out]; rfl
      rw [← e]
      exact ⟨A3, c3, rfl, hown3, hb3⟩
end Go.Proofs.Ytikeebgclplphaa
