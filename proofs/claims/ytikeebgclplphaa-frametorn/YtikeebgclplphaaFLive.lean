/-
  The contract of the law file's example: it holds. No conditions.
-/
import Derived.Test.YtikeebgclplphaaFAll
namespace Go.Proofs.Ytikeebgclplphaa
open Go.ChangeShapes Go.WideShapes Go.ChangeAt Go.RowKit
set_option linter.unusedVariables false

theorem live_all : allF (encF [9] ++ [1]) = ([[9]], 6, 2) := by decide +kernel
theorem live_len : (encF [9]).length = 6 := by decide +kernel

set_option maxRecDepth 20000 in
set_option maxHeartbeats 2000000 in
theorem live_calls (w : World) : Calls Try.prog 7 #[] w fun e w' => e = .returned (.bool true) ∧ Below w.heap.size w w' := by
  have hb0 : Below w.heap.size w (w.alloc (.cells #[.int .u8 9] 5)) := (Below.refl _ _).alloc (Nat.le_refl _) _
  have HP := Lib.hid (fput_calls none 0 [] (some ⟨w.heap.size, 0, none⟩) 1 [9] (w.alloc (.cells #[.int .u8 9] 5)) (Lies.nil _) (lies_one w 9) (by intro x hx; simp at hx; omega) (by simp) (by simp))
  have hlb : IsB (encF [9] ++ [1]) := (encF_isB [9] (by intro x hx; simp at hx; omega) (by simp)).append (by intro x hx; simp at hx; omega)
  have HA := Lib.hid (fun (A : Option Addr) (c : Nat) (W : World) (h : Lies W A c (encF [9] ++ [1])) (hc : (encF [9] ++ [1]).length ≤ c) => fall_calls A c (encF [9] ++ [1]) W h hlb hc (by rw [List.length_append, live_len]; decide))
  simp only [List.nil_append, live_all] at HP HA
  have HL := Lib.hid live_len
  have h6 : ((((encF [9]).length : Nat) : Int) == 6) = true := by rw [live_len]; rfl
  clear hlb
  generalize encF [9] = X at *
  go_enter Try.func7, Try.ntmps7
  go_wp2_with (first
    | (go_at_call 8; refine HP.out.mono ?_; rintro e w1 ⟨A1, c1, rfl, hown1, hb1⟩; dsimp only at hown1; have hb2 := Below.on hb0 hb1; have hb3 : Below w.heap.size w (w1.alloc (.cells #[.int .u8 1] 5)) := hb2.alloc hb2.size _; have hb4 : Below (w.alloc (.cells #[.int .u8 9] 5)).heap.size (w.alloc (.cells #[.int .u8 9] 5)) (w1.alloc (.cells #[.int .u8 1] 5)) := hb1.alloc hb1.size _)
    | (at_builtin; go_must (refine wpList_append_bytes rfl _ _ rfl (w.alloc (.cells #[.int .u8 9] 5)).heap.size A1 c1 X rfl (World.ownsRow.alloc hown1 _) (some ⟨w1.heap.size, 0, none⟩) 1 [1] rfl (lies_one w1 1) (by rw [HL.out]; decide) hb4.size ?_); intro A5 c5 w5 L5 hL5 hown5 hgrow5; have hb5 := OwnS.grow (World.ownsRow.alloc hown1 _) hb4 hgrow5 hb4.size; have HC := Lib.hid (HA.out A5 c5 w5 (by rw [← hL5.out]; exact OwnS.lies hown5) (by rw [← hL5.out]; exact OwnS.cap hown5)); rw [← hL5.out] at HC)
    | (go_at_call 14; refine HC.out.mono ?_; rintro e w6 ⟨A6, c6, rs, rfl, hcl, hel, hls, hb6⟩; dsimp only at hls; have h1 : rs.length = 1 := (by rw [← listsOf_length, hls]; rfl); rw [h1]; dsimp only)
    | (go_at_call 9; refine (code_calls _ _).mono ?_; rintro e w7 ⟨rfl, rfl⟩))
  go_ret
  exact ⟨rfl, Below.on (Below.on hb0 hb5) hb6⟩
end Go.Proofs.Ytikeebgclplphaa
