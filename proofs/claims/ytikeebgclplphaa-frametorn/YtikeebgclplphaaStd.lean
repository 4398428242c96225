/-
  Contracts of bytes.Equal and bytes.Clone. Conditions: slices of at most a million bytes, each from 0 to 255.
-/
import Derived.Test.YtikeebgclplphaaGrow
import Derived.Lib.SliceRun
namespace Go.Proofs.Ytikeebgclplphaa
open Go.ChangeShapes Go.WideShapes Go.ChangeAt Go.RowKit
set_option linter.unusedVariables false

theorem equal_calls (A B : Option Addr) (c d : Nat) (a b : List Int) (w : World) (ha : Lies w A c a) (hb : Lies w B d b) (hba : IsB a) (hbb : IsB b) :
    Calls Try.prog 37 #[.slice A a.length c, .slice B b.length d] w fun e w' => e = .returned (.bool (decide (a = b))) ∧ w = w' := by
  have h1 := run_str ha
  have h2 := run_str hb
  have HE := Lib.hid (str_eq_iff hba hbb)
  go_enter Try.func37, Try.ntmps37
  go_wp2
  go_ret
  exact ⟨congrArg (fun b => Ending.returned (.bool b)) HE.out, rfl⟩

theorem clone_calls (A : Option Addr) (c : Nat) (l : List Int) (w : World) (h : Lies w A c l) (hl : l.length ≤ 1000000) :
    Calls Try.prog 38 #[.slice A l.length c] w (Own w.heap.size w l) := by
  have hnil : ∀ (w : World) (a : Option Addr) (n c n' c' : Nat), (binOp .eql 22 (.slice a n c) (.slice none n' c')).run Try.prog w = .ok (.bool a.isNone) w := fun w a n c n' c' => Lib.run_eql_slice_nil w 22 5 a n c n' c' Try.underlying22
  rcases h with ⟨rfl, rfl, rfl⟩ | ⟨a, rfl, h⟩
  · simp only [List.length_nil]
    go_enter Try.func38, Try.ntmps38
    go_wp2
    go_ret
    exact ⟨none, 0, rfl, OwnS.nil _ _, Below.refl _ _⟩
  · have H := Lib.hid (show Lies w (some a) c l from .inr ⟨a, rfl, h⟩)
    have hb1 : Below w.heap.size w (w.alloc (.cells #[] 5)) := (Below.refl _ _).alloc (Nat.le_refl _) _
    have hown1 : OwnS w.heap.size (w.alloc (.cells #[] 5)) (some ⟨w.heap.size, 0, none⟩) 0 [] := World.ownsRow_lit (size := 1) w #[] 0 (Nat.le_refl _) (by unfold maxLen; omega) rfl
    clear h
    go_enter Try.func38, Try.ntmps38
    go_wp2_with (at_builtin; go_must (refine wpList_append_bytes rfl _ _ rfl w.heap.size (some ⟨w.heap.size, 0, none⟩) 0 [] rfl hown1 (some a) c l rfl (H.out.below hb1) (by simp; omega) hb1.size ?_); intro A2 c2 w2 L2 hL2 hown2 hgrow2)
    go_ret
    have hb2 := OwnS.grow hown1 hb1 hgrow2 hb1.size
    obtain rfl : L2 = l := by rw [hL2.out]; rfl
    exact ⟨A2, c2, rfl, hown2, hb2⟩
end Go.Proofs.Ytikeebgclplphaa
