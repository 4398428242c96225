/-
  Contracts of slices.Clone of bytes and of the bag's clone. Conditions: the bytes lie in memory, at most a million.
-/
import Derived.Test.YtcdghipodnafmaaBRem
namespace Go.Proofs.Ytcdghipodnafmaa
open Go.ChangeShapes Go.WideShapes Go.ChangeAt Go.RowKit
set_option linter.unusedVariables false

theorem sclone_calls (A : Option Addr) (c : Nat) (l : List Int) (w : World) (h : Lies w A c l) (hl : l.length ≤ 1000000) :
    Calls Try.prog 32 #[.slice A l.length c] w (Own w.heap.size w l) := by
  have hnil : ∀ (w : World) (a : Option Addr) (n c n' c' : Nat), (binOp .eql 37 (.slice a n c) (.slice none n' c')).run Try.prog w = .ok (.bool a.isNone) w := fun w a n c n' c' => Lib.run_eql_slice_nil w 37 5 a n c n' c' Try.underlying37
  rcases h with ⟨rfl, rfl, rfl⟩ | ⟨a, rfl, h⟩
  · simp only [List.length_nil]
    go_enter Try.func32, Try.ntmps32
    go_wp2
    go_ret
    exact ⟨none, 0, rfl, OwnS.nil _ _, Below.refl _ _⟩
  · have H := Lib.hid (show Lies w (some a) c l from .inr ⟨a, rfl, h⟩)
    have hb1 : Below w.heap.size w (w.alloc (.cells #[] 5)) := (Below.refl _ _).alloc (Nat.le_refl _) _
    have hown1 : OwnS w.heap.size (w.alloc (.cells #[] 5)) (some ⟨w.heap.size, 0, none⟩) 0 [] := World.ownsRow_lit (size := 1) w #[] 0 (Nat.le_refl _) (by unfold maxLen; omega) rfl
    clear h
    go_enter Try.func32, Try.ntmps32
    go_wp2_with (at_builtin; go_must (refine wpList_append_bytes rfl _ _ rfl w.heap.size (some ⟨w.heap.size, 0, none⟩) 0 [] rfl hown1 (some a) c l rfl (H.out.below hb1) (by simp; omega) hb1.size ?_); intro A2 c2 w2 L2 hL2 hown2 hgrow2)
    go_ret
    have hb2 := OwnS.grow hown1 hb1 hgrow2 hb1.size
    obtain rfl : L2 = l := by rw [hL2.out]; rfl
    exact ⟨A2, c2, rfl, hown2, hb2⟩
theorem OwnS.blocksB {w w' : World} {B : Nat} {A : Option Addr} {c : Nat} {l : List Int} (h : OwnS B w A c l) (hk : ∀ k, B ≤ k → w'.heap[k]? = w.heap[k]?) : OwnS B w' A c l := by
  refine ⟨h.1, ?_⟩
  rcases h.2 with h2 | ⟨g, cap, cur, hv, hg, hh, r⟩
  · exact .inl h2
  · exact .inr ⟨g, cap, cur, hv, hg, (hk g hg).trans hh, r⟩
theorem Touch.none_below {w w' : World} (h : Touch (fun _ => False) w w') : Below w.heap.size w w' := h.below (fun k h => h.elim) (Nat.le_refl _)
/-- A message with bytes of its own. -/
def OwnM (w : World) (f t : Int) (l : List Int) (e : Ending) (w' : World) : Prop :=
  ∃ A c, e = .returned (.agg #[.int .i64 f, .int .i64 t, .slice A l.length c]) ∧ OwnS w.heap.size w' A c l ∧ Below w.heap.size w w'
set_option maxRecDepth 20000 in
set_option maxHeartbeats 4000000 in
theorem clone_calls (f t : Int) (A : Option Addr) (c : Nat) (l : List Int) (w : World) (h : Lies w A c l) (hl : l.length ≤ 1000000) :
    Calls Try.prog 24 #[.agg #[.int .i64 f, .int .i64 t, .slice A l.length c]] w (OwnM w f t l) := by
  have hb2 := below_two w (.cells #[.int .i64 f, .int .i64 t, .slice A l.length c] 48) (.cells #[.int .i64 0, .int .i64 0, .slice none 0 0] 48)
  have HC := Lib.hid (sclone_calls A c l _ (h.below hb2) hl)
  obtain ⟨n, hn⟩ : ∃ n, n = l.length := ⟨_, rfl⟩
  have HN := Lib.hid hn
  rw [← hn] at HC ⊢
  rw [← hn] at hb2
  have HB2 := Lib.hid hb2
  have b0 := (Blk.new w #[.int .i64 f, .int .i64 t, .slice A n c] 48).alloc (.cells #[.int .i64 0, .int .i64 0, .slice none 0 0] 48)
  have HB0 := Lib.hid b0
  have HB1 := Lib.hid (Blk.newAt (w.alloc (.cells #[.int .i64 f, .int .i64 t, .slice A n c] 48)) #[.int .i64 0, .int .i64 0, .slice none 0 0] 48 (g := w.heap.size + 1) (by simp))
  obtain ⟨_, _, c2⟩ := b0.cells3
  have q5 : ¬ (w.heap.size + 1 = w.heap.size) := by omega
  have q6 : ¬ (w.heap.size = w.heap.size + 1) := by omega
  clear h hl hb2 b0 hn
  go_enter Try.func24, Try.ntmps24
  go_wp2_with (go_at_call 32; refine HC.out.mono ?_; rintro e w3 ⟨A3, c3, rfl, ho, hb3⟩; have b0 := HB0.out.belowAll hb3; have b1 := HB1.out.belowAll hb3; have HO := Lib.hid ho; have HB3 := Lib.hid hb3; have HX0 := Lib.hid b0; have HX1 := Lib.hid b1; obtain ⟨x0, x1, x2⟩ := b0.cells3; obtain ⟨y0, y1, y2⟩ := b1.cells3; obtain ⟨z0, z1, z2⟩ := b1.free3; have z3 := b0.free 2; clear b0 b1 ho hb3)
  refine bodyPost_ret (results_cell1 rfl _ _ _ _ _ rfl (lv48 (Blk.set3 (HX1.out.other (a := ⟨w.heap.size, 2, none⟩) (by show w.heap.size + 1 ≠ w.heap.size; omega) _) _ _ _))) rfl ⟨A3, c3, rfl, ?_, ?_⟩
  · refine (OwnS.blocksB (w := w3) HO.out fun k hk => ?_).mono (by simp; omega)
    have hk2 : w.heap.size + 2 ≤ k := by simpa using hk
    exact (set3_other (by omega) _ _ _).trans (Below.heap_setCell _ _ _ k (by show k ≠ w.heap.size; omega))
  · have t1 : Touch (fun _ => False) w w3 := (Touch.of_below HB2.out).on (Touch.of_below (S := fun _ => False) HB3.out) (fun b hb => hb.elim)
    exact (touch_set3 (touch_new t1 (Nat.le_refl _) 2 _) (by omega) _ _ _).none_below
end Go.Proofs.Ytcdghipodnafmaa
