/-
  Contracts of errors.Join at two errors and of fault.Both at two errors, whatever is done later to other blocks. No conditions.
-/
import Derived.Test.YtgpaedknonkioaaDoorEN
namespace Go.Proofs.YtgpaedknonkioaaDoor
open Go.ChangeShapes Go.WideShapes Go.ChangeAt Go.RowKit
set_option linter.unusedVariables false

theorem make_two (w : World) : (Instr.makeSlice 82 (.int .i64 0) (.int .i64 2)).run Tryd.prog w = .ok (.slice (some ⟨w.heap.size, 0, none⟩) 0 2) (w.alloc (.cells #[.nilIface, .nilIface] 26)) := by kernel_rfl
def enE (x : TypeId × Value) : List Value := [.iface x.1 x.2]
theorem elE : El 26 1 16 .nilIface enE := { info := by kernel_rfl, zero := rfl, pos := by decide, len := fun _ => rfl, one := fun x u hu => by simp [enE] at hu; subst hu; rfl }
set_option maxRecDepth 100000 in
set_option maxHeartbeats 2000000 in
theorem join_calls (t u : TypeId) (x y : Value) (g : Nat) (w : World) (h0 : w.cell? ⟨g, 0, none⟩ = some (.iface t x)) (h1 : w.cell? ⟨g, 1, none⟩ = some (.iface u y)) :
    Calls Tryd.prog 32 #[.slice (some ⟨g, 0, none⟩) 2 2] w fun e w' => ∃ p q c, e = .returned (.iface 86 (.pointer (some ⟨p, 0, none⟩))) ∧ w'.cell? ⟨p, 0, none⟩ = some (.slice (some ⟨q, 0, none⟩) 2 c) ∧ w'.cell? ⟨q, 0, none⟩ = some (.iface t x) ∧ w'.cell? ⟨q, 1, none⟩ = some (.iface u y) ∧ w.heap.size ≤ p ∧ w.heap.size ≤ q ∧ Below w.heap.size w w' := by
  have n1 := nil_not t x
  have n2 := nil_not u y
  have hm := make_two
  have hgl := block_lt_of_cell h0
  have hd1 : Below w.heap.size w (w.alloc (.cells #[.nilIface, .nilIface] 26)) := (Below.refl _ _).alloc (Nat.le_refl _) _
  have hd2 : Below w.heap.size w ((w.alloc (.cells #[.nilIface, .nilIface] 26)).alloc (.cells #[.slice (some ⟨w.heap.size, 0, none⟩) 0 2] 88)) := hd1.alloc hd1.size _
  have q0 := (hd2.cell (p := ⟨g, 0, none⟩) hgl).trans h0
  have hb1 : Blk ((w.alloc (.cells #[.nilIface, .nilIface] 26)).alloc (.cells #[.slice (some ⟨w.heap.size, 0, none⟩) 0 2] 88)) w.heap.size #[.nilIface, .nilIface] 26 := (Blk.new w _ _).alloc _
  have hb2 : Blk ((w.alloc (.cells #[.nilIface, .nilIface] 26)).alloc (.cells #[.slice (some ⟨w.heap.size, 0, none⟩) 0 2] 88)) (w.heap.size + 1) #[.slice (some ⟨w.heap.size, 0, none⟩) 0 2] 88 := by
    have := Blk.new (w.alloc (.cells #[.nilIface, .nilIface] 26)) #[.slice (some ⟨w.heap.size, 0, none⟩) 0 2] 88
    simpa using this
  go_enter Tryd.func32, Tryd.ntmps32
  go_wp2
  refine wp_loop_rounds 3 ?_
  rw [rounds_succ]
  go_wp2
  rw [rounds_succ]
  go_wp2
  rw [rounds_succ]
  go_wp2
  refine wp_loop_rounds 3 ?_
  rw [rounds_succ]
  generalize hW2 : (w.alloc (.cells #[.nilIface, .nilIface] 26)).alloc (.cells #[.slice (some ⟨w.heap.size, 0, none⟩) 0 2] 88) = W2 at *
  have f2 := hb2.cell 0
  have f2' := hb2.free 0
  simp at f2
  have hO := Lib.hid ((OwnG.room (en := enE) (sz := 1) (cap := 2) hb1 (Nat.le_refl _) (by unfold maxLen; omega) (by rfl)).alloc (.cells #[.iface t x] 26))
  have hd3 : Below w.heap.size w (W2.alloc (.cells #[.iface t x] 26)) := hd2.alloc hd2.size _
  go_wp2_with (at_builtin; go_must (refine wpList_append_vals elE rfl _ _ 82 Tryd.underlying82 rfl w.heap.size (some ⟨w.heap.size, 0, none⟩) 2 [] rfl hO.out (some ⟨W2.heap.size, 0, none⟩) 1 [(t, x)] rfl (cells_one_val elE W2 (t, x) #[.iface t x] rfl) (by simp) (by omega) hd3.size ?_); intro A3 c3 w3 R3 hR3 hown3 hgrow3; refine Hid.out ?_)
  refine Lib.hid ?_
  have hrow3 : ∀ k, (Value.slice (some ⟨w.heap.size, 0, none⟩) ([] : List (TypeId × Value)).length 2).ownBlock = some k → k = w.heap.size := by intro k hk; simp [Value.ownBlock] at hk; exact hk.symm
  have hd4 : Below w.heap.size w w3 := hd3.grown hgrow3 hd3.size (fun k hk => Nat.le_of_eq (hrow3 k hk).symm)
  have hb4 : Blk w3 (w.heap.size + 1) #[.slice (some ⟨w.heap.size, 0, none⟩) 0 2] 88 := (hb2.alloc _).grown hgrow3 (fun he => by have := hrow3 _ he; omega)
  have f4 := hb4.cell 0
  have f4' := hb4.free 0
  simp at f4
  have hR3' := hR3.out
  subst hR3'
  go_wp2_with (at_builtin; fail)
  rw [rounds_succ]
  have hb5 := hb4.set 0 (.slice A3 1 c3)
  have f5 := hb5.cell 0
  have f5' := hb5.free 0
  simp at f5
  have hd5 : Below w.heap.size w (w3.setCell ⟨w.heap.size + 1, 0, none⟩ (.slice A3 1 c3)) := hd4.setCell (by simp) _
  have q1 := (hd5.cell (p := ⟨g, 1, none⟩) hgl).trans h1
  have hO5 := Lib.hid ((OwnG.other hown3 hb4 (by decide) 0 (.slice A3 1 c3)).alloc (.cells #[.iface u y] 26))
  have hd6 : Below w.heap.size w ((w3.setCell ⟨w.heap.size + 1, 0, none⟩ (.slice A3 1 c3)).alloc (.cells #[.iface u y] 26)) := hd5.alloc hd5.size _
  generalize hW5 : w3.setCell ⟨w.heap.size + 1, 0, none⟩ (.slice A3 1 c3) = W5 at *
  go_wp2_with (at_builtin; go_must (refine wpList_append_vals elE rfl _ _ 82 Tryd.underlying82 rfl w.heap.size A3 c3 [(t, x)] rfl hO5.out (some ⟨W5.heap.size, 0, none⟩) 1 [(u, y)] rfl (cells_one_val elE W5 (u, y) #[.iface u y] rfl) (by simp) (by omega) hd6.size ?_); intro A7 c7 w7 R7 hR7 hown7 hgrow7; refine Hid.out ?_)
  refine Lib.hid ?_
  have hrow7 : (Value.slice A3 ([(t, x)] : List (TypeId × Value)).length c3).ownBlock ≠ some (w.heap.size + 1) := fun he => by
    obtain ⟨_, cur, q, hh⟩ := hO5.out.row _ he
    have := hb5.alloc (.cells #[.iface u y] 26)
    rw [show (W5.alloc (.cells #[.iface u y] 26)).heap[w.heap.size + 1]? = _ from this] at hh
    injection hh with hh
    injection hh with _ h3
    exact absurd h3 (by decide)
  have hd7 := hO5.out.grow hd6 hgrow7 hd6.size
  have hb7 : Blk w7 (w.heap.size + 1) #[.slice A3 1 c3] 88 := (hb5.alloc _).grown hgrow7 hrow7
  have f7 := hb7.cell 0
  have f7' := hb7.free 0
  simp at f7
  have hR7' := hR7.out
  subst hR7'
  go_wp2_with (at_builtin; fail)
  rw [rounds_succ]
  have hb8 := hb7.set 0 (.slice A7 2 c7)
  have hd8 : Below w.heap.size w (w7.setCell ⟨w.heap.size + 1, 0, none⟩ (.slice A7 2 c7)) := hd7.setCell (by simp) _
  have hO8 := OwnG.other hown7 hb7 (by decide) 0 (.slice A7 2 c7)
  go_wp2
  go_ret
  obtain ⟨q, rfl, hq1, hq2, hq3⟩ := OwnG.at0 elE hO8 (by simp)
  refine ⟨w.heap.size + 1, q, c7, rfl, ?_, ?_, ?_, by omega, hq1, hd8⟩
  · have := hb8.cell 0
    simpa using this
  · have := hq3 0 0 (t, x) rfl (by omega)
    simpa [enE] using this
  · have := hq3 1 0 (u, y) rfl (by omega)
    simpa [enE] using this

theorem IsE.agree {w w' : World} (hb : ∀ k, k < w.heap.size → w'.heap[k]? = w.heap[k]?) : ∀ {t : Er} {v : Value}, IsE w t v → IsE w' t v
  | .num n, v, h => h
  | .stage s no t, v, ⟨u, h1, h2⟩ => ⟨u, h1, IsE.agree hb h2⟩
  | .two a b, v, ⟨p, q, c, ua, ub, h0, h1, h2, h3, h4, h5⟩ => by
    refine ⟨p, q, c, ua, ub, h0, ?_, ?_, ?_, IsE.agree hb h4, IsE.agree hb h5⟩
    · rw [World.cell?_of_block (hb _ (block_lt_of_cell h1))]; exact h1
    · rw [World.cell?_of_block (hb _ (block_lt_of_cell h2))]; exact h2
    · rw [World.cell?_of_block (hb _ (block_lt_of_cell h3))]; exact h3

/-- What a call in the world w, of parts that lie in the world w0, has made, whatever is done to the blocks between. -/
def Mk (w0 w w' : World) (P : World → Prop) : Prop :=
  ∀ W'' : World, (∀ k, k < w0.heap.size → W''.heap[k]? = w0.heap[k]?) → (∀ k, w.heap.size ≤ k → k < w'.heap.size → W''.heap[k]? = w'.heap[k]?) → P W''
theorem Mk.here {w w' : World} {P : World → Prop} (h : Mk w w w' P) (hb : Below w.heap.size w w') : P w' := h w' hb.block (fun _ _ _ => rfl)

/-- Both of two errors. -/
theorem both_two (a b : Er) (v1 v2 : Value) (w0 w : World) (h1 : IsE w0 a v1) (h2 : IsE w0 b v2) : Calls Tryd.prog 18 #[v1, v2] w fun e w' => ∃ v, e = .returned v ∧ Mk w0 w w' (fun W => IsE W (.two a b) v) ∧ Below w.heap.size w w' := by
  obtain ⟨t, x, rfl⟩ := h1.iface
  obtain ⟨u, y, rfl⟩ := h2.iface
  have n1 := nil_no t x
  have n2 := nil_no u y
  have hd : Below w.heap.size w (w.alloc (.cells #[.iface t x, .iface u y] 26)) := (Below.refl _ _).alloc (Nat.le_refl _) _
  have hb := Blk.new w #[.iface t x, .iface u y] 26
  have HJ := Lib.hid (join_calls t u x y w.heap.size _ (hb.cell 0) (hb.cell 1))
  have H1 := Lib.hid h1
  have H2 := Lib.hid h2
  clear h1 h2 hb
  go_enter Tryd.func18, Tryd.ntmps18
  go_wp2_with (go_at_call 32; refine HJ.out.mono ?_; rintro e w1 ⟨p, q, c, rfl, k1, k2, k3, k4, k5, k6⟩)
  go_ret
  have hs := hd.size
  refine ⟨_, rfl, fun W h3 h4 => ⟨p, q, c, _, _, rfl, ?_, ?_, ?_, H1.out.agree h3, H2.out.agree h3⟩, Below.on hd k6⟩
  · rw [World.cell?_of_block (h4 _ (Nat.le_trans hs k4) (block_lt_of_cell k1))]; exact k1
  · rw [World.cell?_of_block (h4 _ (Nat.le_trans hs k5) (block_lt_of_cell k2))]; exact k2
  · rw [World.cell?_of_block (h4 _ (Nat.le_trans hs k5) (block_lt_of_cell k3))]; exact k3
end Go.Proofs.YtgpaedknonkioaaDoor
