/-
  Contracts of slices.Grow of a nil slice and slices.Concat of byte slices. Conditions: at most 3,000,000 bytes.
-/
import Derived.Test.YtdgdkkapikopnaaDoorLL
import Derived.Test.YtdgdkkapikopnaaDoorGrow
import Derived.Lib.AppendZeros
namespace Go.Proofs.YtdgdkkapikopnaaDoor
open Go.ChangeShapes Go.WideShapes Go.ChangeAt Go.RowKit
set_option linter.unusedVariables false
set_option maxRecDepth 20000

theorem zero_size (n : Nat) : (Builtin.zeroCells (Value.int .u8 0).cells n).size = n := by simp [Builtin.zeroCells, Value.cells]

set_option maxHeartbeats 1000000 in
theorem grow_calls (n : Int) (w : World) (h0 : 0 ≤ n) (h1 : n ≤ 3000000) :
    Calls Tryd.prog 46 #[.slice none 0 0, .int .i64 n] w (Own w.heap.size w []) := by
  obtain ⟨n, rfl⟩ := Int.eq_ofNat_of_zero_le h0
  obtain ⟨i0, hi, hz0, hz1, hz2⟩ := info_parts Tryd.info5
  have hneg : decide ((n : Int) < 0) = false := by simp
  by_cases hn : n = 0
  · subst hn
    go_enter Tryd.func46, Tryd.ntmps46
    go_wp2
    go_ret
    exact ⟨none, 0, rfl, World.ownsRow_nil _ _ _ _, Below.refl _ _⟩
  · have hpos : decide (0 < (n : Int)) = true := by simp; omega
    have hge : n ≤ grownCap w n 0 5 := grownCap_ge w _ _ _
    have hle : grownCap w n 0 5 ≤ maxLen := grownCap_le_maxLen w _ _ _ (by unfold maxLen; omega)
    have hrz := fun ty => Lib.run_append_nil_zeros w 24 3 ty 5 i0 (.int .u8 0) .i64 .i64 Tryd.underlying24 Tryd.underlying3 hi hz0 n (by omega) (by rw [hz1]; omega) (by omega) (by rw [hz2]; omega)
    generalize grownCap w n 0 5 = G at *
    have hown : (w.drew.alloc (.cells (Builtin.zeroCells (Value.int .u8 0).cells n ++ Builtin.zeroCells (Value.int .u8 0).cells (G - n)) 5)).ownsRow w.heap.size 5 1 (.slice (some ⟨w.heap.size, 0, none⟩) 0 G) 0 [] :=
      World.ownsRow_made w.drew _ G (Nat.le_refl _) hle (by simp only [Array.size_append, zero_size]; omega)
    have HO := Lib.hid hown
    clear hown hle
    generalize (Builtin.zeroCells (Value.int .u8 0).cells n ++ Builtin.zeroCells (Value.int .u8 0).cells (G - n)) = Z at *
    go_enter Tryd.func46, Tryd.ntmps46
    go_wp2_with (at_builtin; refine Lib.wpList_append_run _ rfl _ _ _ _ rfl _ _ rfl rfl _ _ (hrz _) ?_)
    go_ret
    exact ⟨_, G, rfl, HO.out, ((Below.refl _ _).drew).alloc (Nat.le_refl _) _⟩

/-- The bytes of all elements, one after the other. -/
def flatL (rs : List Elt) : List Int := (listsOf rs).flatten
theorem flatL_step {rs : List Elt} {k : Nat} (h : k < rs.length) : flatL (rs.take (k + 1)) = flatL (rs.take k) ++ rs[k].2.2 := by
  unfold flatL
  rw [List.take_succ_eq_append_getElem h, listsOf_append]
  simp [listsOf]
theorem flatL_take_le (rs : List Elt) (k : Nat) : (flatL (rs.take k)).length ≤ (flatL rs).length := by
  have : flatL rs = flatL (rs.take k) ++ flatL (rs.drop k) := by
    unfold flatL
    rw [← List.flatten_append, ← listsOf_append, List.take_append_drop]
  rw [this, List.length_append]; omega

def RelC1 (rs : List Elt) (s i : Value) : Prop := ∃ k : Nat, k ≤ rs.length ∧ i = .int .i64 k ∧ s = .int .i64 ((flatL (rs.take k)).length : Nat)
def RelC2 (B : Nat) (w : World) (rs : List Elt) (v i : Value) (wr : World) : Prop :=
  ∃ k : Nat, k ≤ rs.length ∧ i = .int .i64 k ∧ (∃ A c L, v = .slice A L.length c ∧ L = flatL (rs.take k) ∧ OwnS B wr A c L) ∧ Below B w wr

set_option maxHeartbeats 2000000 in
theorem concat_calls (A : Option Addr) (c : Nat) (rs : List Elt) (w : World) (h : CellsL w A c rs) (he : EachL w rs) (hpos : 0 < rs.length) (hc : rs.length ≤ 1000) (hl : (flatL rs).length ≤ 3000000) :
    Calls Tryd.prog 24 #[.slice A rs.length c] w (Own w.heap.size w (flatL rs)) := by
  obtain ⟨b, o, rfl, hbs, hcell⟩ := h.at_ hpos
  have HC := Lib.hid hcell
  have HE := Lib.hid he
  have HL := Lib.hid (fun k => flatL_take_le rs k)
  have hu35 := run_underlying (P := Tryd.prog) Tryd.underlying71
  clear hcell he h
  go_enter Tryd.func24, Tryd.ntmps24
  go_wp2
  go_loop [3, 11] (RelC1 rs) (fun _ i => rs.length - (intOf i).toNat)
  case atStart => exact ⟨0, by omega, rfl, rfl⟩
  case round =>
    obtain ⟨k, hk, rfl, rfl⟩ := hrel
    by_cases hlt : k < rs.length
    · have hck := HC.out k hlt
      obtain ⟨A3, c3, l3, hr3⟩ : ∃ A3 c3 l3, rs[k] = (A3, c3, l3) := ⟨_, _, _, rfl⟩
      have HR := Lib.hid hr3
      rw [hr3] at hck
      simp only [eltVal] at hck
      have HS := Lib.hid (flatL_step hlt)
      have h1 := HL.out (k + 1)
      rw [HS.out, HR.out, List.length_append] at h1
      dsimp only at h1
      have h2 : decide (((flatL (rs.take k)).length : Int) + (l3.length : Int) < 0) = false := by simp; omega
      have HN := Lib.hid (show (flatL (rs.take (k + 1))).length = (flatL (rs.take k)).length + l3.length by rw [HS.out, HR.out, List.length_append])
      clear hr3
      generalize (flatL (rs.take k)).length = q at *
      have hw : wrap64 ((q : Int) + (l3.length : Int)) = (q : Int) + (l3.length : Int) := by unfold wrap64; omega
      go_wp2
      go_round
      case rel => exact ⟨k + 1, by omega, by go_num, by rw [HN.out]; go_num⟩
      case measure => simp [intOf]; omega
    · obtain rfl : k = rs.length := by omega
      have e : rs.take rs.length = rs := List.take_length
      rw [e]
      have HG := Lib.hid (grow_calls ((flatL rs).length : Nat) w (by omega) (by omega))
      generalize (flatL rs).length = q at *
      go_wp2_with (go_at_call 46; refine HG.out.mono ?_; rintro e w1 ⟨A1, c1, rfl, hown1, hb1⟩)
      have H1 := Lib.hid hown1
      clear hown1
      go_loopw [6, 27] (RelC2 w.heap.size w rs) (fun _ i _ => rs.length - (intOf i).toNat)
      case atStart => exact ⟨0, by omega, rfl, ⟨A1, c1, [], rfl, rfl, H1.out⟩, hb1⟩
      case round =>
        obtain ⟨k, hk, rfl, ⟨A2, c2, L2, rfl, hL2, hown2⟩, hb2⟩ := hrel
        have EL := Lib.hid hL2
        clear hL2
        by_cases hlt : k < rs.length
        · have hck := (hb2.cell (p := ⟨b, o + k, none⟩) hbs).trans (HC.out k hlt)
          obtain ⟨A3, c3, l3, hr3⟩ : ∃ A3 c3 l3, rs[k] = (A3, c3, l3) := ⟨_, _, _, rfl⟩
          have hE3 := HE.out rs[k] (List.getElem_mem hlt)
          have HR := Lib.hid hr3
          rw [hr3] at hck hE3
          simp only [eltVal] at hck
          have hE4 := Lies.below hE3 hb2
          have HS := Lib.hid (flatL_step hlt)
          have h1 := HL.out (k + 1)
          rw [HS.out, HR.out, ← EL.out, List.length_append] at h1
          dsimp only at h1
          have HE3 := Lib.hid hE4
          have HO2 := Lib.hid hown2
          clear hr3 hE3 hE4 hown2
          go_wp2_with (at_builtin; go_must (refine wpList_append_bytes rfl _ _ rfl w.heap.size A2 c2 L2 rfl HO2.out A3 c3 l3 rfl HE3.out (by omega) hb2.size ?_); intro A4 c4 w4 L4 hL4 hown4 hgrow4; have hb4 := OwnS.grow HO2.out hb2 hgrow4 hb2.size)
          go_roundw
          case rel => exact ⟨k + 1, by omega, by go_num, ⟨A4, c4, L4, rfl, by rw [HS.out, hL4.out, EL.out, HR.out], hown4⟩, hb4⟩
          case measure => simp [intOf]; omega
        · obtain rfl : k = rs.length := by omega
          go_wp2
          go_ret
          have e2 : L2 = flatL rs := by rw [EL.out, e]
          rw [← e2]
          exact ⟨A2, c2, rfl, hown2, hb2⟩

end Go.Proofs.YtdgdkkapikopnaaDoor
