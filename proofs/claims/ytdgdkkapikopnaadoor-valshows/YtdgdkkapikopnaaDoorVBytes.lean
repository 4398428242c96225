/-
  The contract of the document encoder (gristmillref01.Bytes): it returns the encoding, in memory of its own. Conditions: a number of 64 bits.
-/
import Derived.Test.YtdgdkkapikopnaaDoorVPut
namespace Go.Proofs.YtdgdkkapikopnaaDoor
open Go.ChangeShapes Go.WideShapes Go.ChangeAt Go.RowKit
set_option linter.unusedVariables false
set_option maxRecDepth 20000

/-- The relation of the loop of Bytes: what lies at and above index t has been written. -/
def RelB (B g : Nat) (w : World) (q : Nat) (n : Int) (v i : Value) (wr : World) : Prop :=
  ∃ t : Int, -1 ≤ t ∧ t < q ∧ i = .int .i64 t ∧ v = .int .u64 (n / 256 ^ ((q : Int) - 1 - t).toNat) ∧
    wr.ownsRow B 5 1 (.slice (some ⟨g, 0, none⟩) q q) q (cellsOf (List.replicate (t + 1).toNat 0 ++ raw ((q : Int) - 1 - t).toNat n)) ∧ Below B w wr

theorem relB_step {B g q m : Nat} {w wr : World} {n : Int} (hm : m < q) (hg : B ≤ g)
    (hown : wr.ownsRow B 5 1 (.slice (some ⟨g, 0, none⟩) q q) q (cellsOf (List.replicate (m + 1) 0 ++ raw (q - 1 - m) n))) (hb : Below B w wr) :
    RelB B g w q n (.int .u64 (n / 256 ^ (q - 1 - m) / 256)) (.int .i64 ((m : Int) - 1)) (wr.setCell ⟨g, m, none⟩ (.int .u8 (n / 256 ^ (q - 1 - m) % 256))) := by
  have e1 : ((q : Int) - 1 - ((m : Int) - 1)).toNat = q - 1 - m + 1 := by omega
  have e2 : ((m : Int) - 1 + 1).toNat = m := by omega
  refine ⟨(m : Int) - 1, by omega, by omega, rfl, ?_, ?_, hb.setCell (p := ⟨g, m, none⟩) hg _⟩
  · rw [e1, div_pow_succ]
  · rw [e1, e2]
    have h := (hown.stored m (.int .u8 (n / 256 ^ (q - 1 - m) % 256))).1
    have e3 : (cellsOf (List.replicate (m + 1) 0 ++ raw (q - 1 - m) n)).set m (.int .u8 (n / 256 ^ (q - 1 - m) % 256)) = cellsOf (List.replicate m 0 ++ raw (q - 1 - m + 1) n) := by
      rw [List.replicate_succ', List.append_assoc, cellsOf_append, cellsOf_append, List.set_append_right _ _ (by simp [cellsOf_length]), cellsOf_length, List.length_replicate, Nat.sub_self, cellsOf_append]
      rfl
    rwa [e3] at h

theorem first_bound (n : Int) (h0 : 0 ≤ n) (h1 : n < 18446744073709551616) (hv : vlen n ≤ 8) : mk (vlen n) + n / 256 ^ (vlen n - 1) % 256 ≤ 255 := by
  obtain ⟨b0, b1, _⟩ := first_byte n h0 h1
  have hx := b1 hv
  have hv1 := vlen_pos n
  generalize n / 256 ^ (vlen n - 1) = x at *
  generalize vlen n = k at *
  unfold mk
  rcases nine hv1 (by omega) with rfl | rfl | rfl | rfl | rfl | rfl | rfl | rfl | rfl <;> simp only [Nat.reduceSub, Int.reducePow] at hx ⊢ <;> omega
theorem own_first {B g : Nat} {w wr : World} {n : Int} (h0 : 0 ≤ n) (h1 : n < 18446744073709551616) (hv : vlen n ≤ 8) (hb : Below B w wr) (hg : B ≤ g)
    (hown : wr.ownsRow B 5 1 (.slice (some ⟨g, 0, none⟩) (vlen n) (vlen n)) (vlen n) (cellsOf (raw (vlen n) n))) :
    Own B w (enc n) (.returned (.slice (some ⟨g, 0, none⟩) (vlen n) (vlen n))) (wr.setCell ⟨g, 0, none⟩ (.int .u8 (mk (vlen n) + n / 256 ^ (vlen n - 1) % 256))) := by
  obtain ⟨b0, b1, _⟩ := first_byte n h0 h1
  have hx := b1 hv
  have hp : (2 : Int) ^ (8 - vlen n) ≤ 256 := by
    rcases nine (vlen_pos n) (by omega) with h | h | h | h | h | h | h | h | h <;> rw [h] <;> decide
  have h := (hown.stored 0 (.int .u8 (mk (vlen n) + n / 256 ^ (vlen n - 1) % 256))).1
  have e := cells_enc [] n
  rw [List.nil_append, List.nil_append, List.length_nil] at e
  rw [Int.emod_eq_of_lt b0 (by omega), Int.add_comm] at h ⊢
  rw [e] at h
  exact ⟨_, vlen n, by rw [enc_length], by rw [enc_length]; exact h, hb.setCell (p := ⟨g, 0, none⟩) hg _⟩

set_option maxHeartbeats 2000000 in
theorem bytes_short (n : Int) (w : World) (h0 : 0 ≤ n) (h1 : n < 18446744073709551616) (hv : vlen n ≤ 8) :
    Calls Tryd.prog 29 #[.int .u64 n] w (Own w.heap.size w (enc n)) := by
  obtain ⟨i0, hi, hz0, hz1, hz2⟩ := info_parts Tryd.info5
  have hv1 := vlen_pos n
  have hne : ((vlen n : Int) == 9) = false := by simp; omega
  have hp0 : (1 : Int) ≤ 2 ^ (9 - vlen n) := Int.pow_pos (by omega)
  have hp1 : (2 : Int) ^ (9 - vlen n) ≤ 256 := by
    rcases nine (vlen_pos n) (by omega) with h | h | h | h | h | h | h | h | h <;> rw [h] <;> decide
  go_enter Tryd.func29, Tryd.ntmps29
  go_wp2_with (first
    | (go_at_call 50; refine (rlen_calls _ _).mono ?_; rintro e w' ⟨rfl, rfl⟩)
    | (go_at_call 51; refine (power_calls _ _ (by omega) (by omega)).mono ?_; rintro e w' ⟨rfl, rfl⟩)
    | (at_make; refine wpList_make_full _ rfl _ _ 24 rfl w.heap.size 5 i0 (.int .u8 0) 1 Tryd.underlying24 hi hz0 hz1 .i64 .i64 _ _ (vlen n) rfl rfl rfl rfl (by rw [hz2]; omega) (by unfold maxLen; omega) (Nat.le_refl _) ?_; intro w1 hown1 hgrow1))
  rw [made_cells] at hown1
  have hb1 : Below w.heap.size w w1 := (Below.refl _ _).grown hgrow1 (Nat.le_refl _) (by intro k hk; cases hk)
  have HO := Lib.hid hown1
  clear hown1 hgrow1
  go_loopw [0, 7] (RelB w.heap.size w.heap.size w (vlen n) n) (fun _ i _ => (intOf i + 1).toNat)
  case atStart =>
    refine ⟨(vlen n : Int) - 1, by omega, by omega, rfl, ?_, ?_, hb1⟩
    · rw [show ((vlen n : Int) - 1 - ((vlen n : Int) - 1)).toNat = 0 by omega]; simp
    · rw [show ((vlen n : Int) - 1 - ((vlen n : Int) - 1)).toNat = 0 by omega, show ((vlen n : Int) - 1 + 1).toNat = vlen n by omega]
      simpa [raw] using HO.out
  case round =>
    obtain ⟨t, ht0, ht1, rfl, rfl, hown, hb⟩ := hrel
    by_cases hte : t = -1
    · subst hte
      have e1 : ((vlen n : Int) - 1 - (-1 : Int)).toNat = vlen n := by omega
      rw [e1, show ((-1 : Int) + 1).toNat = 0 by omega] at hown
      simp only [List.replicate_zero, List.nil_append] at hown
      have hc : wr.cell? ⟨w.heap.size, 0, none⟩ = some (.int .u8 (n / 256 ^ (vlen n - 1) % 256)) := by
        rw [hown.cellAt 0 (by omega), cellsOf_get (by rw [raw_length]; omega), raw_getD _ _ _ (by omega), Nat.sub_zero]
      have hf : wr.frozen? ⟨w.heap.size, 0, none⟩ = false := hown.frozenAt _
      have F := own_first h0 h1 hv hb (Nat.le_refl _) hown
      have HF := Lib.hid F
      have hbb := first_bound n h0 h1 hv
      have hb0 : 0 ≤ n / 256 ^ (vlen n - 1) % 256 := by omega
      clear F hown e1
      unfold mk at hbb HF
      generalize n / 256 ^ (vlen n - 1) % 256 = x at *
      go_wp2
      go_ret
      exact HF.out
    · obtain ⟨m, rfl⟩ := Int.eq_ofNat_of_zero_le (show 0 ≤ t by omega)
      have e1 : ((vlen n : Int) - 1 - (m : Int)).toNat = vlen n - 1 - m := by omega
      rw [e1, show ((m : Int) + 1).toNat = m + 1 by omega] at hown
      rw [e1]
      have hc : wr.cell? ⟨w.heap.size, m, none⟩ = some (.int .u8 0) := by
        rw [hown.cellAt m (by omega), cellsOf_get (by simp [raw_length]; omega)]
        simp [List.getElem?_append_left]
      have hf : wr.frozen? ⟨w.heap.size, m, none⟩ = false := hown.frozenAt _
      have R := relB_step (by omega) (Nat.le_refl _) hown hb
      have hx0 : 0 ≤ n / 256 ^ (vlen n - 1 - m) := Int.ediv_nonneg h0 (Int.le_of_lt (pow_pos _))
      have hx1 : n / 256 ^ (vlen n - 1 - m) ≤ n := Int.ediv_le_self _ h0
      have HR := Lib.hid R
      clear R hown e1
      generalize n / 256 ^ (vlen n - 1 - m) = x at *
      go_wp2
      go_roundw
      case rel => exact HR.out
      case measure => simp [intOf]

set_option maxHeartbeats 2000000 in
theorem bytes_long (n : Int) (w : World) (h0 : 0 ≤ n) (h1 : n < 18446744073709551616) (hv : vlen n = 9) :
    Calls Tryd.prog 29 #[.int .u64 n] w (Own w.heap.size w (enc n)) := by
  obtain ⟨i0, hi, hz0, hz1, hz2⟩ := info_parts Tryd.info5
  have hlen := rlen_calls n w
  rw [hv] at hlen
  have HV := Lib.hid hv
  have HLN := Lib.hid hlen
  clear hv hlen
  go_enter Tryd.func29, Tryd.ntmps29
  go_wp2_with (first
    | (go_at_call 50; refine HLN.out.mono ?_; rintro e w' ⟨rfl, rfl⟩)
    | (go_at_call 51; refine (power_calls _ _ (by omega) (by omega)).mono ?_; rintro e w' ⟨rfl, rfl⟩)
    | (at_make; refine wpList_make_full _ rfl _ _ 24 rfl w.heap.size 5 i0 (.int .u8 0) 1 Tryd.underlying24 hi hz0 hz1 .i64 .i64 _ _ 8 rfl rfl rfl rfl (by rw [hz2]; omega) (by unfold maxLen; omega) (Nat.le_refl _) ?_; intro w1 hown1 hgrow1))
  have hv := HV.out
  have HV := Lib.hid hv
  clear hv
  rw [made_cells] at hown1
  have hb1 : Below w.heap.size w w1 := (Below.refl _ _).grown hgrow1 (Nat.le_refl _) (by intro k hk; cases hk)
  have HO := Lib.hid hown1
  clear hown1 hgrow1
  go_loopw [0, 7] (RelB w.heap.size w.heap.size w 8 n) (fun _ i _ => (intOf i + 1).toNat)
  case atStart =>
    refine ⟨7, by omega, by omega, rfl, ?_, ?_, hb1⟩
    · rw [show (((8 : Nat) : Int) - 1 - 7).toNat = 0 by omega]; simp
    · rw [show (((8 : Nat) : Int) - 1 - 7).toNat = 0 by omega, show ((7 : Int) + 1).toNat = 8 by omega]
      simpa [raw] using HO.out
  case round =>
    obtain ⟨t, ht0, ht1, rfl, rfl, hown, hb⟩ := hrel
    by_cases hte : t = -1
    · subst hte
      have e1 : (((8 : Nat) : Int) - 1 - (-1 : Int)).toNat = 8 := by omega
      rw [e1, show ((-1 : Int) + 1).toNat = 0 by omega] at hown
      simp only [List.replicate_zero, List.nil_append] at hown
      have hv := HV.out
      have hcells : ∀ j u, (cellsOf (raw 8 n))[j]? = some u → wr.cell? ((⟨w.heap.size, 0, none⟩ : Addr).add j) = some u := hown.cells (g := w.heap.size) rfl
      have HC := Lib.hid hcells
      have hcl : (cellsOf (raw 8 n)).length = 8 * 1 := by rw [cellsOf_length, raw_length]
      have HL := Lib.hid hcl
      have hbs := hb.size
      clear hcells hcl hown e1
      go_wp2_with (at_builtin; go_must (refine wpList_append_lies _ rfl _ _ 24 rfl w.heap.size 5 i0 (.int .u8 0) 1 1 Tryd.underlying24 hi hz0 hz1 hz2 rfl (by decide) (.slice (some ⟨wr.heap.size, 0, none⟩) 1 1) 1 [.int .u8 255] rfl (World.ownsRow_lit wr #[.int .u8 255] 1 hbs (by unfold maxLen; omega) rfl) ⟨w.heap.size, 0, none⟩ 8 8 (cellsOf (raw 8 n)) rfl HL.out (fun j u hu => by rw [World.cell?_alloc_lt _ _ _ (block_lt_of_cell (HC.out j u hu))]; exact HC.out j u hu) (cellsOf_one _) (by omega) (by unfold maxLen; omega) (by omega) (by simp; omega) (wr.heap.size + 1) (by simp) ?_); intro g cap w2 hown2 hgrow2 hat2 hlt2)
      go_ret
      have e9 : enc n = 255 :: raw 8 n := by
        obtain ⟨_, _, b2⟩ := first_byte n h0 h1
        have := b2 hv
        unfold enc
        rw [this, hv]
        rfl
      refine ⟨_, cap, ret_slice (by rw [enc_length, hv]), ?_, (hb.alloc hbs _).grown hgrow2 (by simp; omega) (by intro k hk; simp [Value.ownBlock] at hk; omega)⟩
      rw [e9]
      simpa [raw_length, cellsOf] using hown2
    · obtain ⟨m, rfl⟩ := Int.eq_ofNat_of_zero_le (show 0 ≤ t by omega)
      have e1 : (((8 : Nat) : Int) - 1 - (m : Int)).toNat = 8 - 1 - m := by omega
      rw [e1, show ((m : Int) + 1).toNat = m + 1 by omega] at hown
      rw [e1]
      have hc : wr.cell? ⟨w.heap.size, m, none⟩ = some (.int .u8 0) := by
        rw [hown.cellAt m (by omega), cellsOf_get (by simp [raw_length]; omega)]
        simp [List.getElem?_append_left]
      have hf : wr.frozen? ⟨w.heap.size, m, none⟩ = false := hown.frozenAt _
      have R := relB_step (by omega) (Nat.le_refl _) hown hb
      have hx0 : 0 ≤ n / 256 ^ (8 - 1 - m) := Int.ediv_nonneg h0 (Int.le_of_lt (pow_pos _))
      have hx1 : n / 256 ^ (8 - 1 - m) ≤ n := Int.ediv_le_self _ h0
      have HR := Lib.hid R
      clear R hown e1
      generalize n / 256 ^ (8 - 1 - m) = x at *
      go_wp2
      go_roundw
      case rel => exact HR.out
      case measure => simp [intOf]

theorem bytes_calls (n : Int) (w : World) (h0 : 0 ≤ n) (h1 : n < 18446744073709551616) : Calls Tryd.prog 29 #[.int .u64 n] w (Own w.heap.size w (enc n)) := by
  have hv := vlen_le n
  by_cases h : vlen n ≤ 8
  · exact bytes_short n w h0 h1 h
  · exact bytes_long n w h0 h1 (by omega)
end Go.Proofs.YtdgdkkapikopnaaDoor
