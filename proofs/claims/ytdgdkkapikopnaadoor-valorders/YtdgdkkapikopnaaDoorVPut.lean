/-
  Contracts of vint.copyWithRoom, appendNumber and Put, and of the law file example: each returns a slice of its own with the bytes named, and changes nothing that was there. Conditions: slices of at most a million bytes, numbers of 64 bits.
-/
import Derived.Test.YtdgdkkapikopnaaDoorVA
namespace Go.Proofs.YtdgdkkapikopnaaDoor
open Go.ChangeShapes Go.WideShapes Go.ChangeAt Go.RowKit
set_option linter.unusedVariables false
set_option maxRecDepth 20000

set_option maxHeartbeats 400000 in
theorem copyWithRoom_calls (A : Option Addr) (c : Nat) (l : List Int) (m : Int) (w : World) (h : Lies w A c l) (hl : l.length ≤ 1000000) (h0 : 0 ≤ m) (h1 : m ≤ 1000000) :
    Calls Tryd.prog 44 #[.slice A l.length c, .int .i64 m] w (Own w.heap.size w l) := by
  obtain ⟨i0, hi, hz0, hz1, hz2⟩ := info_parts Tryd.info5
  obtain ⟨m, rfl⟩ := Int.eq_ofNat_of_zero_le h0
  rcases h with ⟨rfl, rfl, rfl⟩ | ⟨a, rfl, h⟩
  · simp only [List.length_nil]
    go_enter Tryd.func44, Tryd.ntmps44
    go_wp2_with (at_make; refine wpList_make_own _ rfl _ _ 24 rfl w.heap.size 5 i0 (.int .u8 0) 1 Tryd.underlying24 hi hz0 hz1 .i64 .i64 _ m rfl rfl (by omega) (by rw [hz2]; omega) (by unfold maxLen; omega) (Nat.le_refl _) ?_; intro w1 hown1 hgrow1)
    go_ret
    exact ⟨_, _, rfl, hown1, (Below.refl _ _).grown hgrow1 (Nat.le_refl _) (by intro k hk; cases hk)⟩
  · have hcl := cellsOf_length l
    have HC := Lib.hid hcl
    clear hcl
    go_enter Tryd.func44, Tryd.ntmps44
    go_wp2_with (first
      | (at_make; refine wpList_make_own _ rfl _ _ 24 rfl w.heap.size 5 i0 (.int .u8 0) 1 Tryd.underlying24 hi hz0 hz1 .i64 .i64 _ (l.length + m) rfl rfl (by omega) (by rw [hz2]; omega) (by unfold maxLen; omega) (Nat.le_refl _) ?_; intro w1 hown1 hgrow1)
      | (at_builtin; refine wpList_append_fits _ rfl _ _ 24 rfl w.heap.size 5 i0 1 Tryd.underlying24 hi hz1 w.heap.size 0 (l.length + m) [] rfl hown1 a l.length c (cellsOf l) rfl (by rw [HC.out]; omega) (fun j u hu => by rw [hgrow1.cell (h j u hu) (by simp)]) (cellsOf_one l) (by omega) ?_; intro w2 hown2 hgrow2))
    simp only [Nat.zero_add, List.nil_append] at hown2
    go_ret
    exact ⟨_, _, rfl, hown2, ((Below.refl _ _).grown hgrow1 (Nat.le_refl _) (by intro k hk; cases hk)).grown hgrow2 hgrow1.size (by intro k hk; injection hk with hk; omega)⟩

/-- The relation of the loop of appendNumber: j bytes have been written. -/
def RelN (B : Nat) (w : World) (l : List Int) (k : Nat) (n : Int) (v i : Value) (wr : World) : Prop :=
  ∃ j : Nat, j ≤ k ∧ i = .int .i64 j ∧ wr.ownsRow B 5 1 v (l.length + j) (cellsOf (l ++ (raw k n).take j)) ∧ Below B w wr

theorem pow_256 : ∀ m : Nat, (2 : Int) ^ (8 * m) = 256 ^ m
  | 0 => rfl
  | m + 1 => by rw [Nat.mul_add, Int.pow_add, pow_256 m, Int.pow_succ]; rfl
theorem cells_step (l : List Int) (k j : Nat) (n : Int) (h : j < k) :
    cellsOf (l ++ (raw k n).take (j + 1)) = cellsOf (l ++ (raw k n).take j) ++ [.int .u8 (n / 2 ^ (8 * (k - 1 - j)) % 256)] := by
  have hl : j < (raw k n).length := by rw [raw_length]; exact h
  have e : (raw k n)[j] = n / 2 ^ (8 * (k - 1 - j)) % 256 := by
    rw [pow_256, ← raw_getD k j n h]
    simp [hl]
  rw [List.take_succ_eq_append_getElem hl, ← List.append_assoc, cellsOf_append _ [_], e]
  rfl
theorem rel_step {B : Nat} {w wr w1 : World} {l : List Int} {k j g cap : Nat} {n : Int} {u0 : Value} {o : Obj} (h : j < k) (hown : wr.ownsRow B 5 1 u0 (l.length + j) (cellsOf (l ++ (raw k n).take j))) (hb : Below B w wr) (hB : B ≤ wr.heap.size)
    (hown1 : w1.ownsRow B 5 1 (.slice (some ⟨g, 0, none⟩) (l.length + j + 1) cap) (l.length + j + 1) (cellsOf (l ++ (raw k n).take j) ++ [.int .u8 (n / 2 ^ (8 * (k - 1 - j)) % 256)]))
    (hgrow1 : (wr.alloc o).grownBy w1 u0.ownBlock) : RelN B w l k n (.slice (some ⟨g, 0, none⟩) (l.length + j + 1) cap) (.int .i64 ((j : Int) + 1)) w1 := by
  refine ⟨j + 1, by omega, by go_num, ?_, ?_⟩
  · rw [cells_step l k j n h]; exact hown1
  · exact (hb.alloc hB o).grown hgrow1 (by simp; omega) (fun q hq => (hown.lt q hq).1)

theorem first_byte (n : Int) (h0 : 0 ≤ n) (h1 : n < 18446744073709551616) :
    0 ≤ n / 256 ^ (vlen n - 1) ∧ (vlen n ≤ 8 → n / 256 ^ (vlen n - 1) < 2 ^ (8 - vlen n)) ∧ (vlen n = 9 → n / 256 ^ (vlen n - 1) = 0) := by
  have hv := vlen_pos n
  have hp := pow_pos (vlen n - 1)
  refine ⟨Int.ediv_nonneg h0 (Int.le_of_lt hp), fun h => ?_, fun h => ?_⟩
  · apply Int.ediv_lt_of_lt_mul hp
    rw [← pow7 _ hv h]
    exact vlen_lt h
  · rw [h]
    exact Int.ediv_eq_zero_of_lt h0 (by simpa using h1)

theorem or_mark_fin : ∀ k : Fin 8, ∀ x : Fin (2 ^ (7 - k.val)), bits .or .u8 (x.val : Int) (mk (k.val + 1)) = (x.val : Int) + mk (k.val + 1) := by decide +kernel
theorem or_mark (n : Int) (h0 : 0 ≤ n) (h1 : n < 18446744073709551616) :
    bits .or .u8 (n / 256 ^ (vlen n - 1) % 256) (mk (vlen n)) = n / 256 ^ (vlen n - 1) + mk (vlen n) := by
  obtain ⟨b0, b1, b2⟩ := first_byte n h0 h1
  have hv := vlen_pos n
  have hv2 := vlen_le n
  generalize n / 256 ^ (vlen n - 1) = x at *
  generalize vlen n = k at *
  by_cases h : k ≤ 8
  · have hx := b1 h
    have hp : (2 : Int) ^ (8 - k) ≤ 256 := by
      rcases nine hv (by omega) with rfl | rfl | rfl | rfl | rfl | rfl | rfl | rfl | rfl <;> decide
    have hn : x.toNat < 2 ^ (7 - (k - 1)) := by
      have e : ((2 ^ (7 - (k - 1)) : Nat) : Int) = 2 ^ (8 - k) := by rw [show 7 - (k - 1) = 8 - k by omega]; simp
      omega
    have hf := or_mark_fin ⟨k - 1, by omega⟩ ⟨x.toNat, hn⟩
    simp only [Int.toNat_of_nonneg b0] at hf
    rw [show k - 1 + 1 = k by omega] at hf
    rw [Int.emod_eq_of_lt b0 (by omega)]
    exact hf
  · obtain rfl : k = 9 := by omega
    rw [b2 rfl]
    decide
theorem cells_enc (l : List Int) (n : Int) : (cellsOf (l ++ raw (vlen n) n)).set l.length (.int .u8 (n / 256 ^ (vlen n - 1) + mk (vlen n))) = cellsOf (l ++ enc n) := by
  have hv := vlen_pos n
  obtain ⟨k, hk⟩ : ∃ k, vlen n = k + 1 := ⟨vlen n - 1, by omega⟩
  rw [cellsOf_append, cellsOf_append, List.set_append_right _ _ (by rw [cellsOf_length]; omega), cellsOf_length, Nat.sub_self]
  unfold enc
  rw [hk]
  simp [raw, cellsOf]
theorem own_enc {B : Nat} {w wr : World} {g cap : Nat} {l : List Int} {n : Int} (h0 : 0 ≤ n) (h1 : n < 18446744073709551616) (hg : B ≤ g) (hb : Below B w wr)
    (hown : wr.ownsRow B 5 1 (.slice (some ⟨g, 0, none⟩) (l.length + vlen n) cap) (l.length + vlen n) (cellsOf (l ++ raw (vlen n) n))) :
    Own B w (l ++ enc n) (.returned (.slice (some ⟨g, 0, none⟩) (l.length + vlen n) cap)) (wr.setCell ⟨g, l.length, none⟩ (.int .u8 (bits .or .u8 (n / 256 ^ (vlen n - 1) % 256) (mk (vlen n))))).drew := by
  have e : (l ++ enc n).length = l.length + vlen n := by rw [List.length_append, enc_length]
  rw [or_mark n h0 h1]
  have h := (hown.stored l.length (.int .u8 (n / 256 ^ (vlen n - 1) + mk (vlen n)))).1
  rw [cells_enc] at h
  refine ⟨_, cap, by rw [e], ?_, (hb.setCell (p := ⟨g, l.length, none⟩) hg _).drew⟩
  rw [e]
  exact h.drew

set_option maxHeartbeats 1000000 in
theorem appendNumber_calls (B : Nat) (A : Option Addr) (c : Nat) (l : List Int) (n : Int) (w : World) (h : w.ownsRow B 5 1 (.slice A l.length c) l.length (cellsOf l)) (hB : B ≤ w.heap.size)
    (hl : l.length ≤ 2000000) (h0 : 0 ≤ n) (h1 : n < 18446744073709551616) :
    Calls Tryd.prog 43 #[.slice A l.length c, .int .u64 n] w (Own B w (l ++ enc n)) := by
  obtain ⟨i0, hi, hz0, hz1, hz2⟩ := info_parts Tryd.info5
  have hv1 := vlen_pos n
  have hv2 := vlen_le n
  go_enter Tryd.func43, Tryd.ntmps43
  go_wp2_with (go_at_call 45; refine (len_calls _ _).mono ?_; rintro e w' ⟨rfl, rfl⟩)
  go_loopw [0, 13] (RelN B w l (vlen n) n) (fun _ i _ => 9 - (intOf i).toNat)
  case atStart => exact ⟨0, by omega, rfl, by simpa using h, Below.refl _ _⟩
  case round =>
    obtain ⟨j, hj, rfl, hown, hb⟩ := hrel
    by_cases hlt : j < vlen n
    · have hbs := hb.size
      go_wp2_with (at_builtin; go_must (refine wpList_append_lies _ rfl _ _ 24 rfl B 5 i0 (.int .u8 0) 1 1 Tryd.underlying24 hi hz0 hz1 hz2 rfl (by decide) u0 (l.length + j) _ rfl (hown.alloc _) ⟨wr.heap.size, 0, none⟩ 1 1 [_] rfl rfl (cell_one_new _ _ _) (by intro u hu; simp at hu; subst hu; rfl) (by omega) (by unfold maxLen; omega) (by omega) (by simp; omega) (wr.heap.size + 1) (by simp) ?_); intro g cap w1 hown1 hgrow1 hat1 hlt1)
      have R := rel_step hlt hown hb (by omega) hown1 hgrow1
      go_roundw
      case rel => exact R
      case measure => simp [intOf]; omega
    · obtain rfl : j = vlen n := by omega
      rw [List.take_of_length_le (by rw [raw_length]; exact Nat.le_refl _)] at hown
      obtain ⟨g, cap, hv, hg1, hg2⟩ := hown.form (by omega)
      subst hv
      have hc : wr.cell? ⟨g, l.length, none⟩ = some (.int .u8 (n / 256 ^ (vlen n - 1) % 256)) := by
        rw [hown.cellAt l.length (by omega), cellsOf_get (by simp [raw_length]; omega)]
        have h5 := raw_getD (vlen n) 0 n (by omega)
        have h6 : (l ++ raw (vlen n) n).getD l.length 0 = (raw (vlen n) n).getD 0 0 := by simp [List.getD, List.getElem?_append_right]
        rw [h6, h5, Nat.sub_zero]
      have hfz : wr.frozen? ⟨g, l.length, none⟩ = false := hown.frozenAt _
      have hx0 : (0 : Int) ≤ (l.length : Int) := by omega
      have hx1 : (l.length : Int) < (l.length : Int) + (vlen n : Int) := by omega
      have HO := Lib.hid hown
      clear hown h
      go_wp2_with fail
      refine wp_region_still_tail 7 (by kernel_rfl) (by kernel_rfl) ?_
      change wpStill _ _ wr.drew (fun a' => wpList _ _ _ _ a' wr.drew) _ _
      simp only [List.take_succ_cons, List.take_zero, List.drop_succ_cons, List.drop_zero]
      repeat still_step
      still_call ((mark_calls _ _ (by omega) (by omega)).mono (fun e w' ⟨he, hw⟩ => ⟨he, hw.symm⟩))
      repeat still_step
      refine wpStill_nil ?_
      go_wp2
      go_ret
      exact own_enc h0 h1 hg1 hb HO.out

theorem put_calls (A : Option Addr) (c : Nat) (l : List Int) (n : Int) (w : World) (h : Lies w A c l) (hl : l.length ≤ 1000000) (h0 : 0 ≤ n) (h1 : n < 18446744073709551616) :
    Calls Tryd.prog 42 #[.slice A l.length c, .int .u64 n] w (Own w.heap.size w (l ++ enc n)) := by
  have hv := vlen_le n
  go_enter Tryd.func42, Tryd.ntmps42
  go_wp2_with (go_at_call 45; refine (len_calls _ _).mono ?_; rintro e w' ⟨rfl, rfl⟩)
  refine (copyWithRoom_calls A c l _ _ h hl (by omega) (by omega)).mono ?_
  rintro e w1 ⟨A1, c1, rfl, hown1, hb1⟩
  go_wp2_with fail
  refine (appendNumber_calls w.heap.size A1 c1 l n w1 hown1 hb1.size (by omega) h0 h1).mono ?_
  rintro e w2 ⟨A2, c2, rfl, hown2, hb2⟩
  go_wp2
  go_ret
  exact ⟨A2, c2, ret_slice (by simp), hown2, hb1.trans hb2⟩

end Go.Proofs.YtdgdkkapikopnaaDoor
