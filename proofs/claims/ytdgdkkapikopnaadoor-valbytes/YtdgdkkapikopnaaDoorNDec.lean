/-
  The contract of the document's Number of layer 5 (a number in decimal). Conditions: a number of 64 bits.
-/
import Derived.Test.YtdgdkkapikopnaaDoorGrow
import Derived.Lib.ItoaLen
import Derived.Lib.AppendIntMem
namespace Go.Proofs.YtdgdkkapikopnaaDoor
open Go.ChangeShapes Go.WideShapes Go.ChangeAt Go.RowKit
set_option linter.unusedVariables false

def I64 (n : Int) : Prop := -9223372036854775808 ≤ n ∧ n ≤ 9223372036854775807

/-- A number in decimal, as bytes. -/
def num10 (n : Int) : List Int := (Lib.itoa n).map fun b => (b.toNat : Int)
theorem num10_cells (n : Int) : Lib.byteCells (Lib.itoa n) = cellsOf (num10 n) := by simp [Lib.byteCells, cellsOf, num10]
theorem num10_len {n : Int} (h : I64 n) : (num10 n).length ≤ 21 := by
  rw [num10, List.length_map]; exact Lib.itoa_length_le n h.1 h.2
theorem num10_isB (n : Int) : IsB (num10 n) := by
  intro x hx
  simp only [num10, List.mem_map] at hx
  obtain ⟨b, _, rfl⟩ := hx
  have := b.toNat_lt
  omega

/-- Decimal digits as bytes. -/
def dgs (u : Nat) : List Int := (Lib.decDigits u).map fun b => (b.toNat : Int)
theorem dgs_small {u : Nat} (h : u < 10) : dgs u = [48 + (u : Int)] := by
  have h2 : (48 + u) % 256 = 48 + u := Nat.mod_eq_of_lt (by omega)
  rw [dgs, Lib.decDigits_one h]
  simp [UInt8.toNat_ofNat', h2]
theorem dgs_big {u : Nat} (h : ¬ u < 10) : dgs u = dgs (u / 10) ++ [48 + ((u % 10 : Nat) : Int)] := by
  have h1 : u % 10 < 10 := Nat.mod_lt _ (by omega)
  have h2 : (48 + u % 10) % 256 = 48 + u % 10 := Nat.mod_eq_of_lt (by omega)
  rw [dgs, Lib.decDigits, dif_neg h, dgs]
  simp [UInt8.toNat_ofNat', h2]
theorem num10_neg {n : Int} (h : n < 0) : num10 n = 45 :: dgs n.natAbs := by
  rw [num10, Lib.itoa, if_pos h]; rfl
theorem num10_pos {n : Int} (h : ¬ n < 0) : num10 n = dgs n.natAbs := by
  rw [num10, Lib.itoa, if_neg h, show n.toNat = n.natAbs by omega]; rfl

/-- What is still ahead of the digits. -/
def ahead (k : Int) : List Int := if k = 0 then [] else dgs k.natAbs
theorem ahead_step {k : Int} (hk : k ≠ 0) : ahead k = ahead (k.tdiv 10) ++ [48 + ((k.natAbs % 10 : Nat) : Int)] := by
  have h1 : (k.tdiv 10).natAbs = k.natAbs / 10 := by rw [Int.natAbs_tdiv]; rfl
  unfold ahead
  rw [if_neg hk]
  by_cases hs : k.natAbs < 10
  · have h0 : k.tdiv 10 = 0 := by
      have : (k.tdiv 10).natAbs = 0 := by rw [h1]; omega
      omega
    rw [if_pos h0, dgs_small hs, Nat.mod_eq_of_lt hs]; rfl
  · have h0 : k.tdiv 10 ≠ 0 := fun he => by rw [he] at h1; simp at h1; omega
    rw [if_neg h0, h1, dgs_big hs]
theorem ahead_zero : dgs 0 = [48] := by rw [dgs_small (by omega)]; rfl

theorem digit0 (w : World) : (Instr.slice 9 (.string ⟨#[48, 49, 50, 51, 52, 53, 54, 55, 56, 57]⟩) (some (.int .i64 0)) (some (.int .i64 1)) none).run Tryd.prog w = .ok (.string (str [48])) w := by kernel_rfl
theorem digit1 (w : World) : (Instr.slice 9 (.string ⟨#[48, 49, 50, 51, 52, 53, 54, 55, 56, 57]⟩) (some (.int .i64 1)) (some (.int .i64 2)) none).run Tryd.prog w = .ok (.string (str [49])) w := by kernel_rfl
theorem digit2 (w : World) : (Instr.slice 9 (.string ⟨#[48, 49, 50, 51, 52, 53, 54, 55, 56, 57]⟩) (some (.int .i64 2)) (some (.int .i64 3)) none).run Tryd.prog w = .ok (.string (str [50])) w := by kernel_rfl
theorem digit3 (w : World) : (Instr.slice 9 (.string ⟨#[48, 49, 50, 51, 52, 53, 54, 55, 56, 57]⟩) (some (.int .i64 3)) (some (.int .i64 4)) none).run Tryd.prog w = .ok (.string (str [51])) w := by kernel_rfl
theorem digit4 (w : World) : (Instr.slice 9 (.string ⟨#[48, 49, 50, 51, 52, 53, 54, 55, 56, 57]⟩) (some (.int .i64 4)) (some (.int .i64 5)) none).run Tryd.prog w = .ok (.string (str [52])) w := by kernel_rfl
theorem digit5 (w : World) : (Instr.slice 9 (.string ⟨#[48, 49, 50, 51, 52, 53, 54, 55, 56, 57]⟩) (some (.int .i64 5)) (some (.int .i64 6)) none).run Tryd.prog w = .ok (.string (str [53])) w := by kernel_rfl
theorem digit6 (w : World) : (Instr.slice 9 (.string ⟨#[48, 49, 50, 51, 52, 53, 54, 55, 56, 57]⟩) (some (.int .i64 6)) (some (.int .i64 7)) none).run Tryd.prog w = .ok (.string (str [54])) w := by kernel_rfl
theorem digit7 (w : World) : (Instr.slice 9 (.string ⟨#[48, 49, 50, 51, 52, 53, 54, 55, 56, 57]⟩) (some (.int .i64 7)) (some (.int .i64 8)) none).run Tryd.prog w = .ok (.string (str [55])) w := by kernel_rfl
theorem digit8 (w : World) : (Instr.slice 9 (.string ⟨#[48, 49, 50, 51, 52, 53, 54, 55, 56, 57]⟩) (some (.int .i64 8)) (some (.int .i64 9)) none).run Tryd.prog w = .ok (.string (str [56])) w := by kernel_rfl
theorem digit9 (w : World) : (Instr.slice 9 (.string ⟨#[48, 49, 50, 51, 52, 53, 54, 55, 56, 57]⟩) (some (.int .i64 9)) (some (.int .i64 10)) none).run Tryd.prog w = .ok (.string (str [57])) w := by kernel_rfl
theorem digit_cut (d : Int) (h0 : 0 ≤ d) (h1 : d ≤ 9) (w : World) : (Instr.slice 9 (.string ⟨#[48, 49, 50, 51, 52, 53, 54, 55, 56, 57]⟩) (some (.int .i64 d)) (some (.int .i64 (d + 1))) none).run Tryd.prog w = .ok (.string (str [48 + d])) w := by
  have h : d = 0 ∨ d = 1 ∨ d = 2 ∨ d = 3 ∨ d = 4 ∨ d = 5 ∨ d = 6 ∨ d = 7 ∨ d = 8 ∨ d = 9 := by omega
  rcases h with rfl | rfl | rfl | rfl | rfl | rfl | rfl | rfl | rfl | rfl
  · exact digit0 w
  · exact digit1 w
  · exact digit2 w
  · exact digit3 w
  · exact digit4 w
  · exact digit5 w
  · exact digit6 w
  · exact digit7 w
  · exact digit8 w
  · exact digit9 w

/-- The loop: the digits that were written. -/
def RelDec (w : World) (n : Int) (s k : Value) (wr : World) : Prop :=
  ∃ (L : List Int) (x : Int), s = .string (str L) ∧ k = .int .i64 x ∧ I64 x ∧ wr = w ∧ ((L = [] ∧ x = n) ∨ (L ≠ [] ∧ dgs n.natAbs = ahead x ++ L))
def measDec (s k : Value) : Nat := (intOf k).natAbs + (match s with | .string b => if b.size = 0 then 1 else 0 | _ => 0)

theorem dgs_len {n : Int} (h : I64 n) : (dgs n.natAbs).length ≤ 20 := by
  rw [dgs, List.length_map, Lib.decDigits_length]
  exact Lib.nDigits_le20 _ (by unfold I64 at h; omega)
/-- One digit more. -/
theorem relDec_step {w : World} {n x q d : Int} {L : List Int} (hx : I64 x) (hq : x.tdiv 10 = q) (hd : d = ((x.natAbs % 10 : Nat) : Int)) (hor : (L = [] ∧ x = n) ∨ (L ≠ [] ∧ dgs n.natAbs = ahead x ++ L)) (hgo : x ≠ 0 ∨ L = []) :
    RelDec w n (.string (str [48 + d] ++ str L)) (.int .i64 q) w ∧ measDec (.string (str [48 + d] ++ str L)) (.int .i64 q) < measDec (.string (str L)) (.int .i64 x) := by
  have h1 : q.natAbs = x.natAbs / 10 := by rw [← hq, Int.natAbs_tdiv]; rfl
  refine ⟨⟨[48 + d] ++ L, q, by rw [str_append], rfl, ?_, rfl, .inr ⟨by simp, ?_⟩⟩, ?_⟩
  · unfold I64 at hx ⊢; omega
  · by_cases hx0 : x = 0
    · subst hx0
      obtain rfl : L = [] := by rcases hgo with h | h; exact absurd rfl h; exact h
      rcases hor with ⟨_, h⟩ | ⟨h, _⟩
      · subst h
        have hq0 : q = 0 := by omega
        subst hq0 hd
        simp [ahead, ahead_zero]
      · exact absurd rfl h
    · have e : ahead x ++ L = ahead q ++ ([48 + d] ++ L) := by rw [ahead_step hx0, hq, hd, List.append_assoc]
      rw [← e]
      rcases hor with ⟨rfl, rfl⟩ | ⟨_, h⟩
      · simp [ahead, hx0]
      · exact h
  · unfold measDec
    rw [str_append]
    have e1 : (str ([48 + d] ++ L)).size = L.length + 1 := by rw [str_size]; simp
    simp only [e1, str_size, intOf]
    rw [if_neg (by omega)]
    split
    · omega
    · rename_i hl
      have hx0 : x ≠ 0 := by
        rcases hgo with h | h
        · exact h
        · subst h; exact absurd rfl hl
      omega

set_option maxRecDepth 100000 in
set_option maxHeartbeats 2000000 in
theorem rnum10_calls (n : Int) (hn : I64 n) (w : World) : Calls Tryd.prog 41 #[.int .i64 n] w fun e w' => e = .returned (.string (str (num10 n))) ∧ w' = w := by
  have HN := Lib.hid hn
  clear hn
  go_enter Tryd.func41, Tryd.ntmps41
  go_wp2
  go_loopw [3, 4] (RelDec w n) (fun s k _ => measDec s k)
  case atStart => exact ⟨[], n, rfl, rfl, HN.out, rfl, .inl ⟨rfl, rfl⟩⟩
  case round =>
    obtain ⟨L, x, rfl, rfl, hx, rfl, hor⟩ := hrel
    have hsz : (str L).size ≤ 20 := by
      rw [str_size]
      rcases hor with ⟨rfl, _⟩ | ⟨_, h⟩
      · simp
      · have h1 := dgs_len HN.out
        rw [h, List.length_append] at h1
        omega
    have hz1 : ¬ 9223372036854775807 < 1 + (str L).size := by omega
    by_cases hx0 : x = 0
    · subst hx0
      by_cases hL : L = []
      · subst hL
        have HS := Lib.hid (relDec_step (w := wr) hx (show (0 : Int).tdiv 10 = 0 by decide) (d := 0) rfl hor (.inr rfl))
        have k1 := digit_cut 0 (by omega) (by omega)
        have e0 : str ([] : List Int) = ⟨#[]⟩ := rfl
        clear hor hx
        rw [e0] at HS ⊢
        go_wp2
        go_roundw
        case rel => exact HS.out.1
        case measure => exact HS.out.2
      · have hne : ¬ (str L).toList = [] := fun e => by
          have h3 : (str L).toList.length = 0 := by rw [e]; rfl
          rw [ByteArray.toList_eq] at h3
          have h4 : L.length = 0 := by rw [← str_size]; simpa using h3
          exact hL (List.eq_nil_of_length_eq_zero h4)
        have hbe : ((str L).toList == []) = false := by simpa using hne
        have hfin : dgs n.natAbs = L := by
          rcases hor with ⟨h, _⟩ | ⟨_, h⟩
          · exact absurd h hL
          · simpa [ahead] using h
        have HF := Lib.hid hfin
        clear hfin hor hx
        by_cases hneg : n < 0
        · go_wp2
          go_ret
          rw [num10_neg hneg, HF.out]
          exact ⟨by rw [show (⟨#[45]⟩ : ByteArray) = str [45] from rfl, str_append]; rfl, rfl⟩
        · go_wp2
          go_ret
          rw [num10_pos (by omega), HF.out]
          exact ⟨rfl, rfl⟩
    · have hxb : (x != 0) = true := by simpa using hx0
      obtain ⟨r, hr⟩ : ∃ r, x.tmod 10 = r := ⟨_, rfl⟩
      obtain ⟨q, hq⟩ : ∃ q, x.tdiv 10 = q := ⟨_, rfl⟩
      obtain ⟨d, hd⟩ : ∃ d : Int, d = ((x.natAbs % 10 : Nat) : Int) := ⟨_, rfl⟩
      have hra : r.natAbs = x.natAbs % 10 := by rw [← hr, Int.natAbs_tmod]; rfl
      have hqa : q.natAbs = x.natAbs / 10 := by rw [← hq, Int.natAbs_tdiv]; rfl
      have HS := Lib.hid (relDec_step (w := wr) hx hq hd hor (.inl hx0))
      have hd0 : 0 ≤ d := by omega
      have hd9 : d ≤ 9 := by omega
      have k1 := digit_cut d hd0 hd9
      have hz2 : ¬ 9223372036854775807 < (str [48 + d]).size + (str L).size := by rw [str_size [48 + d]]; simp only [List.length_cons, List.length_nil]; omega
      have w1 : wrap64 (d + 1) = d + 1 := by unfold wrap64; omega
      have w2 : wrap64 q = q := by unfold wrap64; unfold I64 at hx; omega
      by_cases hneg : r < 0
      · have w3 : wrap64 (-r) = d := by unfold wrap64; omega
        clear hd hra hqa hor hx hx0
        go_wp2
        go_roundw
        case rel => rw [w2]; exact HS.out.1
        case measure => rw [w2]; exact HS.out.2
      · obtain rfl : r = d := by omega
        clear hd hra hqa hor hx hx0
        go_wp2
        go_roundw
        case rel => rw [w2]; exact HS.out.1
        case measure => rw [w2]; exact HS.out.2
end Go.Proofs.YtdgdkkapikopnaaDoor
