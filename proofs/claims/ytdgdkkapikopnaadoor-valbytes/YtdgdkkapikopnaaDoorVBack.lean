/-
  Plain: what is put is read back, whatever stands around it, and what is read is put as the bytes that it was. Conditions: numbers of 64 bits, bytes from 0 to 255.
-/
import Derived.Test.YtdgdkkapikopnaaDoorVRGet
namespace Go.Proofs.YtdgdkkapikopnaaDoor
set_option linter.unusedVariables false
set_option maxRecDepth 20000

theorem first_fin : ∀ k : Fin 8, ∀ y : Fin (2 ^ (7 - k.val)), onesB ((y.val : Int) + mk (k.val + 1)) = k.val ∧ head ((y.val : Int) + mk (k.val + 1)) = (y.val : Int) := by decide +kernel
theorem first_back (n : Int) (h0 : 0 ≤ n) (h1 : n < 18446744073709551616) :
    onesB (n / 256 ^ (vlen n - 1) + mk (vlen n)) + 1 = vlen n ∧ head (n / 256 ^ (vlen n - 1) + mk (vlen n)) = n / 256 ^ (vlen n - 1) := by
  obtain ⟨b0, b1, b2⟩ := first_byte n h0 h1
  have hv := vlen_pos n
  have hv2 := vlen_le n
  generalize n / 256 ^ (vlen n - 1) = x at *
  generalize vlen n = k at *
  by_cases h : k ≤ 8
  · have hx := b1 h
    have hn : x.toNat < 2 ^ (7 - (k - 1)) := by
      have e : ((2 ^ (7 - (k - 1)) : Nat) : Int) = 2 ^ (8 - k) := by rw [show 7 - (k - 1) = 8 - k by omega]; simp
      omega
    have hf := first_fin ⟨k - 1, by omega⟩ ⟨x.toNat, hn⟩
    simp only [Int.toNat_of_nonneg b0] at hf
    rw [show k - 1 + 1 = k by omega] at hf
    exact ⟨by omega, hf.2⟩
  · obtain rfl : k = 9 := by omega
    rw [b2 rfl]
    decide

theorem enc_bytes (n : Int) (h0 : 0 ≤ n) (h1 : n < 18446744073709551616) : IsB (enc n) := by
  intro x hx
  unfold enc at hx
  rcases List.mem_cons.1 hx with rfl | hx
  · obtain ⟨b0, b1, b2⟩ := first_byte n h0 h1
    have hv := vlen_pos n
    have hv2 := vlen_le n
    generalize n / 256 ^ (vlen n - 1) = x at *
    generalize vlen n = k at *
    unfold mk
    by_cases h : k ≤ 8
    · have hx := b1 h
      rcases nine hv (by omega) with rfl | rfl | rfl | rfl | rfl | rfl | rfl | rfl | rfl <;> simp only [Nat.reduceSub, Int.reducePow] at hx ⊢ <;> omega
    · obtain rfl : k = 9 := by omega
      rw [b2 rfl]
      decide
  · exact raw_bytes _ _ x hx

/-- What is put is read back. -/
theorem get_back (p r : List Int) (n : Int) (h0 : 0 ≤ n) (h1 : n < 18446744073709551616) : getS (p ++ enc n ++ r) p.length = (n, (p.length : Int) + vlen n, 0) := by
  have hv := vlen_pos n
  obtain ⟨f1, f2⟩ := first_back n h0 h1
  have hlen : (p ++ enc n ++ r).length = p.length + vlen n + r.length := by simp [enc_length]; omega
  have hx : (p ++ enc n ++ r).getD p.length 0 = n / 256 ^ (vlen n - 1) + mk (vlen n) := by
    unfold enc
    simp [List.getD]
  have hd : ((p ++ enc n ++ r).drop (p.length + 1)).take (vlen n - 1) = raw (vlen n - 1) n := by
    unfold enc
    rw [List.append_assoc, ← List.drop_drop, List.drop_left, List.cons_append, List.drop_one, List.tail_cons]
    exact List.take_left' (raw_length _ _)
  rw [getS_main _ p.length _ (by omega) hx.symm (by omega), show onesB (n / 256 ^ (vlen n - 1) + mk (vlen n)) = vlen n - 1 by omega, f2, hd, dec_raw, if_neg (by omega)]
  congr 2
  omega

/-- What is read is put as the bytes that it was. -/
theorem put_back (l : List Int) (hb : IsB l) (i : Nat) (n x : Int) (hg : getS l i = (n, x, 0)) : (i : Int) < x ∧ x ≤ l.length ∧ enc n = (l.drop i).take (x.toNat - i) := by
  by_cases hi : i < l.length
  · have hm := hb (l.getD i 0) (by rw [getD_at hi]; exact List.getElem_mem hi)
    by_cases hs : i + onesB (l.getD i 0) + 1 ≤ l.length
    · have hG := getS_main l i _ hi rfl hs
      rw [hg] at hG
      have ho := onesB_le (l.getD i 0)
      have hlen : ((l.drop (i + 1)).take (onesB (l.getD i 0))).length = onesB (l.getD i 0) := by rw [List.length_take, List.length_drop]; omega
      have hbt : ∀ z ∈ (l.drop (i + 1)).take (onesB (l.getD i 0)), 0 ≤ z ∧ z ≤ 255 := fun z hz => hb z (List.mem_of_mem_drop (List.mem_of_mem_take hz))
      obtain ⟨d0, d1, d2⟩ := dec_fits (l.getD i 0) _ hm.1 hm.2 hbt hlen
      obtain ⟨r1, r2⟩ := raw_dec _ (head (l.getD i 0)) hbt
      obtain ⟨_, _, _, hk⟩ := head_bound (l.getD i 0) hm.1 hm.2
      by_cases hv : vlen (dec (head (l.getD i 0)) ((l.drop (i + 1)).take (onesB (l.getD i 0)))) < onesB (l.getD i 0) + 1
      · rw [if_pos hv] at hG
        simp at hG
      · rw [if_neg hv] at hG
        simp only [Prod.mk.injEq, and_true] at hG
        obtain ⟨rfl, rfl⟩ := hG
        refine ⟨by omega, by omega, ?_⟩
        have hve : vlen (dec (head (l.getD i 0)) ((l.drop (i + 1)).take (onesB (l.getD i 0)))) = onesB (l.getD i 0) + 1 := by omega
        unfold enc
        rw [hve, Nat.add_sub_cancel]
        rw [hlen] at r1 r2
        rw [r1, r2, hk, show ((i : Int) + ((onesB (l.getD i 0) : Int) + 1)).toNat - i = onesB (l.getD i 0) + 1 by omega]
        rw [getD_at hi, List.drop_eq_getElem_cons hi, List.take_succ_cons]
    · have : getS l i = (0, 0, 2) := by
        unfold getS
        rw [if_neg (by omega), if_neg (by omega)]
        simp only [Int.toNat_natCast]
        rw [if_pos (by omega)]
      rw [this] at hg
      simp at hg
  · have h1 : getS l i = (0, 0, 8) ∨ getS l i = (0, 0, 2) := by
      unfold getS
      by_cases h : (i : Int) < 0 ∨ (l.length : Int) < i
      · left; rw [if_pos h]
      · right; rw [if_neg h, if_pos (by omega)]
    rcases h1 with h1 | h1 <;> rw [h1] at hg <;> simp at hg
end Go.Proofs.YtdgdkkapikopnaaDoor
