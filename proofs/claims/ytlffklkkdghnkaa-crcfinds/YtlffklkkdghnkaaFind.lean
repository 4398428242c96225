/-
  Plain: bytes that end with their checksum, four consecutive ones of them changed: Take answers the error. No program in sight but the word for exclusive or.
-/
import Derived.Test.YtlffklkkdghnkaaTake
namespace Go.Proofs.Ytlffklkkdghnkaa
open Go.ChangeShapes Go.WideShapes Go.ChangeAt Go.RowKit
set_option linter.unusedVariables false

/-- The first j of four bytes from k on, changed by the bytes of y. -/
def chg (P : List Int) (k : Nat) (y : Int) : Nat → List Int
  | 0 => P
  | j + 1 => (chg P k y j).set (k + j) (bits .xor .u8 ((chg P k y j).getD (k + j) 0) (y / 256 ^ j % 256))
theorem chg_length (P : List Int) (k : Nat) (y : Int) : ∀ j, (chg P k y j).length = P.length
  | 0 => rfl
  | j + 1 => by rw [chg, List.length_set, chg_length P k y j]

theorem split4 (P : List Int) (k : Nat) (h : k + 4 ≤ P.length) : ∃ p c0 c1 c2 c3 q, P = p ++ [c0, c1, c2, c3] ++ q ∧ p.length = k := by
  have e := List.take_append_drop k P
  have hl : 4 ≤ (P.drop k).length := by rw [List.length_drop]; omega
  obtain ⟨c0, r, h0⟩ : ∃ c r, P.drop k = c :: r := by cases hd : P.drop k with | nil => rw [hd] at hl; simp at hl | cons c r => exact ⟨c, r, rfl⟩
  rw [h0] at hl
  obtain ⟨c1, r1, h1⟩ : ∃ c r', r = c :: r' := by cases hd : r with | nil => rw [hd] at hl; simp at hl | cons c r' => exact ⟨c, r', rfl⟩
  rw [h1] at hl
  obtain ⟨c2, r2, h2⟩ : ∃ c r', r1 = c :: r' := by cases hd : r1 with | nil => rw [hd] at hl; simp at hl | cons c r' => exact ⟨c, r', rfl⟩
  rw [h2] at hl
  obtain ⟨c3, r3, h3⟩ : ∃ c r', r2 = c :: r' := by cases hd : r2 with | nil => rw [hd] at hl; simp at hl | cons c r' => exact ⟨c, r', rfl⟩
  refine ⟨P.take k, c0, c1, c2, c3, r3, ?_, by rw [List.length_take]; omega⟩
  rw [h0, h1, h2, h3] at e
  rw [List.append_assoc]
  exact e.symm

/-- Exclusive or of two bytes. -/
def bx (c b : Int) : Int := ((c.toNat ^^^ b.toNat : Nat) : Int)
theorem bx_eq (c b : Int) (h0 : 0 ≤ c) (h1 : c ≤ 255) (h2 : 0 ≤ b) (h3 : b ≤ 255) : bits .xor .u8 c b = bx c b := u8_xor c b h0 (by omega) h2 (by omega)
theorem bx_byte (c b : Int) (h1 : c ≤ 255) (h3 : b ≤ 255) : 0 ≤ bx c b ∧ bx c b ≤ 255 := by
  have : c.toNat ^^^ b.toNat < 2 ^ 8 := Nat.xor_lt_two_pow (by omega) (by omega)
  unfold bx
  omega

theorem chg_four (p q : List Int) (c0 c1 c2 c3 y : Int) (hb : IsB (p ++ [c0, c1, c2, c3] ++ q)) :
    chg (p ++ [c0, c1, c2, c3] ++ q) p.length y 4 = p ++ [bx c0 (y % 256), bx c1 (y / 256 % 256), bx c2 (y / 65536 % 256), bx c3 (y / 16777216 % 256)] ++ q := by
  have k0 := hb c0 (by simp)
  have k1 := hb c1 (by simp)
  have k2 := hb c2 (by simp)
  have k3 := hb c3 (by simp)
  have e0 : bits .xor .u8 c0 (y % 256) = bx c0 (y % 256) := bx_eq _ _ k0.1 k0.2 (by omega) (by omega)
  have e1 : bits .xor .u8 c1 (y / 256 % 256) = bx c1 (y / 256 % 256) := bx_eq _ _ k1.1 k1.2 (by omega) (by omega)
  have e2 : bits .xor .u8 c2 (y / 65536 % 256) = bx c2 (y / 65536 % 256) := bx_eq _ _ k2.1 k2.2 (by omega) (by omega)
  have e3 : bits .xor .u8 c3 (y / 16777216 % 256) = bx c3 (y / 16777216 % 256) := bx_eq _ _ k3.1 k3.2 (by omega) (by omega)
  have s1 : chg (p ++ [c0, c1, c2, c3] ++ q) p.length y 1 = p ++ [bx c0 (y % 256), c1, c2, c3] ++ q := by
    rw [chg, chg, ← e0]
    simp [List.set_append_right]
  have s2 : chg (p ++ [c0, c1, c2, c3] ++ q) p.length y 2 = p ++ [bx c0 (y % 256), bx c1 (y / 256 % 256), c2, c3] ++ q := by
    rw [chg, s1, ← e1]
    simp [List.set_append_right]
  have s3 : chg (p ++ [c0, c1, c2, c3] ++ q) p.length y 3 = p ++ [bx c0 (y % 256), bx c1 (y / 256 % 256), bx c2 (y / 65536 % 256), c3] ++ q := by
    rw [chg, s2, ← e2]
    simp [List.set_append_right]
  rw [chg, s3, ← e3]
  simp [List.set_append_right]

theorem le4Z_nat (s : Int) (h0 : 0 ≤ s) : (le4Z s).map Int.toNat = le4 s.toNat := by
  unfold le4Z le4
  simp only [List.map_cons, List.map_nil]
  congr 1
  · omega
  congr 1
  · omega
  congr 1
  · omega
  congr 1
  omega

theorem IsB.nat {l : List Int} (h : IsB l) : ∀ x ∈ l.map Int.toNat, x < 256 := by
  intro x hx
  obtain ⟨y, hy, rfl⟩ := List.mem_map.1 hx
  have := h y hy
  omega

theorem four_of_length (l : List Int) (h : l.length = 4) : ∃ a b c d, l = [a, b, c, d] := by
  match l, h with
  | [a, b, c, d], _ => exact ⟨a, b, c, d, rfl⟩

/-- The change is found. -/
theorem take_found (l : List Int) (hb : IsB l) (k : Nat) (hk : k ≤ l.length) (y : Int) (hy0 : 0 < y) (hy1 : y ≤ 4294967295) :
    takeS (chg (l ++ le4Z (sumZ l)) k y 4) = ([], 4) ∧ IsB (chg (l ++ le4Z (sumZ l)) k y 4) := by
  obtain ⟨s0, s1⟩ := sumZ_range l hb
  have hbP : IsB (l ++ le4Z (sumZ l)) := hb.append (le4Z_isB _)
  have hlen : (l ++ le4Z (sumZ l)).length = l.length + 4 := by rw [List.length_append]; rfl
  have hmap : (l ++ le4Z (sumZ l)).map Int.toNat = l.map Int.toNat ++ le4 (sumOf (l.map Int.toNat)) := by
    rw [List.map_append, le4Z_nat _ s0, sumZ_nat l hb, Int.toNat_natCast]
  obtain ⟨p, c0, c1, c2, c3, q, hP, hpk⟩ := split4 (l ++ le4Z (sumZ l)) k (by omega)
  rw [hP] at hbP hlen hmap ⊢
  subst hpk
  rw [chg_four p q c0 c1 c2 c3 y hbP]
  have k0 := hbP c0 (by simp)
  have k1 := hbP c1 (by simp)
  have k2 := hbP c2 (by simp)
  have k3 := hbP c3 (by simp)
  have d0 := bx_byte c0 (y % 256) k0.2 (by omega)
  have d1 := bx_byte c1 (y / 256 % 256) k1.2 (by omega)
  have d2 := bx_byte c2 (y / 65536 % 256) k2.2 (by omega)
  have d3 := bx_byte c3 (y / 16777216 % 256) k3.2 (by omega)
  have hbQ : IsB (p ++ [bx c0 (y % 256), bx c1 (y / 256 % 256), bx c2 (y / 65536 % 256), bx c3 (y / 16777216 % 256)] ++ q) := by
    intro x hx
    simp only [List.mem_append, List.mem_cons, List.not_mem_nil, or_false] at hx
    rcases hx with (hx | rfl | rfl | rfl | rfl) | hx
    · exact hbP x (by simp [hx])
    · exact d0
    · exact d1
    · exact d2
    · exact d3
    · exact hbP x (by simp [hx])
  refine ⟨?_, hbQ⟩
  have hlQ : (p ++ [bx c0 (y % 256), bx c1 (y / 256 % 256), bx c2 (y / 65536 % 256), bx c3 (y / 16777216 % 256)] ++ q).length = l.length + 4 := by
    rw [← hlen]; simp
  have hne := word_ne (c0 := c0.toNat) (c1 := c1.toNat) (c2 := c2.toNat) (c3 := c3.toNat) (b0 := (y % 256).toNat) (b1 := (y / 256 % 256).toNat) (b2 := (y / 65536 % 256).toNat) (b3 := (y / 16777216 % 256).toNat)
    (by omega) (by omega) (by omega) (by omega) (by omega) (by omega) (by omega) (by omega) (by omega)
  generalize hQ : p ++ [bx c0 (y % 256), bx c1 (y / 256 % 256), bx c2 (y / 65536 % 256), bx c3 (y / 16777216 % 256)] ++ q = Q at *
  have hmQ : Q.map Int.toNat = p.map Int.toNat ++ [c0.toNat ^^^ (y % 256).toNat, c1.toNat ^^^ (y / 256 % 256).toNat, c2.toNat ^^^ (y / 65536 % 256).toNat, c3.toNat ^^^ (y / 16777216 % 256).toNat] ++ q.map Int.toNat := by
    rw [← hQ]
    simp [bx]
  have hmP : l.map Int.toNat ++ le4 (sumOf (l.map Int.toNat)) = p.map Int.toNat ++ [c0.toNat, c1.toNat, c2.toNat, c3.toNat] ++ q.map Int.toNat := by
    rw [← hmap]
    simp
  have hd4 : (Q.drop (Q.length - 4)).length = 4 := by rw [List.length_drop]; omega
  obtain ⟨f0, f1, f2, f3, hf⟩ := four_of_length _ hd4
  have hT : IsB (Q.take (Q.length - 4)) := fun x hx => hbQ x (List.mem_of_mem_take hx)
  have hfound := found (l.map Int.toNat) (p.map Int.toNat) (q.map Int.toNat) hb.nat hmP
    (d0 := c0.toNat ^^^ (y % 256).toNat) (d1 := c1.toNat ^^^ (y / 256 % 256).toNat) (d2 := c2.toNat ^^^ (y / 65536 % 256).toNat) (d3 := c3.toNat ^^^ (y / 16777216 % 256).toNat)
    (Nat.xor_lt_two_pow (n := 8) (by omega) (by omega)) (Nat.xor_lt_two_pow (n := 8) (by omega) (by omega)) (Nat.xor_lt_two_pow (n := 8) (by omega) (by omega)) (Nat.xor_lt_two_pow (n := 8) (by omega) (by omega))
    hne ((Q.take (Q.length - 4)).map Int.toNat) (e0 := f0.toNat) (e1 := f1.toNat) (e2 := f2.toNat) (e3 := f3.toNat) (by
      rw [← hmQ]
      conv => lhs; rw [← List.take_append_drop (Q.length - 4) Q]
      rw [List.map_append, hf]
      rfl)
  unfold takeS
  rw [if_neg (by omega), if_neg]
  intro heq
  rw [hf] at heq
  apply hfound
  have e4 : [f0, f1, f2, f3].map Int.toNat = le4 (sumZ (Q.take (Q.length - 4))).toNat := by rw [heq, le4Z_nat _ (sumZ_range _ hT).1]
  rw [sumZ_nat _ hT, Int.toNat_natCast] at e4
  simp only [List.map_cons, List.map_nil, le4, List.cons.injEq, and_true] at e4
  obtain ⟨g0, g1, g2, g3⟩ := e4
  rw [g0, g1, g2, g3]
  exact word_le4 (sumOf_lt _)
end Go.Proofs.Ytlffklkkdghnkaa
