/-
  Plain: frames of layer 3 as lists of bytes: what is put is read back, truncated frames are recognized, and sequences of frames that are cut off anywhere are read up to the last whole one. No program in sight. Conditions: each theorem names its own.
-/
import Derived.Test.YtikeebgclplphaaVBack
import Derived.Test.YtikeebgclplphaaVInt
import Derived.Test.YtikeebgclplphaaCTake
namespace Go.Proofs.Ytikeebgclplphaa
set_option linter.unusedVariables false

/-- The bytes of a frame ahead of its checksum. -/
def headF (d : List Int) : List Int := enc d.length ++ d
/-- The bytes of a frame. -/
def encF (d : List Int) : List Int := headF d ++ le4Z (sumZ (headF d))

theorem le4Z_length (s : Int) : (le4Z s).length = 4 := rfl
theorem headF_length (d : List Int) : (headF d).length = vlen d.length + d.length := by unfold headF; rw [List.length_append, enc_length]
theorem encF_length (d : List Int) : (encF d).length = vlen d.length + d.length + 4 := by unfold encF; rw [List.length_append, headF_length, le4Z_length]
theorem encF_pos (d : List Int) : 0 < (encF d).length := by rw [encF_length]; omega
theorem headF_isB (d : List Int) (hb : IsB d) (hl : d.length ≤ 1048576) : IsB (headF d) := (enc_bytes _ (by omega) (by omega)).append hb
theorem encF_isB (d : List Int) (hb : IsB d) (hl : d.length ≤ 1048576) : IsB (encF d) := (headF_isB d hb hl).append (le4Z_isB _)

/-- What Get answers: the data, the index behind the frame, the error. -/
def getF (b : List Int) (i : Int) : List Int × Int × Int :=
  if (getS b i).2.2 = 0 then
    if 1048576 < (getS b i).1 then ([], 0, 5)
    else if (b.length : Int) - (getS b i).2.1 < (getS b i).1 + 4 then ([], 0, 2)
    else if (b.drop ((getS b i).2.1 + (getS b i).1).toNat).take 4 = le4Z (sumZ ((b.drop i.toNat).take ((getS b i).2.1 + (getS b i).1 - i).toNat)) then
      ((b.drop (getS b i).2.1.toNat).take (getS b i).1.toNat, (getS b i).2.1 + (getS b i).1 + 4, 0)
    else ([], 0, 4)
  else ([], 0, (getS b i).2.2)

theorem getF_of (b : List Int) (i n x : Int) (h : getS b i = (n, x, 0)) :
    getF b i = if 1048576 < n then ([], 0, 5) else if (b.length : Int) - x < n + 4 then ([], 0, 2)
      else if (b.drop (x + n).toNat).take 4 = le4Z (sumZ ((b.drop i.toNat).take (x + n - i).toNat)) then ((b.drop x.toNat).take n.toNat, x + n + 4, 0) else ([], 0, 4) := by
  unfold getF
  rw [h]
  simp
theorem getF_err (b : List Int) (i n x e : Int) (h : getS b i = (n, x, e)) (he : e ≠ 0) : getF b i = ([], 0, e) := by
  unfold getF
  rw [h, if_neg he]

/-- A frame that is read lies inside. -/
theorem getF_next (b : List Int) (hb : IsB b) (i : Nat) (d : List Int) (x : Int) (h : getF b i = (d, x, 0)) : (i : Int) + 4 < x ∧ x ≤ b.length := by
  obtain ⟨n, y, e, hg⟩ : ∃ n y e, getS b i = (n, y, e) := ⟨_, _, _, rfl⟩
  by_cases he : e = 0
  · subst he
    obtain ⟨p1, p2, _⟩ := put_back b hb i n y hg
    rw [getF_of b i n y hg] at h
    have hn : 0 ≤ n := by have := (getS_range b hb i).1; rw [hg] at this; exact this
    split at h
    · simp at h
    · split at h
      · simp at h
      · split at h
        · simp only [Prod.mk.injEq] at h
          omega
        · simp at h
  · rw [getF_err b i n y e hg he] at h
    simp only [Prod.mk.injEq] at h
    omega
theorem getF_range (b : List Int) (hb : IsB b) (i : Int) : 0 ≤ (getF b i).2.1 ∧ (getF b i).2.1 ≤ b.length ∧ 0 ≤ (getF b i).2.2 ∧ (getF b i).2.2 ≤ 1000 ∧ ((getF b i).2.2 ≠ 0 → (getF b i).1 = [] ∧ (getF b i).2.1 = 0) := by
  obtain ⟨r0, r1, r2, r3⟩ := getS_range b hb i
  have he := getS_err b i
  unfold getF
  repeat' split
  all_goals simp
  all_goals omega
theorem getF_isB (b : List Int) (hb : IsB b) (i : Int) : IsB (getF b i).1 := by
  unfold getF
  repeat' split
  all_goals first
    | (intro x hx; simp at hx; done)
    | (intro x hx; exact hb x (List.mem_of_mem_drop (List.mem_of_mem_take hx)))

/-- What is put is read back, whatever stands around it. -/
theorem getF_back (p d r : List Int) (hl : d.length ≤ 1048576) : getF (p ++ encF d ++ r) p.length = (d, (p.length : Int) + (encF d).length, 0) := by
  have hv := vlen_pos d.length
  have hv2 := vlen_le d.length
  have e0 : p ++ encF d ++ r = p ++ enc d.length ++ (d ++ le4Z (sumZ (headF d)) ++ r) := by
    unfold encF
    conv => lhs; rw [show headF d ++ le4Z (sumZ (headF d)) = enc d.length ++ d ++ le4Z (sumZ (headF d)) from rfl]
    simp only [List.append_assoc]
  have hg := get_back p (d ++ le4Z (sumZ (headF d)) ++ r) d.length (by omega) (by omega)
  rw [← e0] at hg
  have hL : (p ++ encF d ++ r).length = p.length + (vlen d.length + d.length + 4) + r.length := by rw [List.length_append, List.length_append, encF_length]
  have e1 : ((p ++ encF d ++ r).drop ((p.length : Int) + vlen d.length + d.length).toNat).take 4 = le4Z (sumZ (headF d)) := by
    rw [show ((p.length : Int) + vlen d.length + d.length).toNat = (p ++ headF d).length by rw [List.length_append, headF_length]; omega]
    unfold encF
    rw [show p ++ (headF d ++ le4Z (sumZ (headF d))) ++ r = p ++ headF d ++ (le4Z (sumZ (headF d)) ++ r) by simp only [List.append_assoc], List.drop_left]
    exact List.take_left' (le4Z_length _)
  have e2 : ((p ++ encF d ++ r).drop (p.length : Int).toNat).take ((p.length : Int) + vlen d.length + d.length - p.length).toNat = headF d := by
    rw [show ((p.length : Int) + vlen d.length + d.length - p.length).toNat = (headF d).length by rw [headF_length]; omega, Int.toNat_natCast]
    unfold encF
    rw [show p ++ (headF d ++ le4Z (sumZ (headF d))) ++ r = p ++ (headF d ++ (le4Z (sumZ (headF d)) ++ r)) by simp only [List.append_assoc], List.drop_left]
    exact List.take_left' rfl
  have e3 : ((p ++ encF d ++ r).drop ((p.length : Int) + vlen d.length).toNat).take (d.length : Int).toNat = d := by
    rw [e0, show ((p.length : Int) + vlen d.length).toNat = (p ++ enc d.length).length by rw [List.length_append, enc_length]; omega, List.drop_left, Int.toNat_natCast, List.append_assoc]
    exact List.take_left' rfl
  rw [getF_of _ _ _ _ hg, if_neg (by omega), if_neg (by omega), e1, e2, e3, if_pos rfl, encF_length, show (p.length : Int) + vlen d.length + d.length + 4 = (p.length : Int) + ((vlen d.length + d.length + 4 : Nat) : Int) by omega]

/-- A frame that is cut off is recognized. -/
theorem getF_short (p d : List Int) (m : Nat) (hl : d.length ≤ 1048576) (h0 : 0 < m) (h1 : m < (encF d).length) : getF (p ++ (encF d).take m) p.length = ([], 0, 2) := by
  have hv := vlen_pos d.length
  have hv2 := vlen_le d.length
  rw [encF_length] at h1
  have hq : ((encF d).take m).length = m := by rw [List.length_take, encF_length]; omega
  have hL : (p ++ (encF d).take m).length = p.length + m := by rw [List.length_append, hq]
  by_cases hm : m < vlen d.length
  · -- within the number
    obtain ⟨f1, _⟩ := first_back d.length (by omega) (by omega)
    have hx : (p ++ (encF d).take m).getD p.length 0 = (d.length : Int) / 256 ^ (vlen d.length - 1) + mk (vlen d.length) := by
      obtain ⟨m', rfl⟩ : ∃ m', m = m' + 1 := ⟨m - 1, by omega⟩
      unfold encF headF enc
      simp [List.getD]
    have hs : getS (p ++ (encF d).take m) p.length = (0, 0, 2) := by
      unfold getS
      rw [if_neg (by omega), if_neg (by omega)]
      simp only [Int.toNat_natCast, hx]
      rw [if_pos (by omega)]
    exact getF_err _ _ _ _ _ hs (by omega)
  · -- behind it
    have e0 : p ++ (encF d).take m = p ++ enc d.length ++ (d ++ le4Z (sumZ (headF d))).take (m - vlen d.length) := by
      unfold encF
      rw [show headF d ++ le4Z (sumZ (headF d)) = enc d.length ++ (d ++ le4Z (sumZ (headF d))) by unfold headF; simp only [List.append_assoc], List.take_append, List.take_of_length_le (by rw [enc_length]; omega), enc_length, List.append_assoc]
    have hg := get_back p ((d ++ le4Z (sumZ (headF d))).take (m - vlen d.length)) d.length (by omega) (by omega)
    rw [← e0] at hg
    rw [getF_of _ _ _ _ hg, if_neg (by omega), if_pos (by omega)]

/-- All frames from an index on, as far as they go. -/
def allFrom : Nat → List Int → Nat → List (List Int) × Int × Int
  | 0, _, i => ([], i, 0)
  | f + 1, b, i =>
    if i < b.length then
      if (getF b i).2.2 = 0 then ((getF b i).1 :: (allFrom f b (getF b i).2.1.toNat).1, (allFrom f b (getF b i).2.1.toNat).2)
      else ([], i, (getF b i).2.2)
    else ([], i, 0)
/-- What All answers: the data, the index behind the last frame, the error. -/
def allF (b : List Int) : List (List Int) × Int × Int := allFrom (b.length + 1) b 0

theorem allFrom_end (f : Nat) (b : List Int) (i : Nat) (h : b.length ≤ i) : allFrom f b i = ([], (i : Int), 0) := by
  cases f with
  | zero => rfl
  | succ f => rw [allFrom, if_neg (by omega)]
theorem allFrom_step (f : Nat) (b : List Int) (i : Nat) (d : List Int) (x : Int) (hi : i < b.length) (h : getF b i = (d, x, 0)) : allFrom (f + 1) b i = (d :: (allFrom f b x.toNat).1, (allFrom f b x.toNat).2) := by
  rw [allFrom, if_pos hi, h, if_pos rfl]
theorem allFrom_stop (f : Nat) (b : List Int) (i : Nat) (d : List Int) (x e : Int) (hi : i < b.length) (h : getF b i = (d, x, e)) (he : e ≠ 0) : allFrom (f + 1) b i = ([], (i : Int), e) := by
  rw [allFrom, if_pos hi, h, if_neg he]

/-- The bytes of many frames. -/
def flatF (l : List (List Int)) : List Int := l.flatMap encF
theorem flatF_nil : flatF [] = [] := rfl
theorem flatF_cons (d : List Int) (l : List (List Int)) : flatF (d :: l) = encF d ++ flatF l := by simp [flatF]
theorem flatF_snoc (l : List (List Int)) (d : List Int) : flatF (l ++ [d]) = flatF l ++ encF d := by simp [flatF]

/-- Frames that are cut off anywhere are read up to the last whole one. -/
theorem torn_from : ∀ (l : List (List Int)) (hl : ∀ d ∈ l, d.length ≤ 1048576) (p : List Int) (k f : Nat) (hk : k ≤ (flatF l).length) (hf : k < f),
    ∃ j, j ≤ l.length ∧ (flatF (l.take j)).length ≤ k ∧ (j < l.length → k < (flatF (l.take (j + 1))).length) ∧
      allFrom f (p ++ (flatF l).take k) p.length = (l.take j, ((p.length + (flatF (l.take j)).length : Nat) : Int), if (flatF (l.take j)).length = k then 0 else 2)
  | [], _, p, k, f, hk, hf => by
    have : k = 0 := by simpa [flatF] using hk
    subst this
    refine ⟨0, by simp, by simp [flatF], by simp, ?_⟩
    rw [allFrom_end _ _ _ (by simp)]
    simp [flatF]
  | d :: l, hl, p, k, f, hk, hf => by
    have hd := hl d (by simp)
    rw [flatF_cons] at hk ⊢
    obtain ⟨f, rfl⟩ : ∃ g, f = g + 1 := ⟨f - 1, by omega⟩
    by_cases h : k < (encF d).length
    · refine ⟨0, by simp, by simp [flatF], fun _ => by simpa [flatF] using h, ?_⟩
      rw [List.take_append_of_le_length (by omega)]
      by_cases h0 : k = 0
      · subst h0
        rw [allFrom_end _ _ _ (by simp)]
        simp [flatF]
      · have hq : ((encF d).take k).length = k := by rw [List.length_take]; omega
        rw [allFrom_stop _ _ _ [] 0 2 (by rw [List.length_append, hq]; omega) (getF_short p d k hd (by omega) h) (by omega)]
        have hz : (flatF ((d :: l).take 0)).length = 0 := rfl
        rw [if_neg (by omega), hz, Nat.add_zero]
        rfl
    · have e : (encF d ++ flatF l).take k = encF d ++ (flatF l).take (k - (encF d).length) := by
        rw [List.take_append, List.take_of_length_le (by omega)]
      have hpos := encF_pos d
      obtain ⟨j, j1, j2, j3, j4⟩ := torn_from l (fun x hx => hl x (by simp [hx])) (p ++ encF d) (k - (encF d).length) f (by rw [List.length_append] at hk; omega) (by omega)
      refine ⟨j + 1, by simpa using j1, ?_, ?_, ?_⟩
      · rw [List.take_succ_cons, flatF_cons, List.length_append]; omega
      · intro hj
        rw [List.take_succ_cons, flatF_cons, List.length_append]
        have := j3 (by simpa using hj)
        omega
      · rw [e, ← List.append_assoc, allFrom_step f _ p.length d _ (by rw [List.length_append, List.length_append]; omega) (getF_back p d _ hd)]
        rw [show ((p.length : Int) + (encF d).length).toNat = (p ++ encF d).length by rw [List.length_append]; omega, j4, List.take_succ_cons, flatF_cons, List.length_append, List.length_append]
        simp only [Prod.mk.injEq, true_and]
        refine ⟨by omega, ?_⟩
        by_cases h2 : (flatF (l.take j)).length = k - (encF d).length
        · rw [if_pos h2, if_pos (by omega)]
        · rw [if_neg h2, if_neg (by omega)]
theorem torn (l : List (List Int)) (hl : ∀ d ∈ l, d.length ≤ 1048576) (k : Nat) (hk : k ≤ (flatF l).length) :
    ∃ j, j ≤ l.length ∧ (flatF (l.take j)).length ≤ k ∧ (j < l.length → k < (flatF (l.take (j + 1))).length) ∧
      allF ((flatF l).take k) = (l.take j, ((flatF (l.take j)).length : Int), if (flatF (l.take j)).length = k then 0 else 2) := by
  have hq : ((flatF l).take k).length = k := by rw [List.length_take]; omega
  obtain ⟨j, j1, j2, j3, j4⟩ := torn_from l hl [] k (k + 1) hk (by omega)
  refine ⟨j, j1, j2, j3, ?_⟩
  unfold allF
  rw [hq]
  simpa using j4
end Go.Proofs.Ytikeebgclplphaa
