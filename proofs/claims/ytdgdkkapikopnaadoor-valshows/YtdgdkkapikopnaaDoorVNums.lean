/-
  Plain arithmetic of the variable-length numbers of layer 1: lengths, marks, bytes, and reading back; no program in sight. Conditions: each theorem names its own.
-/
namespace Go.Proofs.YtdgdkkapikopnaaDoor

/-- The number of bytes of a number. -/
def vlen (n : Int) : Nat :=
  if n < 128 then 1 else if n < 16384 then 2 else if n < 2097152 then 3 else if n < 268435456 then 4 else if n < 34359738368 then 5
  else if n < 4398046511104 then 6 else if n < 562949953421312 then 7 else if n < 72057594037927936 then 8 else 9

theorem vlen_pos (n : Int) : 1 ≤ vlen n := by
  unfold vlen
  repeat' split
  all_goals omega
theorem vlen_le (n : Int) : vlen n ≤ 9 := by
  unfold vlen
  repeat' split
  all_goals omega

theorem nine {k : Nat} (h1 : 1 ≤ k) (h2 : k ≤ 9) : k = 1 ∨ k = 2 ∨ k = 3 ∨ k = 4 ∨ k = 5 ∨ k = 6 ∨ k = 7 ∨ k = 8 ∨ k = 9 := by omega

theorem vlen_hit {n : Int} {k : Nat} (h1 : 1 ≤ k) (h2 : k ≤ 8) (h3 : k ≤ vlen n) (h : n < (2 : Int) ^ (7 * k)) : vlen n = k := by
  rcases nine h1 (by omega) with rfl | rfl | rfl | rfl | rfl | rfl | rfl | rfl | rfl <;> simp only [Nat.reduceMul, Int.reducePow] at h <;> (unfold vlen at *; repeat (split at h3; omega)) <;> (try omega) <;> (repeat (split; omega)) <;> (try split) <;> omega
theorem vlen_miss {n : Int} {k : Nat} (h1 : 1 ≤ k) (h2 : k ≤ 8) (h3 : k ≤ vlen n) (h : (2 : Int) ^ (7 * k) ≤ n) : k + 1 ≤ vlen n := by
  rcases nine h1 (by omega) with rfl | rfl | rfl | rfl | rfl | rfl | rfl | rfl | rfl <;> simp only [Nat.reduceMul, Int.reducePow] at h <;> (unfold vlen at *; repeat (split; omega)) <;> omega
theorem vlen_lt {n : Int} (h : vlen n ≤ 8) : n < (2 : Int) ^ (7 * vlen n) := by
  unfold vlen at *
  repeat' split
  all_goals (simp only [Nat.reduceMul, Int.reducePow]; try omega)
  simp_all
theorem vlen_least {n : Int} {k : Nat} (h1 : 1 ≤ k) (h2 : k ≤ 8) (h : n < (2 : Int) ^ (7 * k)) : vlen n ≤ k := by
  rcases nine h1 (by omega) with rfl | rfl | rfl | rfl | rfl | rfl | rfl | rfl | rfl <;> simp only [Nat.reduceMul, Int.reducePow] at h <;> (unfold vlen; repeat (split; omega)) <;> omega

/-- The number of ones a byte begins with. -/
def onesB (c : Int) : Nat :=
  if c < 128 then 0 else if c < 192 then 1 else if c < 224 then 2 else if c < 240 then 3 else if c < 248 then 4 else if c < 252 then 5 else if c < 254 then 6 else if c < 255 then 7 else 8
theorem onesB_le (c : Int) : onesB c ≤ 8 := by
  unfold onesB
  repeat' split
  all_goals omega

/-- The mark of k bytes. -/
def mk (k : Nat) : Int := 256 - 2 ^ (9 - k)

/-- The k lowest bytes of n, the most significant first. -/
def raw : Nat → Int → List Int
  | 0, _ => []
  | k + 1, n => (n / 256 ^ k % 256) :: raw k n
theorem raw_length : ∀ (k : Nat) (n : Int), (raw k n).length = k
  | 0, _ => rfl
  | k + 1, n => by simp [raw, raw_length k n]
theorem raw_getD : ∀ (k i : Nat) (n : Int), i < k → (raw k n).getD i 0 = n / 256 ^ (k - 1 - i) % 256
  | 0, _, _, h => by omega
  | k + 1, 0, n, _ => by simp [raw]
  | k + 1, i + 1, n, h => by
    have e : k + 1 - 1 - (i + 1) = k - 1 - i := by omega
    rw [e, ← raw_getD k i n (by omega)]
    simp [raw]
theorem raw_bytes : ∀ (k : Nat) (n : Int), ∀ x ∈ raw k n, 0 ≤ x ∧ x ≤ 255
  | 0, _, x, h => by simp [raw] at h
  | k + 1, n, x, h => by
    simp only [raw, List.mem_cons] at h
    rcases h with rfl | h
    · omega
    · exact raw_bytes k n x h

/-- The encoding of a number. -/
def enc (n : Int) : List Int := (n / 256 ^ (vlen n - 1) + mk (vlen n)) :: raw (vlen n - 1) n
theorem enc_length (n : Int) : (enc n).length = vlen n := by
  have := vlen_pos n
  simp [enc, raw_length]; omega

/-- The number that bytes are, behind a first part. -/
def dec (a : Int) (l : List Int) : Int := l.foldl (fun a c => 256 * a + c) a
theorem dec_cons (a c : Int) (l : List Int) : dec a (c :: l) = dec (256 * a + c) l := rfl
theorem dec_snoc (a c : Int) (l : List Int) : dec a (l ++ [c]) = 256 * dec a l + c := by simp [dec]

theorem pow_pos (k : Nat) : (0 : Int) < 256 ^ k := Int.pow_pos (by omega)
theorem div_pow_succ (n : Int) (k : Nat) : n / 256 ^ (k + 1) = n / 256 ^ k / 256 := by
  rw [Int.pow_succ, Int.ediv_ediv_of_nonneg (Int.le_of_lt (pow_pos k))]
theorem dec_raw : ∀ (k : Nat) (n : Int), dec (n / 256 ^ k) (raw k n) = n
  | 0, n => by simp [raw, dec]
  | k + 1, n => by
    rw [raw, dec_cons, div_pow_succ]
    have e : 256 * (n / 256 ^ k / 256) + n / 256 ^ k % 256 = n / 256 ^ k := by omega
    rw [e, dec_raw k n]
theorem raw_dec : ∀ (l : List Int) (a : Int), (∀ x ∈ l, 0 ≤ x ∧ x ≤ 255) → raw l.length (dec a l) = l ∧ dec a l / 256 ^ l.length = a
  | [], a, _ => by simp [raw, dec]
  | c :: l, a, h => by
    obtain ⟨h1, h2⟩ := raw_dec l (256 * a + c) (fun x hx => h x (by simp [hx]))
    have hc := h c (by simp)
    rw [List.length_cons, raw, dec_cons, div_pow_succ, h1, h2]
    refine ⟨?_, by omega⟩
    congr 1
    omega
theorem dec_nonneg : ∀ (l : List Int) (a : Int), 0 ≤ a → (∀ x ∈ l, 0 ≤ x ∧ x ≤ 255) → 0 ≤ dec a l
  | [], a, h, _ => by simpa [dec] using h
  | c :: l, a, h, hl => by
    have hc := hl c (by simp)
    rw [dec_cons]
    exact dec_nonneg l _ (by omega) (fun x hx => hl x (by simp [hx]))
theorem dec_lt : ∀ (l : List Int) (a m : Int), 0 ≤ a → a < m → (∀ x ∈ l, 0 ≤ x ∧ x ≤ 255) → dec a l < m * 256 ^ l.length
  | [], a, m, _, h, _ => by simpa [dec] using h
  | c :: l, a, m, h0, h, hl => by
    have hc := hl c (by simp)
    rw [dec_cons, List.length_cons, Int.pow_succ]
    have := dec_lt l (256 * a + c) (256 * m) (by omega) (by omega) (fun x hx => hl x (by simp [hx]))
    rw [show m * (256 ^ l.length * 256) = 256 * m * 256 ^ l.length by rw [Int.mul_comm (256 ^ l.length) 256, ← Int.mul_assoc, Int.mul_comm m 256]]
    exact this

/-- The value of the first byte own bits. -/
def head (c : Int) : Int := if onesB c ≤ 7 then c % 2 ^ (7 - onesB c) else 0

/-- What Get answers: number, index behind it, error. -/
def getS (l : List Int) (i : Int) : Int × Int × Int :=
  if i < 0 ∨ (l.length : Int) < i then (0, 0, 8) else if i = l.length then (0, 0, 2)
  else
    let c := l.getD i.toNat 0
    if (l.length : Int) - i < onesB c + 1 then (0, 0, 2)
    else
      let n := dec (head c) ((l.drop (i.toNat + 1)).take (onesB c))
      if vlen n < onesB c + 1 then (0, 0, 3) else (n, i + (onesB c + 1), 0)

theorem pow7 (k : Nat) (h1 : 1 ≤ k) (h2 : k ≤ 8) : (2 : Int) ^ (7 * k) = 2 ^ (8 - k) * 256 ^ (k - 1) := by
  rcases nine h1 (by omega) with rfl | rfl | rfl | rfl | rfl | rfl | rfl | rfl | rfl <;> first | decide | omega

theorem head_bound (c : Int) (h0 : 0 ≤ c) (h1 : c ≤ 255) : 0 ≤ head c ∧ (onesB c ≤ 7 → head c < 2 ^ (7 - onesB c)) ∧ (onesB c = 8 → head c = 0) ∧ head c + mk (onesB c + 1) = c := by
  unfold head mk onesB
  repeat' split
  all_goals simp
  all_goals omega

theorem pow256 (k : Nat) (h : k ≤ 8) : (256 : Int) ^ k ≤ 18446744073709551616 := by
  have : k = 0 ∨ k = 1 ∨ k = 2 ∨ k = 3 ∨ k = 4 ∨ k = 5 ∨ k = 6 ∨ k = 7 ∨ k = 8 := by omega
  rcases this with rfl | rfl | rfl | rfl | rfl | rfl | rfl | rfl | rfl <;> decide

/-- What is read has at most as many bytes as it was read from, and is a 64-bit number. -/
theorem dec_fits (c : Int) (l : List Int) (h0 : 0 ≤ c) (h1 : c ≤ 255) (hl : ∀ x ∈ l, 0 ≤ x ∧ x ≤ 255) (hn : l.length = onesB c) :
    0 ≤ dec (head c) l ∧ dec (head c) l < 18446744073709551616 ∧ vlen (dec (head c) l) ≤ onesB c + 1 := by
  obtain ⟨b0, b1, b2, _⟩ := head_bound c h0 h1
  have ho := onesB_le c
  refine ⟨dec_nonneg _ _ b0 hl, ?_, ?_⟩
  · by_cases h : onesB c ≤ 7
    · have := dec_lt l (head c) (2 ^ (7 - onesB c)) b0 (b1 h) hl
      have e := pow7 (onesB c + 1) (by omega) (by omega)
      rw [hn] at this
      have e2 : (2 : Int) ^ (7 * (onesB c + 1)) ≤ 18446744073709551616 := by
        have : onesB c = 0 ∨ onesB c = 1 ∨ onesB c = 2 ∨ onesB c = 3 ∨ onesB c = 4 ∨ onesB c = 5 ∨ onesB c = 6 ∨ onesB c = 7 := by omega
        rcases this with h | h | h | h | h | h | h | h <;> rw [h] <;> decide
      rw [show 8 - (onesB c + 1) = 7 - onesB c by omega, show onesB c + 1 - 1 = onesB c by omega] at e
      omega
    · have := dec_lt l (head c) 1 b0 (by rw [b2 (by omega)]; omega) hl
      have e := pow256 l.length (by omega)
      omega
  · by_cases h : onesB c ≤ 7
    · refine vlen_least (by omega) (by omega) ?_
      rw [pow7 _ (by omega) (by omega)]
      have := dec_lt l (head c) (2 ^ (7 - onesB c)) b0 (b1 h) hl
      rw [hn] at this
      rw [show 8 - (onesB c + 1) = 7 - onesB c by omega, show onesB c + 1 - 1 = onesB c by omega]
      exact this
    · have := vlen_le (dec (head c) l)
      omega
end Go.Proofs.YtdgdkkapikopnaaDoor
