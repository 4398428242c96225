/-
  Plain: the 32-bit checksum of layer 2 as a machine on numbers, and why a change within four consecutive bytes is found. No program in sight.
-/
namespace Go.Proofs.Ytikeebgclplphaa

/-- One of the eight steps. -/
def stepT (s : Nat) : Nat := if s % 2 = 1 then s / 2 ^^^ 3988292384 else s / 2
/-- So many steps. -/
def stepN : Nat → Nat → Nat
  | 0, s => s
  | k + 1, s => stepN k (stepT s)
/-- One byte. -/
def byteT (s c : Nat) : Nat := stepN 8 (s ^^^ c)
/-- All bytes. -/
def run (s : Nat) (l : List Nat) : Nat := l.foldl byteT s
/-- The checksum. -/
def sumOf (l : List Nat) : Nat := 4294967295 - run 4294967295 l

theorem run_append (s : Nat) (a b : List Nat) : run s (a ++ b) = run (run s a) b := by simp [run]

theorem xor_lt {a b : Nat} (ha : a < 4294967296) (hb : b < 4294967296) : a ^^^ b < 4294967296 := Nat.xor_lt_two_pow (n := 32) ha hb
theorem stepT_lt {s : Nat} (h : s < 4294967296) : stepT s < 4294967296 := by
  unfold stepT
  split
  · exact xor_lt (by omega) (by omega)
  · omega
theorem stepN_lt : ∀ (k : Nat) {s : Nat}, s < 4294967296 → stepN k s < 4294967296
  | 0, _, h => h
  | k + 1, _, h => stepN_lt k (stepT_lt h)
theorem byteT_lt {s c : Nat} (h : s < 4294967296) (hc : c < 256) : byteT s c < 4294967296 := stepN_lt 8 (xor_lt h (by omega))
theorem run_lt : ∀ (l : List Nat) {s : Nat}, s < 4294967296 → (∀ x ∈ l, x < 256) → run s l < 4294967296
  | [], _, h, _ => h
  | c :: l, _, h, hl => run_lt l (byteT_lt h (hl c (by simp))) (fun x hx => hl x (by simp [hx]))

theorem xor_div2 (a b : Nat) : (a ^^^ b) / 2 = a / 2 ^^^ b / 2 := by
  have h := Nat.shiftRight_xor_distrib (a := a) (b := b) (i := 1)
  simpa [Nat.shiftRight_succ] using h
theorem xor_mod2 (a b : Nat) : (a ^^^ b) % 2 = (a % 2 + b % 2) % 2 := by
  have h := Nat.xor_mod_two_pow (a := a) (b := b) (n := 1)
  rw [Nat.pow_one] at h
  rw [h]
  have ha : a % 2 = 0 ∨ a % 2 = 1 := by omega
  have hb : b % 2 = 0 ∨ b % 2 = 1 := by omega
  rcases ha with ha | ha <;> rcases hb with hb | hb <;> rw [ha, hb] <;> rfl
theorem xor_zero_iff {a b : Nat} (h : a ^^^ b = 0) : a = b := by
  have e : a ^^^ b ^^^ b = 0 ^^^ b := by rw [h]
  simpa [Nat.xor_assoc] using e
/-- The steps are linear. -/
theorem stepT_xor (a b : Nat) : stepT (a ^^^ b) = stepT a ^^^ stepT b := by
  unfold stepT
  rw [xor_mod2, xor_div2]
  have ha : a % 2 = 0 ∨ a % 2 = 1 := by omega
  have hb : b % 2 = 0 ∨ b % 2 = 1 := by omega
  rcases ha with ha | ha <;> rcases hb with hb | hb <;> simp only [ha, hb]
  · simp
  · simp [Nat.xor_assoc]
  · simp [Nat.xor_assoc, Nat.xor_comm (b / 2) 3988292384]
  · simp only [Nat.reduceAdd, Nat.reduceMod]
    rw [if_neg (by omega), if_pos trivial, if_pos trivial, Nat.xor_assoc, Nat.xor_comm (b / 2) 3988292384, ← Nat.xor_assoc 3988292384, Nat.xor_self, Nat.zero_xor]
theorem stepN_xor : ∀ (k a b : Nat), stepN k (a ^^^ b) = stepN k a ^^^ stepN k b
  | 0, _, _ => rfl
  | k + 1, a, b => by rw [stepN, stepT_xor, stepN_xor k]; rfl
theorem stepN_add : ∀ (j k s : Nat), stepN (j + k) s = stepN k (stepN j s)
  | 0, k, s => by rw [Nat.zero_add]; rfl
  | j + 1, k, s => by rw [Nat.add_right_comm]; exact stepN_add j k (stepT s)

/-- Nothing but 0 comes to 0. -/
theorem stepT_zero {s : Nat} (h : s < 4294967296) (h0 : stepT s = 0) : s = 0 := by
  unfold stepT at h0
  split at h0
  · have e : s / 2 = 3988292384 := xor_zero_iff h0
    omega
  · omega
theorem stepN_zero : ∀ (k : Nat) {s : Nat}, s < 4294967296 → stepN k s = 0 → s = 0
  | 0, _, _, h0 => h0
  | k + 1, _, h, h0 => stepT_zero h (stepN_zero k (stepT_lt h) h0)
/-- Different states stay different. -/
theorem stepN_inj (k : Nat) {a b : Nat} (ha : a < 4294967296) (hb : b < 4294967296) (h : stepN k a = stepN k b) : a = b := by
  have e : stepN k (a ^^^ b) = 0 := by rw [stepN_xor, h, Nat.xor_self]
  exact xor_zero_iff (stepN_zero k (xor_lt ha hb) e)
theorem xor_right_inj {a b c : Nat} (h : a ^^^ c = b ^^^ c) : a = b := by
  have e : a ^^^ c ^^^ c = b ^^^ c ^^^ c := by rw [h]
  simpa [Nat.xor_assoc] using e
theorem byteT_inj {a b c : Nat} (ha : a < 4294967296) (hb : b < 4294967296) (hc : c < 256) (h : byteT a c = byteT b c) : a = b :=
  xor_right_inj (stepN_inj 8 (xor_lt ha (by omega)) (xor_lt hb (by omega)) h)
theorem run_inj : ∀ (l : List Nat) {a b : Nat}, a < 4294967296 → b < 4294967296 → (∀ x ∈ l, x < 256) → run a l = run b l → a = b
  | [], _, _, _, _, _, h => h
  | c :: l, _, _, ha, hb, hl, h => byteT_inj ha hb (hl c (by simp)) (run_inj l (byteT_lt ha (hl c (by simp))) (byteT_lt hb (hl c (by simp))) (fun x hx => hl x (by simp [hx])) h)

/-- Eight steps of a number whose lowest byte is 0 are a shift. -/
theorem step8_shift (x : Nat) : stepN 8 (256 * x) = x := by
  simp only [stepN]
  have h (m : Nat) : stepT (2 * m) = m := by unfold stepT; rw [if_neg (by omega)]; omega
  rw [show 256 * x = 2 * (2 * (2 * (2 * (2 * (2 * (2 * (2 * x))))))) by omega, h, h, h, h, h, h, h, h]
theorem xor_low {c x : Nat} (h : c < 256) : c ^^^ (256 * x) = c + 256 * x := by
  have h1 := Nat.shiftLeft_add_eq_or_of_lt (b := c) (i := 8) h x
  have h2 : x <<< 8 = 256 * x := by rw [Nat.shiftLeft_eq]; omega
  rw [h2] at h1
  have h3 : c ^^^ (256 * x) = c ||| (256 * x) := by
    apply Nat.eq_of_testBit_eq
    intro i
    rw [Nat.testBit_xor, Nat.testBit_or]
    by_cases hi : i < 8
    · have : (256 * x).testBit i = false := by rw [← h2, Nat.testBit_shiftLeft]; simp; omega
      simp [this]
    · have : c.testBit i = false := Nat.testBit_lt_two_pow (Nat.lt_of_lt_of_le h (by have := Nat.pow_le_pow_right (n := 2) (by omega) (show 8 ≤ i by omega); omega))
      simp [this]
  rw [h3, Nat.or_comm, ← h1]
  omega
/-- Two bytes, one after the other, and the rest as one number. -/
theorem byte_then (k s c x : Nat) (h : c < 256) : stepN k (stepN 8 (s ^^^ c) ^^^ x) = stepN (8 + k) (s ^^^ (c + 256 * x)) := by
  rw [stepN_add, ← xor_low h, ← Nat.xor_assoc, stepN_xor 8 (s ^^^ c), step8_shift]

def word (c0 c1 c2 c3 : Nat) : Nat := c0 + 256 * (c1 + 256 * (c2 + 256 * c3))
theorem run_word (s c0 c1 c2 c3 : Nat) (h0 : c0 < 256) (h1 : c1 < 256) (h2 : c2 < 256) : run s [c0, c1, c2, c3] = stepN 32 (s ^^^ word c0 c1 c2 c3) := by
  show stepN 8 (stepN 8 (stepN 8 (stepN 8 (s ^^^ c0) ^^^ c1) ^^^ c2) ^^^ c3) = _
  rw [byte_then 8 _ c2 c3 h2, byte_then (8 + 8) _ c1 _ h1, byte_then (8 + (8 + 8)) _ c0 _ h0]
  rfl

theorem compl_xor {s : Nat} (h : s < 4294967296) : 4294967295 - s = s ^^^ 4294967295 := by
  apply Nat.eq_of_testBit_eq
  intro i
  have h1 := Nat.testBit_two_pow_sub_succ (x := s) (n := 32) h i
  have h2 := Nat.testBit_two_pow_sub_one 32 i
  rw [show 2 ^ 32 - (s + 1) = 4294967295 - s by omega] at h1
  rw [show 2 ^ 32 - 1 = 4294967295 by omega] at h2
  rw [Nat.testBit_xor, h1, h2]
  by_cases hi : i < 32
  · simp [hi]
  · have : s.testBit i = false := Nat.testBit_lt_two_pow (Nat.lt_of_lt_of_le h (by have := Nat.pow_le_pow_right (n := 2) (by omega) (show 32 ≤ i by omega); omega))
    simp [hi, this]

theorem word_lt {c0 c1 c2 c3 : Nat} (h0 : c0 < 256) (h1 : c1 < 256) (h2 : c2 < 256) (h3 : c3 < 256) : word c0 c1 c2 c3 < 4294967296 := by
  unfold word; omega

/-- The four bytes behind p are its checksum just where the whole runs to one fixed state. -/
theorem good_iff (p : List Nat) (hp : ∀ x ∈ p, x < 256) {c0 c1 c2 c3 : Nat} (h0 : c0 < 256) (h1 : c1 < 256) (h2 : c2 < 256) (h3 : c3 < 256) :
    run 4294967295 (p ++ [c0, c1, c2, c3]) = stepN 32 4294967295 ↔ word c0 c1 c2 c3 = sumOf p := by
  have hs := run_lt p (s := 4294967295) (by omega) hp
  rw [run_append, run_word _ _ _ _ _ h0 h1 h2]
  unfold sumOf
  rw [compl_xor hs]
  generalize run 4294967295 p = s at *
  have hw := word_lt h0 h1 h2 h3
  generalize word c0 c1 c2 c3 = x at *
  constructor
  · intro h
    have e := stepN_inj 32 (xor_lt hs hw) (by omega) h
    rw [← e, ← Nat.xor_assoc, Nat.xor_self, Nat.zero_xor]
  · rintro rfl
    rw [← Nat.xor_assoc, Nat.xor_self, Nat.zero_xor]

/-- Four bytes changed, in the midst of others, lead to another state. -/
theorem change_seen (s : Nat) (hs : s < 4294967296) (p q : List Nat) (hp : ∀ x ∈ p, x < 256) (hq : ∀ x ∈ q, x < 256) {c0 c1 c2 c3 d0 d1 d2 d3 : Nat}
    (hc0 : c0 < 256) (hc1 : c1 < 256) (hc2 : c2 < 256) (hc3 : c3 < 256) (hd0 : d0 < 256) (hd1 : d1 < 256) (hd2 : d2 < 256) (hd3 : d3 < 256)
    (hne : word c0 c1 c2 c3 ≠ word d0 d1 d2 d3) : run s (p ++ [c0, c1, c2, c3] ++ q) ≠ run s (p ++ [d0, d1, d2, d3] ++ q) := by
  intro h
  rw [run_append, run_append, run_append, run_append] at h
  have hr := run_lt p hs hp
  have hcb : ∀ x ∈ [c0, c1, c2, c3], x < 256 := by simp; omega
  have hdb : ∀ x ∈ [d0, d1, d2, d3], x < 256 := by simp; omega
  have e := run_inj q (run_lt _ hr hcb) (run_lt _ hr hdb) hq h
  rw [run_word _ _ _ _ _ hc0 hc1 hc2, run_word _ _ _ _ _ hd0 hd1 hd2] at e
  have e2 := stepN_inj 32 (xor_lt hr (word_lt hc0 hc1 hc2 hc3)) (xor_lt hr (word_lt hd0 hd1 hd2 hd3)) e
  rw [Nat.xor_comm _ (word c0 c1 c2 c3), Nat.xor_comm _ (word d0 d1 d2 d3)] at e2
  exact hne (xor_right_inj e2)

/-- A number in four bytes, the least significant first. -/
def le4 (s : Nat) : List Nat := [s % 256, s / 256 % 256, s / 65536 % 256, s / 16777216 % 256]
theorem le4_bytes (s : Nat) : ∀ x ∈ le4 s, x < 256 := by
  intro x hx
  simp [le4] at hx
  omega
theorem word_le4 {s : Nat} (h : s < 4294967296) : word (s % 256) (s / 256 % 256) (s / 65536 % 256) (s / 16777216 % 256) = s := by
  unfold word; omega
theorem sumOf_lt (l : List Nat) : sumOf l < 4294967296 := by unfold sumOf; omega
theorem good_put (l : List Nat) (hl : ∀ x ∈ l, x < 256) : run 4294967295 (l ++ le4 (sumOf l)) = stepN 32 4294967295 :=
  (good_iff l hl (by omega) (by omega) (by omega) (by omega)).2 (word_le4 (sumOf_lt l))

/-- Bytes that end with their checksum, four consecutive ones changed: they no longer end with their checksum. -/
theorem found (l p q : List Nat) (hl : ∀ x ∈ l, x < 256) {c0 c1 c2 c3 d0 d1 d2 d3 : Nat} (hfull : l ++ le4 (sumOf l) = p ++ [c0, c1, c2, c3] ++ q)
    (hd0 : d0 < 256) (hd1 : d1 < 256) (hd2 : d2 < 256) (hd3 : d3 < 256) (hne : word c0 c1 c2 c3 ≠ word d0 d1 d2 d3)
    (p' : List Nat) {e0 e1 e2 e3 : Nat} (hy : p ++ [d0, d1, d2, d3] ++ q = p' ++ [e0, e1, e2, e3]) : word e0 e1 e2 e3 ≠ sumOf p' := by
  have hb : ∀ x ∈ p ++ [c0, c1, c2, c3] ++ q, x < 256 := by
    rw [← hfull]
    intro x hx
    rcases List.mem_append.1 hx with hx | hx
    · exact hl x hx
    · exact le4_bytes _ x hx
  have hp : ∀ x ∈ p, x < 256 := fun x hx => hb x (by simp [hx])
  have hq : ∀ x ∈ q, x < 256 := fun x hx => hb x (by simp [hx])
  have hc0 : c0 < 256 := hb _ (by simp)
  have hc1 : c1 < 256 := hb _ (by simp)
  have hc2 : c2 < 256 := hb _ (by simp)
  have hc3 : c3 < 256 := hb _ (by simp)
  have hy2 : ∀ x ∈ p' ++ [e0, e1, e2, e3], x < 256 := by
    rw [← hy]
    intro x hx
    simp only [List.mem_append, List.mem_cons, List.not_mem_nil, or_false] at hx
    rcases hx with (hx | rfl | rfl | rfl | rfl) | hx
    · exact hp x hx
    · exact hd0
    · exact hd1
    · exact hd2
    · exact hd3
    · exact hq x hx
  have hp' : ∀ x ∈ p', x < 256 := fun x hx => hy2 x (by simp [hx])
  have h1 := change_seen 4294967295 (by omega) p q hp hq hc0 hc1 hc2 hc3 hd0 hd1 hd2 hd3 hne
  rw [← hfull, good_put l hl, hy] at h1
  intro h
  exact h1 ((good_iff p' hp' (hy2 _ (by simp)) (hy2 _ (by simp)) (hy2 _ (by simp)) (hy2 _ (by simp))).2 h).symm

/-- A change by a number that is not 0 changes the word. -/
theorem word_ne {c0 c1 c2 c3 b0 b1 b2 b3 : Nat} (hc0 : c0 < 256) (hc1 : c1 < 256) (hc2 : c2 < 256) (hc3 : c3 < 256) (hb0 : b0 < 256) (hb1 : b1 < 256) (hb2 : b2 < 256) (hb3 : b3 < 256)
    (h : ¬ (b0 = 0 ∧ b1 = 0 ∧ b2 = 0 ∧ b3 = 0)) : word c0 c1 c2 c3 ≠ word (c0 ^^^ b0) (c1 ^^^ b1) (c2 ^^^ b2) (c3 ^^^ b3) := by
  have x0 : c0 ^^^ b0 < 256 := Nat.xor_lt_two_pow (n := 8) hc0 hb0
  have x1 : c1 ^^^ b1 < 256 := Nat.xor_lt_two_pow (n := 8) hc1 hb1
  have x2 : c2 ^^^ b2 < 256 := Nat.xor_lt_two_pow (n := 8) hc2 hb2
  have x3 : c3 ^^^ b3 < 256 := Nat.xor_lt_two_pow (n := 8) hc3 hb3
  have key : ∀ {c b : Nat}, c = c ^^^ b → b = 0 := fun {c b} e => by
    have : c ^^^ c = c ^^^ (c ^^^ b) := by rw [← e]
    rw [Nat.xor_self, ← Nat.xor_assoc, Nat.xor_self, Nat.zero_xor] at this
    exact this.symm
  intro e
  unfold word at e
  exact h ⟨key (c := c0) (by omega), key (c := c1) (by omega), key (c := c2) (by omega), key (c := c3) (by omega)⟩
end Go.Proofs.Ytikeebgclplphaa
