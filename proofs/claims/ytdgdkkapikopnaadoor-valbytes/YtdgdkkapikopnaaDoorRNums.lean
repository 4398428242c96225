/-
  Lists of texts as lists of bytes: encoding, decoding, read back, unique; the order of texts. No program. Conditions: as in the premises.
-/
import Derived.Test.YtdgdkkapikopnaaDoorVText
import Derived.Test.YtdgdkkapikopnaaDoorVBack
namespace Go.Proofs.YtdgdkkapikopnaaDoor
open Go.ChangeShapes Go.WideShapes Go.ChangeAt Go.RowKit
set_option linter.unusedVariables false

/-- The bytes of a text, of several, of a list with its number ahead. -/
def encT (s : List Int) : List Int := enc s.length ++ s
def manyT (l : List (List Int)) : List Int := l.flatMap encT
theorem manyT_nil : manyT [] = [] := rfl
theorem manyT_cons (s : List Int) (l : List (List Int)) : manyT (s :: l) = encT s ++ manyT l := by simp [manyT]
theorem manyT_append (a b : List (List Int)) : manyT (a ++ b) = manyT a ++ manyT b := by simp [manyT]
theorem manyT_snoc (l : List (List Int)) (s : List Int) : manyT (l ++ [s]) = manyT l ++ encT s := by simp [manyT]
theorem encT_length (s : List Int) : (encT s).length = vlen s.length + s.length := by unfold encT; rw [List.length_append, enc_length]
theorem encT_isB (s : List Int) (hb : IsB s) (hl : s.length ≤ 1000000) : IsB (encT s) := (enc_bytes _ (by omega) (by omega)).append hb

theorem getT_of (l : List Int) (i m n x : Int) (hg : getS l i = (n, x, 0)) :
    getT l i m = if m < 0 ∨ m < n then ([], 0, 5) else if (l.length : Int) - x < n then ([], 0, 2) else ((l.drop x.toNat).take n.toNat, x + n, 0) := by
  unfold getT
  rw [hg]
  rfl
theorem getT_fail (l : List Int) (i m n x e : Int) (hg : getS l i = (n, x, e)) (he : e ≠ 0) : getT l i m = ([], 0, e) := by
  unfold getT
  rw [hg]
  exact if_neg he
theorem getT_back (p s r : List Int) (m : Int) (hs : s.length ≤ 1000000) (hm : (s.length : Int) ≤ m) : getT (p ++ encT s ++ r) p.length m = (s, ((p.length + (encT s).length : Nat) : Int), 0) := by
  have e0 : p ++ encT s ++ r = p ++ enc s.length ++ (s ++ r) := by unfold encT; simp only [List.append_assoc]
  have hg := get_back p (s ++ r) s.length (by omega) (by omega)
  rw [← e0] at hg
  have hL : (p ++ encT s ++ r).length = p.length + (vlen s.length + s.length) + r.length := by rw [List.length_append, List.length_append, encT_length]
  rw [getT_of _ _ _ _ _ hg, if_neg (by omega), if_neg (by rw [hL]; omega)]
  refine Prod.ext ?_ (Prod.ext ?_ rfl)
  · dsimp only
    rw [e0, show ((p.length : Int) + vlen s.length).toNat = (p ++ enc s.length).length by rw [List.length_append, enc_length]; omega, List.drop_left, Int.toNat_natCast, List.take_left]
  · dsimp only
    rw [encT_length]; omega
/-- What is got is its own bytes. -/
theorem getT_only (l : List Int) (hb : IsB l) (i : Nat) (m : Int) (s : List Int) (x : Int) (hg : getT l i m = (s, x, 0)) : (i : Int) < x ∧ x ≤ l.length ∧ (s.length : Int) ≤ m ∧ encT s = (l.drop i).take (x.toNat - i) := by
  obtain ⟨n, y, e, hs⟩ : ∃ n y e, getS l i = (n, y, e) := ⟨_, _, _, rfl⟩
  obtain ⟨r0, r1, r2, r3⟩ := getS_range l hb i
  rw [hs] at r0 r1 r2 r3
  dsimp only at r0 r1 r2 r3
  by_cases he : e = 0
  · subst he
    obtain ⟨p1, p2, p3⟩ := put_back l hb i n y hs
    rw [getT_of _ _ _ _ _ hs] at hg
    split at hg
    · simp at hg
    · split at hg
      · simp at hg
      · rename_i h1 h2
        simp only [Prod.mk.injEq, and_true] at hg
        obtain ⟨rfl, rfl⟩ := hg
        obtain ⟨n, rfl⟩ := Int.eq_ofNat_of_zero_le r0
        obtain ⟨y, rfl⟩ := Int.eq_ofNat_of_zero_le r2
        simp only [Int.toNat_natCast] at p3 ⊢
        have hl : ((l.drop y).take n).length = n := by rw [List.length_take, List.length_drop]; omega
        refine ⟨by omega, by omega, by rw [hl]; omega, ?_⟩
        unfold encT
        rw [hl, p3, show ((y : Int) + (n : Int)).toNat - i = (y - i) + n by omega, List.take_add, List.drop_drop, show i + (y - i) = y by omega]
  · rw [getT_fail _ _ _ _ _ _ hs he] at hg
    simp only [Prod.mk.injEq] at hg
    omega

/-- f texts, one after the other. -/
def readT (b : List Int) : Nat → Int → List (List Int) × Int × Int
  | 0, i => ([], i, 0)
  | f + 1, i =>
    if (getT b i 65536).2.2 = 0 then
      if (readT b f (getT b i 65536).2.1).2.2 = 0 then ((getT b i 65536).1 :: (readT b f (getT b i 65536).2.1).1, (readT b f (getT b i 65536).2.1).2.1, 0) else ([], 0, (readT b f (getT b i 65536).2.1).2.2)
    else ([], 0, (getT b i 65536).2.2)
/-- .. behind those that have been read. -/
def behind (pre : List (List Int)) (r : List (List Int) × Int × Int) : List (List Int) × Int × Int := if r.2.2 = 0 then (pre ++ r.1, r.2.1, 0) else ([], 0, r.2.2)
theorem behind_nil (b : List Int) (f : Nat) (i : Int) : behind [] (readT b f i) = readT b f i := by
  unfold behind
  split
  · rename_i h
    exact Prod.ext (by simp) (Prod.ext rfl h.symm)
  · rename_i h
    cases f with
    | zero => exact absurd rfl h
    | succ f =>
      unfold readT at h ⊢
      split
      · rename_i h1
        rw [if_pos h1] at h
        split
        · rename_i h2
          rw [if_pos h2] at h
          exact absurd rfl h
        · rfl
      · rfl
theorem behind_done (b : List Int) (pre : List (List Int)) (i : Int) : behind pre (readT b 0 i) = (pre, i, 0) := by simp [behind, readT]
theorem behind_step (b : List Int) (pre : List (List Int)) (f : Nat) (i : Int) (s : List Int) (x : Int) (hg : getT b i 65536 = (s, x, 0)) : behind pre (readT b (f + 1) i) = behind (pre ++ [s]) (readT b f x) := by
  unfold behind
  conv => lhs; unfold readT
  rw [hg]
  simp only [if_true]
  by_cases h : (readT b f x).2.2 = 0
  · simp [h]
  · simp [h]
theorem behind_stop (b : List Int) (pre : List (List Int)) (f : Nat) (i : Int) (s : List Int) (x e : Int) (hg : getT b i 65536 = (s, x, e)) (he : e ≠ 0) : behind pre (readT b (f + 1) i) = ([], 0, e) := by
  unfold behind
  conv => lhs; unfold readT
  rw [hg]
  simp [he]
theorem readT_back : ∀ (l : List (List Int)) (hl : ∀ s ∈ l, s.length ≤ 65536) (p r : List Int), readT (p ++ manyT l ++ r) l.length p.length = (l, ((p.length + (manyT l).length : Nat) : Int), 0)
  | [], _, p, r => by simp [readT, manyT]
  | s :: l, hl, p, r => by
    have hs := hl s (by simp)
    have e0 : p ++ manyT (s :: l) ++ r = p ++ encT s ++ (manyT l ++ r) := by rw [manyT_cons]; simp only [List.append_assoc]
    have hg := getT_back p s (manyT l ++ r) 65536 (by omega) (by omega)
    have ih := readT_back l (fun x hx => hl x (by simp [hx])) (p ++ encT s) r
    rw [show p ++ encT s ++ manyT l ++ r = p ++ encT s ++ (manyT l ++ r) by simp only [List.append_assoc], ← e0] at ih
    rw [← e0] at hg
    rw [← behind_nil, List.length_cons, behind_step _ _ _ _ _ _ hg, show ((p.length + (encT s).length : Nat) : Int) = ((p ++ encT s).length : Int) by rw [List.length_append], ih]
    simp only [behind, if_true, List.nil_append, List.singleton_append]
    refine Prod.ext rfl (Prod.ext ?_ rfl)
    simp only [manyT_cons, List.length_append]
    omega
theorem readT_only (b : List Int) (hb : IsB b) : ∀ (f : Nat) (i : Nat) (l : List (List Int)) (x : Int), i ≤ b.length → readT b f i = (l, x, 0) → l.length = f ∧ (i : Int) ≤ x ∧ x ≤ b.length ∧ (∀ s ∈ l, s.length ≤ 65536) ∧ manyT l = (b.drop i).take (x.toNat - i)
  | 0, i, l, x, hi, h => by
    simp only [readT, Prod.mk.injEq, and_true] at h
    obtain ⟨rfl, rfl⟩ := h
    simp [manyT]; omega
  | f + 1, i, l, x, hi, h => by
    obtain ⟨s, y, e, hg⟩ : ∃ s y e, getT b i 65536 = (s, y, e) := ⟨_, _, _, rfl⟩
    rw [← behind_nil] at h
    by_cases he : e = 0
    · subst he
      obtain ⟨g1, g2, g3, g4⟩ := getT_only b hb i 65536 s y hg
      rw [behind_step _ _ _ _ _ _ hg] at h
      obtain ⟨y, rfl⟩ := Int.eq_ofNat_of_zero_le (show 0 ≤ y by omega)
      obtain ⟨l', x', e', hr⟩ : ∃ l' x' e', readT b f y = (l', x', e') := ⟨_, _, _, rfl⟩
      rw [hr] at h
      by_cases he' : e' = 0
      · subst he'
        simp only [behind, if_true, List.nil_append, List.singleton_append, Prod.mk.injEq, and_true] at h
        obtain ⟨rfl, rfl⟩ := h
        obtain ⟨i1, i2, i3, i4, i5⟩ := readT_only b hb f y l' x' (by omega) hr
        refine ⟨by simp [i1], by omega, i3, fun z hz => ?_, ?_⟩
        · simp only [List.mem_cons] at hz
          rcases hz with rfl | hz
          · omega
          · exact i4 z hz
        · simp only [Int.toNat_natCast] at g4
          rw [manyT_cons, g4, i5, show x'.toNat - i = (y - i) + (x'.toNat - y) by omega, List.take_add, List.drop_drop, show i + (y - i) = y by omega]
      · simp [behind, he'] at h
    · rw [behind_stop _ _ _ _ _ _ _ hg he] at h
      simp only [Prod.mk.injEq] at h
      omega

/-- What is got of a list of items of k texts each. -/
def getL (b : List Int) (i : Int) (k : Nat) : List (List Int) × Int × Int :=
  if (getS b i).2.2 = 0 then if 65536 < (getS b i).1 then ([], 0, 9) else readT b ((getS b i).1.toNat * k) (getS b i).2.1 else ([], 0, (getS b i).2.2)
/-- A list of n items, its texts one after the other. -/
def encL (n : Nat) (l : List (List Int)) : List Int := enc n ++ manyT l
theorem encL_length (n : Nat) (l : List (List Int)) : (encL n l).length = vlen n + (manyT l).length := by unfold encL; rw [List.length_append, enc_length]

theorem getL_back (n k : Nat) (l : List (List Int)) (hn : n ≤ 65536) (hk : l.length = n * k) (hl : ∀ s ∈ l, s.length ≤ 65536) (p r : List Int) : getL (p ++ encL n l ++ r) p.length k = (l, ((p.length + (encL n l).length : Nat) : Int), 0) := by
  have e0 : p ++ encL n l ++ r = p ++ enc n ++ (manyT l ++ r) := by unfold encL; simp only [List.append_assoc]
  have hg := get_back p (manyT l ++ r) n (by omega) (by omega)
  rw [← e0] at hg
  have hr := readT_back l hl (p ++ enc n) r
  rw [show p ++ enc n ++ manyT l ++ r = p ++ encL n l ++ r by unfold encL; simp only [List.append_assoc]] at hr
  unfold getL
  rw [hg]
  simp only [if_true]
  rw [if_neg (by omega), Int.toNat_natCast, ← hk, show (p.length : Int) + vlen n = ((p ++ enc n).length : Int) by rw [List.length_append, enc_length]; omega, hr]
  refine Prod.ext rfl (Prod.ext ?_ rfl)
  simp only [List.length_append, encL]
  omega
theorem getL_only (b : List Int) (hb : IsB b) (i : Nat) (k : Nat) (l : List (List Int)) (x : Int) (h : getL b i k = (l, x, 0)) :
    ∃ n : Nat, n ≤ 65536 ∧ l.length = n * k ∧ (i : Int) < x ∧ x ≤ b.length ∧ (∀ s ∈ l, s.length ≤ 65536) ∧ encL n l = (b.drop i).take (x.toNat - i) := by
  obtain ⟨n, y, e, hs⟩ : ∃ n y e, getS b i = (n, y, e) := ⟨_, _, _, rfl⟩
  obtain ⟨r0, r1, r2, r3⟩ := getS_range b hb i
  unfold getL at h
  rw [hs] at h r0 r1 r2 r3
  dsimp only at h r0 r1 r2 r3
  by_cases he : e = 0
  · subst he
    rw [if_pos rfl] at h
    obtain ⟨p1, p2, p3⟩ := put_back b hb i n y hs
    split at h
    · simp at h
    · rename_i hn
      obtain ⟨n, rfl⟩ := Int.eq_ofNat_of_zero_le r0
      obtain ⟨y, rfl⟩ := Int.eq_ofNat_of_zero_le r2
      rw [Int.toNat_natCast] at h
      obtain ⟨q1, q2, q3, q4, q5⟩ := readT_only b hb (n * k) y l x (by omega) h
      refine ⟨n, by omega, q1, by omega, q3, q4, ?_⟩
      simp only [Int.toNat_natCast] at p3
      unfold encL
      rw [p3, q5, show x.toNat - i = (y - i) + (x.toNat - y) by omega, List.take_add, List.drop_drop, show i + (y - i) = y by omega]
  · rw [if_neg he] at h
    simp only [Prod.mk.injEq] at h
    omega

/-! The order of texts. -/
def ltT : List Int → List Int → Bool
  | [], [] => false
  | [], _ :: _ => true
  | _ :: _, [] => false
  | x :: a, y :: b => if x = y then ltT a b else decide (x < y)
theorem ltT_irrefl : ∀ a, ltT a a = false
  | [] => rfl
  | x :: a => by simp [ltT, ltT_irrefl a]
theorem ltT_asymm : ∀ a b, ltT a b = true → ltT b a = false
  | [], [], h => by simp [ltT] at h
  | [], _ :: _, _ => rfl
  | _ :: _, [], h => by simp [ltT] at h
  | x :: a, y :: b, h => by
    unfold ltT at h ⊢
    by_cases e : x = y
    · subst e; simp only [if_true] at h ⊢; exact ltT_asymm a b h
    · rw [if_neg e] at h
      rw [if_neg (fun e' => e e'.symm)]
      simp at h ⊢
      omega
theorem ltT_total : ∀ a b, ltT a b = false → ltT b a = false → a = b
  | [], [], _, _ => rfl
  | [], _ :: _, h, _ => by simp [ltT] at h
  | _ :: _, [], _, h => by simp [ltT] at h
  | x :: a, y :: b, h1, h2 => by
    unfold ltT at h1 h2
    by_cases e : x = y
    · subst e
      simp only [if_true] at h1 h2
      rw [ltT_total a b h1 h2]
    · rw [if_neg e] at h1
      rw [if_neg (fun e' => e e'.symm)] at h2
      simp at h1 h2
      omega
/-- At the first place where they differ. -/
theorem ltT_at : ∀ (k : Nat) (a b : List Int), a.take k = b.take k → ∀ x y, a[k]? = some x → b[k]? = some y → x ≠ y → ltT a b = decide (x < y)
  | 0, x' :: a, y' :: b, _, x, y, hx, hy, hne => by
    simp at hx hy
    subst hx hy
    unfold ltT
    rw [if_neg hne]
  | k + 1, x' :: a, y' :: b, h, x, y, hx, hy, hne => by
    simp only [List.take_succ_cons, List.cons.injEq] at h
    simp only [List.getElem?_cons_succ] at hx hy
    obtain ⟨rfl, h⟩ := h
    unfold ltT
    rw [if_pos rfl]
    exact ltT_at k a b h x y hx hy hne
  | _, [], _, _, _, _, hx, _, _ => by simp at hx
  | _, _ :: _, [], _, _, _, _, hy, _ => by simp at hy
/-- Where one is a beginning of the other. -/
theorem ltT_prefix : ∀ (a b : List Int), (a.take b.length = b.take a.length) → ltT a b = decide (a.length < b.length)
  | [], [], _ => rfl
  | [], _ :: _, _ => by simp [ltT]
  | _ :: _, [], _ => by simp [ltT]
  | x :: a, y :: b, h => by
    simp only [List.length_cons, List.take_succ_cons, List.cons.injEq] at h
    obtain ⟨rfl, h⟩ := h
    unfold ltT
    rw [if_pos rfl, ltT_prefix a b h]
    simp
end Go.Proofs.YtdgdkkapikopnaaDoor
