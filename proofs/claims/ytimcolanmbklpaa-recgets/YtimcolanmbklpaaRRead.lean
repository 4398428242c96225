/-
  What getting lists answers, as the reading of texts: pairs are texts two and two; lists that were put are read back; what was read is its own bytes. No program. Conditions: as in the premises.
-/
import Derived.Test.YtimcolanmbklpaaRRGetP
import Derived.Test.YtimcolanmbklpaaRRes
namespace Go.Proofs.Ytimcolanmbklpaa
open Go.ChangeShapes Go.WideShapes Go.ChangeAt Go.RowKit
set_option linter.unusedVariables false

theorem getFrom_len {α : Type} (rd : Int → α × Int × Int) : ∀ (f : Nat) (pre : List α) (i : Int), (getFrom rd pre f i).1.length ≤ pre.length + f
  | 0, pre, i => by simp [getFrom]
  | f + 1, pre, i => by
    unfold getFrom
    split
    · have := getFrom_len rd f (pre ++ [(rd i).1]) (rd i).2.1
      simp at this
      omega
    · simp
theorem getAll_len {α : Type} (rd : Int → α × Int × Int) (m : Nat) (hm : m ≤ 2) (r : Int × Int × Int) : (getAll rd m r).1.length ≤ 131072 := by
  unfold getAll
  split
  · split
    · simp
    · rename_i h
      have h1 := getFrom_len rd (r.1.toNat * m) [] r.2.1
      have h2 : r.1.toNat * m ≤ 65536 * 2 := Nat.mul_le_mul (by omega) hm
      simp at h1
      omega
  · simp
/-- Two texts a pair. -/
theorem pairUp_append {α : Type} : ∀ (ts : List α) (a b : α), ts.length % 2 = 0 → pairUp (ts ++ [a, b]) = pairUp ts ++ [(a, b)]
  | [], a, b, _ => rfl
  | [x], a, b, h => by simp at h
  | x :: y :: r, a, b, h => by
    have := pairUp_append r a b (by simp at h; omega)
    simp [pairUp, this]
theorem getFrom_pairs (b : List Int) : ∀ (f : Nat) (ts : List ByteArray) (i : Int), ts.length % 2 = 0 → getFrom (rdP b) (pairUp ts) f i = (pairUp (getFrom (rdS b) ts (f * 2) i).1, (getFrom (rdS b) ts (f * 2) i).2)
  | 0, ts, i, h => by simp [getFrom]
  | f + 1, ts, i, h => by
    rw [show (f + 1) * 2 = f * 2 + 1 + 1 by omega]
    obtain ⟨s, x, e, h1⟩ : ∃ s x e, rdS b i = (s, x, e) := ⟨_, _, _, rfl⟩
    obtain ⟨t, y, g, h2⟩ : ∃ t y g, rdS b x = (t, y, g) := ⟨_, _, _, rfl⟩
    have hP : rdP b i = if e = 0 then if g = 0 then ((s, t), y, 0) else ((ByteArray.empty, ByteArray.empty), 0, g) else ((ByteArray.empty, ByteArray.empty), 0, e) := by unfold rdP; simp only [h1, h2]
    by_cases he : e = 0
    · subst he
      rw [getFrom_step h1]
      by_cases hg : g = 0
      · subst hg
        rw [getFrom_step h2]
        have hP' : rdP b i = ((s, t), y, 0) := by rw [hP]; simp
        rw [getFrom_step hP', List.append_assoc, show ([s] ++ [t] : List ByteArray) = [s, t] from rfl, ← pairUp_append ts s t h]
        exact getFrom_pairs b f (ts ++ [s, t]) y (by simp; omega)
      · have hP' : rdP b i = ((ByteArray.empty, ByteArray.empty), 0, g) := by rw [hP]; simp [hg]
        rw [getFrom_stop h2 hg, getFrom_stop hP' hg]
        rfl
    · have hP' : rdP b i = ((ByteArray.empty, ByteArray.empty), 0, e) := by rw [hP]; simp [he]
      rw [getFrom_stop h1 he, getFrom_stop hP' he]
      rfl
theorem getAll_pairs (b : List Int) (r : Int × Int × Int) : getAll (rdP b) 1 r = (pairUp (getAll (rdS b) 2 r).1, (getAll (rdS b) 2 r).2) := by
  unfold getAll
  split
  · split
    · rfl
    · rw [Nat.mul_one]
      exact getFrom_pairs b _ [] _ rfl
  · rfl
/-- .. by the reading of texts. -/
theorem getFrom_readT (b : List Int) : ∀ (f : Nat) (pre : List (List Int)) (i : Int), getFrom (rdS b) (pre.map str) f i = ((behind pre (readT b f i)).1.map str, (behind pre (readT b f i)).2)
  | 0, pre, i => by rw [behind_done]; rfl
  | f + 1, pre, i => by
    obtain ⟨s, x, e, h1⟩ : ∃ s x e, getT b i 65536 = (s, x, e) := ⟨_, _, _, rfl⟩
    have h2 : rdS b i = (str s, x, e) := by unfold rdS; rw [h1]
    by_cases he : e = 0
    · subst he
      rw [getFrom_step h2, behind_step _ _ _ _ _ _ h1, ← getFrom_readT b f (pre ++ [s]) x, List.map_append]
      rfl
    · rw [getFrom_stop h2 he, behind_stop _ _ _ _ _ _ _ h1 he]
      rfl
theorem getAll_getL (b : List Int) (i : Int) (k : Nat) : getAll (rdS b) k (getS b i) = ((getL b i k).1.map str, (getL b i k).2) := by
  unfold getAll getL
  split
  · split
    · rfl
    · have := getFrom_readT b ((getS b i).1.toNat * k) [] (getS b i).2.1
      rw [behind_nil] at this
      exact this
  · rfl

theorem sl_str {s : List Int} (h : IsB s) : sl (str s) = s := str_inj (sl_bytes _) h (str_sl (str s))
theorem getL_neg {b : List Int} {i : Int} {k : Nat} (h : (getL b i k).2.2 = 0) : 0 ≤ i := by
  rcases Int.lt_or_le i 0 with h1 | h1
  · exfalso
    have hs : getS b i = (0, 0, 8) := by unfold getS; rw [if_pos (.inl h1)]
    unfold getL at h
    rw [hs] at h
    simp at h
  · exact h1
theorem manyT_mem {l : List (List Int)} {s : List Int} (h : s ∈ l) {x : Int} (hx : x ∈ s) : x ∈ manyT l := by
  unfold manyT
  exact List.mem_flatMap.2 ⟨s, h, by unfold encT; exact List.mem_append.2 (.inr hx)⟩
theorem flatMap_same {α β : Type} {f g : α → List β} : ∀ (l : List α), (∀ x ∈ l, f x = g x) → l.flatMap f = l.flatMap g
  | [], _ => by simp
  | x :: l, h => by simp only [List.flatMap_cons]; rw [h x (by simp), flatMap_same l (fun y hy => h y (by simp [hy]))]
theorem listB_texts {l : List (List Int)} (h : ∀ s ∈ l, IsB s) : listB encS (l.map str) = encL l.length l := by
  have h1 : l.flatMap (fun s => encS (str s)) = l.flatMap encT := flatMap_same l (fun s hs => by unfold encS; rw [sl_str (h s hs)])
  unfold listB encL manyT
  rw [List.length_map, List.flatMap_map, h1]
/-- What was read, put again, is its own bytes. -/
theorem put_again (b : List Int) (hb : IsB b) (i : Int) (ts : List ByteArray) (x : Int) (h : getAll (rdS b) 1 (getS b i) = (ts, x, 0)) :
    0 ≤ i ∧ i < x ∧ x ≤ b.length ∧ putAll (fun s => wrT (sl s)) [] ts = ((b.drop i.toNat).take (x.toNat - i.toNat), 0) ∧ (∀ s ∈ ts, s.size ≤ 65536) := by
  rw [getAll_getL] at h
  obtain ⟨l, y, e, hg⟩ : ∃ l y e, getL b i 1 = (l, y, e) := ⟨_, _, _, rfl⟩
  rw [hg] at h
  simp only [Prod.mk.injEq] at h
  obtain ⟨rfl, rfl, rfl⟩ := h
  have h0 : 0 ≤ i := getL_neg (k := 1) (b := b) (show (getL b i 1).2.2 = 0 by rw [hg])
  obtain ⟨j, rfl⟩ := Int.eq_ofNat_of_zero_le h0
  obtain ⟨n, hn, hl, g1, g2, g3, g4⟩ := getL_only b hb j 1 l y hg
  have hbl : ∀ s ∈ l, IsB s := by
    intro s hs z hz
    apply hb
    have h1 : z ∈ encL n l := by unfold encL; exact List.mem_append.2 (.inr (manyT_mem hs hz))
    rw [g4] at h1
    exact List.mem_of_mem_drop (List.mem_of_mem_take h1)
  have hz : ∀ s ∈ l.map str, s.size ≤ 65536 := by
    intro s hs
    obtain ⟨t, ht, rfl⟩ := List.mem_map.1 hs
    rw [str_size]; exact g3 t ht
  refine ⟨h0, g1, g2, ?_, hz⟩
  rw [putS_ok _ _ (by rw [List.length_map]; omega) hz, List.nil_append, listB_texts hbl, show l.length = n by omega, g4]
  simp
/-- What was put is read back. -/
theorem texts_back (ss : List ByteArray) (hn : ss.length ≤ 65536) (h : ∀ s ∈ ss, s.size ≤ 65536) (p r : List Int) :
    getAll (rdS (p ++ listB encS ss ++ r)) 1 (getS (p ++ listB encS ss ++ r) p.length) = (ss, ((p.length + (listB encS ss).length : Nat) : Int), 0) := by
  have e1 : (ss.map sl).map str = ss := by rw [List.map_map]; conv => rhs; rw [← List.map_id ss]; 
                                           exact List.map_congr_left (fun s _ => str_sl s)
  have e2 : listB encS ss = encL ss.length (ss.map sl) := by
    have := listB_texts (l := ss.map sl) (fun s hs => by obtain ⟨t, _, rfl⟩ := List.mem_map.1 hs; exact sl_bytes t)
    rw [e1, List.length_map] at this
    exact this
  rw [e2, getAll_getL, getL_back ss.length 1 (ss.map sl) hn (by simp) (fun s hs => by obtain ⟨t, ht, rfl⟩ := List.mem_map.1 hs; rw [sl_length]; exact h t ht) p r]
  dsimp only
  rw [e1]
theorem pairUp_flat : ∀ (ps : List (ByteArray × ByteArray)), pairUp (ps.flatMap fun p => [p.1, p.2]) = ps
  | [] => rfl
  | p :: ps => by simp [pairUp, pairUp_flat ps]
theorem flat_pairs (ps : List (ByteArray × ByteArray)) : ps.flatMap encP = manyT ((ps.flatMap fun p => [p.1, p.2]).map sl) := by
  induction ps with
  | nil => rfl
  | cons p ps ih => simp only [List.flatMap_cons, List.map_append, manyT_append, ih]; simp [encP, manyT]
theorem pairs_back (ps : List (ByteArray × ByteArray)) (hn : ps.length ≤ 65536) (h : ∀ s ∈ ps, s.1.size ≤ 65536 ∧ s.2.size ≤ 65536) (p r : List Int) :
    getAll (rdP (p ++ listB encP ps ++ r)) 1 (getS (p ++ listB encP ps ++ r) p.length) = (ps, ((p.length + (listB encP ps).length : Nat) : Int), 0) := by
  obtain ⟨ts, hts⟩ : ∃ ts, ts = ps.flatMap fun p => [p.1, p.2] := ⟨_, rfl⟩
  have e1 : (ts.map sl).map str = ts := by rw [List.map_map]; conv => rhs; rw [← List.map_id ts]; 
                                           exact List.map_congr_left (fun s _ => str_sl s)
  have e2 : listB encP ps = encL ps.length (ts.map sl) := by unfold listB encL; rw [flat_pairs, hts]
  have hl : ts.length = ps.length * 2 := by rw [hts]; clear hts e1 e2 hn h; induction ps with | nil => rfl | cons p ps ih => simp only [List.flatMap_cons, List.length_append, ih, List.length_cons, List.length_nil]; omega
  have hz : ∀ s ∈ ts.map sl, s.length ≤ 65536 := by
    intro s hs
    obtain ⟨t, ht, rfl⟩ := List.mem_map.1 hs
    rw [hts] at ht
    obtain ⟨q, hq, hq2⟩ := List.mem_flatMap.1 ht
    rw [sl_length]
    simp at hq2
    rcases hq2 with rfl | rfl
    · exact (h q hq).1
    · exact (h q hq).2
  rw [e2, getAll_pairs, getAll_getL, getL_back ps.length 2 (ts.map sl) hn (by simp [hl]) hz p r]
  dsimp only
  rw [e1, hts, pairUp_flat]
end Go.Proofs.Ytimcolanmbklpaa
