/-
  Arguments that are slices of strings, of structs of two strings, or such a struct, with the bounds on what an input may take. No conditions.
-/
import Derived.Test.YtdgdkkapikopnaaDoorGA
import Derived.SizedLaws
namespace Go.Proofs.YtdgdkkapikopnaaDoor
open Go.ChangeShapes Go.WideShapes Go.ChangeAt Go.RowKit
set_option linter.unusedVariables false

theorem weights_all {H : Type} {e : TypeId} {d : DataW H} {m : Nat} : ∀ {l : List (DataW H)}, d ∈ l → m ∈ d.weights Tryd.prog e → m ∈ DataW.weightsAll Tryd.prog e l
  | [], h, _ => by simp at h
  | x :: l, h, hm => by
    simp only [DataW.weightsAll, List.mem_append]
    rcases List.mem_cons.1 h with rfl | h
    · exact .inl hm
    · exact .inr (weights_all h hm)
theorem weights_of_each {H : Type} {ts : List TypeId} {ds : List (DataW H)} (h : (DataW.weightsEach Tryd.prog ts ds).all (· ≤ reachBytes) = true) {j : Nat} {t : TypeId} {d : DataW H} (ht : ts[j]? = some t) (hd : ds[j]? = some d) : ∀ m ∈ d.weights Tryd.prog t, m ≤ reachBytes := fun m hm => by
  simpa using List.all_eq_true.1 h _ (DataW.weights_mem_each ht hd m hm)

theorem vals_of_arg_sized {α : Type} {H : Type} {encH : TypeId × Value → H} {W : World} {base : Nat} {held : Bool} (T e : TypeId) (hT : Tryd.prog.underlying T = some (.slice e)) (sz : Nat) (hsz : Tryd.prog.cellsOf e = sz) (hpos : 0 < sz) (en : α → List Value) (hen : ∀ x, (en x).length = sz) (G : α → Prop)
    (hread : ∀ n cs y, DataW.trod encH Tryd.prog W base (fun _ => true) held n e cs = some y → (∀ m ∈ y.1.weights Tryd.prog e, m ≤ reachBytes) → cs.length = sz → ∃ x, cs = en x ∧ G x)
    {fuel : Nat} {a : Option Addr} {len cap : Nat} {x : DataW H × List MemPlace} (h : DataW.trod encH Tryd.prog W base (fun _ => true) held fuel T [.slice a len cap] = some x) (hW : ∀ m ∈ x.1.weights Tryd.prog T, m ≤ reachBytes) :
    ∃ xs : List α, xs.length = len ∧ xs.length ≤ cap ∧ xs.length ≤ maxLen ∧ CellsG en W a cap xs ∧ ∀ x ∈ xs, G x := by
  rcases DataW.trod_slice hT h with ⟨hcs, _⟩ | ⟨ad, l, c, elems, rest, n, _, hcs, hxx, _, hl, hm, hlen, hel, _, _⟩
  · simp only [List.cons.injEq, Value.slice.injEq, and_true] at hcs
    obtain ⟨rfl, rfl, rfl⟩ := hcs
    exact ⟨[], rfl, by simp, by simp, CellsG.nil en W, by simp⟩
  · simp only [List.cons.injEq, Value.slice.injEq, and_true] at hcs
    obtain ⟨rfl, rfl, rfl⟩ := hcs
    have each : ∀ i, i < len → ∃ x : α, G x ∧ ∀ j, j < sz → W.cell? (ad.add (i * sz + j)) = (en x)[j]? := fun i hi => by
      have h1 := hel i hi
      rw [List.getElem?_eq_getElem (by omega), hsz, Option.bind_eq_some_iff] at h1
      obtain ⟨cs, hc, hy⟩ := h1
      obtain ⟨_, hcl, hcell⟩ := World.cells?_some hc
      obtain ⟨x, hx, hG⟩ := hread n cs _ hy (fun m hm' => hW m (by
        rw [hxx]
        simp only [DataW.weights, hT, List.mem_cons, List.mem_append]
        exact .inr (.inl (weights_all (List.mem_map.2 ⟨_, List.getElem_mem _, rfl⟩) hm')))) hcl
      refine ⟨x, hG, fun j hj => ?_⟩
      rw [← hx]
      have := hcell j hj
      rw [← this]
      refine congrArg W.cell? ?_
      unfold Addr.add
      by_cases h0 : i * sz = 0
      · simp [h0]
      · by_cases hj0 : j = 0
        · simp [h0, hj0]
        · simp [h0, hj0, Nat.add_assoc]
    have hx : ∃ xs : List α, xs.length = len ∧ ∀ i x, xs[i]? = some x → G x ∧ ∀ j, j < sz → W.cell? (ad.add (i * sz + j)) = (en x)[j]? := by
      have : ∀ m, m ≤ len → ∃ xs : List α, xs.length = m ∧ ∀ i x, xs[i]? = some x → G x ∧ ∀ j, j < sz → W.cell? (ad.add (i * sz + j)) = (en x)[j]? := by
        intro m
        induction m with
        | zero => exact fun _ => ⟨[], rfl, fun i x h => by simp at h⟩
        | succ m ih =>
          intro hm
          obtain ⟨xs, h1, h2⟩ := ih (by omega)
          obtain ⟨x, h3, h4⟩ := each m (by omega)
          refine ⟨xs ++ [x], by simp [h1], fun i y hy => ?_⟩
          rcases Nat.lt_or_ge i xs.length with h | h
          · rw [List.getElem?_append_left h] at hy
            exact h2 i y hy
          · rw [List.getElem?_append_right h] at hy
            have h0 : i - xs.length = 0 := by
              rcases Nat.eq_zero_or_pos (i - xs.length) with h | h
              · exact h
              · rw [List.getElem?_eq_none (by simp; omega)] at hy; cases hy
            rw [h0] at hy
            simp at hy
            subst hy
            rw [show i = m by omega]
            exact ⟨h3, h4⟩
      exact this len (Nat.le_refl _)
    obtain ⟨xs, h1, h2⟩ := hx
    refine ⟨xs, h1, by omega, by omega, .inr ⟨ad, rfl, fun k u hu => ?_⟩, fun x hx => ?_⟩
    · have hk : k < xs.length * sz := by
        have h3 : ∀ xs : List α, (cellsG en xs).length = xs.length * sz := by
          intro xs
          induction xs with
          | nil => simp [cellsG]
          | cons y xs ih =>
            simp only [cellsG] at ih
            simp only [cellsG, List.flatMap_cons, List.length_append, hen, ih, List.length_cons]
            rw [Nat.add_mul, Nat.one_mul, Nat.add_comm]
        rw [← h3 xs]
        exact (List.getElem?_eq_some_iff.1 hu).1
      have hi : k / sz < xs.length := Nat.div_lt_of_lt_mul (by rw [Nat.mul_comm]; exact hk)
      have hj : k % sz < sz := Nat.mod_lt _ hpos
      have hk2 : k / sz * sz + k % sz = k := Nat.div_add_mod' k sz
      have hxi : xs[k / sz]? = some xs[k / sz] := by simp [hi]
      have h4 := (h2 (k / sz) xs[k / sz] hxi).2 (k % sz) hj
      rw [hk2] at h4
      rw [h4]
      have h5 : ∀ (xs : List α) (i j : Nat) (x : α), xs[i]? = some x → j < sz → (cellsG en xs)[i * sz + j]? = (en x)[j]? := by
        intro xs
        induction xs with
        | nil => intro i j x h; simp at h
        | cons y xs ih =>
          intro i j x h hj
          cases i with
          | zero =>
            simp at h
            subst h
            simp only [cellsG, List.flatMap_cons, Nat.zero_mul, Nat.zero_add]
            rw [List.getElem?_append_left (by rw [hen]; exact hj)]
          | succ i =>
            simp only [List.getElem?_cons_succ] at h
            have ih := ih i j x h hj
            simp only [cellsG] at ih
            simp only [cellsG, List.flatMap_cons]
            rw [List.getElem?_append_right (by rw [hen, Nat.add_mul]; omega), hen, show (i + 1) * sz + j - sz = i * sz + j by rw [Nat.add_mul]; omega, ih]
      have h6 := h5 xs (k / sz) (k % sz) _ hxi hj
      rw [hk2, hu] at h6
      exact h6.symm
    · obtain ⟨i, hi⟩ := List.getElem?_of_mem hx
      exact (h2 i x hi).1


theorem strs_of_arg_sized {H : Type} {encH : TypeId × Value → H} {W : World} {base : Nat} {held : Bool} (T e : TypeId) (hT : Tryd.prog.underlying T = some (.slice e)) (he : Tryd.prog.underlying e = some .string) (hc : Tryd.prog.cellsOf e = 1)
    {fuel : Nat} {a : Option Addr} {len cap : Nat} {x : DataW H × List MemPlace} (h : DataW.trod encH Tryd.prog W base (fun _ => true) held fuel T [.slice a len cap] = some x) (hW : ∀ m ∈ x.1.weights Tryd.prog T, m ≤ reachBytes) :
    ∃ ss : List ByteArray, ss.length = len ∧ ss.length ≤ cap ∧ ss.length ≤ maxLen ∧ CellsG enS W a cap ss ∧ ∀ s ∈ ss, s.size ≤ reachBytes :=
  vals_of_arg_sized T e hT 1 hc (by omega) enS (fun _ => rfl) (fun s => s.size ≤ reachBytes) (fun n cs y hy hw _ => by
    obtain ⟨s, rfl, rfl, hs⟩ := DataW.trod_string he hy
    refine ⟨s, rfl, ?_⟩
    have := hw s.data.toList.length (by simp [DataW.weights])
    simpa using this) h hW

theorem pairs_of_arg_sized {H : Type} {encH : TypeId × Value → H} {W : World} {base : Nat} {held : Bool} (T e : TypeId) (hT : Tryd.prog.underlying T = some (.slice e)) {f0 f1 : Field} (he : Tryd.prog.underlying e = some (.struct #[f0, f1])) (hc : Tryd.prog.cellsOf e = 2)
    (h0 : Tryd.prog.underlying f0.type = some .string) (h1 : Tryd.prog.underlying f1.type = some .string) (c0 : Tryd.prog.cellsOf f0.type = 1) (c1 : Tryd.prog.cellsOf f1.type = 1) (o0 : f0.offset = 0) (o1 : f1.offset = 1)
    {fuel : Nat} {a : Option Addr} {len cap : Nat} {x : DataW H × List MemPlace} (h : DataW.trod encH Tryd.prog W base (fun _ => true) held fuel T [.slice a len cap] = some x) (hW : ∀ m ∈ x.1.weights Tryd.prog T, m ≤ reachBytes) :
    ∃ ps : List (ByteArray × ByteArray), ps.length = len ∧ ps.length ≤ cap ∧ ps.length ≤ maxLen ∧ CellsG enP W a cap ps ∧ ∀ p ∈ ps, p.1.size ≤ reachBytes ∧ p.2.size ≤ reachBytes :=
  vals_of_arg_sized T e hT 2 hc (by omega) enP (fun _ => rfl) (fun p => p.1.size ≤ reachBytes ∧ p.2.size ≤ reachBytes) (fun n cs y hy hw hl => by
    obtain ⟨y0, y1, m, hy1, _, g0, g1⟩ := trod_struct2 he hy
    rw [o0, c0] at g0
    rw [o1, c1] at g1
    obtain ⟨s0, e0, ey0, hs0⟩ := DataW.trod_string h0 g0
    obtain ⟨s1, e1, ey1, hs1⟩ := DataW.trod_string h1 g1
    have q0 := hw s0.data.toList.length (by rw [hy1, ey0]; simp [DataW.weights, he, DataW.weightsEach])
    have q1 := hw s1.data.toList.length (by rw [hy1, ey1]; simp [DataW.weights, he, DataW.weightsEach])
    match cs, hl with
    | [u, v], _ =>
      simp at e0 e1
      subst e0 e1
      exact ⟨(s0, s1), rfl, by simpa using q0, by simpa using q1⟩) h hW
end Go.Proofs.YtdgdkkapikopnaaDoor
