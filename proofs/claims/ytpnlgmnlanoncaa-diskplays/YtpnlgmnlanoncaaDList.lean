/-
  Contract of List: the names of the files, in order, in new memory. Conditions: the disk is laid open.
-/
import Derived.Test.YtpnlgmnlanoncaaDIter
import Derived.Test.YtpnlgmnlanoncaaDBegin
namespace Go.Proofs.Ytpnlgmnlanoncaa
open Go.RowKit Go.Maps Go.Sort Go.Shelf
set_option linter.unusedVariables false

theorem le_of_nlt {a b : ByteArray} (h : nlt a b = true) : a.data.toList ≤ b.data.toList := by
  unfold nlt at h
  rw [sl_nums, sl_nums, ltT_list] at h
  exact List.le_of_lt (by simpa using h)
/-- Sorted names are what the sort makes of them. -/
theorem sorted_names {L : List Fr} (hs : Srt Fr.name L) {ss : List (List UInt8)} (hp : ss.Perm (names L)) : ss.mergeSort (fun x y => decide (x ≤ y)) = names L := by
  have tr : ∀ a b c : List UInt8, decide (a ≤ b) = true → decide (b ≤ c) = true → decide (a ≤ c) = true := fun a b c h1 h2 => by simp only [decide_eq_true_eq] at *; exact List.le_trans h1 h2
  have to : ∀ a b : List UInt8, (decide (a ≤ b) || decide (b ≤ a)) = true := fun a b => by simp only [Bool.or_eq_true, decide_eq_true_eq]; exact List.le_total a b
  refine List.Perm.eq_of_pairwise (le := fun a b => decide (a ≤ b) = true) (fun a b _ _ h1 h2 => ?_) (List.pairwise_mergeSort tr to ss) ?_ ((List.mergeSort_perm ss _).trans hp)
  · simp only [decide_eq_true_eq] at h1 h2
    exact List.le_antisymm h1 h2
  · unfold names
    exact List.pairwise_map.2 (hs.imp fun {a b} hab => by simpa using le_of_nlt hab)
theorem enc_names (L : List Fr) : (names L).map encStr = cellsG enS (L.map Fr.name) := by
  unfold names cellsG
  induction L with
  | nil => rfl
  | cons r L ih =>
    simp only [List.map_cons, List.flatMap_cons, enS] at ih ⊢
    rw [ih]
    simp [encStr]

set_option maxHeartbeats 1000000 in
theorem list_open {S : Nat → Prop} {w : World} {sb bm : Nat} {L : List Fr} {D : DataW Value} {d : St} (h : Open S w sb bm L D d) :
    Calls Try.prog 24 #[at_ sb] w fun e w' => ∃ A c, e = .returned (.slice A (L.map Fr.name).length c) ∧ OwnG 9 1 enS w.heap.size w' A c (L.map Fr.name) ∧ Below w.heap.size w w' := by
  obtain ⟨c0, c1, c2, c3⟩ := h.cells
  have hown := h.own
  have hsz := h.size
  have hmany := h.ok.many
  have HK := Lib.hid (h.rel.keys h.own h.srt)
  have HS := Lib.hid h.srt
  have hmax : Maps.size D ≤ maxLen := by rw [hsz]; unfold maxLen; omega
  have hbytes : Maps.size D * 16 ≤ 140737488355328 := by rw [hsz]; omega
  have HC := Lib.hid (Try.slices_Sorted_keys_39_40 bm _ D keep w hown hmax hbytes)
  clear h hown hmax hbytes hsz hmany
  unfold at_
  refine (callsIn_wide (n := 6)).1 ?_
  have hfK : Fence.wide.fn 40 := trivial
  have hfS : Fence.wide.fn 39 := trivial
  refine callsIn_of_wp Try.func24 rfl trivial ?_ rfl
  simp only [Try.ntmps24, List.size_toArray, List.length_cons, List.length_nil, Nat.reduceAdd, Nat.reduceSub, Array.replicate_succ, Array.replicate_zero, List.push_toArray, List.append_toArray, List.nil_append, List.cons_append]
  gi_wp2_with (first
    | (gi_at_call 40; refine (Try.maps_Keys_40 _ _).mono ?_; rintro e w' ⟨rfl, rfl⟩)
    | (gi_at_call 39; refine (HC.out).mono ?_; rintro e w' ⟨v, ss, rfl, hS, hrow, hnil, hb⟩))
  go_ret
  have hp : ss.Perm (names L) := hS.trans HK.out.symm
  have hlen : ss.length = (L.map Fr.name).length := by rw [hp.length_eq]; simp [names]
  rw [sorted_names HS.out hp, enc_names, hlen] at hrow
  have hb2 : Below w.heap.size w w' := ((Below.refl _ w).alloc (Nat.le_refl _) _).trans (hb.mono (by simp))
  rcases hrow.2 with ⟨hv, h0⟩ | ⟨g, cap, cur, hv, hg, r⟩
  · subst hv
    refine ⟨none, 0, by rw [h0]; rfl, ?_, hb2⟩
    unfold OwnG
    rw [h0]
    exact ⟨by rw [← h0]; exact hrow.1, .inl ⟨rfl, rfl⟩⟩
  · subst hv
    refine ⟨some ⟨g, 0, none⟩, cap, rfl, ⟨hrow.1, .inr ⟨g, cap, cur, rfl, ?_, r⟩⟩, hb2⟩
    have : w.heap.size ≤ (w.alloc (.cells #[.map (some bm)] 60)).heap.size := by simp
    omega
theorem list_calls {S : Nat → Prop} {w : World} {sb : Nat} {d : St} (h : DiskAt S w sb d) :
    Calls Try.prog 24 #[at_ sb] w fun e w' => ∃ A c, e = .returned (.slice A (d.fs.map Fl.name).length c) ∧ OwnG 9 1 enS w.heap.size w' A c (d.fs.map Fl.name) ∧ Below w.heap.size w w' := by
  obtain ⟨bm, L, D, h⟩ := h
  have e : d.fs.map Fl.name = L.map Fr.name := by rw [← h.fs, List.map_map]; rfl
  rw [e]
  exact list_open h
end Go.Proofs.Ytpnlgmnlanoncaa
