/-
  The contract of the document All: the answer allF. Conditions: slices of at most 900,000 bytes, each from 0 to 255.
-/
import Derived.Test.YtikeebgclplphaaFRGet
namespace Go.Proofs.Ytikeebgclplphaa
open Go.ChangeShapes Go.WideShapes Go.ChangeAt Go.RowKit
set_option linter.unusedVariables false

/-- What All answers, with a slice of slices that reads so. -/
def AllE (w : World) (r : List (List Int) × Int × Int) (e : Ending) (w' : World) : Prop :=
  ∃ A c rs, e = .returned (.tuple #[.slice A rs.length c, .int .i64 r.2.1, .int .i64 r.2.2]) ∧ CellsL w' A c rs ∧ EachL w' rs ∧ listsOf rs = r.1 ∧ Below w.heap.size w w'

theorem allFrom_isB (b : List Int) (hb : IsB b) : ∀ (f : Nat) (i : Nat), ∀ d ∈ (allFrom f b i).1, IsB d := by
  intro f
  induction f with
  | zero => intro i d hd; simp [allFrom] at hd
  | succ f ih =>
    intro i d hd
    unfold allFrom at hd
    split at hd
    · split at hd
      · simp only [List.mem_cons] at hd
        rcases hd with rfl | hd
        · exact getF_isB b hb i
        · exact ih _ d hd
      · simp at hd
    · simp at hd
theorem allF_isB (b : List Int) (hb : IsB b) : ∀ d ∈ (allF b).1, IsB d := allFrom_isB b hb _ _

/-- The loop of the document All: rs has been read; the rest begins at k. -/
def RelA (w : World) (l : List Int) (v i : Value) (wr : World) : Prop :=
  ∃ (k f : Nat) (A : Option Addr) (c : Nat) (rs : List Elt), i = .int .i64 k ∧ v = .slice A rs.length c ∧ rs.length ≤ k ∧ k ≤ l.length ∧ OwnL w.heap.size wr A c rs ∧ EachL w rs ∧ Below w.heap.size w wr ∧ l.length < k + f ∧
    allF l = (listsOf rs ++ (allFrom f l k).1, (allFrom f l k).2)

theorem relA_end {l : List Int} {k f : Nat} {rs : List Elt} (hk : l.length ≤ k) (h : allF l = (listsOf rs ++ (allFrom f l k).1, (allFrom f l k).2)) : allF l = (listsOf rs, (k : Int), 0) := by
  rw [h, allFrom_end f l k hk]; simp
theorem relA_stop {l : List Int} {k f : Nat} {rs : List Elt} {d : List Int} {x e : Int} (hk : k < l.length) (hf : l.length < k + f) (hg : getF l k = (d, x, e)) (he : e ≠ 0) (h : allF l = (listsOf rs ++ (allFrom f l k).1, (allFrom f l k).2)) : allF l = (listsOf rs, (k : Int), e) := by
  obtain ⟨f, rfl⟩ : ∃ g, f = g + 1 := ⟨f - 1, by omega⟩
  rw [h, allFrom_stop f l k d x e hk hg he]; simp
theorem relA_next {l : List Int} {k f x : Nat} {rs : List Elt} {r : Elt} (hk : k < l.length) (hf : l.length < k + f) (hg : getF l k = (r.2.2, (x : Int), 0)) (h : allF l = (listsOf rs ++ (allFrom f l k).1, (allFrom f l k).2)) :
    ∃ g, f = g + 1 ∧ allF l = (listsOf (rs ++ [r]) ++ (allFrom g l x).1, (allFrom g l x).2) := by
  obtain ⟨f, rfl⟩ : ∃ g, f = g + 1 := ⟨f - 1, by omega⟩
  refine ⟨f, rfl, ?_⟩
  rw [h, allFrom_step f l k r.2.2 x hk hg, Int.toNat_natCast, listsOf_append]
  simp [listsOf]

set_option maxRecDepth 20000 in
set_option maxHeartbeats 2000000 in
theorem rall_calls (A : Option Addr) (c : Nat) (l : List Int) (w : World) (h : Lies w A c l) (hb : IsB l) (hc : l.length ≤ c) (hl : l.length ≤ 900000) :
    Calls Try.prog 15 #[.slice A l.length c] w (AllE w (allF l)) := by
  have HG := Lib.hid (fun (i : Int) (W : World) (hW : Below w.heap.size w W) => rfget_calls A c l i w W h hW hb hc hl)
  have HN := Lib.hid (fun (k : Nat) (d : List Int) (x : Int) (hg : getF l k = (d, x, 0)) => getF_next l hb k d x hg)
  have HRG := Lib.hid (fun (k : Nat) => getF_range l hb k)
  clear h hb
  go_enter Try.func15, Try.ntmps15
  go_wp2
  go_loopw [5, 6] (RelA w l) (fun _ i _ => l.length - (intOf i).toNat)
  case atStart => exact ⟨0, l.length + 1, none, 0, [], rfl, rfl, by simp, by omega, OwnL.nil _ _, EachL.nil _, Below.refl _ _, by omega, rfl⟩
  case round =>
    obtain ⟨k, f, A3, c3, rs, rfl, rfl, hrk, hkl, hown3, hE3, hb3, hf, hall⟩ := hrel
    by_cases hlt : k < l.length
    · obtain ⟨d, x, e, hg⟩ : ∃ d x e, getF l k = (d, x, e) := ⟨_, _, _, rfl⟩
      have HC := Lib.hid (HG.out k wr hb3)
      obtain ⟨g0, g1, g2, g3, _⟩ := HRG.out k
      rw [hg] at HC g0 g1 g2 g3
      dsimp only at g0 g1 g2 g3
      by_cases he : e = 0
      · subst he
        obtain ⟨x, rfl⟩ := Int.eq_ofNat_of_zero_le g0
        obtain ⟨n1, n2⟩ := HN.out k d x hg
        have HX := Lib.hid (fun (r : Elt) (hr : r.2.2 = d) => relA_next (r := r) (x := x) (rs := rs) hlt hf (by rw [hr]; exact hg) hall)
        have HE3 := Lib.hid hE3
        have HO3 := Lib.hid hown3
        clear hg hall hown3 hE3
        have hle : (x : Int) ≤ (l.length : Int) := n2
        go_wp2_with (first
          | (go_at_call 13; refine HC.out.mono ?_; rintro e w4 ⟨A4, c4, rfl, hL4, hc4, hb4⟩; dsimp only at hL4 hc4; have hb5 := Below.on hb3 hb4; have hb6 : Below w.heap.size w (w4.alloc (.cells #[.slice A4 d.length c4] 22)) := hb5.alloc hb5.size _)
          | (at_builtin; go_must (refine wpList_append_rows rfl _ _ 35 Try.underlying35 rfl w.heap.size A3 c3 rs rfl ((HO3.out.below hb4).alloc _) (some ⟨w4.heap.size, 0, none⟩) 1 [(A4, c4, d)] rfl (cells_one_row w4 (A4, c4, d)) (by simp; omega) hb6.size ?_); intro A7 c7 w7 R hR hown7 hgrow7))
        have hb7 := OwnL.grow ((HO3.out.below hb4).alloc _) hb6 hgrow7 hb6.size
        go_roundw
        case rel =>
          obtain ⟨g, hgf, hnext⟩ := HX.out (A4, c4, d) rfl
          rw [← hR.out] at hnext
          refine ⟨x, g, A7, c7, R, rfl, rfl, ?_, by omega, hown7, ?_, hb7, by omega, hnext⟩
          · rw [hR.out]; simp; omega
          · rw [hR.out]; exact HE3.out.append (EachL.one hL4)
        case measure => simp [intOf]; omega
      · have hne : (e == 0) = false := by simpa using he
        have hres := relA_stop hlt hf hg he hall
        have HRes := Lib.hid hres
        have HO3 := Lib.hid hown3
        clear hg hall hown3 hres he
        go_wp2_with (go_at_call 13; refine HC.out.mono ?_; rintro e w4 ⟨A4, c4, rfl, hL4, hc4, hb4⟩; dsimp only at hL4 hc4)
        go_ret3
        have hb5 := Below.on hb3 hb4
        rw [HRes.out]
        exact ⟨A3, c3, rs, rfl, (HO3.out.below hb4).cells, hE3.below hb5, rfl, hb5⟩
    · have hres := relA_end (by omega) hall
      have HRes := Lib.hid hres
      clear hall hres
      go_wp2
      go_ret3
      rw [HRes.out]
      exact ⟨A3, c3, rs, rfl, hown3.cells, hE3.below hb3, rfl, hb3⟩
end Go.Proofs.Ytikeebgclplphaa
