/-
  The contracts of frame.frames and of the function that it returns: what it hands to a loop body, one frame after the other. Conditions: slices of at most 900,000 bytes, each from 0 to 255.
-/
import Derived.Test.YtikeebgclplphaaRF
import Derived.Test.YtikeebgclplphaaFRAll
import Derived.RangeFuncBound
import Derived.Shelf.Abstract
import Derived.Shelf.RegionOpen
import Derived.WalkKit
import Derived.OwnWalkIn
import Derived.TacticsInMore
import Derived.LoopNIn
import Derived.LoopIn
namespace Go.Proofs.Ytikeebgclplphaa
open Go.ChangeShapes Go.WideShapes Go.ChangeAt Go.RowKit Go.Shelf
set_option linter.unusedVariables false
attribute [local go_sem] Oper.semAt_some

/-- What is handed over: the data (where it lies, its capacity, its bytes), the index behind the frame, the error. -/
abbrev Fr := Elt × Int × Int
def frVals (x : Fr) : Array Value := #[.agg #[.slice x.1.1 x.1.2.2.length x.1.2.1, .int .i64 x.2.1], .int .i64 x.2.2]
def eltsOf (pre : List Fr) : List Elt := pre.map (·.1)
def posOf (pre : List Fr) : Int := match pre.getLast? with | some x => x.2.1 | none => 0
theorem posOf_nil : posOf [] = 0 := rfl
theorem posOf_snoc (pre : List Fr) (x : Fr) : posOf (pre ++ [x]) = x.2.1 := by simp [posOf]
theorem eltsOf_snoc (pre : List Fr) (x : Fr) : eltsOf (pre ++ [x]) = eltsOf pre ++ [x.1] := by simp [eltsOf]

/-- These frames have been read. -/
def RunP (l : List Int) (pre : List Fr) : Prop := ∃ k f : Nat, posOf pre = k ∧ k ≤ l.length ∧ pre.length ≤ k ∧ l.length < k + f ∧ allF l = (listsOf (eltsOf pre) ++ (allFrom f l k).1, (allFrom f l k).2)
/-- What is known of the value that is handed over. -/
def FxF (l : List Int) (pre : List Fr) (x : Fr) (W : World) : Prop := RunP l pre ∧ posOf pre < l.length ∧ getF l (posOf pre) = (x.1.2.2, x.2.1, x.2.2) ∧ Lies W x.1.1 x.1.2.1 x.1.2.2 ∧ T5 W x.1.1
/-- What the rounds keep. -/
def KqF (w0 : World) (Bn : Nat) (A : Option Addr) (c : Nat) (l : List Int) (pre : List Fr) (W : World) : Prop :=
  Below w0.heap.size w0 W ∧ W.heap[Bn]? = some (.cells #[.slice A l.length c] 22 (0, 0)) ∧ ∀ x ∈ pre, x.2.2 = 0
def SF (l : List Int) (xs : List Fr) : Prop := RunP l xs ∧ (l.length : Int) ≤ posOf xs
def SpF (l : List Int) (pre : List Fr) : Prop := ∃ ys x, pre = ys ++ [x] ∧ RunP l ys ∧ posOf ys < l.length ∧ getF l (posOf ys) = (x.1.2.2, x.2.1, x.2.2)

theorem RunP.nil (l : List Int) : RunP l [] := ⟨0, l.length + 1, rfl, by omega, by simp, by omega, rfl⟩
theorem RunP.next {l : List Int} {pre : List Fr} {x : Fr} (hb : IsB l) (h : RunP l pre) (hlt : posOf pre < l.length) (hg : getF l (posOf pre) = (x.1.2.2, x.2.1, 0)) : RunP l (pre ++ [x]) ∧ posOf pre < posOf (pre ++ [x]) := by
  obtain ⟨k, f, hk, hkl, hpk, hf, ha⟩ := h
  rw [hk] at hlt hg ⊢
  obtain ⟨n1, n2⟩ := getF_next l hb k _ _ hg
  obtain ⟨y, hy⟩ : ∃ y : Nat, x.2.1 = y := Int.eq_ofNat_of_zero_le (by omega)
  rw [hy] at hg n1 n2
  obtain ⟨g, hgf, hnext⟩ := relA_next (r := x.1) (rs := eltsOf pre) (by omega) hf hg ha
  rw [posOf_snoc, hy]
  exact ⟨⟨y, g, by rw [posOf_snoc, hy], by omega, by simp; omega, by omega, by rw [eltsOf_snoc]; exact hnext⟩, by omega⟩
theorem SF.all {l : List Int} {xs : List Fr} (h : SF l xs) : allF l = (listsOf (eltsOf xs), posOf xs, 0) := by
  obtain ⟨⟨k, f, hk, hkl, hpk, hf, ha⟩, h2⟩ := h
  rw [hk] at h2 ⊢
  exact relA_end (by omega) ha
theorem RunP.stop {l : List Int} {ys : List Fr} {x : Fr} (h : RunP l ys) (hlt : posOf ys < l.length) (hg : getF l (posOf ys) = (x.1.2.2, x.2.1, x.2.2)) (he : x.2.2 ≠ 0) : allF l = (listsOf (eltsOf ys), posOf ys, x.2.2) := by
  obtain ⟨k, f, hk, hkl, hpk, hf, ha⟩ := h
  rw [hk] at hlt hg ⊢
  exact relA_stop (by omega) hf hg he ha

def RelI (l : List Int) (J : List Fr → World → Prop) (i : Value) (wr : World) : Prop := ∃ pre, i = .int .i64 (posOf pre) ∧ RunP l pre ∧ J pre wr

set_option maxRecDepth 100000 in
set_option maxHeartbeats 4000000 in
theorem iter_stops (N : Nat) (w0 w : World) (A : Option Addr) (c : Nat) (l : List Int) (h : Lies w0 A c l) (hb : IsB l) (hc : l.length ≤ c) (hl : l.length ≤ 900000) (Bn : Nat) :
    SeqW Fence.wide N Try.prog 40 #[.pointer (some ⟨Bn, 0, none⟩)] frVals (KqF w0 Bn A c l) (FxF l) (SF l) (SpF l) w := by
  intro L J Jx W hW hJ hJx hJK hY h0
  have HG := Lib.hid (fun (i : Int) (W : World) (hW : Below w0.heap.size w0 W) => fget_calls A c l i W (h.below hW) hb hc hl)
  have HNX := Lib.hid (fun (pre : List Fr) (x : Fr) (hr : RunP l pre) (hlt : posOf pre < l.length) (hg : getF l (posOf pre) = (x.1.2.2, x.2.1, 0)) => RunP.next hb hr hlt hg)
  have HRG := Lib.hid (fun (k : Int) => getF_range l hb k)
  have HJ := Lib.hid hJ
  have HJK := Lib.hid hJK
  have HY := Lib.hid hY
  clear h hb hJ hJx hJK hY
  refine callsIn_of_wp Try.func40 rfl trivial ?_ rfl
  simp only [Try.ntmps40, List.size_toArray, List.length_cons, List.length_nil, Nat.reduceAdd, Nat.reduceSub, Array.replicate_succ, Array.replicate_zero, List.push_toArray, List.append_toArray, List.nil_append, List.cons_append]
  gi_wp2
  gi_loopw [3] (RelI l J) (fun i _ => l.length - (intOf i).toNat)
  case atStart => exact ⟨[], rfl, RunP.nil l, h0⟩
  case round =>
    obtain ⟨pre, rfl, hrun, hJs⟩ := hrel
    obtain ⟨hB0, hbox, _⟩ := HJK.out pre wr hJs
    have hcell : wr.cell? ⟨Bn, 0, none⟩ = some (.slice A l.length c) := by simp [World.cell?, hbox]
    have hk0 : 0 ≤ posOf pre ∧ posOf pre ≤ l.length := by obtain ⟨k, _, hk, hkl, _⟩ := hrun; omega
    obtain ⟨hk0, hk1⟩ := hk0
    obtain ⟨k, hk⟩ : ∃ k, k = posOf pre := ⟨_, rfl⟩
    have HR := Lib.hid hrun
    have HK := Lib.hid hk
    rw [← hk] at hk0 hk1 ⊢
    clear hk hrun hbox
    by_cases hlt : k < l.length
    · obtain ⟨d, x, e, hg⟩ : ∃ d x e, getF l k = (d, x, e) := ⟨_, _, _, rfl⟩
      have HC := Lib.hid (HG.out k wr hB0)
      obtain ⟨g0, g1, g2, g3, _⟩ := HRG.out k
      rw [hg] at HC g0 g1 g2 g3
      dsimp only at g0 g1 g2 g3
      have HGG := Lib.hid hg
      clear hg
      gi_wp2
      refine ⟨trivial, fun hd => (by cases hd), ?_⟩
      refine (callsIn_wide.2 HC.out).mono ?_
      rintro e' w4 ⟨A4, c4, rfl, hL4, hc4, hT4, hb4⟩
      dsimp only at hL4 hc4
      obtain ⟨fn, tmps, assign, body, hy, hR⟩ := HY.out pre ((A4, c4, d), x, e) w4 (HJ.out pre wr w4 hb4 hJs) ⟨HR.out, by rw [← HK.out]; exact hlt, by rw [← HK.out]; exact HGG.out, hL4, hT4⟩
      dsimp only [frVals] at hy
      gi_wp2
      refine ⟨fun hd => (by cases hd), ?_⟩
      refine hR.mono ?_
      rintro e' W5 (⟨rfl, hJ5⟩ | ⟨rfl, hJx5⟩)
      · have he := (HJK.out _ _ hJ5).2.2 ((A4, c4, d), x, e) (by simp)
        dsimp only at he
        subst he
        obtain ⟨n1, n2⟩ := HNX.out pre ((A4, c4, d), x, 0) HR.out (by rw [← HK.out]; exact hlt) (by rw [← HK.out]; exact HGG.out)
        rw [posOf_snoc, ← HK.out] at n2
        dsimp only at n2
        have HN1 := Lib.hid n1
        clear n1
        gi_wp2
        go_roundw
        case rel => exact ⟨_, by rw [posOf_snoc], HN1.out, hJ5⟩
        case measure => simp [intOf]; omega
      · gi_wp2
        refine bodyPost_ret (results_none rfl _ _ _) rfl ?_
        exact ⟨⟨_, rfl⟩, .inr ⟨_, ⟨pre, _, rfl, HR.out, by rw [← HK.out]; exact hlt, by rw [← HK.out]; exact HGG.out⟩, hJx5⟩⟩
    · gi_wp2
      go_end0
      exact ⟨⟨_, rfl⟩, .inl ⟨pre, ⟨HR.out, by rw [← HK.out]; omega⟩, hJs⟩⟩
end Go.Proofs.Ytikeebgclplphaa
