/-
  The contract of frame.Get: the answer getF, the data in new memory. Conditions: slices of at most 900,000 bytes, each from 0 to 255.
-/
import Derived.Test.YtikeebgclplphaaFPut
import Derived.Test.YtikeebgclplphaaCTake
import Derived.Test.YtikeebgclplphaaVRGet
import Derived.Test.YtikeebgclplphaaVBack
namespace Go.Proofs.Ytikeebgclplphaa
open Go.ChangeShapes Go.WideShapes Go.ChangeAt Go.RowKit
set_option linter.unusedVariables false

/-- The slice's memory is a block of bytes. -/
def T5 (w : World) (A : Option Addr) : Prop := ∀ a, A = some a → ∃ cur z, w.heap[a.block]? = some (.cells cur 5 z)

theorem T5.own {B : Nat} {w : World} {A : Option Addr} {c : Nat} {l : List Int} (h : OwnS B w A c l) : T5 w A := fun a ha => by
  subst ha
  rcases h.2 with ⟨h1, _⟩ | ⟨g, cap, cur, h1, _, hg, _⟩
  · cases h1
  · cases h1; exact ⟨cur, _, hg⟩

/-- b[lo:], and where it lies. -/
theorem cut_l_from {w : World} {A : Option Addr} {c : Nat} {l : List Int} (h : Lies w A c l) (hc : l.length ≤ c) (lo : Nat) (L : Int) (hL : L = lo) (hn : lo ≤ l.length) (hB : T5 w A) :
    ∃ A' C', (∀ W, (Instr.slice 22 (.slice A l.length c) (some (.int .i64 L)) none none).run Try.prog W = .ok (.slice A' (l.drop lo).length C') W) ∧ (∀ W, Below w.heap.size w W → Lies W A' C' (l.drop lo)) ∧ (l.drop lo).length ≤ C' ∧ T5 w A' := by
  subst hL
  have e : (l.drop lo).take (l.length - lo) = l.drop lo := List.take_of_length_le (by simp)
  refine ⟨if c = lo then A else A.map (·.add (lo * 1)), c - lo, fun W => ?_, fun W hb => by have := h.sliced hc hb lo (l.length - lo) (by omega); rwa [e] at this, by rw [List.length_drop]; omega, fun a ha => ?_⟩
  · rw [run_slice_l W 22 _ _ _ under22 .i64 _ (by omega) (by omega), elem22, size5]
    simp only [Result.andThen, Go.sliced]
    rw [List.length_drop, Int.toNat_natCast]
  · split at ha
    · exact hB a ha
    · cases A with
      | none => cases ha
      | some a0 =>
        have := hB a0 rfl
        simp only [Option.map_some, Option.some.injEq] at ha
        rw [← ha]
        unfold Addr.add
        split <;> exact this

theorem getS_nonneg {l : List Int} {i n x : Int} (h : getS l i = (n, x, 0)) : 0 ≤ i := by
  rcases Int.lt_or_le i 0 with hi | hi
  · unfold getS at h
    rw [if_pos (.inl hi)] at h
    simp at h
  · exact hi

/-- What Get answers, with a slice that reads so. -/
def GetE (w : World) (r : List Int × Int × Int) (e : Ending) (w' : World) : Prop :=
  ∃ A c, e = .returned (.tuple #[.slice A r.1.length c, .int .i64 r.2.1, .int .i64 r.2.2]) ∧ Lies w' A c r.1 ∧ r.1.length ≤ c ∧ T5 w' A ∧ Below w.heap.size w w'

theorem GetE.err (w w' : World) (x : Int) (hb : Below w.heap.size w w') : GetE w ([], 0, x) (.returned (.tuple #[.slice none 0 0, .int .i64 0, .int .i64 x])) w' :=
  ⟨none, 0, rfl, Lies.nil _, Nat.le_refl _, fun a ha => (by cases ha), hb⟩

/-- The same, with a slice that reads so in an earlier world already. -/
def GetR (w0 w : World) (r : List Int × Int × Int) (e : Ending) (w' : World) : Prop :=
  ∃ A c, e = .returned (.tuple #[.slice A r.1.length c, .int .i64 r.2.1, .int .i64 r.2.2]) ∧ Lies w0 A c r.1 ∧ r.1.length ≤ c ∧ Below w.heap.size w w'

theorem GetR.err (w0 w w' : World) (x : Int) (hb : Below w.heap.size w w') : GetR w0 w ([], 0, x) (.returned (.tuple #[.slice none 0 0, .int .i64 0, .int .i64 x])) w' :=
  ⟨none, 0, rfl, Lies.nil _, Nat.le_refl _, hb⟩

theorem takeS_cut (l : List Int) (i x n : Nat) (hix : i < x) (hx : x + n + 4 ≤ l.length) :
    takeS ((l.drop i).take (x + n + 4 - i)) = if (l.drop (x + n)).take 4 = le4Z (sumZ ((l.drop i).take (x + n - i))) then ((l.drop i).take (x + n - i), 0) else ([], 4) := by
  have e : ((l.drop i).take (x + n + 4 - i)).length = x + n + 4 - i := by rw [List.length_take, List.length_drop]; omega
  unfold takeS
  rw [if_neg (by rw [e]; omega), e, List.take_take, show min (x + n + 4 - i - 4) (x + n + 4 - i) = x + n - i by omega, List.drop_take, List.drop_drop,
    show x + n + 4 - i - (x + n + 4 - i - 4) = 4 by omega, show i + (x + n + 4 - i - 4) = x + n by omega]

set_option maxRecDepth 20000 in
set_option maxHeartbeats 2000000 in
theorem fget_calls (A : Option Addr) (c : Nat) (l : List Int) (i : Int) (w : World) (h : Lies w A c l) (hb : IsB l) (hc : l.length ≤ c) (hl : l.length ≤ 900000) :
    Calls Try.prog 12 #[.slice A l.length c, .int .i64 i] w (GetE w (getF l i)) := by
  have HG := Lib.hid (get_calls A c l i w h hb hc (by omega))
  obtain ⟨n, x, e, hg⟩ : ∃ n x e, getS l i = (n, x, e) := ⟨_, _, _, rfl⟩
  obtain ⟨r0, r1, r2, r3⟩ := getS_range l hb i
  obtain ⟨e0, e1⟩ := getS_err l i
  rw [hg] at HG r0 r1 r2 r3 e0 e1
  dsimp only at r0 r1 r2 r3 e0 e1
  unfold tri at HG
  dsimp only at HG
  by_cases he : e = 0
  · subst he
    have hi := getS_nonneg hg
    obtain ⟨i, rfl⟩ := Int.eq_ofNat_of_zero_le hi
    obtain ⟨p1, p2, _⟩ := put_back l hb i n x hg
    rw [getF_of l i n x hg]
    clear hg hi
    by_cases hn : 1048576 < n
    · rw [if_pos hn]
      clear h hb
      go_enter Try.func12, Try.ntmps12
      go_wp2_with (go_at_call 23; refine HG.out.mono ?_; rintro e w1 ⟨rfl, hb1⟩)
      go_ret3
      exact GetE.err _ _ _ hb1
    · rw [if_neg hn]
      have hw : IntKind.i64.wrap n = n := IntWalk.i64_in _ ⟨by omega, by omega⟩
      by_cases hs : (l.length : Int) - x < n + 4
      · rw [if_pos hs]
        clear h hb
        go_enter Try.func12, Try.ntmps12
        go_wp2_with (go_at_call 23; refine HG.out.mono ?_; rintro e w1 ⟨rfl, hb1⟩)
        go_ret3
        exact GetE.err _ _ _ hb1
      · rw [if_neg hs]
        obtain ⟨m, hm⟩ : ∃ m : Nat, n = m := Int.eq_ofNat_of_zero_le r0
        obtain ⟨y, hy⟩ : ∃ y : Nat, x = y := Int.eq_ofNat_of_zero_le r2
        have e5 : (x + n).toNat = y + m := by omega
        have e6 : (x + n - (i : Int)).toNat = y + m - i := by omega
        have e7 : x.toNat = y := by omega
        have e8 : n.toNat = m := by omega
        have ht := takeS_cut l i y m (by omega) (by omega)
        rw [e5, e6, e7, e8, Int.toNat_natCast]
        obtain ⟨A2, c2, hcut, hlies, hcc⟩ := cut_lh h hc i (y + m + 4 - i) (i : Int) (x + n + 4) rfl (by omega) (by omega)
        have hMl : ((l.drop i).take (y + m + 4 - i)).length = y + m + 4 - i := by rw [List.length_take, List.length_drop]; omega
        have HK := Lib.hid (fun (W : World) (hW : Below w.heap.size w W) => ctake_calls A2 c2 ((l.drop i).take (y + m + 4 - i)) W (hlies W hW) (fun z hz => hb z (List.mem_of_mem_drop (List.mem_of_mem_take hz))) (by omega) (by omega))
        rw [ht, hMl] at HK
        have HD := Lib.hid (show ((l.drop i).take (y + m - i)).drop (y - i) = (l.drop y).take m by rw [List.drop_take, List.drop_drop, show y + m - i - (y - i) = m by omega, show i + (y - i) = y by omega])
        have HPl := Lib.hid (show y - i ≤ ((l.drop i).take (y + m - i)).length by rw [List.length_take, List.length_drop]; omega)
        have HXI := Lib.hid (show x - (i : Int) = ((y - i : Nat) : Int) by omega)
        clear ht hMl h hb e5 e6 e7 e8 hlies hm hy
        obtain ⟨q, hq⟩ : ∃ q, q = y + m + 4 - i := ⟨_, rfl⟩
        rw [← hq] at hcut HK hcc
        have HQ := Lib.hid hq
        clear hq
        generalize (l.drop i).take (y + m - i) = P at *
        generalize (l.drop y).take m = D at *
        by_cases hsum : (l.drop (y + m)).take 4 = le4Z (sumZ P)
        · rw [if_pos hsum] at HK
          rw [if_pos hsum]
          clear hsum
          go_enter Try.func12, Try.ntmps12
          go_wp2_with (first
            | (go_at_call 23; refine HG.out.mono ?_; rintro e w1 ⟨rfl, hb1⟩)
            | (go_at_call 24; refine (HK.out _ hb1).mono ?_; rintro e w2 ⟨A3, c3, rfl, hown3, hb2⟩; dsimp only at hown3; obtain ⟨A4, c4, hcut4, hl4, hcc4, hf4⟩ := cut_l_from (OwnS.lies hown3) (OwnS.cap hown3) (y - i) (x - (i : Int)) HXI.out HPl.out (T5.own hown3); rw [HD.out] at hcut4 hl4 hcc4))
          go_ret3
          exact ⟨A4, c4, rfl, hl4 _ (Below.refl _ _), hcc4, hf4, Below.on hb1 hb2⟩
        · rw [if_neg hsum] at HK
          rw [if_neg hsum]
          clear hsum
          go_enter Try.func12, Try.ntmps12
          go_wp2_with (first
            | (go_at_call 23; refine HG.out.mono ?_; rintro e w1 ⟨rfl, hb1⟩)
            | (go_at_call 24; refine (HK.out _ hb1).mono ?_; rintro e w2 ⟨A3, c3, rfl, hown3, hb2⟩; dsimp only at hown3))
          go_ret3
          exact GetE.err _ _ _ (Below.on hb1 hb2)
  · rw [getF_err l i n x e hg he]
    have hne : (e == 0) = false := by simpa using he
    clear h hb hg he
    go_enter Try.func12, Try.ntmps12
    go_wp2_with (go_at_call 23; refine HG.out.mono ?_; rintro e w1 ⟨rfl, hb1⟩)
    go_ret3
    exact GetE.err _ _ _ hb1

end Go.Proofs.Ytikeebgclplphaa
