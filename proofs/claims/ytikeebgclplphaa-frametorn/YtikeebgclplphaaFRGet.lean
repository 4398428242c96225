/-
  The contract of the document Get of frames: the answer getF. Conditions: slices of at most 900,000 bytes, each from 0 to 255.
-/
import Derived.Test.YtikeebgclplphaaFGet
import Derived.Test.YtikeebgclplphaaInv
namespace Go.Proofs.Ytikeebgclplphaa
open Go.ChangeShapes Go.WideShapes Go.ChangeAt Go.RowKit
set_option linter.unusedVariables false

/-- What each slot of the region holds. -/
def VF (A : Option Addr) (c : Nat) (l H P M : List Int) (i : Nat) (z u : Int) (b : Bool) (d : Nat) (W : World) (v : Value) : Prop :=
  match d with
  | 36 | 43 => v = .slice A l.length c
  | 37 | 44 => v = .int .i64 (i : Int)
  | 38 | 45 => v = .int .i64 z
  | 39 => v = .int .i64 u
  | 40 => Holds W H v
  | 41 => Holds W P v
  | 42 => v = .string (str P)
  | 46 => Holds W M v
  | 47 => v = .string (str M)
  | 48 => v = .bool (!b)
  | _ => True
theorem VF.keep (A : Option Addr) (c : Nat) (l H P M : List Int) (i : Nat) (z u : Int) (b : Bool) (d : Nat) (W W' : World) (v : Value) (hb : Below W.heap.size W W') (h : VF A c l H P M i z u b d W v) : VF A c l H P M i z u b d W' v := by
  unfold VF at *
  split at h
  all_goals first | exact h | (obtain ⟨A, c, rfl, h⟩ := h; exact ⟨A, c, rfl, h.below hb⟩)

theorem sum_whole (l : List Int) (i p : Nat) (E : List Int) (hp : i + p + 4 ≤ l.length) :
    ((l.drop (i + p)).take 4 = E) = ((l.drop i).take p ++ E = (l.drop i).take (p + 4)) := by
  have e : (l.drop i).take (p + 4) = (l.drop i).take p ++ (l.drop (i + p)).take 4 := by rw [List.take_add, List.drop_drop]
  rw [e]
  apply propext
  constructor
  · rintro rfl; rfl
  · intro h; exact (List.append_cancel_left h).symm

set_option maxRecDepth 100000 in
set_option maxHeartbeats 4000000 in
theorem rfget_calls (A : Option Addr) (c : Nat) (l : List Int) (i : Int) (w0 w : World) (h : Lies w0 A c l) (h0 : Below w0.heap.size w0 w) (hb : IsB l) (hc : l.length ≤ c) (hl : l.length ≤ 900000) :
    Calls Try.prog 13 #[.slice A l.length c, .int .i64 i] w (GetR w0 w (getF l i)) := by
  have HG := Lib.hid (rget_calls A c l i w (h.below h0) hb hc (by omega))
  obtain ⟨n, x, e, hg⟩ : ∃ n x e, getS l i = (n, x, e) := ⟨_, _, _, rfl⟩
  obtain ⟨r0, r1, r2, r3⟩ := getS_range l hb i
  obtain ⟨e0, e1⟩ := getS_err l i
  rw [hg] at HG r0 r1 r2 r3 e0 e1
  dsimp only at r0 r1 r2 r3 e0 e1
  unfold tri at HG
  dsimp only at HG
  by_cases he : e = 0
  · subst he
    have hi := getS_nonneg hg
    obtain ⟨i, rfl⟩ := Int.eq_ofNat_of_zero_le hi
    obtain ⟨p1, p2, _⟩ := put_back l hb i n x hg
    rw [getF_of l i n x hg]
    clear hg hi
    by_cases hn : 1048576 < n
    · rw [if_pos hn]
      clear h hb
      go_enter Try.func13, Try.ntmps13
      go_wp2_with (go_at_call 25; refine HG.out.mono ?_; rintro e w1 ⟨rfl, hb1⟩)
      go_ret3
      exact GetR.err _ _ _ _ hb1
    · rw [if_neg hn]
      have hw : IntKind.i64.wrap n = n := IntWalk.i64_in _ ⟨by omega, by omega⟩
      by_cases hs : (l.length : Int) - x < n + 4
      · rw [if_pos hs]
        clear h hb
        go_enter Try.func13, Try.ntmps13
        go_wp2_with (go_at_call 25; refine HG.out.mono ?_; rintro e w1 ⟨rfl, hb1⟩)
        go_ret3
        exact GetR.err _ _ _ _ hb1
      · rw [if_neg hs]
        obtain ⟨m, hm⟩ : ∃ m : Nat, n = m := Int.eq_ofNat_of_zero_le r0
        obtain ⟨y, hy⟩ : ∃ y : Nat, x = y := Int.eq_ofNat_of_zero_le r2
        obtain ⟨p, hp⟩ : ∃ p : Nat, i + p = y + m := ⟨y + m - i, by omega⟩
        have e5 : (x + n).toNat = i + p := by omega
        have e6 : (x + n - (i : Int)).toNat = p := by omega
        have e7 : x.toNat = y := by omega
        have e8 : n.toNat = m := by omega
        rw [e5, e6, e7, e8, Int.toNat_natCast]
        simp only [sum_whole l i p (le4Z (sumZ ((l.drop i).take p))) (by omega)]
        have hHl : ((l.drop i).take p).length = p := by rw [List.length_take, List.length_drop]; omega
        have hMl : ((l.drop i).take (p + 4)).length = p + 4 := by rw [List.length_take, List.length_drop]; omega
        have hDl : ((l.drop y).take m).length = m := by rw [List.length_take, List.length_drop]; omega
        obtain ⟨X40, C40, hcut40, hcl40, _⟩ := cut_lh h hc i p (i : Int) (x + n) rfl (by omega) (by omega)
        obtain ⟨X46, C46, hcut46, hcl46, _⟩ := cut_lh h hc i (p + 4) (i : Int) (x + n + 4) rfl (by omega) (by omega)
        obtain ⟨X53, C53, hcut53, hcl53, hcc53⟩ := cut_lh h hc y m x (x + n) (by omega) (by omega) (by omega)
        replace hcut40 := fun W => (hcut40 W).trans (by rw [← hHl])
        replace hcut46 := fun W => (hcut46 W).trans (by rw [← hMl])
        replace hcut53 := fun W => (hcut53 W).trans (by rw [← hDl])
        rw [← hDl] at hcc53
        have hbH : IsB ((l.drop i).take p) := fun z hz => hb z (List.mem_of_mem_drop (List.mem_of_mem_take hz))
        have hbM : IsB ((l.drop i).take (p + 4)) := fun z hz => hb z (List.mem_of_mem_drop (List.mem_of_mem_take hz))
        have HP := Lib.hid (fun (A' : Option Addr) (c' : Nat) (W : World) (h' : Lies W A' c' ((l.drop i).take p)) => crput_calls A' c' ((l.drop i).take p) W h' hbH (by omega))
        have hS := str_eq_iff (hbH.append (le4Z_isB (sumZ ((l.drop i).take p)))) hbM
        clear e5 e6 e7 e8 hHl hMl hDl hbH hbM hm hy hp
        replace hcl40 := Lib.hid hcl40
        replace hcl46 := Lib.hid hcl46
        replace hcl53 := Lib.hid hcl53
        generalize (l.drop i).take p ++ le4Z (sumZ ((l.drop i).take p)) = P at *
        generalize (l.drop i).take p = H at *
        generalize (l.drop i).take (p + 4) = M at *
        generalize (l.drop y).take m = D at *
        obtain ⟨R, hR⟩ : ∃ R, R = if P = M then (D, x + n + 4, (0 : Int)) else ([], 0, 4) := ⟨_, rfl⟩
        rw [← hR]
        have HE := Lib.hid hR
        clear hR
        have hwx : IntKind.i64.wrap (x + n) = x + n := IntWalk.i64_in _ ⟨by omega, by omega⟩
        have hnx : wrap64 (x + n) = x + n := by unfold wrap64; omega
        have hnx4 : wrap64 (x + n + 4) = x + n + 4 := by unfold wrap64; omega
        obtain ⟨b, hbe⟩ : ∃ b, b = decide (P = M) := ⟨_, rfl⟩
        rw [← hbe] at hS
        have HBE := Lib.hid hbe
        have HS := Lib.hid hS
        clear h hb hbe hS
        go_enter Try.func13, Try.ntmps13
        go_wp2_with (go_at_call 25; refine HG.out.mono ?_; rintro e w1 ⟨rfl, hb1⟩)
        refine wp_region_inv (by kernel_rfl) (fun W => Below w.heap.size w W) (fun W W' => Below W.heap.size W W') (VF A c l H P M i (x + n + 4) (x + n) b) [[], [], [], [38], [36, 37, 39], [40], [41], [], [], [], [43, 44, 45], [46], [42, 47]] (by kernel_rfl) (fun W => Below.refl _ _) (fun d W W' v => VF.keep A c l H P M i (x + n + 4) (x + n) b d W W' v) hb1.drew ?_ ?_
        · refine ⟨?_, ?_, ?_, ?_, ?_, ?_, ?_, ?_, ?_, ?_, ?_, ?_, ?_, trivial⟩
          · intro a W hI hsame ht
            have h0 := hsame 0 (by decide)
            change a.tmps.getD 0 undef = .slice A l.length c at h0
            rw [if_pos (by rfl)]
            clear hsame
            unfold Oper.wp
            go_simp
            exact ⟨_, rfl, hI, Below.refl _ _, fun d hd => by cases hd; exact rfl⟩
          · intro a W hI hsame ht
            have h1 := hsame 1 (by decide)
            change a.tmps.getD 1 undef = .int .i64 (i : Int) at h1
            rw [if_pos (by rfl)]
            clear hsame
            unfold Oper.wp
            go_simp
            exact ⟨_, rfl, hI, Below.refl _ _, fun d hd => by cases hd; exact rfl⟩
          · intro a W hI hsame ht
            have h10 := hsame 10 (by decide)
            change a.tmps.getD 10 undef = .int .i64 (x + n + 4) at h10
            rw [if_pos (by rfl)]
            clear hsame
            unfold Oper.wp
            go_simp
            exact ⟨_, rfl, hI, Below.refl _ _, fun d hd => by cases hd; exact rfl⟩
          · intro a W hI hsame ht
            obtain ⟨h38, _⟩ := ht
            change a.tmps.getD 38 undef = .int .i64 (x + n + 4) at h38
            rw [if_pos (by rfl)]
            clear hsame
            unfold Oper.wp
            go_simp
            exact ⟨_, rfl, hI, Below.refl _ _, fun d hd => by cases hd; exact rfl⟩
          · intro a W hI hsame ht
            obtain ⟨h36, h37, h39, _⟩ := ht
            change a.tmps.getD 36 undef = .slice A l.length c at h36
            change a.tmps.getD 37 undef = .int .i64 (i : Int) at h37
            change a.tmps.getD 39 undef = .int .i64 (x + n) at h39
            rw [if_pos (by rfl)]
            clear hsame
            unfold Oper.wp
            go_simp
            exact ⟨_, rfl, hI, Below.refl _ _, fun d hd => by cases hd; exact ⟨_, _, rfl, hcl40.out W (Below.on h0 hI)⟩⟩
          · intro a W hI hsame ht
            obtain ⟨⟨A40, c40, h40, hL40⟩, _⟩ := ht
            rw [if_pos (by rfl)]
            clear hsame
            unfold Oper.wp
            go_simp
            refine (HP.out _ _ W hL40).mono ?_
            rintro e' W' ⟨A, c, rfl, hown, hb⟩
            exact ⟨_, rfl, Below.on hI hb, hb, fun d hd => by cases hd; exact ⟨A, c, rfl, Lies.of_own hown⟩⟩
          · intro a W hI hsame ht
            obtain ⟨⟨A41, c41, h41, hL41⟩, _⟩ := ht
            rw [if_pos (by rfl)]
            clear hsame
            have hs := run_str hL41
            unfold Oper.wp
            go_simp
            exact ⟨_, rfl, hI, Below.refl _ _, fun d hd => by cases hd; exact rfl⟩
          · intro a W hI hsame ht
            have h0 := hsame 0 (by decide)
            change a.tmps.getD 0 undef = .slice A l.length c at h0
            rw [if_pos (by rfl)]
            clear hsame
            unfold Oper.wp
            go_simp
            exact ⟨_, rfl, hI, Below.refl _ _, fun d hd => by cases hd; exact rfl⟩
          · intro a W hI hsame ht
            have h1 := hsame 1 (by decide)
            change a.tmps.getD 1 undef = .int .i64 (i : Int) at h1
            rw [if_pos (by rfl)]
            clear hsame
            unfold Oper.wp
            go_simp
            exact ⟨_, rfl, hI, Below.refl _ _, fun d hd => by cases hd; exact rfl⟩
          · intro a W hI hsame ht
            have h10 := hsame 10 (by decide)
            change a.tmps.getD 10 undef = .int .i64 (x + n + 4) at h10
            rw [if_pos (by rfl)]
            clear hsame
            unfold Oper.wp
            go_simp
            exact ⟨_, rfl, hI, Below.refl _ _, fun d hd => by cases hd; exact rfl⟩
          · intro a W hI hsame ht
            obtain ⟨h43, h44, h45, _⟩ := ht
            change a.tmps.getD 43 undef = .slice A l.length c at h43
            change a.tmps.getD 44 undef = .int .i64 (i : Int) at h44
            change a.tmps.getD 45 undef = .int .i64 (x + n + 4) at h45
            rw [if_pos (by rfl)]
            clear hsame
            unfold Oper.wp
            go_simp
            exact ⟨_, rfl, hI, Below.refl _ _, fun d hd => by cases hd; exact ⟨_, _, rfl, hcl46.out W (Below.on h0 hI)⟩⟩
          · intro a W hI hsame ht
            obtain ⟨⟨A46, c46, h46, hL46⟩, _⟩ := ht
            rw [if_pos (by rfl)]
            clear hsame
            have hs := run_str hL46
            unfold Oper.wp
            go_simp
            exact ⟨_, rfl, hI, Below.refl _ _, fun d hd => by cases hd; exact rfl⟩
          · intro a W hI hsame ht
            obtain ⟨h42, h47, _⟩ := ht
            change a.tmps.getD 42 undef = .string (str P) at h42
            change a.tmps.getD 47 undef = .string (str M) at h47
            rw [if_pos (by rfl)]
            clear hsame
            unfold Oper.wp
            go_simp
            exact ⟨_, rfl, hI, Below.refl _ _, fun d hd => by cases hd; exact congrArg Value.bool (bne_of HS.out)⟩
        · intro a W hI hsz hdef hsame hall
          have h36 := hall 36 (by decide)
          change a.tmps.getD 36 undef = .slice A l.length c at h36
          have h37 := hall 37 (by decide)
          change a.tmps.getD 37 undef = .int .i64 (i : Int) at h37
          have h38 := hall 38 (by decide)
          change a.tmps.getD 38 undef = .int .i64 (x + n + 4) at h38
          have h39 := hall 39 (by decide)
          change a.tmps.getD 39 undef = .int .i64 (x + n) at h39
          obtain ⟨A40, c40, h40, hL40⟩ := hall 40 (by decide)
          obtain ⟨A41, c41, h41, hL41⟩ := hall 41 (by decide)
          have h42 := hall 42 (by decide)
          change a.tmps.getD 42 undef = .string (str P) at h42
          have h43 := hall 43 (by decide)
          change a.tmps.getD 43 undef = .slice A l.length c at h43
          have h44 := hall 44 (by decide)
          change a.tmps.getD 44 undef = .int .i64 (i : Int) at h44
          have h45 := hall 45 (by decide)
          change a.tmps.getD 45 undef = .int .i64 (x + n + 4) at h45
          obtain ⟨A46, c46, h46, hL46⟩ := hall 46 (by decide)
          have h47 := hall 47 (by decide)
          change a.tmps.getD 47 undef = .string (str M) at h47
          have h48 := hall 48 (by decide)
          change a.tmps.getD 48 undef = .bool (!b) at h48
          have hact := act_of (l := [_, _, _, _, _, _, _, _, _, _, _, _, _, _, _, _, _, _, _, _, _, _, _, _, _, _, _, _, _, _, _, _, _, _, _, _, _, _, _, _, _, _, _, _, _, _, _, _, _, _, _, _, _, _, _]) (ds := []) (by exact hsz) hdef ⟨hsame 0 (by decide), hsame 1 (by decide), hsame 2 (by decide), hsame 3 (by decide), hsame 4 (by decide), hsame 5 (by decide), hsame 6 (by decide), hsame 7 (by decide), hsame 8 (by decide), hsame 9 (by decide), hsame 10 (by decide), hsame 11 (by decide), hsame 12 (by decide), hsame 13 (by decide), hsame 14 (by decide), hsame 15 (by decide), hsame 16 (by decide), hsame 17 (by decide), hsame 18 (by decide), hsame 19 (by decide), hsame 20 (by decide), hsame 21 (by decide), hsame 22 (by decide), hsame 23 (by decide), hsame 24 (by decide), hsame 25 (by decide), hsame 26 (by decide), hsame 27 (by decide), hsame 28 (by decide), hsame 29 (by decide), hsame 30 (by decide), hsame 31 (by decide), hsame 32 (by decide), hsame 33 (by decide), hsame 34 (by decide), hsame 35 (by decide), h36, h37, h38, h39, h40, h41, h42, h43, h44, h45, h46, h47, h48, hsame 49 (by decide), hsame 50 (by decide), hsame 51 (by decide), hsame 52 (by decide), hsame 53 (by decide), hsame 54 (by decide), trivial⟩
          clear hall hsame hsz hdef h36 h37 h38 h39 h40 h41 h42 h43 h44 h45 h46 h47 h48
          subst hact
          cases b
          · have hne : ¬ P = M := by have := HBE.out; simpa using this
            have HNE := Lib.hid hne
            clear hne
            go_wp2
            go_ret3
            rw [HE.out, if_neg HNE.out]
            exact GetR.err _ _ _ _ hI
          · have heq : P = M := by have := HBE.out; simpa using this
            have HEQ := Lib.hid heq
            clear heq
            go_wp2
            go_ret3
            rw [HE.out, if_pos HEQ.out]
            exact ⟨X53, C53, rfl, hcl53.out w0 (Below.refl _ _), hcc53, hI⟩
  · rw [getF_err l i n x e hg he]
    have hne : (e == 0) = false := by simpa using he
    clear h hb hg he
    go_enter Try.func13, Try.ntmps13
    go_wp2_with (go_at_call 25; refine HG.out.mono ?_; rintro e w1 ⟨rfl, hb1⟩)
    go_ret3
    exact GetR.err _ _ _ _ hb1
end Go.Proofs.Ytikeebgclplphaa
