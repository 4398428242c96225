/-
  Contracts of crc.Take and of the document Take: each returns the bytes ahead of a right checksum, or the error. Conditions: slices of at most a million bytes, each from 0 to 255.
-/
import Derived.Test.YtikeebgclplphaaCPut
import Derived.Test.YtikeebgclplphaaStd
import Derived.Test.YtikeebgclplphaaCut
import Derived.Test.YtikeebgclplphaaInv
namespace Go.Proofs.Ytikeebgclplphaa
open Go.ChangeShapes Go.WideShapes Go.ChangeAt Go.RowKit
set_option linter.unusedVariables false

/-- What Take answers: the bytes and the error. -/
def takeS (l : List Int) : List Int × Int :=
  if l.length < 4 then ([], 2)
  else if l.drop (l.length - 4) = le4Z (sumZ (l.take (l.length - 4))) then (l.take (l.length - 4), 0) else ([], 4)



/-- What each slot of the region holds. -/
def VT (A : Option Addr) (c : Nat) (l T H E : List Int) (n : Nat) (s : Int) (b : Bool) (d : Nat) (W : World) (v : Value) : Prop :=
  match d with
  | 10 | 13 => v = .slice A l.length c
  | 11 | 14 => v = .int .i64 (n : Int)
  | 12 => Holds W T v
  | 15 => Holds W H v
  | 16 => v = .int .u32 s
  | 17 => Holds W E v
  | 18 => v = .bool b
  | 19 => v = .bool (!b)
  | _ => True
theorem VT.keep (A : Option Addr) (c : Nat) (l T H E : List Int) (n : Nat) (s : Int) (b : Bool) (d : Nat) (W W' : World) (v : Value) (hb : Below W.heap.size W W') (h : VT A c l T H E n s b d W v) : VT A c l T H E n s b d W' v := by
  unfold VT at *
  split at h
  all_goals first | exact h | (obtain ⟨A, c, rfl, h⟩ := h; exact ⟨A, c, rfl, h.below hb⟩)

theorem le4Z_isB (s : Int) : IsB (le4Z s) := by
  intro x hx
  simp [le4Z] at hx
  omega

set_option maxRecDepth 100000 in
set_option maxHeartbeats 4000000 in
theorem ctake_calls (A : Option Addr) (c : Nat) (l : List Int) (w : World) (h : Lies w A c l) (hb : IsB l) (hc : l.length ≤ c) (hl : l.length ≤ 1000000) :
    Calls Try.prog 24 #[.slice A l.length c] w (OwnE w.heap.size w (takeS l)) := by
  by_cases h4 : l.length < 4
  · have e : takeS l = ([], 2) := by unfold takeS; rw [if_pos h4]
    rw [e]
    clear h hb
    go_enter Try.func24, Try.ntmps24
    go_wp2
    go_ret2
    exact ⟨none, 0, rfl, OwnS.nil _ _, Below.refl _ _⟩
  · obtain ⟨n, hn⟩ : ∃ n, l.length = n + 4 := ⟨l.length - 4, by omega⟩
    have e : takeS l = if l.drop n = le4Z (sumZ (l.take n)) then (l.take n, 0) else ([], 4) := by unfold takeS; rw [if_neg h4, show l.length - 4 = n by omega]
    have hbT : IsB (l.drop n) := fun x hx => hb x (List.mem_of_mem_drop hx)
    have hbH : IsB (l.take n) := fun x hx => hb x (List.mem_of_mem_take hx)
    have hlH : (l.take n).length ≤ 1000000 := by rw [List.length_take]; omega
    obtain ⟨s0, s1⟩ := sumZ_range _ hbH
    obtain ⟨X12, C12, hcut12, hcl12, _⟩ := cut_l h hc n (n : Int) rfl (by omega)
    obtain ⟨X15, C15, hcut15, hcl15, _⟩ := cut_h h hc n (n : Int) rfl (by omega)
    have HE := Lib.hid e
    have HN := Lib.hid hn
    have hlen : (l.length : Int) - 4 = n := by omega
    have HK := Lib.hid (fun (A' : Option Addr) (c' : Nat) (W : World) (h' : Lies W A' c' (l.take n)) => clone_calls A' c' (l.take n) W h' hlH)
    have HO := Lib.hid (fun (A' : Option Addr) (c' : Nat) (W : World) (h' : Lies W A' c' (l.take n)) => of_calls A' c' (l.take n) W h' hbH hlH)
    generalize sumZ (l.take n) = s at *
    have HW := Lib.hid (fun (W : World) => written_calls s W s0 s1)
    have HQ := Lib.hid (fun (A' B' : Option Addr) (c' d' : Nat) (W : World) (h1 : Lies W A' c' (l.drop n)) (h2 : Lies W B' d' (le4Z s)) => equal_calls A' B' c' d' (l.drop n) (le4Z s) W h1 h2 hbT (le4Z_isB s))
    generalize le4Z s = E at *
    generalize l.take n = H at *
    generalize l.drop n = T at *
    obtain ⟨b, hbe⟩ : ∃ b, b = decide (T = E) := ⟨_, rfl⟩
    rw [← hbe] at HQ
    have HBE := Lib.hid hbe
    clear e hn h hb hbe hbT hbH
    go_enter Try.func24, Try.ntmps24
    go_wp2_with fail
    refine wp_region_inv (by kernel_rfl) (fun W => Below w.heap.size w W) (fun W W' => Below W.heap.size W W') (VT A c l T H E n s b) [[], [], [10, 11], [], [], [13, 14], [15], [16], [12, 17], [18]] (by kernel_rfl) (fun W => Below.refl _ _) (fun d W W' v => VT.keep A c l T H E n s b d W W' v) (Below.refl _ _).drew ?_ ?_
    · refine ⟨?_, ?_, ?_, ?_, ?_, ?_, ?_, ?_, ?_, ?_, trivial⟩
      · intro a W hI hsame ht
        have h0 := hsame 0 (by decide)
        change a.tmps.getD 0 undef = .slice A l.length c at h0
        rw [if_pos (by rfl)]
        clear hsame
        unfold Oper.wp
        go_simp
        exact ⟨_, rfl, hI, Below.refl _ _, fun d hd => by cases hd; exact rfl⟩
      · intro a W hI hsame ht
        have h4 := hsame 4 (by decide)
        change a.tmps.getD 4 undef = .int .i64 (n : Int) at h4
        rw [if_pos (by rfl)]
        clear hsame
        unfold Oper.wp
        go_simp
        exact ⟨_, rfl, hI, Below.refl _ _, fun d hd => by cases hd; exact rfl⟩
      · intro a W hI hsame ht
        obtain ⟨h10, h11, _⟩ := ht
        change a.tmps.getD 10 undef = .slice A l.length c at h10
        change a.tmps.getD 11 undef = .int .i64 (n : Int) at h11
        rw [if_pos (by rfl)]
        clear hsame
        unfold Oper.wp
        go_simp
        exact ⟨_, rfl, hI, Below.refl _ _, fun d hd => by cases hd; exact ⟨_, _, rfl, hcl12 W hI⟩⟩
      · intro a W hI hsame ht
        have h0 := hsame 0 (by decide)
        change a.tmps.getD 0 undef = .slice A l.length c at h0
        rw [if_pos (by rfl)]
        clear hsame
        unfold Oper.wp
        go_simp
        exact ⟨_, rfl, hI, Below.refl _ _, fun d hd => by cases hd; exact rfl⟩
      · intro a W hI hsame ht
        have h4 := hsame 4 (by decide)
        change a.tmps.getD 4 undef = .int .i64 (n : Int) at h4
        rw [if_pos (by rfl)]
        clear hsame
        unfold Oper.wp
        go_simp
        exact ⟨_, rfl, hI, Below.refl _ _, fun d hd => by cases hd; exact rfl⟩
      · intro a W hI hsame ht
        obtain ⟨h13, h14, _⟩ := ht
        change a.tmps.getD 13 undef = .slice A l.length c at h13
        change a.tmps.getD 14 undef = .int .i64 (n : Int) at h14
        rw [if_pos (by rfl)]
        clear hsame
        unfold Oper.wp
        go_simp
        exact ⟨_, rfl, hI, Below.refl _ _, fun d hd => by cases hd; exact ⟨_, _, rfl, hcl15 W hI⟩⟩
      · intro a W hI hsame ht
        obtain ⟨⟨A15, c15, h15, hL15⟩, _⟩ := ht
        rw [if_pos (by rfl)]
        clear hsame
        unfold Oper.wp
        go_simp
        refine (HO.out _ _ W hL15).mono ?_
        rintro e' W' ⟨rfl, hb⟩
        exact ⟨_, rfl, Below.on hI hb, hb, fun d hd => by cases hd; exact rfl⟩
      · intro a W hI hsame ht
        obtain ⟨h16, _⟩ := ht
        change a.tmps.getD 16 undef = .int .u32 s at h16
        rw [if_pos (by rfl)]
        clear hsame
        unfold Oper.wp
        go_simp
        refine (HW.out W).mono ?_
        rintro e' W' ⟨A, c, rfl, hown, hb⟩
        exact ⟨_, rfl, Below.on hI hb, hb, fun d hd => by cases hd; exact ⟨A, c, rfl, Lies.of_own hown⟩⟩
      · intro a W hI hsame ht
        obtain ⟨⟨A12, c12, h12, hL12⟩, ⟨A17, c17, h17, hL17⟩, _⟩ := ht
        rw [if_pos (by rfl)]
        clear hsame
        unfold Oper.wp
        go_simp
        refine (HQ.out _ _ _ _ W hL12 hL17).mono ?_
        rintro e' W' ⟨rfl, rfl⟩
        exact ⟨_, rfl, hI, Below.refl _ _, fun d hd => by cases hd; exact rfl⟩
      · intro a W hI hsame ht
        obtain ⟨h18, _⟩ := ht
        change a.tmps.getD 18 undef = .bool b at h18
        rw [if_pos (by rfl)]
        clear hsame
        unfold Oper.wp
        go_simp
        exact ⟨_, rfl, hI, Below.refl _ _, fun d hd => by cases hd; exact rfl⟩
    · intro a W hI hsz hdef hsame hall
      have h10 := hall 10 (by decide)
      change a.tmps.getD 10 undef = .slice A l.length c at h10
      have h11 := hall 11 (by decide)
      change a.tmps.getD 11 undef = .int .i64 (n : Int) at h11
      obtain ⟨A12, c12, h12, hL12⟩ := hall 12 (by decide)
      have h13 := hall 13 (by decide)
      change a.tmps.getD 13 undef = .slice A l.length c at h13
      have h14 := hall 14 (by decide)
      change a.tmps.getD 14 undef = .int .i64 (n : Int) at h14
      obtain ⟨A15, c15, h15, hL15⟩ := hall 15 (by decide)
      have h16 := hall 16 (by decide)
      change a.tmps.getD 16 undef = .int .u32 s at h16
      obtain ⟨A17, c17, h17, hL17⟩ := hall 17 (by decide)
      have h18 := hall 18 (by decide)
      change a.tmps.getD 18 undef = .bool b at h18
      have h19 := hall 19 (by decide)
      change a.tmps.getD 19 undef = .bool (!b) at h19
      have hact := act_of (l := [_, _, _, _, _, _, _, _, _, _, _, _, _, _, _, _, _, _, _, _, _, _, _, _]) (ds := []) (by exact hsz) hdef ⟨hsame 0 (by decide), hsame 1 (by decide), hsame 2 (by decide), hsame 3 (by decide), hsame 4 (by decide), hsame 5 (by decide), hsame 6 (by decide), hsame 7 (by decide), hsame 8 (by decide), hsame 9 (by decide), h10, h11, h12, h13, h14, h15, h16, h17, h18, h19, hsame 20 (by decide), hsame 21 (by decide), hsame 22 (by decide), hsame 23 (by decide), trivial⟩
      clear hall hsame hsz hdef h10 h11 h12 h13 h14 h15 h16 h17 h18 h19
      subst hact
      have hb := hI
      cases b
      · have hne : ¬ T = E := by have := HBE.out; simpa using this
        go_wp2
        go_ret2
        rw [HE.out, if_neg hne]
        exact ⟨none, 0, rfl, OwnS.nil _ _, hI⟩
      · have heq : T = E := by have := HBE.out; simpa using this
        have HEQ := Lib.hid heq
        clear heq
        go_wp2_with fail
        refine (HK.out _ _ W (hcl15 W hI)).mono ?_
        rintro e w5 ⟨A5, c5, rfl, hown5, hb5⟩
        go_wp2
        go_ret2
        rw [HE.out, if_pos HEQ.out]
        exact ⟨A5, c5, rfl, OwnS.mono hown5 hI.size, Below.on hI hb5⟩
/-- What each slot of the region holds. -/
def VR (A : Option Addr) (c : Nat) (l H P : List Int) (n : Nat) (b : Bool) (d : Nat) (W : World) (v : Value) : Prop :=
  match d with
  | 7 | 8 | 14 => v = .slice A l.length c
  | 9 => v = .int .i64 (l.length : Int)
  | 10 => v = .int .i64 (n : Int)
  | 11 => Holds W H v
  | 12 => Holds W P v
  | 13 => v = .string (str P)
  | 15 => v = .string (str l)
  | 16 => v = .bool (!b)
  | _ => True
theorem VR.keep (A : Option Addr) (c : Nat) (l H P : List Int) (n : Nat) (b : Bool) (d : Nat) (W W' : World) (v : Value) (hb : Below W.heap.size W W') (h : VR A c l H P n b d W v) : VR A c l H P n b d W' v := by
  unfold VR at *
  split at h
  all_goals first | exact h | (obtain ⟨A, c, rfl, h⟩ := h; exact ⟨A, c, rfl, h.below hb⟩)


end Go.Proofs.Ytikeebgclplphaa
