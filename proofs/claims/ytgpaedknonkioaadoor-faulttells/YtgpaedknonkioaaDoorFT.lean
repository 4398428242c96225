/-
  The contract of the document's Tell. Conditions: an error of at most a million bytes of text, or none.
-/
import Derived.Test.YtgpaedknonkioaaDoorFA
import Derived.Test.YtgpaedknonkioaaDoorFN
import Derived.Test.YtgpaedknonkioaaDoorInv
namespace Go.Proofs.YtgpaedknonkioaaDoor
open Go.ChangeShapes Go.WideShapes Go.ChangeAt Go.RowKit
set_option linter.unusedVariables false

def TellOf (w : World) (s : ByteArray) (e : Ending) (w' : World) : Prop := e = .returned (.string s) ∧ Below w.heap.size w w'

theorem rtell_none (n m : Int) (s : ByteArray) (A : Option Addr) (l c : Nat) (w : World) : Calls Tryd.prog 12 #[.agg #[.int .i64 0, .int .i64 n, .string s, .int .i64 m, .slice A l c]] w (TellOf w ⟨#[111, 107]⟩) := by
  go_enter Tryd.func12, Tryd.ntmps12
  go_wp2
  go_ret
  exact ⟨rfl, (Below.refl _ _).alloc (Nat.le_refl _) _⟩
theorem rtell_num (n m : Int) (hn : I64 n) (s : ByteArray) (A : Option Addr) (l c : Nat) (w : World) : Calls Tryd.prog 12 #[.agg #[.int .i64 1, .int .i64 n, .string s, .int .i64 m, .slice A l c]] w (TellOf w (⟨#[101, 114, 114, 111, 114, 32]⟩ ++ str (num10 n))) := by
  have HN := Lib.hid (number_calls n hn)
  have hz : (str (num10 n)).size ≤ 21 := by rw [str_size]; exact num10_len hn
  generalize str (num10 n) = N at *
  have hz1 : ¬ 9223372036854775807 < 6 + N.size := by omega
  clear hn
  go_enter Tryd.func12, Tryd.ntmps12
  go_wp2_with (go_at_call 28; refine (HN.out _).mono ?_; rintro e w1 ⟨rfl, rfl⟩)
  go_ret
  exact ⟨rfl, (Below.refl _ _).alloc (Nat.le_refl _) _⟩

/-- What each slot of the region holds. -/
def VT (g q c : Nat) (s N T : ByteArray) (no : Int) (x0 x1 x2 x3 x4 : Value) (d : Nat) (W : World) (v : Value) : Prop :=
  match d with
  | 13 => v = .pointer (some ⟨g, 2, none⟩)
  | 14 => v = .string s
  | 15 => v = .string (s ++ ⟨#[32]⟩)
  | 16 => v = .pointer (some ⟨g, 3, none⟩)
  | 17 => v = .int .i64 no
  | 18 => v = .string N
  | 19 => v = .string (s ++ ⟨#[32]⟩ ++ N)
  | 20 => v = .string (s ++ ⟨#[32]⟩ ++ N ++ ⟨#[58, 32]⟩)
  | 21 => v = .pointer (some ⟨g, 4, none⟩)
  | 22 => v = .slice (some ⟨q, 0, none⟩) 1 c
  | 23 => v = .pointer (some ⟨q, 0, none⟩)
  | 24 => v = .agg #[x0, x1, x2, x3, x4]
  | 25 => v = .string T
  | 26 | 2 => v = .string (s ++ ⟨#[32]⟩ ++ N ++ ⟨#[58, 32]⟩ ++ T)
  | _ => True
theorem VT.keep (g q c : Nat) (s N T : ByteArray) (no : Int) (x0 x1 x2 x3 x4 : Value) (d : Nat) (W W' : World) (v : Value) (hb : Below W.heap.size W W') (h : VT g q c s N T no x0 x1 x2 x3 x4 d W v) : VT g q c s N T no x0 x1 x2 x3 x4 d W' v := h

set_option maxRecDepth 100000 in
set_option maxHeartbeats 4000000 in
theorem rtell_stage (n no : Int) (hno : I64 no) (s T : ByteArray) (x0 x1 x2 x3 x4 : Value) (q c : Nat) (w : World) (hs : s.size ≤ 10000000) (hT : T.size ≤ 10000000)
    (hat : At w q 0 x0 x1 x2 x3 x4)
    (HC : Hid (∀ W, Below w.heap.size w W → Calls Tryd.prog 12 #[.agg #[x0, x1, x2, x3, x4]] W (TellOf W T))) :
    Calls Tryd.prog 12 #[.agg #[.int .i64 2, .int .i64 n, .string s, .int .i64 no, .slice (some ⟨q, 0, none⟩) 1 c]] w (TellOf w (s ++ ⟨#[32]⟩ ++ str (num10 no) ++ ⟨#[58, 32]⟩ ++ T)) := by
  have hd : Below w.heap.size w (w.alloc (.cells #[.int .i64 2, .int .i64 n, .string s, .int .i64 no, .slice (some ⟨q, 0, none⟩) 1 c] 29)) := (Below.refl _ _).alloc (Nat.le_refl _) _
  have HB := Lib.hid (Blk.new w #[.int .i64 2, .int .i64 n, .string s, .int .i64 no, .slice (some ⟨q, 0, none⟩) 1 c] 29)
  have HAt := Lib.hid (hat.below hd)
  have HN := Lib.hid (number_calls no hno)
  have HT := Lib.hid (fun (W : World) (hW : Below (w.alloc (.cells #[.int .i64 2, .int .i64 n, .string s, .int .i64 no, .slice (some ⟨q, 0, none⟩) 1 c] 29)).heap.size (w.alloc (.cells #[.int .i64 2, .int .i64 n, .string s, .int .i64 no, .slice (some ⟨q, 0, none⟩) 1 c] 29)) W) => HC.out W (Below.on hd hW))
  have hz : (str (num10 no)).size ≤ 21 := by rw [str_size]; exact num10_len hno
  generalize str (num10 no) = N at *
  have z1 : ¬ 9223372036854775807 < s.size + 1 := by omega
  have z2 : ¬ 9223372036854775807 < s.size + 1 + N.size := by omega
  have z3 : ¬ 9223372036854775807 < s.size + 1 + N.size + 2 := by omega
  have z4 : ¬ 9223372036854775807 < s.size + 1 + N.size + 2 + T.size := by omega
  clear hno hat HC hs hT hz
  go_enter Tryd.func12, Tryd.ntmps12
  go_wp2_with fail
  generalize hW1 : w.alloc (.cells #[.int .i64 2, .int .i64 n, .string s, .int .i64 no, .slice (some ⟨q, 0, none⟩) 1 c] 29) = w1 at *
  generalize hg : w.heap.size = g at *
  have hd2 : Below w.heap.size w w1 := by rw [hg]; exact hd
  refine wp_region_inv (by kernel_rfl) (fun W => Below w1.heap.size w1 W) (fun W W' => Below W.heap.size W W') (VT g q c s N T no x0 x1 x2 x3 x4) [[], [13], [14], [], [16], [17], [15, 18], [19], [], [21], [22], [23], [24], [20, 25], [26]] (by kernel_rfl) (fun W => Below.refl _ _) (fun d W W' v => VT.keep g q c s N T no x0 x1 x2 x3 x4 d W W' v) (Below.refl _ _).drew ?_ ?_
  · refine ⟨?_, ?_, ?_, ?_, ?_, ?_, ?_, ?_, ?_, ?_, ?_, ?_, ?_, ?_, ?_, trivial⟩
    · intro a W hI hsame ht
      have h1 := hsame 1 (by decide)
      change a.tmps.getD 1 undef = .pointer (some ⟨g, 0, none⟩) at h1
      rw [if_pos (by rfl)]
      clear hsame
      unfold Oper.wp
      go_simp
      exact ⟨_, rfl, hI, Below.refl _ _, fun d hd => by cases hd; exact rfl⟩
    · intro a W hI hsame ht
      obtain ⟨h13, _⟩ := ht
      change a.tmps.getD 13 undef = .pointer (some ⟨g, 2, none⟩) at h13
      rw [if_pos (by rfl)]
      clear hsame
      have hck := (HB.out.belowAll hI).cell 2
      simp only [List.getElem?_toArray, List.getElem?_cons_succ, List.getElem?_cons_zero] at hck
      unfold Oper.wp
      go_simp
      exact ⟨_, rfl, hI, Below.refl _ _, fun d hd => by cases hd; exact rfl⟩
    · intro a W hI hsame ht
      obtain ⟨h14, _⟩ := ht
      change a.tmps.getD 14 undef = .string s at h14
      rw [if_pos (by rfl)]
      clear hsame
      unfold Oper.wp
      go_simp
      exact ⟨_, rfl, hI, Below.refl _ _, fun d hd => by cases hd; exact rfl⟩
    · intro a W hI hsame ht
      have h1 := hsame 1 (by decide)
      change a.tmps.getD 1 undef = .pointer (some ⟨g, 0, none⟩) at h1
      rw [if_pos (by rfl)]
      clear hsame
      unfold Oper.wp
      go_simp
      exact ⟨_, rfl, hI, Below.refl _ _, fun d hd => by cases hd; exact rfl⟩
    · intro a W hI hsame ht
      obtain ⟨h16, _⟩ := ht
      change a.tmps.getD 16 undef = .pointer (some ⟨g, 3, none⟩) at h16
      rw [if_pos (by rfl)]
      clear hsame
      have hck := (HB.out.belowAll hI).cell 3
      simp only [List.getElem?_toArray, List.getElem?_cons_succ, List.getElem?_cons_zero] at hck
      unfold Oper.wp
      go_simp
      exact ⟨_, rfl, hI, Below.refl _ _, fun d hd => by cases hd; exact rfl⟩
    · intro a W hI hsame ht
      obtain ⟨h17, _⟩ := ht
      change a.tmps.getD 17 undef = .int .i64 no at h17
      rw [if_pos (by rfl)]
      clear hsame
      unfold Oper.wp
      go_simp
      refine (HN.out W).mono ?_
      rintro e' W' ⟨rfl, rfl⟩
      exact ⟨_, rfl, hI, Below.refl _ _, fun d hd => by cases hd; exact rfl⟩
    · intro a W hI hsame ht
      obtain ⟨h15, h18, _⟩ := ht
      change a.tmps.getD 15 undef = .string (s ++ ⟨#[32]⟩) at h15
      change a.tmps.getD 18 undef = .string N at h18
      rw [if_pos (by rfl)]
      clear hsame
      unfold Oper.wp
      go_simp
      exact ⟨_, rfl, hI, Below.refl _ _, fun d hd => by cases hd; exact rfl⟩
    · intro a W hI hsame ht
      obtain ⟨h19, _⟩ := ht
      change a.tmps.getD 19 undef = .string (s ++ ⟨#[32]⟩ ++ N) at h19
      rw [if_pos (by rfl)]
      clear hsame
      unfold Oper.wp
      go_simp
      exact ⟨_, rfl, hI, Below.refl _ _, fun d hd => by cases hd; exact rfl⟩
    · intro a W hI hsame ht
      have h1 := hsame 1 (by decide)
      change a.tmps.getD 1 undef = .pointer (some ⟨g, 0, none⟩) at h1
      rw [if_pos (by rfl)]
      clear hsame
      unfold Oper.wp
      go_simp
      exact ⟨_, rfl, hI, Below.refl _ _, fun d hd => by cases hd; exact rfl⟩
    · intro a W hI hsame ht
      obtain ⟨h21, _⟩ := ht
      change a.tmps.getD 21 undef = .pointer (some ⟨g, 4, none⟩) at h21
      rw [if_pos (by rfl)]
      clear hsame
      have hck := (HB.out.belowAll hI).cell 4
      simp only [List.getElem?_toArray, List.getElem?_cons_succ, List.getElem?_cons_zero] at hck
      unfold Oper.wp
      go_simp
      exact ⟨_, rfl, hI, Below.refl _ _, fun d hd => by cases hd; exact rfl⟩
    · intro a W hI hsame ht
      obtain ⟨h22, _⟩ := ht
      change a.tmps.getD 22 undef = .slice (some ⟨q, 0, none⟩) 1 c at h22
      rw [if_pos (by rfl)]
      clear hsame
      unfold Oper.wp
      go_simp
      exact ⟨_, rfl, hI, Below.refl _ _, fun d hd => by cases hd; exact rfl⟩
    · intro a W hI hsame ht
      obtain ⟨h23, _⟩ := ht
      change a.tmps.getD 23 undef = .pointer (some ⟨q, 0, none⟩) at h23
      rw [if_pos (by rfl)]
      clear hsame
      obtain ⟨y0, y1, y2, y3, y4⟩ := HAt.out.below hI
      simp only [Nat.zero_add] at y0 y1 y2 y3 y4
      unfold Oper.wp
      go_simp
      exact ⟨_, rfl, hI, Below.refl _ _, fun d hd => by cases hd; exact rfl⟩
    · intro a W hI hsame ht
      obtain ⟨h24, _⟩ := ht
      change a.tmps.getD 24 undef = .agg #[x0, x1, x2, x3, x4] at h24
      rw [if_pos (by rfl)]
      clear hsame
      unfold Oper.wp
      go_simp
      refine (HT.out W hI).mono ?_
      rintro e' W' ⟨rfl, hb⟩
      exact ⟨_, rfl, Below.on hI hb, hb, fun d hd => by cases hd; exact rfl⟩
    · intro a W hI hsame ht
      obtain ⟨h20, h25, _⟩ := ht
      change a.tmps.getD 20 undef = .string (s ++ ⟨#[32]⟩ ++ N ++ ⟨#[58, 32]⟩) at h20
      change a.tmps.getD 25 undef = .string T at h25
      rw [if_pos (by rfl)]
      clear hsame
      unfold Oper.wp
      go_simp
      exact ⟨_, rfl, hI, Below.refl _ _, fun d hd => by cases hd; exact rfl⟩
    · intro a W hI hsame ht
      obtain ⟨h26, _⟩ := ht
      change a.tmps.getD 26 undef = .string (s ++ ⟨#[32]⟩ ++ N ++ ⟨#[58, 32]⟩ ++ T) at h26
      rw [if_pos (by rfl)]
      clear hsame
      unfold Oper.wp
      go_simp
      exact ⟨_, rfl, hI, Below.refl _ _, fun d hd => by cases hd; exact rfl⟩
  · intro a W hI hsz hdef hsame hall
    have h2 := hall 2 (by decide)
    change a.tmps.getD 2 undef = .string (s ++ ⟨#[32]⟩ ++ N ++ ⟨#[58, 32]⟩ ++ T) at h2
    clear hall hsame
    go_wp2
    exact bodyPost_ret (results_tmp (by rfl) _ _ _) hdef ⟨congrArg Ending.returned h2, Below.on hd2 hI⟩

/-- What each slot of the region holds. -/
def VU (g q c : Nat) (T U : ByteArray) (x0 x1 x2 x3 x4 z0 z1 z2 z3 z4 : Value) (d : Nat) (W : World) (v : Value) : Prop :=
  match d with
  | 29 | 36 => v = .pointer (some ⟨g, 4, none⟩)
  | 30 | 37 => v = .slice (some ⟨q, 0, none⟩) 2 c
  | 31 => v = .pointer (some ⟨q, 0, none⟩)
  | 38 => v = .pointer (some ⟨q, 5, none⟩)
  | 32 => v = .agg #[x0, x1, x2, x3, x4]
  | 39 => v = .agg #[z0, z1, z2, z3, z4]
  | 33 => v = .string T
  | 40 => v = .string U
  | 34 => v = .string (⟨#[40]⟩ ++ T)
  | 35 => v = .string (⟨#[40]⟩ ++ T ++ ⟨#[59, 32]⟩)
  | 41 => v = .string (⟨#[40]⟩ ++ T ++ ⟨#[59, 32]⟩ ++ U)
  | 42 | 2 => v = .string (⟨#[40]⟩ ++ T ++ ⟨#[59, 32]⟩ ++ U ++ ⟨#[41]⟩)
  | _ => True
theorem VU.keep (g q c : Nat) (T U : ByteArray) (x0 x1 x2 x3 x4 z0 z1 z2 z3 z4 : Value) (d : Nat) (W W' : World) (v : Value) (hb : Below W.heap.size W W') (h : VU g q c T U x0 x1 x2 x3 x4 z0 z1 z2 z3 z4 d W v) : VU g q c T U x0 x1 x2 x3 x4 z0 z1 z2 z3 z4 d W' v := h

set_option maxRecDepth 100000 in
set_option maxHeartbeats 4000000 in
theorem rtell_two (n no : Int) (s T U : ByteArray) (x0 x1 x2 x3 x4 z0 z1 z2 z3 z4 : Value) (q c : Nat) (w : World) (hT : T.size ≤ 10000000) (hU : U.size ≤ 10000000)
    (hat : At w q 0 x0 x1 x2 x3 x4) (hau : At w q 5 z0 z1 z2 z3 z4)
    (HC : Hid (∀ W, Below w.heap.size w W → Calls Tryd.prog 12 #[.agg #[x0, x1, x2, x3, x4]] W (TellOf W T)))
    (HD : Hid (∀ W, Below w.heap.size w W → Calls Tryd.prog 12 #[.agg #[z0, z1, z2, z3, z4]] W (TellOf W U))) :
    Calls Tryd.prog 12 #[.agg #[.int .i64 3, .int .i64 n, .string s, .int .i64 no, .slice (some ⟨q, 0, none⟩) 2 c]] w (TellOf w (⟨#[40]⟩ ++ T ++ ⟨#[59, 32]⟩ ++ U ++ ⟨#[41]⟩)) := by
  have hd : Below w.heap.size w (w.alloc (.cells #[.int .i64 3, .int .i64 n, .string s, .int .i64 no, .slice (some ⟨q, 0, none⟩) 2 c] 29)) := (Below.refl _ _).alloc (Nat.le_refl _) _
  have HB := Lib.hid (Blk.new w #[.int .i64 3, .int .i64 n, .string s, .int .i64 no, .slice (some ⟨q, 0, none⟩) 2 c] 29)
  have HAt := Lib.hid (hat.below hd)
  have HAu := Lib.hid (hau.below hd)
  have HT := Lib.hid (fun (W : World) (hW : Below (w.alloc (.cells #[.int .i64 3, .int .i64 n, .string s, .int .i64 no, .slice (some ⟨q, 0, none⟩) 2 c] 29)).heap.size (w.alloc (.cells #[.int .i64 3, .int .i64 n, .string s, .int .i64 no, .slice (some ⟨q, 0, none⟩) 2 c] 29)) W) => HC.out W (Below.on hd hW))
  have HU := Lib.hid (fun (W : World) (hW : Below (w.alloc (.cells #[.int .i64 3, .int .i64 n, .string s, .int .i64 no, .slice (some ⟨q, 0, none⟩) 2 c] 29)).heap.size (w.alloc (.cells #[.int .i64 3, .int .i64 n, .string s, .int .i64 no, .slice (some ⟨q, 0, none⟩) 2 c] 29)) W) => HD.out W (Below.on hd hW))
  have hz1 : ¬ 9223372036854775807 < 1 + T.size := by omega
  have hz2 : ¬ 9223372036854775807 < 1 + T.size + 2 := by omega
  have hz3 : ¬ 9223372036854775807 < 1 + T.size + 2 + U.size := by omega
  have hz4 : ¬ 9223372036854775807 < 1 + T.size + 2 + U.size + 1 := by omega
  clear hat hau HC HD hT hU
  go_enter Tryd.func12, Tryd.ntmps12
  go_wp2_with fail
  generalize hW1 : w.alloc (.cells #[.int .i64 3, .int .i64 n, .string s, .int .i64 no, .slice (some ⟨q, 0, none⟩) 2 c] 29) = w1 at *
  generalize hg : w.heap.size = g at *
  have hd2 : Below w.heap.size w w1 := by rw [hg]; exact hd
  refine wp_region_inv (by kernel_rfl) (fun W => Below w1.heap.size w1 W) (fun W W' => Below W.heap.size W W') (VU g q c T U x0 x1 x2 x3 x4 z0 z1 z2 z3 z4) [[], [29], [30], [31], [32], [33], [34], [], [36], [37], [38], [39], [35, 40], [41], [42]] (by kernel_rfl) (fun W => Below.refl _ _) (fun d W W' v => VU.keep g q c T U x0 x1 x2 x3 x4 z0 z1 z2 z3 z4 d W W' v) (Below.refl _ _).drew ?_ ?_
  · refine ⟨?_, ?_, ?_, ?_, ?_, ?_, ?_, ?_, ?_, ?_, ?_, ?_, ?_, ?_, ?_, trivial⟩
    · intro a W hI hsame ht
      have h1 := hsame 1 (by decide)
      change a.tmps.getD 1 undef = .pointer (some ⟨g, 0, none⟩) at h1
      rw [if_pos (by rfl)]
      clear hsame
      unfold Oper.wp
      go_simp
      exact ⟨_, rfl, hI, Below.refl _ _, fun d hd => by cases hd; exact rfl⟩
    · intro a W hI hsame ht
      obtain ⟨h29, _⟩ := ht
      change a.tmps.getD 29 undef = .pointer (some ⟨g, 4, none⟩) at h29
      rw [if_pos (by rfl)]
      clear hsame
      have hck := (HB.out.belowAll hI).cell 4
      simp only [List.getElem?_toArray, List.getElem?_cons_succ, List.getElem?_cons_zero] at hck
      unfold Oper.wp
      go_simp
      exact ⟨_, rfl, hI, Below.refl _ _, fun d hd => by cases hd; exact rfl⟩
    · intro a W hI hsame ht
      obtain ⟨h30, _⟩ := ht
      change a.tmps.getD 30 undef = .slice (some ⟨q, 0, none⟩) 2 c at h30
      rw [if_pos (by rfl)]
      clear hsame
      unfold Oper.wp
      go_simp
      exact ⟨_, rfl, hI, Below.refl _ _, fun d hd => by cases hd; exact rfl⟩
    · intro a W hI hsame ht
      obtain ⟨h31, _⟩ := ht
      change a.tmps.getD 31 undef = .pointer (some ⟨q, 0, none⟩) at h31
      rw [if_pos (by rfl)]
      clear hsame
      obtain ⟨y0, y1, y2, y3, y4⟩ := HAt.out.below hI
      simp only [Nat.zero_add] at y0 y1 y2 y3 y4
      unfold Oper.wp
      go_simp
      exact ⟨_, rfl, hI, Below.refl _ _, fun d hd => by cases hd; exact rfl⟩
    · intro a W hI hsame ht
      obtain ⟨h32, _⟩ := ht
      change a.tmps.getD 32 undef = .agg #[x0, x1, x2, x3, x4] at h32
      rw [if_pos (by rfl)]
      clear hsame
      unfold Oper.wp
      go_simp
      refine (HT.out W hI).mono ?_
      rintro e' W' ⟨rfl, hb⟩
      exact ⟨_, rfl, Below.on hI hb, hb, fun d hd => by cases hd; exact rfl⟩
    · intro a W hI hsame ht
      obtain ⟨h33, _⟩ := ht
      change a.tmps.getD 33 undef = .string T at h33
      rw [if_pos (by rfl)]
      clear hsame
      unfold Oper.wp
      go_simp
      exact ⟨_, rfl, hI, Below.refl _ _, fun d hd => by cases hd; exact rfl⟩
    · intro a W hI hsame ht
      obtain ⟨h34, _⟩ := ht
      change a.tmps.getD 34 undef = .string (⟨#[40]⟩ ++ T) at h34
      rw [if_pos (by rfl)]
      clear hsame
      unfold Oper.wp
      go_simp
      exact ⟨_, rfl, hI, Below.refl _ _, fun d hd => by cases hd; exact rfl⟩
    · intro a W hI hsame ht
      have h1 := hsame 1 (by decide)
      change a.tmps.getD 1 undef = .pointer (some ⟨g, 0, none⟩) at h1
      rw [if_pos (by rfl)]
      clear hsame
      unfold Oper.wp
      go_simp
      exact ⟨_, rfl, hI, Below.refl _ _, fun d hd => by cases hd; exact rfl⟩
    · intro a W hI hsame ht
      obtain ⟨h36, _⟩ := ht
      change a.tmps.getD 36 undef = .pointer (some ⟨g, 4, none⟩) at h36
      rw [if_pos (by rfl)]
      clear hsame
      have hck := (HB.out.belowAll hI).cell 4
      simp only [List.getElem?_toArray, List.getElem?_cons_succ, List.getElem?_cons_zero] at hck
      unfold Oper.wp
      go_simp
      exact ⟨_, rfl, hI, Below.refl _ _, fun d hd => by cases hd; exact rfl⟩
    · intro a W hI hsame ht
      obtain ⟨h37, _⟩ := ht
      change a.tmps.getD 37 undef = .slice (some ⟨q, 0, none⟩) 2 c at h37
      rw [if_pos (by rfl)]
      clear hsame
      unfold Oper.wp
      go_simp
      exact ⟨_, rfl, hI, Below.refl _ _, fun d hd => by cases hd; exact rfl⟩
    · intro a W hI hsame ht
      obtain ⟨h38, _⟩ := ht
      change a.tmps.getD 38 undef = .pointer (some ⟨q, 5, none⟩) at h38
      rw [if_pos (by rfl)]
      clear hsame
      obtain ⟨y0, y1, y2, y3, y4⟩ := HAu.out.below hI
      unfold Oper.wp
      go_simp
      exact ⟨_, rfl, hI, Below.refl _ _, fun d hd => by cases hd; exact rfl⟩
    · intro a W hI hsame ht
      obtain ⟨h39, _⟩ := ht
      change a.tmps.getD 39 undef = .agg #[z0, z1, z2, z3, z4] at h39
      rw [if_pos (by rfl)]
      clear hsame
      unfold Oper.wp
      go_simp
      refine (HU.out W hI).mono ?_
      rintro e' W' ⟨rfl, hb⟩
      exact ⟨_, rfl, Below.on hI hb, hb, fun d hd => by cases hd; exact rfl⟩
    · intro a W hI hsame ht
      obtain ⟨h35, h40, _⟩ := ht
      change a.tmps.getD 35 undef = .string (⟨#[40]⟩ ++ T ++ ⟨#[59, 32]⟩) at h35
      change a.tmps.getD 40 undef = .string U at h40
      rw [if_pos (by rfl)]
      clear hsame
      unfold Oper.wp
      go_simp
      exact ⟨_, rfl, hI, Below.refl _ _, fun d hd => by cases hd; exact rfl⟩
    · intro a W hI hsame ht
      obtain ⟨h41, _⟩ := ht
      change a.tmps.getD 41 undef = .string (⟨#[40]⟩ ++ T ++ ⟨#[59, 32]⟩ ++ U) at h41
      rw [if_pos (by rfl)]
      clear hsame
      unfold Oper.wp
      go_simp
      exact ⟨_, rfl, hI, Below.refl _ _, fun d hd => by cases hd; exact rfl⟩
    · intro a W hI hsame ht
      obtain ⟨h42, _⟩ := ht
      change a.tmps.getD 42 undef = .string (⟨#[40]⟩ ++ T ++ ⟨#[59, 32]⟩ ++ U ++ ⟨#[41]⟩) at h42
      rw [if_pos (by rfl)]
      clear hsame
      unfold Oper.wp
      go_simp
      exact ⟨_, rfl, hI, Below.refl _ _, fun d hd => by cases hd; exact rfl⟩
  · intro a W hI hsz hdef hsame hall
    have h2 := hall 2 (by decide)
    change a.tmps.getD 2 undef = .string (⟨#[40]⟩ ++ T ++ ⟨#[59, 32]⟩ ++ U ++ ⟨#[41]⟩) at h2
    clear hall hsame
    go_wp2
    exact bodyPost_ret (results_tmp (by rfl) _ _ _) hdef ⟨congrArg Ending.returned h2, Below.on hd2 hI⟩

end Go.Proofs.YtgpaedknonkioaaDoor
