/-
  For every byte slice and every index from 0 to 255 the law VintOnce returns true (what vint.Get reads is put by vint.Put as the very bytes that it was, or nothing is read, and the example of the page holds), and the slice reads afterwards as before. No conditions.
-/
import Derived.Test.YtcahaffmelekbaaRows
import Derived.Test.YtcahaffmelekbaaLaw
import Derived.Test.YtcahaffmelekbaaBack
import Derived.Test.YtcahaffmelekbaaInv
namespace Go.Proofs.Ytcahaffmelekbaa
namespace vintOnce
open Go.ChangeShapes Go.WideShapes Go.ChangeAt Go.RowKit
open Go.ChangeMaps (open_string shut_string)
set_option linter.unusedVariables false

/-- A value that is a slice which reads as l. -/
def Holds (W : World) (l : List Int) (v : Value) : Prop := ∃ A c, v = .slice A l.length c ∧ Lies W A c l

/-- What each slot of the last region holds. -/
def V (A A2 : Option Addr) (c k C2 : Nat) (l T : List Int) (n x t : Int) (d : Nat) (W : World) (v : Value) : Prop :=
  match d with
  | 44 => Holds W T v
  | 32 | 37 | 48 => v = .int .i64 x
  | 33 | 47 => v = .int .u8 t
  | 34 => v = .int .i64 t
  | 38 | 46 => v = .slice A l.length c
  | 39 => v = .int .i64 l.length
  | 43 => v = .int .u64 n
  | 45 | 50 => v = .string (str T)
  | 49 => v = .slice A2 k C2
  | 35 | 36 | 40 | 41 | 42 | 51 | 52 | 53 | 54 | 55 | 4 => v = .bool true
  | _ => True
theorem V.keep (A A2 : Option Addr) (c k C2 : Nat) (l T : List Int) (n x t : Int) (d : Nat) (W W' : World) (v : Value) (hb : Below W.heap.size W W') (h : V A A2 c k C2 l T n x t d W v) : V A A2 c k C2 l T n x t d W' v := by
  unfold V at *
  split at h
  all_goals first | exact h | (obtain ⟨A, c, rfl, h⟩ := h; exact ⟨A, c, rfl, h.below hb⟩)

theorem getS_zero (l : List Int) (i : Int) (h : (getS l i).2.2 ≠ 0) : (getS l i).1 = 0 ∧ (getS l i).2.1 = 0 := by
  unfold getS at *
  simp only at *
  split
  · simp
  · split
    · simp
    · split
      · simp
      · split
        · simp
        · rename_i h1 h2 h3 h4
          rw [if_neg h1, if_neg h2, if_neg h3, if_neg h4] at h
          simp at h

/-- A cut whose lower bound is a byte. -/
theorem cut_str8 {w : World} {A : Option Addr} {c : Nat} {l : List Int} (h : Lies w A c l) (lo n : Nat) (L H : Int) (hL : L = lo) (hH : H = lo + n) (hn : lo + n ≤ l.length) (hc : l.length ≤ c) :
    ∃ A' C', (∀ W, (Instr.slice 22 (.slice A l.length c) (some (.int .u8 L)) (some (.int .i64 H)) none).run Try.prog W = .ok (.slice A' n C') W) ∧
      ∀ W, Below w.heap.size w W → (convert 22 9 (.slice A' n C')).run Try.prog W = .ok (.string (str ((l.drop lo).take n))) W := by
  obtain ⟨A', C', h1, h2⟩ := cut_str h lo n L H hL hH hn hc
  have ht' : Try.prog.underlying 22 = some (.slice (Try.prog.elem 22)) := by simp [Program.elem, Try.underlying22]
  refine ⟨A', C', fun W => ?_, h2⟩
  rw [← h1 W, run_slice_lh W 22 _ _ _ ht' .u8 .i64 _ _ (by omega) (by omega) (by omega), run_slice_lh W 22 _ _ _ ht' .i64 .i64 _ _ (by omega) (by omega) (by omega)]

set_option maxRecDepth 100000 in
set_option maxHeartbeats 4000000 in
theorem found (A : Option Addr) (c : Nat) (l : List Int) (t : Int) (w : World) (h : Lies w A c l) (hb : IsB l) (hc : l.length ≤ c) (hl : l.length ≤ 1000) (t0 : 0 ≤ t) (t1 : t ≤ 255) (n x : Int) (hg : getS l t = (n, x, 0)) :
    Calls Try.prog 8 #[.slice A l.length c, .int .u8 t] w fun e w' => e = .returned (.bool true) ∧ Below w.heap.size w w' := by
  have hr := getS_range l hb t
  have hp := put_back l hb t.toNat n x (by rw [Int.toNat_of_nonneg t0]; exact hg)
  rw [hg] at hr
  simp only at hr
  obtain ⟨n0, n1, _, _⟩ := hr
  obtain ⟨p1, p2, p3⟩ := hp
  obtain ⟨A2, C2, hcut, hstr⟩ := cut_str8 h t.toNat (x.toNat - t.toNat) t x (by omega) (by omega) (by omega) hc
  have hput : ∀ W : World, Calls Try.prog 10 #[.slice none 0 0, .int .u64 n] W (Own W.heap.size W (enc n)) := fun W => put_calls none 0 [] n W (Lies.nil W) (by simp) n0 n1
  have HG := Lib.hid (get_calls A c l t w h hb hc (by omega))
  rw [hg] at HG
  unfold tri at HG
  rw [p3] at hput
  have HP := Lib.hid hput
  have HC := Lib.hid hcut
  have HS := Lib.hid hstr
  clear hput hcut hstr p3 hg h hb
  generalize (l.drop t.toNat).take (x.toNat - t.toNat) = T at *
  generalize x.toNat - t.toNat = k at *
  go_enter Try.func8, Try.ntmps8
  go_wp2_with fail
  refine HG.out.mono ?_
  rintro e' w1 ⟨rfl, hB1⟩
  go_wp2_with (go_at_call 16; refine (code_calls _ _ (by omega) (by omega)).mono ?_; rintro e w' ⟨rfl, rfl⟩)
  refine wp_region_inv (by kernel_rfl) (fun W => Below w.heap.size w W) (fun W W' => Below W.heap.size W W') (V A A2 c k C2 l T n x t) [[], [], [33], [32, 34], [35], [36], [36], [38, 36], [37, 39, 36], [36, 40], [41], [42], [43, 42], [44, 42], [42], [42], [42], [46, 47, 48, 42], [49, 42], [45, 50, 42], [42, 51], [52], [53], [53, 54], [55]] (by kernel_rfl) (fun W => Below.refl _ _) (fun d W W' v => V.keep A A2 c k C2 l T n x t d W W' v) hB1.drew ?_ ?_
  · refine ⟨?_, ?_, ?_, ?_, ?_, ?_, ?_, ?_, ?_, ?_, ?_, ?_, ?_, ?_, ?_, ?_, ?_, ?_, ?_, ?_, ?_, ?_, ?_, ?_, ?_, trivial⟩
    · intro a W hI hsame ht
      have h6 := hsame 6 (by decide)
      change a.tmps.getD 6 undef = .int .i64 x at h6
      rw [if_pos (by rfl)]
      clear hsame
      unfold Oper.wp
      go_simp
      exact ⟨_, rfl, hI, Below.refl _ _, fun d hd => by cases hd; exact rfl⟩
    · intro a W hI hsame ht
      have h1 := hsame 1 (by decide)
      change a.tmps.getD 1 undef = .int .u8 t at h1
      rw [if_pos (by rfl)]
      clear hsame
      unfold Oper.wp
      go_simp
      exact ⟨_, rfl, hI, Below.refl _ _, fun d hd => by cases hd; exact rfl⟩
    · intro a W hI hsame ht
      obtain ⟨h33, _⟩ := ht
      change a.tmps.getD 33 undef = .int .u8 t at h33
      rw [if_pos (by rfl)]
      clear hsame
      have hw := IntWalk.i64_in t ⟨by omega, by omega⟩
      unfold Oper.wp
      go_simp
      exact ⟨_, rfl, hI, Below.refl _ _, fun d hd => by cases hd; exact rfl⟩
    · intro a W hI hsame ht
      obtain ⟨h32, h34, _⟩ := ht
      change a.tmps.getD 32 undef = .int .i64 x at h32
      change a.tmps.getD 34 undef = .int .i64 t at h34
      rw [if_pos (by rfl)]
      clear hsame
      have hgt : decide (t < x) = true := by simp; omega
      unfold Oper.wp
      go_simp
      exact ⟨_, rfl, hI, Below.refl _ _, fun d hd => by cases hd; exact rfl⟩
    · intro a W hI hsame ht
      obtain ⟨h35, _⟩ := ht
      change a.tmps.getD 35 undef = .bool true at h35
      rw [if_pos (by rfl)]
      clear hsame
      unfold Oper.wp
      go_simp
      exact ⟨_, rfl, hI, Below.refl _ _, fun d hd => by cases hd; exact rfl⟩
    · intro a W hI hsame ht
      obtain ⟨h36, _⟩ := ht
      change a.tmps.getD 36 undef = .bool true at h36
      have h6 := hsame 6 (by decide)
      change a.tmps.getD 6 undef = .int .i64 x at h6
      rw [if_pos (wanted_true (j := 4) (d := 36) rfl rfl h36)]
      clear hsame
      unfold Oper.wp
      go_simp
      exact ⟨_, rfl, hI, Below.refl _ _, fun d hd => by cases hd; exact rfl⟩
    · intro a W hI hsame ht
      obtain ⟨h36, _⟩ := ht
      change a.tmps.getD 36 undef = .bool true at h36
      have h0 := hsame 0 (by decide)
      change a.tmps.getD 0 undef = .slice A l.length c at h0
      rw [if_pos (wanted_true (j := 4) (d := 36) rfl rfl h36)]
      clear hsame
      unfold Oper.wp
      go_simp
      exact ⟨_, rfl, hI, Below.refl _ _, fun d hd => by cases hd; exact rfl⟩
    · intro a W hI hsame ht
      obtain ⟨h38, h36, _⟩ := ht
      change a.tmps.getD 38 undef = .slice A l.length c at h38
      change a.tmps.getD 36 undef = .bool true at h36
      rw [if_pos (wanted_true (j := 4) (d := 36) rfl rfl h36)]
      clear hsame
      unfold Oper.wp
      go_simp
      exact ⟨_, rfl, hI, Below.refl _ _, fun d hd => by cases hd; exact rfl⟩
    · intro a W hI hsame ht
      obtain ⟨h37, h39, h36, _⟩ := ht
      change a.tmps.getD 37 undef = .int .i64 x at h37
      change a.tmps.getD 39 undef = .int .i64 l.length at h39
      change a.tmps.getD 36 undef = .bool true at h36
      rw [if_pos (wanted_true (j := 4) (d := 36) rfl rfl h36)]
      clear hsame
      have hle : decide (x ≤ (l.length : Int)) = true := by simp; omega
      unfold Oper.wp
      go_simp
      exact ⟨_, rfl, hI, Below.refl _ _, fun d hd => by cases hd; exact rfl⟩
    · intro a W hI hsame ht
      obtain ⟨h36, h40, _⟩ := ht
      change a.tmps.getD 36 undef = .bool true at h36
      change a.tmps.getD 40 undef = .bool true at h40
      rw [if_pos (by rfl)]
      clear hsame
      unfold Oper.wp
      go_simp
      exact ⟨_, rfl, hI, Below.refl _ _, fun d hd => by cases hd; exact rfl⟩
    · intro a W hI hsame ht
      obtain ⟨h41, _⟩ := ht
      change a.tmps.getD 41 undef = .bool true at h41
      rw [if_pos (by rfl)]
      clear hsame
      unfold Oper.wp
      go_simp
      exact ⟨_, rfl, hI, Below.refl _ _, fun d hd => by cases hd; exact rfl⟩
    · intro a W hI hsame ht
      obtain ⟨h42, _⟩ := ht
      change a.tmps.getD 42 undef = .bool true at h42
      have h5 := hsame 5 (by decide)
      change a.tmps.getD 5 undef = .int .u64 n at h5
      rw [if_pos (wanted_true (j := 10) (d := 42) rfl rfl h42)]
      clear hsame
      unfold Oper.wp
      go_simp
      exact ⟨_, rfl, hI, Below.refl _ _, fun d hd => by cases hd; exact rfl⟩
    · intro a W hI hsame ht
      obtain ⟨h43, h42, _⟩ := ht
      change a.tmps.getD 43 undef = .int .u64 n at h43
      change a.tmps.getD 42 undef = .bool true at h42
      rw [if_pos (wanted_true (j := 10) (d := 42) rfl rfl h42)]
      clear hsame
      unfold Oper.wp
      go_simp
      refine (HP.out _).mono ?_
      rintro e' W' ⟨A, c, rfl, hown, hb⟩
      exact ⟨_, rfl, Below.on hI hb, hb, fun d hd => by cases hd; exact ⟨A, c, rfl, Lies.of_own hown⟩⟩
    · intro a W hI hsame ht
      obtain ⟨⟨A44, c44, h44, hL44⟩, h42, _⟩ := ht
      change a.tmps.getD 42 undef = .bool true at h42
      rw [if_pos (wanted_true (j := 10) (d := 42) rfl rfl h42)]
      clear hsame
      have hs := run_str hL44
      unfold Oper.wp
      go_simp
      exact ⟨_, rfl, hI, Below.refl _ _, fun d hd => by cases hd; exact rfl⟩
    · intro a W hI hsame ht
      obtain ⟨h42, _⟩ := ht
      change a.tmps.getD 42 undef = .bool true at h42
      have h0 := hsame 0 (by decide)
      change a.tmps.getD 0 undef = .slice A l.length c at h0
      rw [if_pos (wanted_true (j := 10) (d := 42) rfl rfl h42)]
      clear hsame
      unfold Oper.wp
      go_simp
      exact ⟨_, rfl, hI, Below.refl _ _, fun d hd => by cases hd; exact rfl⟩
    · intro a W hI hsame ht
      obtain ⟨h42, _⟩ := ht
      change a.tmps.getD 42 undef = .bool true at h42
      have h1 := hsame 1 (by decide)
      change a.tmps.getD 1 undef = .int .u8 t at h1
      rw [if_pos (wanted_true (j := 10) (d := 42) rfl rfl h42)]
      clear hsame
      unfold Oper.wp
      go_simp
      exact ⟨_, rfl, hI, Below.refl _ _, fun d hd => by cases hd; exact rfl⟩
    · intro a W hI hsame ht
      obtain ⟨h42, _⟩ := ht
      change a.tmps.getD 42 undef = .bool true at h42
      have h6 := hsame 6 (by decide)
      change a.tmps.getD 6 undef = .int .i64 x at h6
      rw [if_pos (wanted_true (j := 10) (d := 42) rfl rfl h42)]
      clear hsame
      unfold Oper.wp
      go_simp
      exact ⟨_, rfl, hI, Below.refl _ _, fun d hd => by cases hd; exact rfl⟩
    · intro a W hI hsame ht
      obtain ⟨h46, h47, h48, h42, _⟩ := ht
      change a.tmps.getD 46 undef = .slice A l.length c at h46
      change a.tmps.getD 47 undef = .int .u8 t at h47
      change a.tmps.getD 48 undef = .int .i64 x at h48
      change a.tmps.getD 42 undef = .bool true at h42
      rw [if_pos (wanted_true (j := 10) (d := 42) rfl rfl h42)]
      clear hsame
      have hc := HC.out
      unfold Oper.wp
      go_simp
      exact ⟨_, rfl, hI, Below.refl _ _, fun d hd => by cases hd; exact rfl⟩
    · intro a W hI hsame ht
      obtain ⟨h49, h42, _⟩ := ht
      change a.tmps.getD 49 undef = .slice A2 k C2 at h49
      change a.tmps.getD 42 undef = .bool true at h42
      rw [if_pos (wanted_true (j := 10) (d := 42) rfl rfl h42)]
      clear hsame
      have hs := HS.out W hI
      unfold Oper.wp
      go_simp
      exact ⟨_, rfl, hI, Below.refl _ _, fun d hd => by cases hd; exact rfl⟩
    · intro a W hI hsame ht
      obtain ⟨h45, h50, h42, _⟩ := ht
      change a.tmps.getD 45 undef = .string (str T) at h45
      change a.tmps.getD 50 undef = .string (str T) at h50
      change a.tmps.getD 42 undef = .bool true at h42
      rw [if_pos (wanted_true (j := 10) (d := 42) rfl rfl h42)]
      clear hsame
      unfold Oper.wp
      go_simp
      exact ⟨_, rfl, hI, Below.refl _ _, fun d hd => by cases hd; exact rfl⟩
    · intro a W hI hsame ht
      obtain ⟨h42, h51, _⟩ := ht
      change a.tmps.getD 42 undef = .bool true at h42
      change a.tmps.getD 51 undef = .bool true at h51
      rw [if_pos (by rfl)]
      clear hsame
      unfold Oper.wp
      go_simp
      exact ⟨_, rfl, hI, Below.refl _ _, fun d hd => by cases hd; exact rfl⟩
    · intro a W hI hsame ht
      obtain ⟨h52, _⟩ := ht
      change a.tmps.getD 52 undef = .bool true at h52
      rw [if_pos (by rfl)]
      clear hsame
      unfold Oper.wp
      go_simp
      exact ⟨_, rfl, hI, Below.refl _ _, fun d hd => by cases hd; exact rfl⟩
    · intro a W hI hsame ht
      obtain ⟨h53, _⟩ := ht
      change a.tmps.getD 53 undef = .bool true at h53
      rw [if_pos (wanted_true (j := 21) (d := 53) rfl rfl h53)]
      clear hsame
      unfold Oper.wp
      go_simp
      refine (live_calls _).mono ?_
      rintro e' W' ⟨rfl, hb⟩
      exact ⟨_, rfl, Below.on hI hb, hb, fun d hd => by cases hd; exact rfl⟩
    · intro a W hI hsame ht
      obtain ⟨h53, h54, _⟩ := ht
      change a.tmps.getD 53 undef = .bool true at h53
      change a.tmps.getD 54 undef = .bool true at h54
      rw [if_pos (by rfl)]
      clear hsame
      unfold Oper.wp
      go_simp
      exact ⟨_, rfl, hI, Below.refl _ _, fun d hd => by cases hd; exact rfl⟩
    · intro a W hI hsame ht
      obtain ⟨h55, _⟩ := ht
      change a.tmps.getD 55 undef = .bool true at h55
      rw [if_pos (by rfl)]
      clear hsame
      unfold Oper.wp
      go_simp
      exact ⟨_, rfl, hI, Below.refl _ _, fun d hd => by cases hd; exact rfl⟩
  · intro a W hI hsz hdef hsame hall
    have h4 := hall 4 (by decide)
    change a.tmps.getD 4 undef = .bool true at h4
    clear hall hsame
    go_wp2
    exact bodyPost_ret (results_tmp (by rfl) _ _ _) hdef ⟨congrArg Ending.returned h4, hI⟩

set_option maxHeartbeats 1000000 in
theorem none_ (A : Option Addr) (c : Nat) (l : List Int) (t : Int) (w : World) (h : Lies w A c l) (hb : IsB l) (hc : l.length ≤ c) (hl : l.length ≤ 1000) (t0 : 0 ≤ t) (t1 : t ≤ 255) (e : Int) (hg : getS l t = (0, 0, e)) (he : e ≠ 0) :
    Calls Try.prog 8 #[.slice A l.length c, .int .u8 t] w fun e w' => e = .returned (.bool true) ∧ Below w.heap.size w w' := by
  have hr := getS_err l t
  rw [hg] at hr
  obtain ⟨he0, he1⟩ := hr
  simp only at he0 he1
  have HG := Lib.hid (get_calls A c l t w h hb hc (by omega))
  rw [hg] at HG
  unfold tri at HG
  have hne : (e != 0) = true := by rw [bne_iff_ne]; exact he
  clear hg h hb he
  go_enter Try.func8, Try.ntmps8
  go_wp2_with fail
  refine HG.out.mono ?_
  rintro e' w1 ⟨rfl, hB1⟩
  go_wp2_with (first
    | (go_at_call 16; refine (code_calls _ _ (by omega) (by omega)).mono ?_; rintro e w' ⟨rfl, rfl⟩)
    | (go_at_call 9; refine (live_calls _).mono ?_; rintro e w2 ⟨rfl, hb2⟩))
  go_ret
  exact ⟨rfl, Below.on hB1 hb2⟩

theorem walk (a0 : Option Addr) (len0 cap0 : Nat) (z0 : List Int) (a1 : Int) (w : World) (w0 : IsRow w a0 len0 cap0 z0) (w1 : (Lit.int .u8 a1).wf = true) :
    Calls Try.prog 8 #[.slice a0 len0 cap0, .int .u8 a1] w fun e w' => e = .returned (.bool true) ∧ Below w.heap.size w w' := by
  obtain ⟨l, rfl, hc, hm, h, hb⟩ := bytes_of_row w0
  unfold maxLen at hm
  have hn := bounds_u8 w1
  by_cases hl : l.length ≤ 1000
  · obtain ⟨n, x, e, hg⟩ : ∃ n x e, getS l a1 = (n, x, e) := ⟨_, _, _, rfl⟩
    by_cases he : e = 0
    · subst he
      exact found a0 cap0 l a1 w h hb hc hl (by omega) (by omega) n x hg
    · have hz := getS_zero l a1 (by rw [hg]; exact he)
      rw [hg] at hz
      obtain ⟨z1, z2⟩ := hz
      simp only at z1 z2
      subst z1 z2
      exact none_ a0 cap0 l a1 w h hb hc hl (by omega) (by omega) e hg he
  · clear h hb w0
    go_enter Try.func8, Try.ntmps8
    go_wp2_with (go_at_call 9; refine (live_calls _).mono ?_; rintro e w1 ⟨rfl, hb1⟩)
    go_ret
    exact ⟨rfl, hb1⟩

/- From the walk to the row. -/
set_option maxRecDepth 100000 in
theorem lifted (os : Os) (started : os.Started) (H : Type) (enc : TypeId × Value → H) :
    ReturnsInHanded {} Try.checked os 8 .any (Rows.vintOnceSpec.pre6 enc Try.prog Try.f8 Rows.vintOnceRow.domain false) (Rows.vintOnceSpec.post enc Try.prog Try.f8 false true false false) := by
  refine returnsInHanded_of_change (C := Try.checked) own started (by kernel_rfl) Try.func8
    (ChangeSpec.witness6 (enc := enc) (C := Try.checked) false ⟨#[], #[.slice none 0 0, .int .u8 0], []⟩ 8 (by kernel_rfl) (by kernel_rfl) (by kernel_rfl) (by kernel_rfl)) ?_
  intro W base args ds gs before hval0 hW hcnd _
  have hval : ∀ (j : Nat) t v, Try.f8.params[j]? = some t → args[j]? = some v → Value.okWide Try.prog W .any base t v := hval0
  have hW' := hW
  obtain ⟨p, q, hA0, hV, rfl, hfz, hnd⟩ := hW
  have hA : DataW.TrodAll enc Try.prog W 0 (fun _ => true) true Try.f8.params.toList args.toList ds p := hA0
  rw [Try.params8] at hA hval
  obtain ⟨v0, vs0, d0, ds0, p0, q0, hargs, rfl, rfl, h0, r0⟩ := trodAll_cons hA
  obtain ⟨v1, vs1, d1, ds1, p1, q1, rfl, rfl, rfl, h1, r1⟩ := trodAll_cons r0
  obtain ⟨rfl, rfl, rfl⟩ := trodAll_nil r1
  obtain rfl : args = #[v0, v1] := by cases args; simp_all
  obtain ⟨rfl, rfl⟩ := trodVars_none hV
  obtain ⟨a0, len0, cap0, rfl⟩ := okWide_slice Try.underlying22 (hval 0 22 v0 rfl rfl)
  have k0 := h0
  have lt0 : ∀ x ∈ p0, x.block < W.heap.size := by obtain ⟨m, hm⟩ := k0; exact DataW.trod_lt m _ _ _ hm
  obtain ⟨z0, w0⟩ : ∃ zs, IsRow W a0 len0 cap0 zs := by
    obtain ⟨fuel, hf⟩ := h0
    rcases open_ints Try.underlying22 Try.underlying5 (by kernel_rfl) hf with ⟨hcs, _⟩ | ⟨x, l, c, zs, hcs, _, hl, hm, hz, _, hcell, hwz⟩
    · simp [Value.cells] at hcs
      obtain ⟨rfl, rfl, rfl⟩ := hcs
      exact ⟨[], .inl ⟨rfl, rfl, rfl, rfl⟩⟩
    · simp [Value.cells] at hcs
      obtain ⟨rfl, rfl, rfl⟩ := hcs
      exact ⟨zs, .inr ⟨_, rfl, hl, hm, by simpa using hz, hcell, hwz⟩⟩
  obtain ⟨a1, rfl, rfl, rfl, w1⟩ := open_int Try.underlying5 (hval 1 5 v1 rfl rfl) h1
  clear hA0 hval0
  refine (walk a0 len0 cap0 z0 a1 W w0 w1).mono fun e W' ⟨he, bel⟩ => ?_
  subst he
  exact ⟨_, rfl, _, _, _, [], _, [], hW', trodAll_mk1 (shut_bool Try.underlying4 _), (trodAll_cons_mk (Below.trod laidOut (by kernel_rfl) (of_decide_eq_true (by kernel_rfl)) k0 bel lt0) (trodAll_cons_mk (shut_int Try.underlying5 w1) trodAll_mk0)), rfl, bel.frame _, fun h => by cases h⟩

theorem over : Rows.vintOnceRow.holds Try.pinned (OpenSpec.ofChange Rows.vintOnceSpec) :=
  OpenClaim.holds_of_wide 8 Try.f8 rfl rfl rfl rfl rfl rfl rfl ⟨rfl, rfl, rfl, rfl, rfl⟩ rfl rfl rfl rfl rfl (by kernel_rfl) Try.func8 (by kernel_rfl)
    (of_decide_eq_true (by kernel_rfl)) (by unfold Func.isWrapper; first | (rw [if_pos (by decide +kernel)]; kernel_rfl) | (rw [if_neg (by decide +kernel)]; exact ⟨rfl, rfl⟩))
    (fun os started H enc _ => lifted os started H enc)

end vintOnce

/-- The statement. -/
theorem vintOnce_holds : Rows.VintOnceSaid := vintOnce.over
#print axioms vintOnce_holds
end Go.Proofs.Ytcahaffmelekbaa
