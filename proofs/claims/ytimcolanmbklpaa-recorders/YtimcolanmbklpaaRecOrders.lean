/-
  For all pairs a and b and all lists of pairs l the law RecOrders returns true (rec.Order compares as the document does, and with its arguments exchanged it gives the negative; rec.Sorted answers as the document does; and the example of the page holds), and the list reads afterwards as before. No conditions.
-/
import Derived.Test.YtimcolanmbklpaaRows
import Derived.Test.YtimcolanmbklpaaGP
import Derived.Test.YtimcolanmbklpaaRSort
import Derived.Test.YtimcolanmbklpaaRLive
import Derived.Test.YtimcolanmbklpaaInv
namespace Go.Proofs.Ytimcolanmbklpaa
namespace recOrders
open Go.ChangeShapes Go.WideShapes Go.ChangeAt Go.RowKit
set_option linter.unusedVariables false

/-- What each slot of the last region holds. -/
def V (x0 n d0 : Nat) (D : Option Addr) (s t u v1 : ByteArray) (r : Int) (z : Bool) (d : Nat) (W : World) (v : Value) : Prop :=
  match d with
  | 30 | 33 | 39 | 41 => v = .agg #[.string s, .string t]
  | 31 | 34 | 38 | 42 => v = .agg #[.string u, .string v1]
  | 32 | 35 | 43 => v = .int .i64 r
  | 40 | 44 => v = .int .i64 (-r)
  | 36 | 37 | 45 | 46 | 47 | 52 | 53 | 54 | 55 | 56 | 6 => v = .bool true
  | 48 | 50 => v = .slice D n d0
  | 49 | 51 => v = .bool z
  | _ => True
theorem V.keep (x0 n d0 : Nat) (D : Option Addr) (s t u v1 : ByteArray) (r : Int) (z : Bool) (d : Nat) (W W' : World) (v : Value) (hb : Below W.heap.size W W') (h : V x0 n d0 D s t u v1 r z d W v) : V x0 n d0 D s t u v1 r z d W' v := by
  unfold V at *
  split at h
  all_goals first | exact h | (obtain ⟨A, c, rfl, h⟩ := h; exact ⟨A, c, rfl, h.below hb⟩)

theorem ordP_small (a b : ByteArray × ByteArray) : -1 ≤ ordP a b ∧ ordP a b ≤ 1 := by
  have h : ∀ x y : List Int, -1 ≤ cmpT x y ∧ cmpT x y ≤ 1 := by
    intro x y; unfold cmpT
    split
    · omega
    · split <;> omega
  unfold ordP
  split
  · exact h _ _
  · exact h _ _

set_option maxRecDepth 100000 in
set_option maxHeartbeats 4000000 in
theorem walk (s t u v1 : ByteArray) (D : Option Addr) (d0 : Nat) (ps : List (ByteArray × ByteArray)) (w : World) (hs : s.size ≤ reachBytes) (ht : t.size ≤ reachBytes) (hu : u.size ≤ reachBytes) (hv : v1.size ≤ reachBytes) (hpm : ps.length ≤ maxLen) (hpc : CellsG enP w D d0 ps) (hpz : ∀ s ∈ ps, s.1.size ≤ reachBytes ∧ s.2.size ≤ reachBytes) :
    Calls Try.prog 5 #[.agg #[.string s, .string t], .agg #[.string u, .string v1], .slice D ps.length d0] w fun e w' => e = .returned (.bool true) ∧ Below w.heap.size w w' := by
  have hs2 : s.size ≤ 140737488351232 := hs
  have ht2 : t.size ≤ 140737488351232 := ht
  have hu2 : u.size ≤ 140737488351232 := hu
  have hv2 : v1.size ≤ 140737488351232 := hv
  have hb0 : Below w.heap.size w ((w.alloc (.cells #[.string s, .string t] 48)).alloc (.cells #[.string u, .string v1] 48)) := ((Below.refl _ _).alloc (Nat.le_refl _) _).alloc (by simp) _
  have HL := Lib.hid (longPairs_calls D d0 ps ((w.alloc (.cells #[.string s, .string t] 48)).alloc (.cells #[.string u, .string v1] 48)) (hpc.below hb0) hpz hpm)
  have hba : Below (w.alloc (.cells #[.string s, .string t] 48)).heap.size (w.alloc (.cells #[.string s, .string t] 48)) ((w.alloc (.cells #[.string s, .string t] 48)).alloc (.cells #[.string u, .string v1] 48)) := (Below.refl _ _).alloc (Nat.le_refl _) _
  have c0 := (hba.cell (p := ⟨w.heap.size, 0, none⟩) (by simp)).trans (cell_pair w (.string s) (.string t)).1
  have c1 := (hba.cell (p := ⟨w.heap.size, 1, none⟩) (by simp)).trans (cell_pair w (.string s) (.string t)).2
  have d0' := (cell_pair (w.alloc (.cells #[.string s, .string t] 48)) (.string u) (.string v1)).1
  have d1' := (cell_pair (w.alloc (.cells #[.string s, .string t] 48)) (.string u) (.string v1)).2
  rw [World.size_alloc] at d0' d1'
  have HX := Lib.hid hb0
  have HPC := Lib.hid hpc
  have HPZ := Lib.hid hpz
  have HO := Lib.hid (fun W => order_calls (s, t) (u, v1) W)
  have HN := Lib.hid (fun W => order_calls (u, v1) (s, t) W)
  have HD := Lib.hid (fun W => rorder_calls (s, t) (u, v1) W hs ht hu hv)
  rw [ordP_neg] at HN
  obtain ⟨o0, o1⟩ := ordP_small (s, t) (u, v1)
  generalize ordP (s, t) (u, v1) = r at *
  unfold vP at HO HN HD
  dsimp only at HO HN HD
  have HC0 := Lib.hid c0
  have HC1 := Lib.hid c1
  have HD0 := Lib.hid d0'
  have HD1 := Lib.hid d1'
  have hlt0 : w.heap.size < ((w.alloc (.cells #[.string s, .string t] 48)).alloc (.cells #[.string u, .string v1] 48)).heap.size := by simp; omega
  have hlt1 : w.heap.size + 1 < ((w.alloc (.cells #[.string s, .string t] 48)).alloc (.cells #[.string u, .string v1] 48)).heap.size := by simp
  have HLT0 := Lib.hid hlt0
  have HLT1 := Lib.hid hlt1
  have hw1 : wrap64 ((s.size : Int) + (u.size : Int)) = (s.size : Int) + (u.size : Int) := by unfold wrap64; omega
  have hw2 : wrap64 ((t.size : Int) + (v1.size : Int)) = (t.size : Int) + (v1.size : Int) := by unfold wrap64; omega
  clear hba c0 c1 d0' d1' hb0 hpc hpz hs ht hu hv hlt0 hlt1
  go_enter Try.func5, Try.ntmps5
  go_wp2_with fail
  refine HL.out.mono ?_
  rintro e w1 ⟨x, rfl, hsmall, hb1'⟩
  dsimp only
  have hb1 := Below.on HX.out hb1'
  have q0 := (hb1'.cell (p := ⟨w.heap.size, 0, none⟩) HLT0.out).trans HC0.out
  have q1 := (hb1'.cell (p := ⟨w.heap.size, 1, none⟩) HLT0.out).trans HC1.out
  have q2 := (hb1'.cell (p := ⟨w.heap.size + 1, 0, none⟩) HLT1.out).trans HD0.out
  have q3 := (hb1'.cell (p := ⟨w.heap.size + 1, 1, none⟩) HLT1.out).trans HD1.out
  have hl1 : w.heap.size < w1.heap.size := Nat.lt_of_lt_of_le HLT0.out hb1'.size
  have hl2 : w.heap.size + 1 < w1.heap.size := Nat.lt_of_lt_of_le HLT1.out hb1'.size
  have HA0 := Lib.hid (fun (W : World) (hW : Below w1.heap.size w1 W) => (hW.cell (p := ⟨w.heap.size, 0, none⟩) hl1).trans q0)
  have HA1 := Lib.hid (fun (W : World) (hW : Below w1.heap.size w1 W) => (hW.cell (p := ⟨w.heap.size, 1, none⟩) hl1).trans q1)
  have HB0 := Lib.hid (fun (W : World) (hW : Below w1.heap.size w1 W) => (hW.cell (p := ⟨w.heap.size + 1, 0, none⟩) hl2).trans q2)
  have HB1 := Lib.hid (fun (W : World) (hW : Below w1.heap.size w1 W) => (hW.cell (p := ⟨w.heap.size + 1, 1, none⟩) hl2).trans q3)
  have HSM := Lib.hid hsmall
  clear hb1' HL HC0 HC1 HD0 HD1 HX HLT0 HLT1 hsmall
  cases x
  · have hsm := HSM.out rfl
    have HS := Lib.hid (fun (W : World) (hW : Below w1.heap.size w1 W) => sorted_calls D d0 ps W (HPC.out.below (Below.on hb1 hW)) (by have := hsm.1; omega))
    have HT := Lib.hid (fun (W : World) (hW : Below w1.heap.size w1 W) => rsorted_calls D d0 ps W (HPC.out.below (Below.on hb1 hW)) (by have := hsm.1; omega) HPZ.out)
    clear hsm HSM HPC HPZ
    generalize upP ps = z at *
    obtain ⟨n, hn⟩ : ∃ n, ps.length = n := ⟨_, rfl⟩
    rw [hn] at HS HT ⊢
    clear hn hpm
    by_cases h1 : 1000 < s.size + u.size
    · go_wp2_with (go_at_call 9; refine (live_calls _).mono ?_; rintro e w9 ⟨rfl, hb9⟩)
      go_ret
      exact ⟨rfl, Below.on hb1 hb9⟩
    · by_cases h2 : 1000 < t.size + v1.size
      · go_wp2_with (go_at_call 9; refine (live_calls _).mono ?_; rintro e w9 ⟨rfl, hb9⟩)
        go_ret
        exact ⟨rfl, Below.on hb1 hb9⟩
      · go_wp2_with fail
        have hB0 : Below w1.heap.size w1 w1.drew := (Below.refl _ _).drew
        refine wp_region_inv (by kernel_rfl) (fun W => Below w1.heap.size w1 W) (fun W W' => Below W.heap.size W W') (V w.heap.size n d0 D s t u v1 r z) [[], [], [30, 31], [], [], [33, 34], [32, 35], [36], [37], [37], [38, 39, 37], [37], [37], [41, 42, 37], [43, 37], [40, 44, 37], [37, 45], [46], [47], [48, 47], [47], [50, 47], [49, 51, 47], [47, 52], [53], [54], [54, 55], [56]] (by kernel_rfl) (fun W => Below.refl _ _) (fun d W W' v => V.keep w.heap.size n d0 D s t u v1 r z d W W' v) hB0 ?_ ?_
        · refine ⟨?_, ?_, ?_, ?_, ?_, ?_, ?_, ?_, ?_, ?_, ?_, ?_, ?_, ?_, ?_, ?_, ?_, ?_, ?_, ?_, ?_, ?_, ?_, ?_, ?_, ?_, ?_, ?_, trivial⟩
          · intro a W hI hsame ht
            have h3 := hsame 3 (by decide)
            change a.tmps.getD 3 undef = .pointer (some ⟨w.heap.size, 0, none⟩) at h3
            rw [if_pos (by rfl)]
            clear hsame
            have k0 := HA0.out W hI
            have k1 := HA1.out W hI
            unfold Oper.wp
            go_simp
            exact ⟨_, rfl, hI, Below.refl _ _, fun d hd => by cases hd; exact rfl⟩
          · intro a W hI hsame ht
            have h4 := hsame 4 (by decide)
            change a.tmps.getD 4 undef = .pointer (some ⟨w.heap.size + 1, 0, none⟩) at h4
            rw [if_pos (by rfl)]
            clear hsame
            have k0 := HB0.out W hI
            have k1 := HB1.out W hI
            unfold Oper.wp
            go_simp
            exact ⟨_, rfl, hI, Below.refl _ _, fun d hd => by cases hd; exact rfl⟩
          · intro a W hI hsame ht
            obtain ⟨h30, h31, _⟩ := ht
            change a.tmps.getD 30 undef = .agg #[.string s, .string t] at h30
            change a.tmps.getD 31 undef = .agg #[.string u, .string v1] at h31
            rw [if_pos (by rfl)]
            clear hsame
            unfold Oper.wp
            go_simp
            refine (HO.out W).mono ?_
            rintro e' W' ⟨rfl, hb⟩
            exact ⟨_, rfl, Below.on hI hb, hb, fun d hd => by cases hd; exact rfl⟩
          · intro a W hI hsame ht
            have h3 := hsame 3 (by decide)
            change a.tmps.getD 3 undef = .pointer (some ⟨w.heap.size, 0, none⟩) at h3
            rw [if_pos (by rfl)]
            clear hsame
            have k0 := HA0.out W hI
            have k1 := HA1.out W hI
            unfold Oper.wp
            go_simp
            exact ⟨_, rfl, hI, Below.refl _ _, fun d hd => by cases hd; exact rfl⟩
          · intro a W hI hsame ht
            have h4 := hsame 4 (by decide)
            change a.tmps.getD 4 undef = .pointer (some ⟨w.heap.size + 1, 0, none⟩) at h4
            rw [if_pos (by rfl)]
            clear hsame
            have k0 := HB0.out W hI
            have k1 := HB1.out W hI
            unfold Oper.wp
            go_simp
            exact ⟨_, rfl, hI, Below.refl _ _, fun d hd => by cases hd; exact rfl⟩
          · intro a W hI hsame ht
            obtain ⟨h33, h34, _⟩ := ht
            change a.tmps.getD 33 undef = .agg #[.string s, .string t] at h33
            change a.tmps.getD 34 undef = .agg #[.string u, .string v1] at h34
            rw [if_pos (by rfl)]
            clear hsame
            unfold Oper.wp
            go_simp
            refine (HD.out W).mono ?_
            rintro e' W' ⟨rfl, hb⟩
            exact ⟨_, rfl, Below.on hI hb, hb, fun d hd => by cases hd; exact rfl⟩
          · intro a W hI hsame ht
            obtain ⟨h32, h35, _⟩ := ht
            change a.tmps.getD 32 undef = .int .i64 r at h32
            change a.tmps.getD 35 undef = .int .i64 r at h35
            rw [if_pos (by rfl)]
            clear hsame
            unfold Oper.wp
            go_simp
            exact ⟨_, rfl, hI, Below.refl _ _, fun d hd => by cases hd; exact rfl⟩
          · intro a W hI hsame ht
            obtain ⟨h36, _⟩ := ht
            change a.tmps.getD 36 undef = .bool true at h36
            rw [if_pos (by rfl)]
            clear hsame
            unfold Oper.wp
            go_simp
            exact ⟨_, rfl, hI, Below.refl _ _, fun d hd => by cases hd; exact rfl⟩
          · intro a W hI hsame ht
            obtain ⟨h37, _⟩ := ht
            change a.tmps.getD 37 undef = .bool true at h37
            have h4 := hsame 4 (by decide)
            change a.tmps.getD 4 undef = .pointer (some ⟨w.heap.size + 1, 0, none⟩) at h4
            rw [if_pos (wanted_true (j := 7) (d := 37) rfl rfl h37)]
            clear hsame
            have k0 := HB0.out W hI
            have k1 := HB1.out W hI
            unfold Oper.wp
            go_simp
            exact ⟨_, rfl, hI, Below.refl _ _, fun d hd => by cases hd; exact rfl⟩
          · intro a W hI hsame ht
            obtain ⟨h37, _⟩ := ht
            change a.tmps.getD 37 undef = .bool true at h37
            have h3 := hsame 3 (by decide)
            change a.tmps.getD 3 undef = .pointer (some ⟨w.heap.size, 0, none⟩) at h3
            rw [if_pos (wanted_true (j := 7) (d := 37) rfl rfl h37)]
            clear hsame
            have k0 := HA0.out W hI
            have k1 := HA1.out W hI
            unfold Oper.wp
            go_simp
            exact ⟨_, rfl, hI, Below.refl _ _, fun d hd => by cases hd; exact rfl⟩
          · intro a W hI hsame ht
            obtain ⟨h38, h39, h37, _⟩ := ht
            change a.tmps.getD 38 undef = .agg #[.string u, .string v1] at h38
            change a.tmps.getD 39 undef = .agg #[.string s, .string t] at h39
            change a.tmps.getD 37 undef = .bool true at h37
            rw [if_pos (wanted_true (j := 7) (d := 37) rfl rfl h37)]
            clear hsame
            unfold Oper.wp
            go_simp
            refine (HN.out W).mono ?_
            rintro e' W' ⟨rfl, hb⟩
            exact ⟨_, rfl, Below.on hI hb, hb, fun d hd => by cases hd; exact rfl⟩
          · intro a W hI hsame ht
            obtain ⟨h37, _⟩ := ht
            change a.tmps.getD 37 undef = .bool true at h37
            have h3 := hsame 3 (by decide)
            change a.tmps.getD 3 undef = .pointer (some ⟨w.heap.size, 0, none⟩) at h3
            rw [if_pos (wanted_true (j := 7) (d := 37) rfl rfl h37)]
            clear hsame
            have k0 := HA0.out W hI
            have k1 := HA1.out W hI
            unfold Oper.wp
            go_simp
            exact ⟨_, rfl, hI, Below.refl _ _, fun d hd => by cases hd; exact rfl⟩
          · intro a W hI hsame ht
            obtain ⟨h37, _⟩ := ht
            change a.tmps.getD 37 undef = .bool true at h37
            have h4 := hsame 4 (by decide)
            change a.tmps.getD 4 undef = .pointer (some ⟨w.heap.size + 1, 0, none⟩) at h4
            rw [if_pos (wanted_true (j := 7) (d := 37) rfl rfl h37)]
            clear hsame
            have k0 := HB0.out W hI
            have k1 := HB1.out W hI
            unfold Oper.wp
            go_simp
            exact ⟨_, rfl, hI, Below.refl _ _, fun d hd => by cases hd; exact rfl⟩
          · intro a W hI hsame ht
            obtain ⟨h41, h42, h37, _⟩ := ht
            change a.tmps.getD 41 undef = .agg #[.string s, .string t] at h41
            change a.tmps.getD 42 undef = .agg #[.string u, .string v1] at h42
            change a.tmps.getD 37 undef = .bool true at h37
            rw [if_pos (wanted_true (j := 7) (d := 37) rfl rfl h37)]
            clear hsame
            unfold Oper.wp
            go_simp
            refine (HD.out W).mono ?_
            rintro e' W' ⟨rfl, hb⟩
            exact ⟨_, rfl, Below.on hI hb, hb, fun d hd => by cases hd; exact rfl⟩
          · intro a W hI hsame ht
            obtain ⟨h43, h37, _⟩ := ht
            change a.tmps.getD 43 undef = .int .i64 r at h43
            change a.tmps.getD 37 undef = .bool true at h37
            rw [if_pos (wanted_true (j := 7) (d := 37) rfl rfl h37)]
            clear hsame
            have hw : IntKind.i64.wrap (-r) = -r := IntWalk.i64_in _ ⟨by omega, by omega⟩
            unfold Oper.wp
            go_simp
            exact ⟨_, rfl, hI, Below.refl _ _, fun d hd => by cases hd; exact rfl⟩
          · intro a W hI hsame ht
            obtain ⟨h40, h44, h37, _⟩ := ht
            change a.tmps.getD 40 undef = .int .i64 (-r) at h40
            change a.tmps.getD 44 undef = .int .i64 (-r) at h44
            change a.tmps.getD 37 undef = .bool true at h37
            rw [if_pos (wanted_true (j := 7) (d := 37) rfl rfl h37)]
            clear hsame
            unfold Oper.wp
            go_simp
            exact ⟨_, rfl, hI, Below.refl _ _, fun d hd => by cases hd; exact rfl⟩
          · intro a W hI hsame ht
            obtain ⟨h37, h45, _⟩ := ht
            change a.tmps.getD 37 undef = .bool true at h37
            change a.tmps.getD 45 undef = .bool true at h45
            rw [if_pos (by rfl)]
            clear hsame
            unfold Oper.wp
            go_simp
            exact ⟨_, rfl, hI, Below.refl _ _, fun d hd => by cases hd; exact rfl⟩
          · intro a W hI hsame ht
            obtain ⟨h46, _⟩ := ht
            change a.tmps.getD 46 undef = .bool true at h46
            rw [if_pos (by rfl)]
            clear hsame
            unfold Oper.wp
            go_simp
            exact ⟨_, rfl, hI, Below.refl _ _, fun d hd => by cases hd; exact rfl⟩
          · intro a W hI hsame ht
            obtain ⟨h47, _⟩ := ht
            change a.tmps.getD 47 undef = .bool true at h47
            have h2 := hsame 2 (by decide)
            change a.tmps.getD 2 undef = .slice D n d0 at h2
            rw [if_pos (wanted_true (j := 17) (d := 47) rfl rfl h47)]
            clear hsame
            unfold Oper.wp
            go_simp
            exact ⟨_, rfl, hI, Below.refl _ _, fun d hd => by cases hd; exact rfl⟩
          · intro a W hI hsame ht
            obtain ⟨h48, h47, _⟩ := ht
            change a.tmps.getD 48 undef = .slice D n d0 at h48
            change a.tmps.getD 47 undef = .bool true at h47
            rw [if_pos (wanted_true (j := 17) (d := 47) rfl rfl h47)]
            clear hsame
            unfold Oper.wp
            go_simp
            refine (HS.out W hI).mono ?_
            rintro e' W' ⟨rfl, hb⟩
            exact ⟨_, rfl, Below.on hI hb, hb, fun d hd => by cases hd; exact rfl⟩
          · intro a W hI hsame ht
            obtain ⟨h47, _⟩ := ht
            change a.tmps.getD 47 undef = .bool true at h47
            have h2 := hsame 2 (by decide)
            change a.tmps.getD 2 undef = .slice D n d0 at h2
            rw [if_pos (wanted_true (j := 17) (d := 47) rfl rfl h47)]
            clear hsame
            unfold Oper.wp
            go_simp
            exact ⟨_, rfl, hI, Below.refl _ _, fun d hd => by cases hd; exact rfl⟩
          · intro a W hI hsame ht
            obtain ⟨h50, h47, _⟩ := ht
            change a.tmps.getD 50 undef = .slice D n d0 at h50
            change a.tmps.getD 47 undef = .bool true at h47
            rw [if_pos (wanted_true (j := 17) (d := 47) rfl rfl h47)]
            clear hsame
            unfold Oper.wp
            go_simp
            refine (HT.out W hI).mono ?_
            rintro e' W' ⟨rfl, hb⟩
            exact ⟨_, rfl, Below.on hI hb, hb, fun d hd => by cases hd; exact rfl⟩
          · intro a W hI hsame ht
            obtain ⟨h49, h51, h47, _⟩ := ht
            change a.tmps.getD 49 undef = .bool z at h49
            change a.tmps.getD 51 undef = .bool z at h51
            change a.tmps.getD 47 undef = .bool true at h47
            rw [if_pos (wanted_true (j := 17) (d := 47) rfl rfl h47)]
            clear hsame
            unfold Oper.wp
            go_simp
            exact ⟨_, rfl, hI, Below.refl _ _, fun d hd => by cases hd; exact rfl⟩
          · intro a W hI hsame ht
            obtain ⟨h47, h52, _⟩ := ht
            change a.tmps.getD 47 undef = .bool true at h47
            change a.tmps.getD 52 undef = .bool true at h52
            rw [if_pos (by rfl)]
            clear hsame
            unfold Oper.wp
            go_simp
            exact ⟨_, rfl, hI, Below.refl _ _, fun d hd => by cases hd; exact rfl⟩
          · intro a W hI hsame ht
            obtain ⟨h53, _⟩ := ht
            change a.tmps.getD 53 undef = .bool true at h53
            rw [if_pos (by rfl)]
            clear hsame
            unfold Oper.wp
            go_simp
            exact ⟨_, rfl, hI, Below.refl _ _, fun d hd => by cases hd; exact rfl⟩
          · intro a W hI hsame ht
            obtain ⟨h54, _⟩ := ht
            change a.tmps.getD 54 undef = .bool true at h54
            rw [if_pos (wanted_true (j := 24) (d := 54) rfl rfl h54)]
            clear hsame
            unfold Oper.wp
            go_simp
            refine (live_calls _).mono ?_
            rintro e' W' ⟨rfl, hb⟩
            exact ⟨_, rfl, Below.on hI hb, hb, fun d hd => by cases hd; exact rfl⟩
          · intro a W hI hsame ht
            obtain ⟨h54, h55, _⟩ := ht
            change a.tmps.getD 54 undef = .bool true at h54
            change a.tmps.getD 55 undef = .bool true at h55
            rw [if_pos (by rfl)]
            clear hsame
            unfold Oper.wp
            go_simp
            exact ⟨_, rfl, hI, Below.refl _ _, fun d hd => by cases hd; exact rfl⟩
          · intro a W hI hsame ht
            obtain ⟨h56, _⟩ := ht
            change a.tmps.getD 56 undef = .bool true at h56
            rw [if_pos (by rfl)]
            clear hsame
            unfold Oper.wp
            go_simp
            exact ⟨_, rfl, hI, Below.refl _ _, fun d hd => by cases hd; exact rfl⟩
        · intro a W hI hsz hdef hsame hall
          have h6 := hall 6 (by decide)
          change a.tmps.getD 6 undef = .bool true at h6
          clear hall hsame
          go_wp2
          exact bodyPost_ret (results_tmp (by rfl) _ _ _) hdef ⟨congrArg Ending.returned h6, Below.on hb1 hI⟩
  · go_wp2_with (go_at_call 9; refine (live_calls _).mono ?_; rintro e w9 ⟨rfl, hb9⟩)
    go_ret
    exact ⟨rfl, Below.on hb1 hb9⟩

/- From the walk to the row. -/
set_option maxRecDepth 100000 in
theorem lifted (os : Os) (started : os.Started) (H : Type) (enc : TypeId × Value → H) :
    ReturnsInHanded {} Try.checked os 5 .any (Rows.recOrdersSpec.pre6 enc Try.prog Try.f5 Rows.recOrdersRow.domain false) (Rows.recOrdersSpec.post enc Try.prog Try.f5 false true false false) := by
  refine returnsInHanded_of_change_sized (C := Try.checked) own started (by kernel_rfl) Try.func5
    (ChangeSpec.witness6 (enc := enc) (C := Try.checked) false ⟨#[], #[.agg #[.string ByteArray.empty, .string ByteArray.empty], .agg #[.string ByteArray.empty, .string ByteArray.empty], .slice none 0 0], []⟩ 8 (by kernel_rfl) (by kernel_rfl) (by kernel_rfl) (by kernel_rfl)) ?_
  intro W base args ds gs before hval0 hW hcnd hsized _
  have hval : ∀ (j : Nat) t v, Try.f5.params[j]? = some t → args[j]? = some v → Value.okWide Try.prog W .any base t v := hval0
  have hW' := hW
  obtain ⟨p, q, hA0, hV, rfl, hfz, hnd⟩ := hW
  have hA : DataW.TrodAll enc Try.prog W 0 (fun _ => true) true Try.f5.params.toList args.toList ds p := hA0
  have hsz : (DataW.weightsEach Try.prog (Try.f5.params.toList ++ Rows.recOrdersSpec.plain.varTypes Try.prog) (ds ++ gs)).all (· ≤ reachBytes) = true := hsized
  rw [Try.params5] at hA hval hsz
  obtain ⟨v0, vs0, d0, ds0, p0, q0, hargs, rfl, rfl, h0, r0⟩ := trodAll_cons hA
  obtain ⟨v1, vs1, d1, ds1, p1, q1, rfl, rfl, rfl, h1, r1⟩ := trodAll_cons r0
  obtain ⟨v2, vs2, d2, ds2, p2, q2, rfl, rfl, rfl, h2, r2⟩ := trodAll_cons r1
  obtain ⟨rfl, rfl, rfl⟩ := trodAll_nil r2
  obtain rfl : args = #[v0, v1, v2] := by cases args; simp_all
  obtain ⟨rfl, rfl⟩ := trodVars_none hV
  have k0 := h0
  have lt0 : ∀ x ∈ p0, x.block < W.heap.size := by obtain ⟨m, hm⟩ := k0; exact DataW.trod_lt m _ _ _ hm
  have wt0 := weights_of_each hsz (j := 0) (t := 48) (d := d0) rfl rfl
  obtain ⟨s0, t0, rfl, ws0, wu0⟩ := pair_of_arg Try.underlying48 (by kernel_rfl) (by kernel_rfl) Try.underlying9 Try.underlying9 (hval 0 48 v0 rfl rfl) h0 wt0
  have k1 := h1
  have lt1 : ∀ x ∈ p1, x.block < W.heap.size := by obtain ⟨m, hm⟩ := k1; exact DataW.trod_lt m _ _ _ hm
  have wt1 := weights_of_each hsz (j := 1) (t := 48) (d := d1) rfl rfl
  obtain ⟨s1, t1, rfl, ws1, wu1⟩ := pair_of_arg Try.underlying48 (by kernel_rfl) (by kernel_rfl) Try.underlying9 Try.underlying9 (hval 1 48 v1 rfl rfl) h1 wt1
  obtain ⟨a2, len2, cap2, rfl⟩ := okWide_slice Try.underlying23 (hval 2 23 v2 rfl rfl)
  have k2 := h2
  have lt2 : ∀ x ∈ p2, x.block < W.heap.size := by obtain ⟨m, hm⟩ := k2; exact DataW.trod_lt m _ _ _ hm
  have wt2 := weights_of_each hsz (j := 2) (t := 23) (d := d2) rfl rfl
  obtain ⟨x2, xl2, xc2, xm2, xx2, xs2⟩ : ∃ xs : List (ByteArray × ByteArray), xs.length = len2 ∧ xs.length ≤ cap2 ∧ xs.length ≤ maxLen ∧ CellsG enP W a2 cap2 xs ∧ ∀ s ∈ xs, s.1.size ≤ reachBytes ∧ s.2.size ≤ reachBytes := by
    obtain ⟨fuel, hf⟩ := h2
    exact pairs_of_arg_sized 23 48 Try.underlying23 Try.underlying48 (by kernel_rfl) Try.underlying9 Try.underlying9 (by kernel_rfl) (by kernel_rfl) rfl rfl hf wt2
  subst xl2
  clear hA0 hval0
  refine (walk s0 t0 s1 t1 a2 cap2 x2 W ws0 wu0 ws1 wu1 xm2 xx2 xs2).mono fun e W' ⟨he, bel⟩ => ?_
  subst he
  exact ⟨_, rfl, _, _, _, [], _, [], hW', trodAll_mk1 (shut_bool Try.underlying4 _), (trodAll_cons_mk (Below.trod laidOut (by kernel_rfl) (of_decide_eq_true (by kernel_rfl)) k0 bel lt0) (trodAll_cons_mk (Below.trod laidOut (by kernel_rfl) (of_decide_eq_true (by kernel_rfl)) k1 bel lt1) (trodAll_cons_mk (Below.trod laidOut (by kernel_rfl) (of_decide_eq_true (by kernel_rfl)) k2 bel lt2) trodAll_mk0))), rfl, bel.frame _, fun h => by cases h⟩

theorem over : Rows.recOrdersRow.holds Try.pinned (OpenSpec.ofChange Rows.recOrdersSpec) :=
  OpenClaim.holds_of_wide 5 Try.f5 rfl rfl rfl rfl rfl rfl rfl ⟨rfl, rfl, rfl, rfl, rfl⟩ rfl rfl rfl rfl rfl (by kernel_rfl) Try.func5 (by kernel_rfl)
    (of_decide_eq_true (by kernel_rfl)) (by unfold Func.isWrapper; first | (rw [if_pos (by decide +kernel)]; kernel_rfl) | (rw [if_neg (by decide +kernel)]; exact ⟨rfl, rfl⟩))
    (fun os started H enc _ => lifted os started H enc)

end recOrders

/-- The statement. -/
theorem recOrders_holds : Rows.RecOrdersSaid := recOrders.over
#print axioms recOrders_holds
end Go.Proofs.Ytimcolanmbklpaa
