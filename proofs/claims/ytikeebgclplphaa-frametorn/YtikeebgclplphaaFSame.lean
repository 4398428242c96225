/-
  The contract of the document Same: whether two slices of byte slices hold the same bytes. Conditions: bytes from 0 to 255.
-/
import Derived.Test.YtikeebgclplphaaFRAll
namespace Go.Proofs.Ytikeebgclplphaa
open Go.ChangeShapes Go.WideShapes Go.ChangeAt Go.RowKit
set_option linter.unusedVariables false

/-- What each slot of the region holds. -/
def VS (ba oa bb ob n c d0 k : Nat) (A3 A4 : Option Addr) (c3 c4 : Nat) (l3 l4 : List Int) (b : Bool) (d : Nat) (W : World) (v : Value) : Prop :=
  match d with
  | 17 => v = .slice (some ⟨ba, oa, none⟩) n c
  | 22 => v = .slice (some ⟨bb, ob, none⟩) n d0
  | 18 | 23 => v = .int .i64 (k : Int)
  | 19 => v = .pointer (some ⟨ba, oa + k, none⟩)
  | 24 => v = .pointer (some ⟨bb, ob + k, none⟩)
  | 20 => v = .slice A3 l3.length c3
  | 25 => v = .slice A4 l4.length c4
  | 21 => v = .string (str l3)
  | 26 => v = .string (str l4)
  | 27 => v = .bool (!b)
  | _ => True
theorem VS.keep (ba oa bb ob n c d0 k : Nat) (A3 A4 : Option Addr) (c3 c4 : Nat) (l3 l4 : List Int) (b : Bool) (d : Nat) (W W' : World) (v : Value) (hb : Below W.heap.size W W') (h : VS ba oa bb ob n c d0 k A3 A4 c3 c4 l3 l4 b d W v) : VS ba oa bb ob n c d0 k A3 A4 c3 c4 l3 l4 b d W' v := by
  unfold VS at *
  split at h
  all_goals first | exact h | (obtain ⟨A, c, rfl, h⟩ := h; exact ⟨A, c, rfl, h.below hb⟩)

def RelS (w : World) (a b : List (List Int)) (i : Value) (wr : World) : Prop := ∃ k : Nat, k ≤ a.length ∧ i = .int .i64 k ∧ a.take k = b.take k ∧ Below w.heap.size w wr

theorem take_snoc_eq {a b : List (List Int)} {k : Nat} (ha : k < a.length) (hb : k < b.length) (h : a.take k = b.take k) (he : a[k] = b[k]) : a.take (k + 1) = b.take (k + 1) := by
  rw [List.take_succ_eq_append_getElem ha, List.take_succ_eq_append_getElem hb, h, he]
theorem listsOf_get {rs : List Elt} {k : Nat} (h : k < rs.length) : (listsOf rs)[k]'(by rw [listsOf_length]; exact h) = rs[k].2.2 := by simp [listsOf]

set_option maxRecDepth 100000 in
set_option maxHeartbeats 4000000 in
theorem same_calls (A B : Option Addr) (c d0 : Nat) (ra rb : List Elt) (w : World) (ha : CellsL w A c ra) (hb : CellsL w B d0 rb) (hea : EachL w ra) (heb : EachL w rb) (hba : ∀ r ∈ ra, IsB r.2.2) (hbb : ∀ r ∈ rb, IsB r.2.2) (hl : ra.length ≤ 1000000) (hlb : rb.length ≤ 1000000) :
    Calls Try.prog 16 #[.slice A ra.length c, .slice B rb.length d0] w fun e w' => e = .returned (.bool (decide (listsOf ra = listsOf rb))) ∧ Below w.heap.size w w' := by
  by_cases hne : ra.length = rb.length
  · obtain ⟨n, hn⟩ : ∃ n, ra.length = n := ⟨_, rfl⟩
    have hn' : rb.length = n := by omega
    rw [hn, hn']
    by_cases h0 : n = 0
    · subst h0
      have e1 : ra = [] := List.eq_nil_of_length_eq_zero hn
      have e2 : rb = [] := List.eq_nil_of_length_eq_zero hn'
      subst e1 e2
      clear ha hb hea heb hba hbb
      go_enter Try.func16, Try.ntmps16
      go_wp2
      go_loopw [5] (fun i wr => i = .int .i64 0 ∧ Below w.heap.size w wr) (fun _ _ => 0)
      case atStart => exact ⟨rfl, Below.refl _ _⟩
      case round =>
        obtain ⟨rfl, hb3⟩ := hrel
        go_wp2
        go_ret
        exact ⟨rfl, hb3⟩
    · obtain ⟨ba, oa, rfl, hbs, hca⟩ := ha.at_ (by omega)
      obtain ⟨bb, ob, rfl, hbs', hcb⟩ := hb.at_ (by omega)
      have HA := Lib.hid (show (listsOf ra).length = n by rw [listsOf_length]; exact hn)
      have HB := Lib.hid (show (listsOf rb).length = n by rw [listsOf_length]; exact hn')
      have HK := Lib.hid (fun (k : Nat) (hk : k < n) => (show ∃ A3 c3 l3 A4 c4 l4, (∀ W, Below w.heap.size w W → W.cell? ⟨ba, oa + k, none⟩ = some (.slice A3 (List.length l3) c3)) ∧ (∀ W, Below w.heap.size w W → W.cell? ⟨bb, ob + k, none⟩ = some (.slice A4 (List.length l4) c4)) ∧
          (∀ W, Below w.heap.size w W → Lies W A3 c3 l3) ∧ (∀ W, Below w.heap.size w W → Lies W A4 c4 l4) ∧ IsB l3 ∧ IsB l4 ∧ (listsOf ra)[k]? = some l3 ∧ (listsOf rb)[k]? = some l4 from by
        have h1 : k < ra.length := by omega
        have h2 : k < rb.length := by omega
        refine ⟨ra[k].1, ra[k].2.1, ra[k].2.2, rb[k].1, rb[k].2.1, rb[k].2.2, fun W hW => (hW.cell (p := ⟨ba, oa + k, none⟩) hbs).trans (hca k h1), fun W hW => (hW.cell (p := ⟨bb, ob + k, none⟩) hbs').trans (hcb k h2),
          fun W hW => (hea _ (List.getElem_mem h1)).below hW, fun W hW => (heb _ (List.getElem_mem h2)).below hW, hba _ (List.getElem_mem h1), hbb _ (List.getElem_mem h2), ?_, ?_⟩
        · simp [listsOf, h1]
        · simp [listsOf, h2]))
      generalize listsOf ra = la at *
      generalize listsOf rb = lb at *
      clear hca hcb ha hb hea heb hba hbb
      have hn6 : n ≤ 1000000 := by omega
      clear hl hlb hne hn hn' ra rb
      obtain ⟨b0, hb0⟩ : ∃ b0, b0 = decide (la = lb) := ⟨_, rfl⟩
      rw [← hb0]
      have HB0 := Lib.hid hb0
      clear hb0
      go_enter Try.func16, Try.ntmps16
      go_wp2
      go_loopw [5] (RelS w la lb) (fun i _ => n - (intOf i).toNat)
      case atStart => exact ⟨0, by omega, rfl, rfl, Below.refl _ _⟩
      case round =>
        obtain ⟨k, hk, rfl, htk, hb3⟩ := hrel
        have HT := Lib.hid htk
        rw [HA.out] at hk
        clear htk
        by_cases hlt : k < n
        · obtain ⟨A3, c3, l3, A4, c4, l4, hca, hcb, hla, hlb, hb1, hb2, hg1, hg2⟩ := HK.out k hlt
          have hS := str_eq_iff hb1 hb2
          have HCa := Lib.hid hca
          have HCb := Lib.hid hcb
          have HLa := Lib.hid hla
          have HLb := Lib.hid hlb
          have HG1 := Lib.hid hg1
          have HG2 := Lib.hid hg2
          obtain ⟨b, hbe⟩ : ∃ b, b = decide (l3 = l4) := ⟨_, rfl⟩
          rw [← hbe] at hS
          have HBE := Lib.hid hbe
          have HS := Lib.hid hS
          clear hca hcb hla hlb hb1 hb2 hg1 hg2 hS hbe
          go_wp2_with fail
          refine wp_region_inv (by kernel_rfl) (fun W => Below w.heap.size w W) (fun W W' => Below W.heap.size W W') (VS ba oa bb ob n c d0 k A3 A4 c3 c4 l3 l4 b) [[], [], [17, 18], [19], [20], [], [], [22, 23], [24], [25], [21, 26]] (by kernel_rfl) (fun W => Below.refl _ _) (fun d W W' v => VS.keep ba oa bb ob n c d0 k A3 A4 c3 c4 l3 l4 b d W W' v) hb3.drew ?_ ?_
          · refine ⟨?_, ?_, ?_, ?_, ?_, ?_, ?_, ?_, ?_, ?_, ?_, trivial⟩
            · intro a W hI hsame ht
              have h0 := hsame 0 (by decide)
              change a.tmps.getD 0 undef = .slice (some ⟨ba, oa, none⟩) n c at h0
              rw [if_pos (by rfl)]
              clear hsame
              unfold Oper.wp
              go_simp
              exact ⟨_, rfl, hI, Below.refl _ _, fun d hd => by cases hd; exact rfl⟩
            · intro a W hI hsame ht
              have h5 := hsame 5 (by decide)
              change a.tmps.getD 5 undef = .int .i64 (k : Int) at h5
              rw [if_pos (by rfl)]
              clear hsame
              unfold Oper.wp
              go_simp
              exact ⟨_, rfl, hI, Below.refl _ _, fun d hd => by cases hd; exact rfl⟩
            · intro a W hI hsame ht
              obtain ⟨h17, h18, _⟩ := ht
              change a.tmps.getD 17 undef = .slice (some ⟨ba, oa, none⟩) n c at h17
              change a.tmps.getD 18 undef = .int .i64 (k : Int) at h18
              rw [if_pos (by rfl)]
              clear hsame
              have hu := run_underlying (P := Try.prog) Try.underlying35
              unfold Oper.wp
              go_simp
              exact ⟨_, rfl, hI, Below.refl _ _, fun d hd => by cases hd; exact rfl⟩
            · intro a W hI hsame ht
              obtain ⟨h19, _⟩ := ht
              change a.tmps.getD 19 undef = .pointer (some ⟨ba, oa + k, none⟩) at h19
              rw [if_pos (by rfl)]
              clear hsame
              have hck := HCa.out W hI
              unfold Oper.wp
              go_simp
              exact ⟨_, rfl, hI, Below.refl _ _, fun d hd => by cases hd; exact rfl⟩
            · intro a W hI hsame ht
              obtain ⟨h20, _⟩ := ht
              change a.tmps.getD 20 undef = .slice A3 l3.length c3 at h20
              rw [if_pos (by rfl)]
              clear hsame
              have hs := run_str (HLa.out W hI)
              unfold Oper.wp
              go_simp
              exact ⟨_, rfl, hI, Below.refl _ _, fun d hd => by cases hd; exact rfl⟩
            · intro a W hI hsame ht
              have h1 := hsame 1 (by decide)
              change a.tmps.getD 1 undef = .slice (some ⟨bb, ob, none⟩) n d0 at h1
              rw [if_pos (by rfl)]
              clear hsame
              unfold Oper.wp
              go_simp
              exact ⟨_, rfl, hI, Below.refl _ _, fun d hd => by cases hd; exact rfl⟩
            · intro a W hI hsame ht
              have h5 := hsame 5 (by decide)
              change a.tmps.getD 5 undef = .int .i64 (k : Int) at h5
              rw [if_pos (by rfl)]
              clear hsame
              unfold Oper.wp
              go_simp
              exact ⟨_, rfl, hI, Below.refl _ _, fun d hd => by cases hd; exact rfl⟩
            · intro a W hI hsame ht
              obtain ⟨h22, h23, _⟩ := ht
              change a.tmps.getD 22 undef = .slice (some ⟨bb, ob, none⟩) n d0 at h22
              change a.tmps.getD 23 undef = .int .i64 (k : Int) at h23
              rw [if_pos (by rfl)]
              clear hsame
              have hu := run_underlying (P := Try.prog) Try.underlying35
              unfold Oper.wp
              go_simp
              exact ⟨_, rfl, hI, Below.refl _ _, fun d hd => by cases hd; exact rfl⟩
            · intro a W hI hsame ht
              obtain ⟨h24, _⟩ := ht
              change a.tmps.getD 24 undef = .pointer (some ⟨bb, ob + k, none⟩) at h24
              rw [if_pos (by rfl)]
              clear hsame
              have hck := HCb.out W hI
              unfold Oper.wp
              go_simp
              exact ⟨_, rfl, hI, Below.refl _ _, fun d hd => by cases hd; exact rfl⟩
            · intro a W hI hsame ht
              obtain ⟨h25, _⟩ := ht
              change a.tmps.getD 25 undef = .slice A4 l4.length c4 at h25
              rw [if_pos (by rfl)]
              clear hsame
              have hs := run_str (HLb.out W hI)
              unfold Oper.wp
              go_simp
              exact ⟨_, rfl, hI, Below.refl _ _, fun d hd => by cases hd; exact rfl⟩
            · intro a W hI hsame ht
              obtain ⟨h21, h26, _⟩ := ht
              change a.tmps.getD 21 undef = .string (str l3) at h21
              change a.tmps.getD 26 undef = .string (str l4) at h26
              rw [if_pos (by rfl)]
              clear hsame
              unfold Oper.wp
              go_simp
              exact ⟨_, rfl, hI, Below.refl _ _, fun d hd => by cases hd; exact congrArg Value.bool (bne_of HS.out)⟩
          · intro a W hI hsz hdef hsame hall
            have h17 := hall 17 (by decide)
            change a.tmps.getD 17 undef = .slice (some ⟨ba, oa, none⟩) n c at h17
            have h18 := hall 18 (by decide)
            change a.tmps.getD 18 undef = .int .i64 (k : Int) at h18
            have h19 := hall 19 (by decide)
            change a.tmps.getD 19 undef = .pointer (some ⟨ba, oa + k, none⟩) at h19
            have h20 := hall 20 (by decide)
            change a.tmps.getD 20 undef = .slice A3 l3.length c3 at h20
            have h21 := hall 21 (by decide)
            change a.tmps.getD 21 undef = .string (str l3) at h21
            have h22 := hall 22 (by decide)
            change a.tmps.getD 22 undef = .slice (some ⟨bb, ob, none⟩) n d0 at h22
            have h23 := hall 23 (by decide)
            change a.tmps.getD 23 undef = .int .i64 (k : Int) at h23
            have h24 := hall 24 (by decide)
            change a.tmps.getD 24 undef = .pointer (some ⟨bb, ob + k, none⟩) at h24
            have h25 := hall 25 (by decide)
            change a.tmps.getD 25 undef = .slice A4 l4.length c4 at h25
            have h26 := hall 26 (by decide)
            change a.tmps.getD 26 undef = .string (str l4) at h26
            have h27 := hall 27 (by decide)
            change a.tmps.getD 27 undef = .bool (!b) at h27
            have hact := act_of (l := [_, _, _, _, _, _, _, _, _, _, _, _, _, _, _, _, _, _, _, _, _, _, _, _, _, _, _, _]) (ds := []) (by exact hsz) hdef ⟨hsame 0 (by decide), hsame 1 (by decide), hsame 2 (by decide), hsame 3 (by decide), hsame 4 (by decide), hsame 5 (by decide), hsame 6 (by decide), hsame 7 (by decide), hsame 8 (by decide), hsame 9 (by decide), hsame 10 (by decide), hsame 11 (by decide), hsame 12 (by decide), hsame 13 (by decide), hsame 14 (by decide), hsame 15 (by decide), hsame 16 (by decide), h17, h18, h19, h20, h21, h22, h23, h24, h25, h26, h27, trivial⟩
            clear hall hsame hsz hdef h17 h18 h19 h20 h21 h22 h23 h24 h25 h26 h27
            subst hact
            cases b
            · have hne : ¬ l3 = l4 := by have := HBE.out; simpa using this
              have e0 : b0 = false := by
                rw [HB0.out, decide_eq_false_iff_not]
                intro e
                apply hne
                have h1 := HG1.out
                rw [e, HG2.out] at h1
                cases h1; rfl
              subst e0
              clear hne
              go_wp2
              go_ret
              exact ⟨rfl, hI⟩
            · have heq : l3 = l4 := by have := HBE.out; simpa using this
              have h1 : la.take (k + 1) = lb.take (k + 1) := by
                rw [List.take_add_one, List.take_add_one, HT.out, HG1.out, HG2.out, heq]
              have HN := Lib.hid h1
              clear h1 heq
              go_wp2
              go_roundw
              case rel => refine ⟨_, .int .i64 ((k : Int) + 1), _, _, _, _, _, _, _, _, _, _, _, _, _, _, _, _, _, ⟨k + 1, by rw [HA.out]; omega, by go_num, HN.out, hI⟩, rfl⟩
              case measure => simp [intOf]; omega
        · obtain rfl : k = n := by omega
          go_wp2
          go_ret
          refine ⟨?_, hb3⟩
          have e1 := HT.out
          rw [List.take_of_length_le (by rw [HA.out]; omega), List.take_of_length_le (by rw [HB.out]; omega)] at e1
          rw [HB0.out, decide_eq_true e1]
          rfl
  · have e : decide (listsOf ra = listsOf rb) = false := by
      rw [decide_eq_false_iff_not]
      intro h
      apply hne
      rw [← listsOf_length, ← listsOf_length, h]
    rw [e]
    have hne2 : ((ra.length : Int) == (rb.length : Int)) = false := by simp; omega
    clear ha hb hea heb hba hbb e hne
    go_enter Try.func16, Try.ntmps16
    go_wp2
    go_ret
    exact ⟨rfl, Below.refl _ _⟩
end Go.Proofs.Ytikeebgclplphaa
