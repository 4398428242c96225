/-
  Contracts of slices.Grow of a nil slice, slices.Concat of two byte slices, frame.Size, frame.Put, the document Bytes and the law file code. Conditions: slices of at most 900,000 bytes, each from 0 to 255.
-/
import Derived.Test.YtikeebgclplphaaFNums
import Derived.Test.YtikeebgclplphaaLL
import Derived.Test.YtikeebgclplphaaCPut
import Derived.Test.YtikeebgclplphaaVBytes
import Derived.Test.YtikeebgclplphaaVPut
import Derived.Lib.AppendZeros
namespace Go.Proofs.Ytikeebgclplphaa
open Go.ChangeShapes Go.WideShapes Go.ChangeAt Go.RowKit
set_option linter.unusedVariables false

theorem zero_size (n : Nat) : (Builtin.zeroCells (Value.int .u8 0).cells n).size = n := by simp [Builtin.zeroCells, Value.cells]

set_option maxHeartbeats 1000000 in
theorem grow_calls (n : Int) (w : World) (h0 : 0 ≤ n) (h1 : n ≤ 3000000) :
    Calls Try.prog 29 #[.slice none 0 0, .int .i64 n] w (Own w.heap.size w []) := by
  obtain ⟨n, rfl⟩ := Int.eq_ofNat_of_zero_le h0
  obtain ⟨i0, hi, hz0, hz1, hz2⟩ := info_parts Try.info5
  have hneg : decide ((n : Int) < 0) = false := by simp
  by_cases hn : n = 0
  · subst hn
    go_enter Try.func29, Try.ntmps29
    go_wp2
    go_ret
    exact ⟨none, 0, rfl, World.ownsRow_nil _ _ _ _, Below.refl _ _⟩
  · have hpos : decide (0 < (n : Int)) = true := by simp; omega
    have hge : n ≤ grownCap w n 0 5 := grownCap_ge w _ _ _
    have hle : grownCap w n 0 5 ≤ maxLen := grownCap_le_maxLen w _ _ _ (by unfold maxLen; omega)
    have hrz := fun ty => Lib.run_append_nil_zeros w 22 3 ty 5 i0 (.int .u8 0) .i64 .i64 Try.underlying22 Try.underlying3 hi hz0 n (by omega) (by rw [hz1]; omega) (by omega) (by rw [hz2]; omega)
    generalize grownCap w n 0 5 = G at *
    have hown : (w.drew.alloc (.cells (Builtin.zeroCells (Value.int .u8 0).cells n ++ Builtin.zeroCells (Value.int .u8 0).cells (G - n)) 5)).ownsRow w.heap.size 5 1 (.slice (some ⟨w.heap.size, 0, none⟩) 0 G) 0 [] :=
      World.ownsRow_made w.drew _ G (Nat.le_refl _) hle (by simp only [Array.size_append, zero_size]; omega)
    have HO := Lib.hid hown
    clear hown hle
    generalize (Builtin.zeroCells (Value.int .u8 0).cells n ++ Builtin.zeroCells (Value.int .u8 0).cells (G - n)) = Z at *
    go_enter Try.func29, Try.ntmps29
    go_wp2_with (at_builtin; refine Lib.wpList_append_run _ rfl _ _ _ _ rfl _ _ rfl rfl _ _ (hrz _) ?_)
    go_ret
    exact ⟨_, G, rfl, HO.out, ((Below.refl _ _).drew).alloc (Nat.le_refl _) _⟩

/-- The bytes of all elements, one after the other. -/
def flatL (rs : List Elt) : List Int := (listsOf rs).flatten
theorem flatL_step {rs : List Elt} {k : Nat} (h : k < rs.length) : flatL (rs.take (k + 1)) = flatL (rs.take k) ++ rs[k].2.2 := by
  unfold flatL
  rw [List.take_succ_eq_append_getElem h, listsOf_append]
  simp [listsOf]
theorem flatL_take_le (rs : List Elt) (k : Nat) : (flatL (rs.take k)).length ≤ (flatL rs).length := by
  have : flatL rs = flatL (rs.take k) ++ flatL (rs.drop k) := by
    unfold flatL
    rw [← List.flatten_append, ← listsOf_append, List.take_append_drop]
  rw [this, List.length_append]; omega

def RelC1 (rs : List Elt) (s i : Value) : Prop := ∃ k : Nat, k ≤ rs.length ∧ i = .int .i64 k ∧ s = .int .i64 ((flatL (rs.take k)).length : Nat)
def RelC2 (B : Nat) (w : World) (rs : List Elt) (v i : Value) (wr : World) : Prop :=
  ∃ k : Nat, k ≤ rs.length ∧ i = .int .i64 k ∧ (∃ A c L, v = .slice A L.length c ∧ L = flatL (rs.take k) ∧ OwnS B wr A c L) ∧ Below B w wr

set_option maxHeartbeats 2000000 in
theorem concat_calls (A : Option Addr) (c : Nat) (rs : List Elt) (w : World) (h : CellsL w A c rs) (he : EachL w rs) (hpos : 0 < rs.length) (hc : rs.length ≤ 1000) (hl : (flatL rs).length ≤ 3000000) :
    Calls Try.prog 18 #[.slice A rs.length c] w (Own w.heap.size w (flatL rs)) := by
  obtain ⟨b, o, rfl, hbs, hcell⟩ := h.at_ hpos
  have HC := Lib.hid hcell
  have HE := Lib.hid he
  have HL := Lib.hid (fun k => flatL_take_le rs k)
  have hu35 := run_underlying (P := Try.prog) Try.underlying35
  clear hcell he h
  go_enter Try.func18, Try.ntmps18
  go_wp2
  go_loop [3, 11] (RelC1 rs) (fun _ i => rs.length - (intOf i).toNat)
  case atStart => exact ⟨0, by omega, rfl, rfl⟩
  case round =>
    obtain ⟨k, hk, rfl, rfl⟩ := hrel
    by_cases hlt : k < rs.length
    · have hck := HC.out k hlt
      obtain ⟨A3, c3, l3, hr3⟩ : ∃ A3 c3 l3, rs[k] = (A3, c3, l3) := ⟨_, _, _, rfl⟩
      have HR := Lib.hid hr3
      rw [hr3] at hck
      simp only [eltVal] at hck
      have HS := Lib.hid (flatL_step hlt)
      have h1 := HL.out (k + 1)
      rw [HS.out, HR.out, List.length_append] at h1
      dsimp only at h1
      have h2 : decide (((flatL (rs.take k)).length : Int) + (l3.length : Int) < 0) = false := by simp; omega
      have HN := Lib.hid (show (flatL (rs.take (k + 1))).length = (flatL (rs.take k)).length + l3.length by rw [HS.out, HR.out, List.length_append])
      clear hr3
      generalize (flatL (rs.take k)).length = q at *
      have hw : wrap64 ((q : Int) + (l3.length : Int)) = (q : Int) + (l3.length : Int) := by unfold wrap64; omega
      go_wp2
      go_round
      case rel => exact ⟨k + 1, by omega, by go_num, by rw [HN.out]; go_num⟩
      case measure => simp [intOf]; omega
    · obtain rfl : k = rs.length := by omega
      have e : rs.take rs.length = rs := List.take_length
      rw [e]
      have HG := Lib.hid (grow_calls ((flatL rs).length : Nat) w (by omega) (by omega))
      generalize (flatL rs).length = q at *
      go_wp2_with (go_at_call 29; refine HG.out.mono ?_; rintro e w1 ⟨A1, c1, rfl, hown1, hb1⟩)
      have H1 := Lib.hid hown1
      clear hown1
      go_loopw [6, 27] (RelC2 w.heap.size w rs) (fun _ i _ => rs.length - (intOf i).toNat)
      case atStart => exact ⟨0, by omega, rfl, ⟨A1, c1, [], rfl, rfl, H1.out⟩, hb1⟩
      case round =>
        obtain ⟨k, hk, rfl, ⟨A2, c2, L2, rfl, hL2, hown2⟩, hb2⟩ := hrel
        have EL := Lib.hid hL2
        clear hL2
        by_cases hlt : k < rs.length
        · have hck := (hb2.cell (p := ⟨b, o + k, none⟩) hbs).trans (HC.out k hlt)
          obtain ⟨A3, c3, l3, hr3⟩ : ∃ A3 c3 l3, rs[k] = (A3, c3, l3) := ⟨_, _, _, rfl⟩
          have hE3 := HE.out rs[k] (List.getElem_mem hlt)
          have HR := Lib.hid hr3
          rw [hr3] at hck hE3
          simp only [eltVal] at hck
          have hE4 := Lies.below hE3 hb2
          have HS := Lib.hid (flatL_step hlt)
          have h1 := HL.out (k + 1)
          rw [HS.out, HR.out, ← EL.out, List.length_append] at h1
          dsimp only at h1
          have HE3 := Lib.hid hE4
          have HO2 := Lib.hid hown2
          clear hr3 hE3 hE4 hown2
          go_wp2_with (at_builtin; go_must (refine wpList_append_bytes rfl _ _ rfl w.heap.size A2 c2 L2 rfl HO2.out A3 c3 l3 rfl HE3.out (by omega) hb2.size ?_); intro A4 c4 w4 L4 hL4 hown4 hgrow4; have hb4 := OwnS.grow HO2.out hb2 hgrow4 hb2.size)
          go_roundw
          case rel => exact ⟨k + 1, by omega, by go_num, ⟨A4, c4, L4, rfl, by rw [HS.out, hL4.out, EL.out, HR.out], hown4⟩, hb4⟩
          case measure => simp [intOf]; omega
        · obtain rfl : k = rs.length := by omega
          go_wp2
          go_ret
          have e2 : L2 = flatL rs := by rw [EL.out, e]
          rw [← e2]
          exact ⟨A2, c2, rfl, hown2, hb2⟩

theorem size_calls (n : Int) (w : World) (h0 : -9223372036854775808 ≤ n) (h1 : n ≤ 9223372036854775807) :
    Calls Try.prog 11 #[.int .i64 n] w fun e w' => e = .returned (.int .i64 (if n < 0 ∨ 1048576 < n then 0 else vlen n + n + 4)) ∧ w = w' := by
  by_cases hn : n < 0
  · rw [if_pos (.inl hn)]
    go_enter Try.func11, Try.ntmps11
    go_wp2
    go_ret
    exact ⟨rfl, rfl⟩
  · by_cases hm : 1048576 < n
    · rw [if_pos (.inr hm)]
      go_enter Try.func11, Try.ntmps11
      go_wp2
      go_ret
      exact ⟨rfl, rfl⟩
    · rw [if_neg (by omega)]
      have hv := vlen_le n
      have hw : IntKind.u64.wrap n = n := IntWalk.u64_in n ⟨by omega, by omega⟩
      go_enter Try.func11, Try.ntmps11
      go_wp2_with (go_at_call 22; refine (len_calls n w).mono ?_; rintro e w' ⟨rfl, rfl⟩)
      go_ret
      exact ⟨ret_int (by omega), rfl⟩


theorem cells_two_rows (w : World) (r q : Elt) : CellsL (w.alloc (.cells #[eltVal r, eltVal q] 22)) (some ⟨w.heap.size, 0, none⟩) 2 [r, q] := by
  refine .inr ⟨_, rfl, fun j u hu => ?_⟩
  have hj : j < 2 := by
    rcases Nat.lt_or_ge j 2 with h | h
    · exact h
    · rw [List.getElem?_eq_none (by simp [cellsL]; omega)] at hu; cases hu
  have hb := heap_alloc_new w (.cells #[eltVal r, eltVal q] 22)
  have : j = 0 ∨ j = 1 := by omega
  rcases this with rfl | rfl <;> simp [cellsL] at hu <;> subst hu <;> (unfold World.cell?; simp only [Addr.add]; first | (rw [if_pos trivial]; simp only [hb]; rfl) | (rw [if_neg (by decide)]; simp only [hb]; rfl))

theorem code_calls (x : Int) (w : World) : Calls Try.prog 9 #[.int .i64 x] w fun e w' => e = .returned (.int .i64 x) ∧ w = w' := by
  go_enter Try.func9, Try.ntmps9
  go_wp2
  go_ret
  exact ⟨rfl, rfl⟩

set_option maxRecDepth 20000 in
set_option maxHeartbeats 1000000 in
theorem fput_calls (A : Option Addr) (c : Nat) (l : List Int) (D : Option Addr) (d : Nat) (r : List Int) (w : World) (h : Lies w A c l) (hr : Lies w D d r) (hbr : IsB r) (hl : l.length ≤ 900000) (hrl : r.length ≤ 900000) :
    Calls Try.prog 8 #[.slice A l.length c, .slice D r.length d] w (OwnE w.heap.size w (l ++ encF r, 0)) := by
  have hlong : decide ((1048576 : Int) < (r.length : Int)) = false := by simp; omega
  have hw : IntKind.u64.wrap (r.length : Int) = r.length := IntWalk.u64_in _ ⟨by omega, by omega⟩
  have HP := Lib.hid (put_calls none 0 [] (r.length : Int) w (Lies.nil w) (by simp) (by omega) (by omega))
  have H := Lib.hid h
  have HR := Lib.hid hr
  have HB := Lib.hid hbr
  have hN : (enc (r.length : Int)).length ≤ 9 := by rw [enc_length]; exact vlen_le _
  have hv := vlen_le (r.length : Int)
  have HE := Lib.hid (show headF r = enc (r.length : Int) ++ r from rfl)
  have hhl : (headF r).length ≤ 900009 := by rw [headF_length]; omega
  have HFB := Lib.hid (headF_isB r hbr (by omega))
  have HEF := Lib.hid (show encF r = headF r ++ le4Z (sumZ (headF r)) from rfl)
  have hel : (encF r).length ≤ 900013 := by rw [encF_length]; omega
  clear h hr hbr
  simp only [List.nil_append] at HP
  generalize enc (r.length : Int) = N at *
  generalize headF r = G at *
  generalize encF r = X at *
  go_enter Try.func8, Try.ntmps8
  go_wp2_with (first
    | (go_at_call 17; refine HP.out.mono ?_; rintro e w1 ⟨A1, c1, rfl, hown1, hb1⟩)
    | (at_builtin; go_must (refine wpList_append_bytes rfl _ _ rfl w.heap.size A1 c1 N rfl hown1 D d r rfl (HR.out.below hb1) (by omega) hb1.size ?_); intro A2 c2 w2 L2 hL2 hown2 hgrow2))
  have hb2 := OwnS.grow hown1 hb1 hgrow2 hb1.size
  obtain rfl : L2 = G := by rw [hL2.out, HE.out]
  have HQ := Lib.hid (cput_calls A2 c2 L2 w2 (Lies.of_own hown2) HFB.out (by omega))
  clear hown1 hgrow2 hown2 hL2
  simp only [← HEF.out] at HQ
  refine HQ.out.mono ?_
  rintro e w3 ⟨A3, c3, rfl, hown3, hb3⟩
  have hb4 := Below.on hb2 hb3
  have hb5 : Below w.heap.size w (w3.alloc (.cells #[.slice A l.length c, .slice A3 X.length c3] 22)) := hb4.alloc hb4.size _
  have HCC := Lib.hid (concat_calls (some ⟨w3.heap.size, 0, none⟩) 2 [(A, c, l), (A3, c3, X)] (w3.alloc (.cells #[.slice A l.length c, .slice A3 X.length c3] 22)) (cells_two_rows w3 (A, c, l) (A3, c3, X))
    (by
      intro q hq
      simp only [List.mem_cons, List.not_mem_nil, or_false] at hq
      rcases hq with rfl | rfl
      · exact H.out.below hb5
      · exact (Lies.of_own hown3).below ((Below.refl _ _).alloc (Nat.le_refl _) _))
    (by simp) (by simp) (by simp [flatL, listsOf]; omega))
  clear HQ hown3
  go_wp2_with (go_at_call 18; refine HCC.out.mono ?_; rintro e w6 ⟨A6, c6, rfl, hown6, hb6⟩)
  go_ret2
  have e6 : flatL [(A, c, l), (A3, c3, X)] = l ++ X := by simp [flatL, listsOf]
  rw [e6] at hown6 ⊢
  exact ⟨A6, c6, rfl, OwnS.mono hown6 hb5.size, Below.on hb5 hb6⟩

set_option maxRecDepth 20000 in
set_option maxHeartbeats 1000000 in
theorem fbytes_calls (D : Option Addr) (d : Nat) (r : List Int) (w : World) (hr : Lies w D d r) (hbr : IsB r) (hrl : r.length ≤ 900000) :
    Calls Try.prog 10 #[.slice D r.length d] w (Own w.heap.size w (encF r)) := by
  have hw : IntKind.u64.wrap (r.length : Int) = r.length := IntWalk.u64_in _ ⟨by omega, by omega⟩
  have HP := Lib.hid (bytes_calls (r.length : Int) w (by omega) (by omega))
  have HR := Lib.hid hr
  have HB := Lib.hid hbr
  have hN : (enc (r.length : Int)).length ≤ 9 := by rw [enc_length]; exact vlen_le _
  have hv := vlen_le (r.length : Int)
  have HE := Lib.hid (show headF r = enc (r.length : Int) ++ r from rfl)
  have hhl : (headF r).length ≤ 900009 := by rw [headF_length]; omega
  have HFB := Lib.hid (headF_isB r hbr (by omega))
  have HEF := Lib.hid (show encF r = headF r ++ le4Z (sumZ (headF r)) from rfl)
  clear hr hbr
  generalize enc (r.length : Int) = N at *
  generalize headF r = G at *
  generalize encF r = X at *
  go_enter Try.func10, Try.ntmps10
  go_wp2_with (first
    | (go_at_call 21; refine HP.out.mono ?_; rintro e w1 ⟨A1, c1, rfl, hown1, hb1⟩)
    | (at_builtin; go_must (refine wpList_append_bytes rfl _ _ rfl w.heap.size A1 c1 N rfl hown1 D d r rfl (HR.out.below hb1) (by omega) hb1.size ?_); intro A2 c2 w2 L2 hL2 hown2 hgrow2))
  have hb2 := OwnS.grow hown1 hb1 hgrow2 hb1.size
  obtain rfl : L2 = G := by rw [hL2.out, HE.out]
  have HQ := Lib.hid (crput_calls A2 c2 L2 w2 (Lies.of_own hown2) HFB.out (by omega))
  clear hown1 hgrow2 hown2 hL2
  simp only [← HEF.out] at HQ
  refine HQ.out.mono ?_
  rintro e w3 ⟨A3, c3, rfl, hown3, hb3⟩
  go_wp2
  go_ret
  exact ⟨A3, c3, rfl, OwnS.mono hown3 hb2.size, Below.on hb2 hb3⟩

end Go.Proofs.Ytikeebgclplphaa
