/-
  Contract of the program's writeByte. Conditions: the new length takes at most 2^47 bytes.
  Contract of the program's Quote. Conditions: texts of at most 1,000,000 bytes.
  Contracts of the program's Show, Int and Text, and of the document's Show. Conditions: numbers of 64 bits; the table of powers of ten reads as its initialiser lays it.
  Contract of the program's writeCall, out of what write does to each argument. Conditions: as in the premises.
  Contracts of the program's write and Text. Conditions: as in the premises.
  The parts of an expression, in the order in which they are visited, each with its depth. Plain, of no program. No conditions.
  Contracts of the program's visit, and of the function that parts returns: what it hands to a loop body, one part after the other. Conditions: expressions of at most 3000 parts.
  Contracts of the program's parts and of the function that it returns: what a range loop over it is owed. Conditions: expressions of at most 3000 parts.
  Contract of the program's Size. Conditions: expressions of at most 3000 parts.
  Contract of the program's Deep. Conditions: expressions of at most 3000 parts.
-/
import Derived.Laws.IdiomStrings
import Derived.RangeFuncBound
import Derived.Shelf.Abstract
import Derived.Shelf.RegionOpen
import Derived.WalkKit
import Derived.OwnWalkIn
import Derived.TacticsInMore
import Derived.LoopNIn
import Derived.LoopIn
import Derived.Test.YtkaapfakalojaaaDoorC6
namespace Go.Proofs.YtkaapfakalojaaaDoor
open Go.ChangeShapes Go.WideShapes Go.ChangeAt Go.RowKit
set_option linter.unusedVariables false
set_option maxRecDepth 20000
theorem hex_fin : ∀ k : Fin 16, ((((⟨#[48, 49, 50, 51, 52, 53, 54, 55, 56, 57, 97, 98, 99, 100, 101, 102]⟩ : ByteArray)[k.val]'(k.isLt)).toNat : Nat) : Int) = hexd k.val := by decide +kernel
theorem hex_at (d : Int) (h0 : 0 ≤ d) (h1 : d < 16) (h : d.toNat < (⟨#[48, 49, 50, 51, 52, 53, 54, 55, 56, 57, 97, 98, 99, 100, 101, 102]⟩ : ByteArray).size) : ((((⟨#[48, 49, 50, 51, 52, 53, 54, 55, 56, 57, 97, 98, 99, 100, 101, 102]⟩ : ByteArray)[d.toNat]'h).toNat : Nat) : Int) = hexd d := by
  have h2 := hex_fin ⟨d.toNat, by omega⟩
  rw [h2]
  show hexd ((d.toNat : Nat) : Int) = hexd d
  rw [Int.toNat_of_nonneg h0]
set_option maxHeartbeats 4000000 in
theorem wbyte_calls (B b : Nat) (l : List Int) (c : Int) (w : World) (h : Bld B b l w) (hl : l.length + 4 ≤ 140737488351232) (h0 : 0 ≤ c) (h1 : c ≤ 255) :
    Calls Tryd.prog 41 #[.pointer (some ⟨b, 0, none⟩), .int .u8 c] w fun e w' => e = .returned (.tuple #[]) ∧ Bld B b (l ++ qch c) w' ∧ BldStep B b w w' := by
  have HB := Lib.hid (fun (L : List Int) (x : Int) (W : World) (hW : Bld B b L W) (hL : L.length + 1 ≤ 140737488355328) => bbyte_calls B b L x W hW hL)
  have HS := Lib.hid (fun (L : List Int) (W : World) (hW : Bld B b L W) (hL : L.length + 2 ≤ 140737488351232) => bstr_calls B b L ⟨#[92, 120]⟩ W hW hL)
  have H := Lib.hid h
  have HLL := Lib.hid hl
  clear h hl
  by_cases h34 : c = 34
  · subst h34
    go_enter Tryd.func41, Tryd.ntmps41
    go_wp2_with fail
    refine (HB.out l 92 _ H.out (by have := HLL.out; omega)).mono ?_
    rintro e w1 ⟨rfl, hb1, hs1⟩
    have H1 := Lib.hid hb1
    have S1 := Lib.hid hs1
    clear hb1 hs1
    dsimp only
    go_wp2_with fail
    refine (HB.out _ 34 _ H1.out (by have := HLL.out; simp; omega)).mono ?_
    rintro e w2 ⟨rfl, hb2, hs2⟩
    have H2 := Lib.hid hb2
    have S2 := Lib.hid (S1.out.trans hs2)
    clear hb2 hs2
    dsimp only
    go_wp2
    go_end0
    exact ⟨rfl, by rw [List.append_assoc] at H2; exact H2.out, S2.out⟩
  · by_cases h92 : c = 92
    · subst h92
      go_enter Tryd.func41, Tryd.ntmps41
      go_wp2_with fail
      refine (HB.out l 92 _ H.out (by have := HLL.out; omega)).mono ?_
      rintro e w1 ⟨rfl, hb1, hs1⟩
      have H1 := Lib.hid hb1
      have S1 := Lib.hid hs1
      clear hb1 hs1
      dsimp only
      go_wp2_with fail
      refine (HB.out _ 92 _ H1.out (by have := HLL.out; simp; omega)).mono ?_
      rintro e w2 ⟨rfl, hb2, hs2⟩
      have H2 := Lib.hid hb2
      have S2 := Lib.hid (S1.out.trans hs2)
      clear hb2 hs2
      dsimp only
      go_wp2
      go_end0
      exact ⟨rfl, by rw [List.append_assoc] at H2; exact H2.out, S2.out⟩
    · have e1 : (c == 34) = false := by simpa using h34
      have e2 : (c == 92) = false := by simpa using h92
      by_cases hlo : c < 32
      · have HQ := Lib.hid (show qch c = [92, 120] ++ ([hexd (c / 16)] ++ [hexd (c % 16)]) by unfold qch; rw [if_pos (.inl hlo)]; rfl)
        clear h34 h92
        go_enter Tryd.func41, Tryd.ntmps41
        go_wp2_with fail
        refine (HS.out l _ H.out (by have := HLL.out; omega)).mono ?_
        rintro e w1 ⟨rfl, hb1, hs1⟩
        have H1 := Lib.hid hb1
        have S1 := Lib.hid hs1
        clear hb1 hs1
        dsimp only
        go_wp2_with fail
        refine (HB.out _ _ _ H1.out (by have := HLL.out; simp [sl]; omega)).mono ?_
        rintro e w2 ⟨rfl, hb2, hs2⟩
        have H2 := Lib.hid hb2
        have S2 := Lib.hid (S1.out.trans hs2)
        clear hb2 hs2
        dsimp only
        go_wp2_with fail
        refine (HB.out _ _ _ H2.out (by have := HLL.out; simp [sl]; omega)).mono ?_
        rintro e w3 ⟨rfl, hb3, hs3⟩
        rw [hex_at (c / 16) (by omega) (by omega), hex_at (c % 16) (by omega) (by omega)] at hb3
        have H3 := Lib.hid hb3
        have S3 := Lib.hid (S2.out.trans hs3)
        clear hb3 hs3
        dsimp only
        go_wp2
        go_end0
        refine ⟨rfl, ?_, S3.out⟩
        rw [HQ.out]
        have h9 := H3.out
        rw [List.append_assoc, List.append_assoc] at h9
        exact h9
      · by_cases hhi : 126 < c
        · have HQ := Lib.hid (show qch c = [92, 120] ++ ([hexd (c / 16)] ++ [hexd (c % 16)]) by unfold qch; rw [if_pos (.inr hhi)]; rfl)
          clear h34 h92
          go_enter Tryd.func41, Tryd.ntmps41
          go_wp2_with fail
          refine (HS.out l _ H.out (by have := HLL.out; omega)).mono ?_
          rintro e w1 ⟨rfl, hb1, hs1⟩
          have H1 := Lib.hid hb1
          have S1 := Lib.hid hs1
          clear hb1 hs1
          dsimp only
          go_wp2_with fail
          refine (HB.out _ _ _ H1.out (by have := HLL.out; simp [sl]; omega)).mono ?_
          rintro e w2 ⟨rfl, hb2, hs2⟩
          have H2 := Lib.hid hb2
          have S2 := Lib.hid (S1.out.trans hs2)
          clear hb2 hs2
          dsimp only
          go_wp2_with fail
          refine (HB.out _ _ _ H2.out (by have := HLL.out; simp [sl]; omega)).mono ?_
          rintro e w3 ⟨rfl, hb3, hs3⟩
          rw [hex_at (c / 16) (by omega) (by omega), hex_at (c % 16) (by omega) (by omega)] at hb3
          have H3 := Lib.hid hb3
          have S3 := Lib.hid (S2.out.trans hs3)
          clear hb3 hs3
          dsimp only
          go_wp2
          go_end0
          refine ⟨rfl, ?_, S3.out⟩
          rw [HQ.out]
          have h9 := H3.out
          rw [List.append_assoc, List.append_assoc] at h9
          exact h9
        · have HQ := Lib.hid (show qch c = [c] by unfold qch; rw [if_neg (by omega), if_neg (by omega)])
          clear h34 h92
          go_enter Tryd.func41, Tryd.ntmps41
          go_wp2_with fail
          refine (HB.out l c _ H.out (by have := HLL.out; omega)).mono ?_
          rintro e w1 ⟨rfl, hb1, hs1⟩
          have H1 := Lib.hid hb1
          have S1 := Lib.hid hs1
          clear hb1 hs1
          dsimp only
          go_wp2
          go_end0
          exact ⟨rfl, by rw [HQ.out]; exact H1.out, S1.out⟩
end Go.Proofs.YtkaapfakalojaaaDoor
namespace Go.Proofs.YtkaapfakalojaaaDoor
open Go.ChangeShapes Go.WideShapes Go.ChangeAt Go.RowKit
set_option linter.unusedVariables false
set_option maxRecDepth 20000
def RelQt (b : Nat) (s : ByteArray) (w W1 : World) (i : Value) (wr : World) : Prop := ∃ (k : Nat) (L : List Int), i = .int .i64 k ∧ k ≤ s.size ∧ Hid (L = 34 :: ((sl s).take k).flatMap qch) ∧ L.length ≤ 4 * k + 1 ∧ Hid (Bld w.heap.size b L wr) ∧ Hid (KpC (BldC b) W1 wr) ∧ Below w.heap.size w wr
set_option maxHeartbeats 4000000 in
theorem pquote_calls (s : ByteArray) (hs : s.size ≤ 1000000) (w : World) : Calls Tryd.prog 24 #[.string s] w fun q w' => q = .returned (.string (str (quote (sl s)))) ∧ Below w.heap.size w w' := by
  have HB := Lib.hid (fun (L : List Int) (x : Int) (W : World) (hW : Bld w.heap.size w.heap.size L W) (hL : L.length + 1 ≤ 140737488355328) => bbyte_calls w.heap.size w.heap.size L x W hW hL)
  have HN := Lib.hid (Bld.new w)
  have HB1 := Lib.hid (below_one w (.cells #[.pointer none, .slice none 0 0] 51))
  go_enter Tryd.func24, Tryd.ntmps24
  go_wp2_with fail
  refine (HB.out [] 34 _ HN.out (by simp)).mono ?_
  rintro e w1 ⟨rfl, hb1, hs1⟩
  have hcv := run_bytes_of_string w1 9 49 5 s Tryd.underlying9 Tryd.underlying49 Tryd.underlying5
  obtain ⟨cap, hcap⟩ : ∃ cap, cap = grownCap w1 s.size 0 5 := ⟨_, rfl⟩
  rw [← hcap] at hcv
  obtain ⟨row, hrow⟩ : ∃ row, row = bytesRow s cap := ⟨_, rfl⟩
  obtain ⟨W2, hW2⟩ : ∃ W2, W2 = w1.drew.alloc (.cells (bytesRow s cap) 5 ((bytesRow s cap).size, (bytesRow s cap).size + 1)) := ⟨_, rfl⟩
  rw [← hW2] at hcv
  have hlt1 := HB1.out.size
  have hbw1 : Below w.heap.size w w1 := HB1.out.trans hs1.below
  have hb12 : Below w1.heap.size w1 W2 := by rw [hW2]; exact (Below.refl _ w1).drew.alloc (Nat.le_refl _) _
  obtain ⟨hbd2, hst2⟩ := hb1.step hb12
  have hk0 : w1.heap.size < W2.heap.size := by rw [hW2]; simp
  have hrow2 : W2.heap[w1.heap.size]? = some (.cells (bytesRow s cap) 5 ((bytesRow s cap).size, (bytesRow s cap).size + 1)) := by rw [hW2]; exact heap_alloc_new w1.drew _
  have hnc : ¬ BldC w.heap.size W2 w1.heap.size := fun hc => by
    have hlt : w.heap.size < w1.heap.size := by have := hs1.below.size; have := hs1.kp.1; simp at this; omega
    rcases hc with hc | ⟨p9, o, n, c, hc⟩
    · omega
    · rw [hb12.block _ hlt] at hc
      rcases hb1.1 with ⟨_, v, hbk, hown, hne⟩ | ⟨_, v, hbk, hown, hne⟩
      all_goals
        rw [hc] at hbk
        simp only [Option.some.injEq, Obj.cells.injEq, Array.mk.injEq, List.cons.injEq, and_true] at hbk
        obtain ⟨_, rfl⟩ := hbk
        have := (World.ownsRow.lt hown w1.heap.size rfl).2
        omega
  have HROW := Lib.hid (fun (W : World) (hk : KpC (BldC w.heap.size) W2 W) (j : Nat) (hj : j < s.size) => show W.cell? ⟨w1.heap.size, j, none⟩ = some (.int .u8 ((s[j].toNat : Nat) : Int)) from by
    have h9 := ((hk.2 _ hk0 hnc).1.trans hrow2)
    unfold World.cell?
    rw [h9]
    exact bytesRow_at s cap j hj)
  have HW := Lib.hid (fun (L : List Int) (x : Int) (W : World) (hW : Bld w.heap.size w.heap.size L W) (hL : L.length + 4 ≤ 140737488351232) (h0 : 0 ≤ x) (h1 : x ≤ 255) => wbyte_calls w.heap.size w.heap.size L x W hW hL h0 h1)
  have HSL := Lib.hid (fun (k : Nat) (h : k < s.size) => sl_get s k h)
  have HNX := Lib.hid (fun (k : Nat) (L : List Int) (h : k < s.size) (hL : L = 34 :: ((sl s).take k).flatMap qch) => relQ_next h hL)
  have HSB := Lib.hid (fun (k : Nat) (h : k < s.size) => show (0 : Int) ≤ ((s[k].toNat : Nat) : Int) ∧ ((s[k].toNat : Nat) : Int) ≤ 255 from ⟨by omega, by have := s[k].toNat_lt; omega⟩)
  have HBD2 := Lib.hid hbd2
  have HBW2 := Lib.hid (hbw1.trans (hb12.mono hbw1.size))
  have hqb : IsB (quote (sl s)) := quote_isB (sl_bytes s)
  have HQB := Lib.hid hqb
  have HSS := Lib.hid (show (sl s).take s.size = sl s from List.take_of_length_le (by rw [sl_length]; omega))
  obtain ⟨sz, hsz⟩ : ∃ sz, sz = s.size := ⟨_, rfl⟩
  have HSZ := Lib.hid hsz
  rw [← hsz] at hs hcv
  clear hb1 hs1 hlt1 hbw1 hb12 hbd2 hst2 hk0 hrow2 hnc hrow hcap hW2 hqb hsz HN HB1
  dsimp only
  go_wp2_with fail
  go_loopw [10] (RelQt w.heap.size s w W2) (fun i _ => 1000001 - (intOf i).toNat)
  case atStart => exact ⟨0, [34], rfl, Nat.zero_le _, Lib.hid (by simp), by simp, Lib.hid HBD2.out, Lib.hid (KpC.refl _ _), HBW2.out⟩
  case round =>
    obtain ⟨j, L, rfl, hj, hL, hLl, hbd, hkp, hbr⟩ := hrel
    rw [← HSZ.out] at hj
    have HBD := Lib.hid hbd.out
    have HKP := Lib.hid hkp.out
    have HL := Lib.hid hL.out
    have HBR := Lib.hid hbr
    clear hbd hkp hL hbr
    by_cases hlt : j < sz
    · have hlt' : j < s.size := by rw [← HSZ.out]; exact hlt
      have a0 := HROW.out wr HKP.out j hlt'
      have hnx := HNX.out j L hlt' HL.out
      obtain ⟨hx0, hx1⟩ := HSB.out j hlt'
      obtain ⟨x, hx⟩ : ∃ x : Int, x = ((s[j].toNat : Nat) : Int) := ⟨_, rfl⟩
      rw [← hx] at a0 hnx hx0 hx1
      have HC := Lib.hid (HW.out L x wr HBD.out (by omega) hx0 hx1)
      have HNEW := Lib.hid hnx
      have h1i : (j : Int) < (sz : Int) := by omega
      have hq4 := qch_len x
      clear hnx hx hx0 hx1
      go_wp2_with fail
      refine HC.out.mono ?_
      rintro e w3 ⟨rfl, hb3, hs3⟩
      have HB3 := Lib.hid hb3
      have HK3 := Lib.hid (HKP.out.trans hs3.kp)
      have HBR3 := Lib.hid (HBR.out.trans hs3.below)
      clear hb3 hs3
      dsimp only
      go_wp2
      go_roundw
      case rel => exact ⟨j + 1, L ++ qch x, by go_num, by rw [← HSZ.out]; omega, HNEW, by simp; omega, HB3, HK3, HBR3.out⟩
      case measure => simp [intOf]; omega
    · have h1i : ¬ (j : Int) < (sz : Int) := by omega
      have hLe : L ++ [34] = quote (sl s) := by
        rw [HL.out, show j = s.size by rw [← HSZ.out]; omega, HSS.out]
        unfold quote
        simp
      have HLE := Lib.hid hLe
      clear hLe
      have HC := Lib.hid (HB.out L 34 wr HBD.out (by omega))
      go_wp2_with fail
      refine HC.out.mono ?_
      rintro e w3 ⟨rfl, hb3, hs3⟩
      rw [HLE.out] at hb3
      have HB3 := Lib.hid hb3
      have HBR3 := Lib.hid (HBR.out.trans hs3.below)
      clear hb3 hs3
      dsimp only
      go_wp2_with fail
      refine (bString_calls w.heap.size w.heap.size _ _ HQB.out HB3.out).mono ?_
      rintro e w4 ⟨rfl, hb4⟩
      have HB4 := Lib.hid (HBR3.out.trans hb4)
      clear hb4
      dsimp only
      go_wp2
      go_ret
      exact ⟨rfl, HB4.out⟩
end Go.Proofs.YtkaapfakalojaaaDoor
namespace Go.Proofs.YtkaapfakalojaaaDoor
open Go.ChangeShapes Go.WideShapes Go.ChangeAt Go.RowKit
set_option linter.unusedVariables false
set_option maxRecDepth 20000
/-- A number in decimal. -/
def itS (n : Int) : ByteArray := ⟨(Lib.itoa n).toArray⟩
theorem str_num10 (n : Int) : str (num10 n) = itS n := by
  apply ByteArray.ext
  apply Array.toList_inj.1
  rw [str_data, num10, List.map_map]
  show _ = (Lib.itoa n).toArray.toList
  rw [List.toList_toArray]
  conv => rhs; rw [← List.map_id (Lib.itoa n)]
  apply List.map_congr_left
  intro x _
  simp
theorem itS_data (n : Int) : (itS n).data.toList = Lib.itoa n := by unfold itS; simp
theorem itS_size {n : Int} (h : I64 n) : (itS n).size ≤ 21 := by
  have h1 := Lib.itoa_length_le n h.1 h.2
  show (Lib.itoa n).toArray.size ≤ 21
  simpa using h1
/-- A value as a text. -/
def showV (a : Vl) : ByteArray := if a.k = 0 then itS a.n else a.s
def TabV (w : World) : Prop := ∀ V, Below w.heap.size w V → Lib.TabIs Tryd.prog V "internal/strconv.uint64pow10" .u64 Lib.pow10Tab
theorem itoa_calls (n : Int) (hn : I64 n) (w : World) (hT : TabV w) : Calls Tryd.prog 56 #[.int .i64 n] w fun e w' => e = .returned (.string (itS n)) ∧ Below w.heap.size w w' := by
  refine (Tryd.strconv_Itoa n hn.1 hn.2 w (hT w (Below.refl _ _))).mono ?_
  rintro e w' ⟨rfl, k, os, rfl⟩
  exact ⟨rfl, Lib.below_grow _ _ (Nat.le_refl _) _ _⟩
theorem show_calls (a : Vl) (ga : I64 a.n) (w : World) (hT : TabV w) : Calls Tryd.prog 47 #[a.v] w fun e w' => e = .returned (.string (showV a)) ∧ Below w.heap.size w w' := by
  obtain ⟨k, n, s⟩ := a
  unfold Vl.v showV
  dsimp only at ga ⊢
  have b4 := Blk.new w #[.int .u8 k, .int .i64 n, .string s] 23
  have hB := below_one w (.cells #[.int .u8 k, .int .i64 n, .string s] 23)
  have HI := Lib.hid (itoa_calls n ga (w.alloc (.cells #[.int .u8 k, .int .i64 n, .string s] 23)) (fun V hV => hT V (hB.trans (hV.mono hB.size))))
  have HB := Lib.hid hB
  obtain ⟨x0, x1, x2⟩ := b4.cells3
  clear b4 hB ga hT
  by_cases h : k = 0
  · rw [if_pos h]
    subst h
    go_enter Tryd.func47, Tryd.ntmps47
    go_wp2_with fail
    refine HI.out.mono ?_
    rintro e w' ⟨rfl, hb⟩
    have HB' := Lib.hid hb
    clear hb
    dsimp only
    go_wp2
    go_ret
    exact ⟨rfl, HB.out.trans (HB'.out.mono HB.out.size)⟩
  · rw [if_neg h]
    have h' : (k == 0) = false := by simpa using h
    go_enter Tryd.func47, Tryd.ntmps47
    go_wp2
    go_ret
    exact ⟨rfl, HB.out⟩
end Go.Proofs.YtkaapfakalojaaaDoor
namespace Go.Proofs.YtkaapfakalojaaaDoor
open Go.ChangeShapes Go.WideShapes Go.ChangeAt Go.RowKit
set_option linter.unusedVariables false
set_option maxRecDepth 20000
/-- What a call that writes into the builder owes. -/
def WrR (B b : Nat) (l t : List Int) (W : World) (r : Ending) (W' : World) : Prop := r = .returned (.tuple #[]) ∧ Bld B b (l ++ t) W' ∧ BldStep B b W W'
theorem sl_str' {l : List Int} (h : IsB l) : sl (str l) = l := str_inj (sl_bytes _) h (by rw [str_sl])
theorem bld_fresh {B b : Nat} {l : List Int} {W : World} (h : Bld B b l W) (o : Obj) : ¬ BldC b (W.alloc o) W.heap.size := fun hc => by
  obtain ⟨h, _⟩ := h
  rcases h with ⟨_, v, hbk, hown, hne⟩ | ⟨_, v, hbk, hown, hne⟩
  all_goals
    have hlt := (Array.getElem?_eq_some_iff.1 hbk).1
    rcases bldC_at ((Below.heap_alloc W o b hlt).trans hbk) hc with h9 | h9
    · omega
    · have := (World.ownsRow.lt hown _ h9).2; omega
theorem textL_next {l : List Ex} {k : Nat} {e : Ex} (h : l[k]? = some e) : textL (l.take (k + 1)) = textL (l.take k) ++ ([32] ++ e.text) := by rw [take_snoc h, textL_append]; simp [textL]
theorem textL_take (l : List Ex) (k : Nat) : (textL (l.take k)).length ≤ (textL l).length := by
  have h := textL_append (l.take k) (l.drop k)
  rw [List.take_append_drop] at h
  rw [h]; simp
def RelWc (w0 : World) (B b : Nat) (L0 : List Int) (l : List Ex) (W1 : World) (i : Value) (wr : World) : Prop := ∃ (k : Nat) (L : List Int), i = .int .i64 k ∧ k ≤ l.length ∧ Hid (L = L0 ++ textL (l.take k)) ∧ Hid (Bld B b L wr) ∧ Hid (BldStep B b W1 wr) ∧ Below w0.heap.size w0 wr
set_option maxHeartbeats 4000000 in
theorem wcall_calls (w0 : World) (B b : Nat) (hB : w0.heap.size ≤ B) (op k n : Int) (s : ByteArray) (A : Option Addr) (c : Nat) (l : List Ex) (L : List Int) (W : World) (hb : Bld B b L W) (hW : Below w0.heap.size w0 W) (hcl : CellsG enX w0 A c l) (hln : l.length ≤ 3000) (hT : OpTab w0)
    (hlen : L.length + ([40] ++ nameOf op ++ textL l ++ [41]).length ≤ 100000000) (hnb : IsB (nameOf op))
    (hwr : ∀ x ∈ l, ∀ L W, Bld B b L W → Below w0.heap.size w0 W → L.length + x.text.length ≤ 100000000 → Calls Tryd.prog 33 #[.pointer (some ⟨b, 0, none⟩), x.v] W (WrR B b L x.text W)) :
    Calls Tryd.prog 48 #[.pointer (some ⟨b, 0, none⟩), .agg #[.int .i64 op, .int .u8 k, .int .i64 n, .string s, .slice A l.length c]] W (WrR B b L ([40] ++ nameOf op ++ textL l ++ [41]) W) := by
  have HBY := Lib.hid (fun (L : List Int) (x : Int) (W : World) (hW : Bld B b L W) (hL : L.length + 1 ≤ 140737488355328) => bbyte_calls B b L x W hW hL)
  have HST := Lib.hid (fun (L : List Int) (s : ByteArray) (W : World) (hW : Bld B b L W) (hL : L.length + s.size ≤ 140737488351232) => bstr_calls B b L s W hW hL)
  have HNM := Lib.hid (fun (W : World) (hW : Below w0.heap.size w0 W) => name_calls op W (hT.below hW))
  have HCL := Lib.hid hcl
  have HWR := Lib.hid hwr
  simp only [List.length_append, List.length_singleton] at hlen
  obtain ⟨ln, hl9⟩ : ∃ ln, ln = l.length := ⟨_, rfl⟩
  have HLN := Lib.hid hl9
  rw [← hl9] at hln ⊢
  have hb0 := below_one W (.cells #[.int .i64 op, .int .u8 k, .int .i64 n, .string s, .slice A ln c] 26)
  obtain ⟨hbd1, hst1⟩ := hb.step hb0
  have hfr := bld_fresh hb (.cells #[.int .i64 op, .int .u8 k, .int .i64 n, .string s, .slice A ln c] 26)
  have bx := Blk.new W #[.int .i64 op, .int .u8 k, .int .i64 n, .string s, .slice A ln c] 26
  obtain ⟨x0, x1, x2, x3, x4⟩ := bx.cells5
  have HKX := Lib.hid (fun (W' : World) (h : BldStep B b (W.alloc (.cells #[.int .i64 op, .int .u8 k, .int .i64 n, .string s, .slice A ln c] 26)) W') => show Blk W' W.heap.size #[.int .i64 op, .int .u8 k, .int .i64 n, .string s, .slice A ln c] 26 from (h.kp.2 _ (by simp) hfr).1.trans bx)
  have HBD1 := Lib.hid hbd1
  have HST1 := Lib.hid hst1
  have HW0 := Lib.hid (fun (W' : World) (h : BldStep B b W W') => show Below w0.heap.size w0 W' from hW.trans (h.below.mono hB))
  have HW1 := Lib.hid (fun (W1 W' : World) (hw : Below w0.heap.size w0 W1) (h : BldStep B b W1 W') => show Below w0.heap.size w0 W' from hw.trans (h.below.mono hB))
  have hnl := str_size (nameOf op)
  have HNS := Lib.hid (sl_str' hnb)
  have HEND := Lib.hid (show textL (l.take l.length) = textL l by rw [List.take_length])
  have HNX := Lib.hid (fun k e => textL_next (l := l) (k := k) (e := e))
  have HTK := Lib.hid (textL_take l)
  obtain ⟨nm, hnm⟩ : ∃ nm, nm = nameOf op := ⟨_, rfl⟩
  rw [← hnm] at HNM hlen hnl HNS ⊢
  obtain ⟨tl, htl⟩ : ∃ tl, tl = textL l := ⟨_, rfl⟩
  have HTL := Lib.hid htl
  rw [← htl] at hlen ⊢
  have HLE := Lib.hid hlen
  clear hb hW hcl hT hwr hl9 hb0 hbd1 hst1 hfr bx hnm htl hlen hnb
  unfold WrR
  go_enter Tryd.func48, Tryd.ntmps48
  go_wp2_with fail
  refine (HBY.out L 40 _ HBD1.out (by have := HLE.out; omega)).mono ?_
  rintro e w1 ⟨rfl, hb1, hs1⟩
  have HB1 := Lib.hid hb1
  have HS1 := Lib.hid hs1
  obtain ⟨x0, x1, x2, x3, x4⟩ := (HKX.out w1 hs1).cells5
  clear hb1 hs1
  dsimp only
  go_wp2_with fail
  refine (HNM.out w1 (HW0.out _ (HST1.out.trans HS1.out))).mono ?_
  rintro e w1' ⟨rfl, h9⟩
  obtain rfl := h9.symm
  dsimp only
  go_wp2_with fail
  refine (HST.out _ (str nm) _ HB1.out (by have := HLE.out; rw [hnl]; simp; omega)).mono ?_
  rintro e w2 ⟨rfl, hb2, hs2⟩
  rw [HNS.out] at hb2
  have HB2 := Lib.hid hb2
  have HS2 := Lib.hid (HS1.out.trans hs2)
  obtain ⟨x0, x1, x2, x3, x4⟩ := (HKX.out w2 HS2.out).cells5
  clear hb2 hs2
  dsimp only
  go_wp2_with fail
  go_loopw [16] (RelWc w0 B b (L ++ [40] ++ nm) l w2) (fun i _ => 3001 - (intOf i).toNat)
  case atStart => exact ⟨0, _, rfl, Nat.zero_le _, Lib.hid (by simp [textL]), HB2, Lib.hid (BldStep.refl _ _ _), HW0.out _ (HST1.out.trans HS2.out)⟩
  case round =>
    obtain ⟨j, R, rfl, hj, hR, hbd, hst, hbr⟩ := hrel
    rw [← HLN.out] at hj
    have HBD := Lib.hid hbd.out
    have HSB := Lib.hid hst.out
    have HR := Lib.hid hR.out
    have HBR := Lib.hid hbr
    clear hbd hst hR hbr
    by_cases hlt : j < ln
    · obtain ⟨e, he⟩ : ∃ e, l[j]? = some e := ⟨l[j]'(by rw [← HLN.out]; exact hlt), by simp⟩
      obtain ⟨bb, o, hA, hbb, hck⟩ := arg_cells HCL.out (by rw [← HLN.out]; omega)
      subst hA
      obtain ⟨a0, a1, a2, a3, a4⟩ := hck j e he wr HBR.out
      have hba := below_one wr (.cells #[.int .i64 e.op, .int .u8 e.vl.k, .int .i64 e.vl.n, .string e.vl.s, .slice e.adr e.args.length e.cp] 26)
      obtain ⟨hbd3, hst3⟩ := HBD.out.step hba
      have hfr3 := bld_fresh HBD.out (.cells #[.int .i64 e.op, .int .u8 e.vl.k, .int .i64 e.vl.n, .string e.vl.s, .slice e.adr e.args.length e.cp] 26)
      have by3 := Blk.new wr #[.int .i64 e.op, .int .u8 e.vl.k, .int .i64 e.vl.n, .string e.vl.s, .slice e.adr e.args.length e.cp] 26
      have HKY := Lib.hid (fun (W' : World) (h : BldStep B b (wr.alloc (.cells #[.int .i64 e.op, .int .u8 e.vl.k, .int .i64 e.vl.n, .string e.vl.s, .slice e.adr e.args.length e.cp] 26)) W') => show Blk W' wr.heap.size #[.int .i64 e.op, .int .u8 e.vl.k, .int .i64 e.vl.n, .string e.vl.s, .slice e.adr e.args.length e.cp] 26 from (h.kp.2 _ (by simp) hfr3).1.trans by3)
      have hnx := HNX.out j e he
      have htk := HTK.out (j + 1)
      have hlR : R.length + (1 + e.text.length) ≤ 50000000 + 50000000 - 1 := by
        have h1 := HLE.out
        have h2 := congrArg List.length HR.out
        rw [hnx] at htk
        rw [← HTL.out] at htk
        simp at h2 htk
        omega
      have hWE := HWR.out e (List.mem_of_getElem? he)
      obtain ⟨t, ht⟩ : ∃ t, t = e.text := ⟨_, rfl⟩
      rw [← ht] at hWE hnx hlR
      unfold Ex.v at hWE
      have HWE := Lib.hid hWE
      have HNEW := Lib.hid (show R ++ [32] ++ t = L ++ [40] ++ nm ++ textL (l.take (j + 1)) by rw [hnx, HR.out]; simp)
      have HBD3 := Lib.hid hbd3
      have HST3 := Lib.hid (HSB.out.trans hst3)
      have HBR3 := Lib.hid (HBR.out.trans (hst3.below.mono hB))
      have h1i : (j : Int) < (ln : Int) := by omega
      generalize e.op = p0 at *
      generalize e.vl.k = p1 at *
      generalize e.vl.n = p2 at *
      generalize e.vl.s = p3 at *
      generalize e.adr = p4 at *
      generalize e.args.length = p5 at *
      generalize e.cp = p6 at *
      have HLR := Lib.hid hlR
      clear hck he hnx htk ht hWE hba hbd3 hst3 hfr3 by3 hj hlR hbb
      go_wp2_with fail
      refine (HBY.out R 32 _ HBD3.out (by have := HLR.out; omega)).mono ?_
      rintro e w3 ⟨rfl, hb3, hs3⟩
      obtain ⟨z0, z1, z2, z3, z4⟩ := (HKY.out w3 hs3).cells5
      have HB3 := Lib.hid hb3
      have HS3 := Lib.hid (HST3.out.trans hs3)
      have HBR4 := Lib.hid (HW1.out _ _ HBR3.out hs3)
      clear hb3 hs3
      dsimp only
      go_wp2_with fail
      refine (HWE.out _ w3 HB3.out HBR4.out (by have := HLR.out; simp; omega)).mono ?_
      rintro e w4 ⟨rfl, hb4, hs4⟩
      have HB4 := Lib.hid hb4
      have HS4 := Lib.hid (HS3.out.trans hs4)
      have HBR5 := Lib.hid (HW1.out _ _ HBR4.out hs4)
      clear hb4 hs4
      dsimp only
      go_wp2
      go_roundw
      case rel => exact ⟨j + 1, _, by go_num, by rw [← HLN.out]; omega, HNEW, HB4, HS4, HBR5.out⟩
      case measure => simp [intOf]; omega
    · have h1i : ¬ (j : Int) < (ln : Int) := by omega
      have hRe : R ++ [41] = L ++ ([40] ++ nm ++ tl ++ [41]) := by
        rw [HR.out, show j = l.length by rw [← HLN.out]; omega, HEND.out, HTL.out]
        simp
      have HRE := Lib.hid hRe
      have hRl : R.length + 1 ≤ 100000000 := by have h2 := congrArg List.length hRe; have h1 := HLE.out; simp at h2; omega
      have HC := Lib.hid (HBY.out R 41 wr HBD.out (by omega))
      clear hRe hRl
      go_wp2_with fail
      refine HC.out.mono ?_
      rintro e w3 ⟨rfl, hb3, hs3⟩
      rw [HRE.out] at hb3
      have HB3 := Lib.hid hb3
      have HS3 := Lib.hid (HST1.out.trans (HS2.out.trans (HSB.out.trans hs3)))
      clear hb3 hs3
      dsimp only
      go_wp2
      go_end0
      exact ⟨rfl, HB3.out, HS3.out⟩
end Go.Proofs.YtkaapfakalojaaaDoor
namespace Go.Proofs.YtkaapfakalojaaaDoor
open Go.ChangeShapes Go.WideShapes Go.ChangeAt Go.RowKit
set_option linter.unusedVariables false
set_option maxRecDepth 20000
theorem name_isB' (op : Int) : IsB (nameOf op) := by
  unfold nameOf
  split
  · exact name_isB _
  · intro x hx; cases hx
theorem itS_isB (n : Int) : IsB (num10 n) := by
  have h := sl_bytes (itS n)
  rw [← str_num10] at h
  intro x hx
  simp only [num10, List.mem_map] at hx
  obtain ⟨b, _, rfl⟩ := hx
  have := b.toNat_lt
  omega
theorem arg_small {op : Int} {v : Vl} {A : Option Addr} {c : Nat} {l : List Ex} {x : Ex} (h : (Ex.node op v A c l).size + (Ex.node op v A c l).txt ≤ 3000) (hx : x ∈ l) : x.size + x.txt ≤ 3000 := by
  simp only [Ex.size, Ex.txt] at h
  have := txtL_mem hx
  omega
set_option maxHeartbeats 4000000 in
theorem write_calls (w0 : World) (B b : Nat) (hB : w0.heap.size ≤ B) (hT : OpTab w0) (hV : TabV w0) : ∀ (e : Ex) (L : List Int) (W : World), e.size + e.txt ≤ 3000 → e.Good → e.At w0 → Bld B b L W → Below w0.heap.size w0 W → L.length + e.text.length ≤ 100000000 →
    Calls Tryd.prog 33 #[.pointer (some ⟨b, 0, none⟩), e.v] W (WrR B b L e.text W) := by
  intro e
  induction e using Ex.ind with
  | h op v A c l ih =>
    intro L W hsz hg hAt hb hW hlen
    have hgb : IsB (Ex.node op v A c l).text := text_isB _ hg
    simp only [Ex.At] at hAt
    simp only [Ex.Good] at hg
    obtain ⟨hcl, hal⟩ := hAt
    have hln : l.length ≤ 3000 := by
      have h9 := hsz
      simp only [Ex.size, Ex.txt] at h9
      have := sizeL_len l
      have := txt_nonneg (Ex.node op v A c l)
      simp only [Ex.txt] at this
      omega
    have hvs : v.s.size ≤ 3000 := by
      have h9 := hsz
      simp only [Ex.size, Ex.txt] at h9
      have := sizeL_len l
      have h8 : 0 ≤ txtL l := by
        have : ∀ l : List Ex, 0 ≤ txtL l := fun l => by
          induction l with
          | nil => simp [txtL]
          | cons e l ihl => rw [txtL]; have := txt_nonneg e; omega
        exact this l
      omega
    have hwr : ∀ x ∈ l, ∀ L W, Bld B b L W → Below w0.heap.size w0 W → L.length + x.text.length ≤ 100000000 → Calls Tryd.prog 33 #[.pointer (some ⟨b, 0, none⟩), x.v] W (WrR B b L x.text W) := fun x hx L W hb hW hl =>
      ih x hx L W (arg_small hsz hx) (goodL_mem hg.2.2 x hx) (atL_mem hal x hx) hb hW hl
    have hb0 := below_one W (.cells #[.int .i64 op, .int .u8 v.k, .int .i64 v.n, .string v.s, .slice A l.length c] 26)
    obtain ⟨hbd1, hst1⟩ := hb.step hb0
    have hw1 := hW.trans (hst1.below.mono hB)
    have bx := Blk.new W #[.int .i64 op, .int .u8 v.k, .int .i64 v.n, .string v.s, .slice A l.length c] 26
    have bx2 := bx.alloc (.cells #[.int .u8 v.k, .int .i64 v.n, .string v.s] 23)
    have hb2' := below_one (W.alloc (.cells #[.int .i64 op, .int .u8 v.k, .int .i64 v.n, .string v.s, .slice A l.length c] 26)) (.cells #[.int .u8 v.k, .int .i64 v.n, .string v.s] 23)
    obtain ⟨hbd2, hst2⟩ := hbd1.step hb2'
    have hw2 := hw1.trans (hst2.below.mono hB)
    have HST := Lib.hid (fun (L : List Int) (s : ByteArray) (W : World) (hW : Bld B b L W) (hL : L.length + s.size ≤ 140737488351232) => bstr_calls B b L s W hW hL)
    have HTV := Lib.hid (fun (W : World) (hW : Below w0.heap.size w0 W) => show TabV W from fun V hV2 => hV V (hW.trans (hV2.mono hW.size)))
    have HIS := Lib.hid (isstr_calls v.k v.n v.s (W.alloc (.cells #[.int .i64 op, .int .u8 v.k, .int .i64 v.n, .string v.s, .slice A l.length c] 26)))
    unfold Ex.v
    simp only [Ex.op, Ex.vl, Ex.adr, Ex.args, Ex.cp]
    by_cases h0 : op = 0
    · have e0 : (op == 0) = true := by simpa using h0
      by_cases hk : v.k = 0
      · have e1 : (v.k != 0) = false := by simpa using hk
        have htx : (Ex.node op v A c l).text = num10 v.n := by simp only [Ex.text]; rw [if_pos h0, if_pos hk]
        rw [htx] at hgb hlen ⊢
        have HSH := Lib.hid (fun (W : World) (hW : Below w0.heap.size w0 W) => show_calls v ⟨hg.1.2.n0, hg.1.2.n1⟩ W (HTV.out W hW))
        have hsv : showV v = str (num10 v.n) := by unfold showV; rw [if_pos hk, str_num10]
        rw [hsv] at HSH
        have HNS := Lib.hid (sl_str' hgb)
        have hnl := str_size (num10 v.n)
        obtain ⟨t, ht⟩ : ∃ t, t = num10 v.n := ⟨_, rfl⟩
        rw [← ht] at HSH HNS hnl hlen ⊢
        rw [e1] at HIS
        unfold Vl.v at HSH
        have HLE := Lib.hid hlen
        have HBD2 := Lib.hid hbd2
        have HST2 := Lib.hid (hst1.trans hst2)
        have HW2 := Lib.hid hw2
        obtain ⟨x0, x1, x2, x3, x4⟩ := bx.cells5
        obtain ⟨z0, z1, z2, z3, z4⟩ := bx2.cells5
        obtain ⟨k, n, s⟩ := v
        dsimp only at *
        clear ih hwr hcl hal hg hgb hb hW hb0 hbd1 hst1 hw1 bx bx2 hb2' hbd2 hst2 hw2 htx hsv ht hlen hsz hln hvs h0 hk
        unfold WrR
        go_enter Tryd.func33, Tryd.ntmps33
        go_wp2_with fail
        refine HIS.out.mono ?_
        rintro e w1 ⟨rfl, h9⟩
        subst h9
        dsimp only
        go_wp2_with fail
        refine (HSH.out _ HW2.out).mono ?_
        rintro e w2 ⟨rfl, hb2⟩
        obtain ⟨hbd3, hst3⟩ := HBD2.out.step hb2
        have HBD3 := Lib.hid hbd3
        have HST3 := Lib.hid (HST2.out.trans hst3)
        clear hb2 hbd3 hst3
        dsimp only
        go_wp2_with fail
        refine (HST.out L (str t) _ HBD3.out (by have := HLE.out; rw [hnl]; omega)).mono ?_
        rintro e w3 ⟨rfl, hb3, hs3⟩
        rw [HNS.out] at hb3
        have HB3 := Lib.hid hb3
        have HS3 := Lib.hid (HST3.out.trans hs3)
        clear hb3 hs3
        dsimp only
        go_wp2
        go_end0
        exact ⟨rfl, HB3.out, HS3.out⟩
      · have e1 : (v.k != 0) = true := by simpa using hk
        have htx : (Ex.node op v A c l).text = quote (sl v.s) := by simp only [Ex.text]; rw [if_pos h0, if_neg hk]
        rw [htx] at hgb hlen ⊢
        have HQ := Lib.hid (fun (W : World) => pquote_calls v.s (by omega) W)
        have HNS := Lib.hid (sl_str' hgb)
        have hnl := str_size (quote (sl v.s))
        obtain ⟨t, ht⟩ : ∃ t, t = quote (sl v.s) := ⟨_, rfl⟩
        rw [← ht] at HQ HNS hnl hlen ⊢
        rw [e1] at HIS
        have HLE := Lib.hid hlen
        have HBD2 := Lib.hid hbd2
        have HST2 := Lib.hid (hst1.trans hst2)
        obtain ⟨x0, x1, x2, x3, x4⟩ := bx.cells5
        obtain ⟨z0, z1, z2, z3, z4⟩ := bx2.cells5
        obtain ⟨k, n, s⟩ := v
        dsimp only at *
        clear ih hwr hcl hal hg hgb hb hW hb0 hbd1 hst1 hw1 bx bx2 hb2' hbd2 hst2 hw2 htx ht hlen hsz hln hvs h0 hk HTV
        unfold WrR
        go_enter Tryd.func33, Tryd.ntmps33
        go_wp2_with fail
        refine HIS.out.mono ?_
        rintro e w1 ⟨rfl, h9⟩
        subst h9
        dsimp only
        go_wp2_with fail
        refine (HQ.out _).mono ?_
        rintro e w2 ⟨rfl, hb2⟩
        obtain ⟨hbd3, hst3⟩ := HBD2.out.step hb2
        have HBD3 := Lib.hid hbd3
        have HST3 := Lib.hid (HST2.out.trans hst3)
        clear hb2 hbd3 hst3
        dsimp only
        go_wp2_with fail
        refine (HST.out L (str t) _ HBD3.out (by have := HLE.out; rw [hnl]; omega)).mono ?_
        rintro e w3 ⟨rfl, hb3, hs3⟩
        rw [HNS.out] at hb3
        have HB3 := Lib.hid hb3
        have HS3 := Lib.hid (HST3.out.trans hs3)
        clear hb3 hs3
        dsimp only
        go_wp2
        go_end0
        exact ⟨rfl, HB3.out, HS3.out⟩
    · have e0 : (op == 0) = false := by simpa using h0
      by_cases hl0 : l.length = 0
      · have htx : (Ex.node op v A c l).text = nameOf op := by simp only [Ex.text]; rw [if_neg h0, if_pos hl0]
        rw [htx] at hgb hlen ⊢
        have HNM := Lib.hid (name_calls op _ (hT.below hw1))
        have HNS := Lib.hid (sl_str' hgb)
        have hnl := str_size (nameOf op)
        obtain ⟨t, ht⟩ : ∃ t, t = nameOf op := ⟨_, rfl⟩
        rw [← ht] at HNM HNS hnl hlen ⊢
        have HLE := Lib.hid hlen
        have HBD1 := Lib.hid hbd1
        have HST1 := Lib.hid hst1
        rw [hl0] at bx HNM HBD1 HST1 HIS ⊢
        obtain ⟨x0, x1, x2, x3, x4⟩ := bx.cells5
        obtain ⟨k, n, s⟩ := v
        dsimp only at *
        clear ih hwr hcl hal hg hgb hb hW hb0 hbd1 hst1 hw1 bx bx2 hb2' hbd2 hst2 hw2 htx ht hlen hsz hln hvs h0 HTV HIS hl0
        unfold WrR
        go_enter Tryd.func33, Tryd.ntmps33
        go_wp2_with fail
        refine HNM.out.mono ?_
        rintro e w1 ⟨rfl, h9⟩
        obtain rfl := h9.symm
        dsimp only
        go_wp2_with fail
        refine (HST.out L (str t) _ HBD1.out (by have := HLE.out; rw [hnl]; omega)).mono ?_
        rintro e w3 ⟨rfl, hb3, hs3⟩
        rw [HNS.out] at hb3
        have HB3 := Lib.hid hb3
        have HS3 := Lib.hid (HST1.out.trans hs3)
        clear hb3 hs3
        dsimp only
        go_wp2
        go_end0
        exact ⟨rfl, HB3.out, HS3.out⟩
      · have htx : (Ex.node op v A c l).text = [40] ++ nameOf op ++ textL l ++ [41] := by simp only [Ex.text]; rw [if_neg h0, if_neg hl0]
        rw [htx] at hlen ⊢
        have HWC := Lib.hid (wcall_calls w0 B b hB op v.k v.n v.s A c l L _ hbd1 hw1 hcl hln hT hlen (name_isB' op) hwr)
        unfold WrR at HWC
        have hne : ((l.length : Int) == 0) = false := by simpa using hl0
        have HST1 := Lib.hid hst1
        obtain ⟨t, ht⟩ : ∃ t, t = [40] ++ nameOf op ++ textL l ++ [41] := ⟨_, rfl⟩
        rw [← ht] at HWC ⊢
        generalize l.length = ln at *
        obtain ⟨x0, x1, x2, x3, x4⟩ := bx.cells5
        obtain ⟨k, n, s⟩ := v
        dsimp only at *
        clear ih hwr hcl hal hg hgb hb hW hb0 hbd1 hst1 hw1 bx bx2 hb2' hbd2 hst2 hw2 htx ht hlen hsz hln hvs h0 HTV HIS hl0
        unfold WrR
        go_enter Tryd.func33, Tryd.ntmps33
        go_wp2_with fail
        refine HWC.out.mono ?_
        rintro e w3 ⟨rfl, hb3, hs3⟩
        have HB3 := Lib.hid hb3
        have HS3 := Lib.hid (HST1.out.trans hs3)
        clear hb3 hs3
        dsimp only
        go_wp2
        go_end0
        exact ⟨rfl, HB3.out, HS3.out⟩
set_option maxHeartbeats 4000000 in
theorem ptext_calls (e : Ex) (w : World) (hsz : e.size + e.txt ≤ 3000) (hg : e.Good) (hAt : e.At w) (hT : OpTab w) (hV : TabV w) : Calls Tryd.prog 15 #[e.v] w fun q w' => q = .returned (.string (str e.text)) ∧ Below w.heap.size w w' := by
  have hb1 := below_one w (.cells #[.int .i64 e.op, .int .u8 e.vl.k, .int .i64 e.vl.n, .string e.vl.s, .slice e.adr e.args.length e.cp] 26)
  have hb2 : Below w.heap.size w ((w.alloc (.cells #[.int .i64 e.op, .int .u8 e.vl.k, .int .i64 e.vl.n, .string e.vl.s, .slice e.adr e.args.length e.cp] 26)).alloc (.cells #[.pointer none, .slice none 0 0] 51)) := hb1.alloc (by simp) _
  have hbd := Bld.new (w.alloc (.cells #[.int .i64 e.op, .int .u8 e.vl.k, .int .i64 e.vl.n, .string e.vl.s, .slice e.adr e.args.length e.cp] 26))
  have htl := text_len e hg
  have hn := txt_nonneg e
  have hsp := size_pos e
  have HW := Lib.hid (write_calls w (w.alloc (.cells #[.int .i64 e.op, .int .u8 e.vl.k, .int .i64 e.vl.n, .string e.vl.s, .slice e.adr e.args.length e.cp] 26)).heap.size (w.alloc (.cells #[.int .i64 e.op, .int .u8 e.vl.k, .int .i64 e.vl.n, .string e.vl.s, .slice e.adr e.args.length e.cp] 26)).heap.size (by simp) hT hV e [] _ hsz hg hAt hbd hb2 (by simp; omega))
  have bx := (Blk.new w #[.int .i64 e.op, .int .u8 e.vl.k, .int .i64 e.vl.n, .string e.vl.s, .slice e.adr e.args.length e.cp] 26).alloc (.cells #[.pointer none, .slice none 0 0] 51)
  obtain ⟨x0, x1, x2, x3, x4⟩ := bx.cells5
  have HTB := Lib.hid (text_isB e hg)
  have HB2 := Lib.hid hb2
  simp only [World.size_alloc] at HW
  unfold WrR at HW
  unfold Ex.v at HW ⊢
  generalize e.text = t at *
  generalize e.op = p0 at *
  generalize e.vl.k = p1 at *
  generalize e.vl.n = p2 at *
  generalize e.vl.s = p3 at *
  generalize e.adr = p4 at *
  generalize e.args.length = p5 at *
  generalize e.cp = p6 at *
  clear hsz hg hAt hT hV hb1 hb2 hbd htl hn hsp bx
  go_enter Tryd.func15, Tryd.ntmps15
  go_wp2_with fail
  refine HW.out.mono ?_
  rintro r w1 ⟨rfl, hb, hs⟩
  have HB := Lib.hid hb
  have HS := Lib.hid (HB2.out.trans (hs.below.mono (by omega)))
  clear hb hs
  dsimp only
  go_wp2_with fail
  refine (bString_calls _ _ _ _ HTB.out HB.out).mono ?_
  rintro r w2 ⟨rfl, hb2⟩
  have HB9 := Lib.hid (HS.out.trans (hb2.mono (by omega)))
  clear hb2
  dsimp only
  go_wp2
  go_ret
  exact ⟨rfl, HB9.out⟩
end Go.Proofs.YtkaapfakalojaaaDoor
namespace Go.Proofs.YtkaapfakalojaaaDoor
set_option linter.unusedVariables false
abbrev Pt := Int × Ex
mutual
def Ex.walk : Int → Ex → List Pt | d, .node op v A c l => (d, .node op v A c l) :: walkL (d + 1) l
def walkL : Int → List Ex → List Pt | _, [] => [] | d, e :: l => e.walk d ++ walkL d l
end
theorem walkL_append (d : Int) (a b : List Ex) : walkL d (a ++ b) = walkL d a ++ walkL d b := by
  induction a with
  | nil => simp [walkL]
  | cons e a ih => rw [List.cons_append, walkL, walkL, ih, List.append_assoc]
theorem walk_length : ∀ (e : Ex) (d : Int), ((e.walk d).length : Int) = e.size := by
  intro e
  induction e using Ex.ind with
  | h op v A c l ih =>
    intro d
    have key : ∀ l : List Ex, (∀ e ∈ l, ∀ d, ((e.walk d).length : Int) = e.size) → ∀ d, ((walkL d l).length : Int) = sizeL l := by
      intro l
      induction l with
      | nil => intro _ d; simp [walkL, sizeL]
      | cons e l ihl => intro h d; have h1 := h e (by simp) d; have h2 := ihl (fun x hx => h x (by simp [hx])) d; simp only [walkL, sizeL, List.length_append]; omega
    have := key l ih (d + 1)
    simp only [Ex.walk, Ex.size, List.length_cons]
    omega
/-- The greatest depth that has been seen. -/
def maxd (l : List Pt) : Int := l.foldl (fun m x => max m x.1) 0
theorem maxd_from (l : List Pt) : ∀ m : Int, 0 ≤ m → l.foldl (fun m x => max m x.1) m = max m (maxd l) := by
  unfold maxd
  induction l with
  | nil => intro m hm; simp; omega
  | cons x l ih =>
    intro m hm
    simp only [List.foldl_cons]
    rw [ih (max m x.1) (by omega), ih (max 0 x.1) (by omega)]
    have := (by
      have : ∀ (l : List Pt) (m : Int), 0 ≤ m → 0 ≤ l.foldl (fun m x => max m x.1) m := by
        intro l
        induction l with
        | nil => intro m hm; exact hm
        | cons y l ihl => intro m hm; simp only [List.foldl_cons]; exact ihl _ (by omega)
      exact this l 0 (by omega) : 0 ≤ l.foldl (fun m x => max m x.1) 0)
    omega
theorem maxd_nonneg (l : List Pt) : 0 ≤ maxd l := by
  have h := maxd_from l 0 (by omega)
  unfold maxd at h ⊢
  omega
theorem maxd_append (a b : List Pt) : maxd (a ++ b) = max (maxd a) (maxd b) := by
  have h := maxd_from b (maxd a) (maxd_nonneg a)
  unfold maxd at h ⊢
  rw [List.foldl_append, h]
theorem maxd_snoc (a : List Pt) (x : Pt) : maxd (a ++ [x]) = max (maxd a) x.1 := by unfold maxd; rw [List.foldl_append]; rfl
theorem wdeep_pos : ∀ e : Ex, 1 ≤ e.deep := by
  intro e
  cases e with
  | node op v A c l =>
    have : ∀ l : List Ex, 0 ≤ deepL l := by
      intro l
      induction l with
      | nil => simp [deepL]
      | cons e l ih => rw [deepL]; omega
    have := this l
    rw [Ex.deep]; omega
theorem wdeepL_nonneg : ∀ l : List Ex, 0 ≤ deepL l
  | [] => by simp [deepL]
  | e :: l => by have := wdeepL_nonneg l; rw [deepL]; omega
theorem walk_maxd : ∀ (e : Ex) (d : Int), 1 ≤ d → maxd (e.walk d) = d + e.deep - 1 := by
  intro e
  induction e using Ex.ind with
  | h op v A c l ih =>
    intro d hd
    have key : ∀ l : List Ex, (∀ e ∈ l, ∀ d, 1 ≤ d → maxd (e.walk d) = d + e.deep - 1) → ∀ d, 1 ≤ d → maxd (walkL d l) = if l = [] then 0 else d + deepL l - 1 := by
      intro l
      induction l with
      | nil => intro _ d _; simp [walkL, maxd]
      | cons e l ihl =>
        intro h d hd
        have h1 := h e (by simp) d hd
        have h2 := ihl (fun x hx => h x (by simp [hx])) d hd
        have := wdeep_pos e
        have := wdeepL_nonneg l
        rw [walkL, maxd_append, h1, h2, if_neg (List.cons_ne_nil e l), deepL]
        by_cases hl : l = []
        · rw [if_pos hl]; rw [hl]; simp only [deepL]; omega
        · rw [if_neg hl]; omega
    have h := key l ih (d + 1) (by omega)
    have e1 : Ex.walk d (.node op v A c l) = [(d, .node op v A c l)] ++ walkL (d + 1) l := by rw [Ex.walk]; rfl
    rw [e1, maxd_append, h, Ex.deep]
    have h1 : maxd [(d, Ex.node op v A c l)] = d := by simp [maxd]; omega
    rw [h1]
    have := wdeepL_nonneg l
    by_cases hl : l = []
    · rw [if_pos hl]; rw [hl]; simp only [deepL]; omega
    · rw [if_neg hl]; omega
theorem walk_ne (e : Ex) (d : Int) : e.walk d ≠ [] := by cases e; simp [Ex.walk]
end Go.Proofs.YtkaapfakalojaaaDoor
namespace Go.Proofs.YtkaapfakalojaaaDoor
open Go.ChangeShapes Go.WideShapes Go.ChangeAt Go.RowKit Go.Shelf
set_option linter.unusedVariables false
attribute [local go_sem] Oper.semAt_some
/-- What is handed over: the depth, the part. -/
def ptVals (x : Pt) : Array Value := #[.int .i64 x.1, x.2.v]
/-- What is known of the value that is handed over. -/
def FxV (whole : List Pt) (pre : List Pt) (x : Pt) (W : World) : Prop := x.2.At W ∧ pre ++ [x] <+: whole
/-- What a loop body owes. -/
structure YieldV (L : Nat) (w0 : World) (C : World → Nat → Prop) (J Jx : List Pt → World → Prop) (whole : List Pt) : Prop where
  jb : ∀ pre A B, Below A.heap.size A B → J pre A → J pre B
  k0 : ∀ pre A, J pre A → Below w0.heap.size w0 A
  c : ∀ pre A B k, J pre A → Below A.heap.size A B → C B k → k < A.heap.size ∧ C A k
  y : ∀ pre x W1, J pre W1 → FxV whole pre x W1 → YieldAt Fence.wide 0 Tryd.prog L (ptVals x) W1 fun e W' => (e = .returned (.bool true) ∧ J (pre ++ [x]) W' ∧ KpC C W1 W') ∨ (e = .returned (.bool false) ∧ Jx (pre ++ [x]) W')
def RelV (C : World → Nat → Prop) (J : List Pt → World → Prop) (pre : List Pt) (d : Int) (l : List Ex) (W1 : World) (i : Value) (wr : World) : Prop :=
  ∃ k : Nat, i = .int .i64 k ∧ k ≤ l.length ∧ Hid (J (pre ++ walkL d (l.take k)) wr) ∧ Hid (KpC C W1 wr)
theorem roundIn_wide {n m : Nat} {P : Program} {l : Nat} {f : FuncId} {tmps : Array Value} {assign body : Code} {w : World} {R : Ending → World → Prop} (h : RoundIn Fence.wide n P l f tmps assign body w R) : RoundIn Fence.wide m P l f tmps assign body w R :=
  ⟨h.1, fun c cs _ => h.2 c cs (room_wide _)⟩
theorem callsIn_any {n m : Nat} {P : Program} {f : FuncId} {args : Array Value} {w : World} {R : Ending → World → Prop} (h : CallsIn Fence.wide n P f args w R) : CallsIn Fence.wide m P f args w R := callsIn_wide.2 (callsIn_wide.1 h)
theorem walkL_next {d : Int} {l : List Ex} {k : Nat} {e : Ex} (h : l[k]? = some e) : walkL d (l.take (k + 1)) = walkL d (l.take k) ++ e.walk d := by rw [take_snoc h, walkL_append]; simp [walkL]
theorem sizeL_mem {l : List Ex} {e : Ex} (h : e ∈ l) : e.size ≤ sizeL l := by
  induction l with
  | nil => cases h
  | cons a l ih =>
    have h1 := size_pos a
    have h2 := sizeL_len l
    rw [sizeL]
    rcases List.mem_cons.1 h with rfl | h
    · omega
    · have := ih h; omega
theorem walkL_prefix (d : Int) (l : List Ex) (k : Nat) : walkL d (l.take k) <+: walkL d l := by
  have h := walkL_append d (l.take k) (l.drop k)
  rw [List.take_append_drop] at h
  exact ⟨_, h.symm⟩
def VisitR (C : World → Nat → Prop) (J Jx : List Pt → World → Prop) (whole out : List Pt) (W : World) (r : Ending) (W' : World) : Prop := (r = .returned (.bool true) ∧ J out W' ∧ KpC C W W') ∨ (r = .returned (.bool false) ∧ ∃ p, p <+: whole ∧ p ≠ [] ∧ Jx p W')
set_option maxRecDepth 100000 in
set_option maxHeartbeats 4000000 in
theorem visit_calls (L : Nat) (w0 : World) (C : World → Nat → Prop) (J Jx : List Pt → World → Prop) (whole : List Pt) (hY : YieldV L w0 C J Jx whole) :
    ∀ (e : Ex) (d : Int) (pre : List Pt) (W : World), 0 ≤ d → d + e.size ≤ 1000000 → e.size ≤ 3000 → e.At w0 → J pre W → pre ++ e.walk d <+: whole →
      Calls Tryd.prog 43 #[e.v, .int .i64 d, .func (.yield L) #[] #[]] W (VisitR C J Jx whole (pre ++ e.walk d) W) := by
  intro e
  induction e using Ex.ind with
  | h op v A c l ih =>
    intro d pre W hd0 hd1 hsz hAt hJ hpf
    have HJ := Lib.hid hY.jb
    have HK0 := Lib.hid hY.k0
    have HC := Lib.hid hY.c
    have HY := Lib.hid hY.y
    simp only [Ex.At] at hAt
    obtain ⟨hcl, hal⟩ := hAt
    simp only [Ex.size] at hd1 hsz
    obtain ⟨k, n, s⟩ := v
    have hw : Ex.walk d (.node op ⟨k, n, s⟩ A c l) = (d, .node op ⟨k, n, s⟩ A c l) :: walkL (d + 1) l := by rw [Ex.walk]
    have hpre1 : (pre ++ [(d, Ex.node op ⟨k, n, s⟩ A c l)]) ++ walkL (d + 1) l <+: whole := by rw [hw] at hpf; simpa using hpf
    have hout : pre ++ Ex.walk d (.node op ⟨k, n, s⟩ A c l) = (pre ++ [(d, Ex.node op ⟨k, n, s⟩ A c l)]) ++ walkL (d + 1) l := by rw [hw]; simp
    rw [hout]
    unfold Ex.v
    simp only [Ex.op, Ex.vl, Ex.adr, Ex.args, Ex.cp]
    obtain ⟨ln, hln⟩ : ∃ ln, ln = l.length := ⟨_, rfl⟩
    have HLN := Lib.hid hln
    rw [← hln]
    have hb0 := below_one W (.cells #[.int .i64 op, .int .u8 k, .int .i64 n, .string s, .slice A ln c] 26)
    have hJ1 := HJ.out pre W _ hb0 hJ
    have hnc : ¬ C (W.alloc (.cells #[.int .i64 op, .int .u8 k, .int .i64 n, .string s, .slice A ln c] 26)) W.heap.size := fun h => absurd (HC.out pre W _ W.heap.size hJ hb0 h).1 (Nat.lt_irrefl _)
    have hk1 : KpC C W (W.alloc (.cells #[.int .i64 op, .int .u8 k, .int .i64 n, .string s, .slice A ln c] 26)) := KpC.of_below hb0 (fun k h => HC.out pre W _ k hJ hb0 h)
    have bx := Blk.new W #[.int .i64 op, .int .u8 k, .int .i64 n, .string s, .slice A ln c] 26
    obtain ⟨x0, x1, x2, x3, x4⟩ := bx.cells5
    have hB1 := HK0.out _ _ hJ1
    have hAt1 : (Ex.node op ⟨k, n, s⟩ A c l).At (W.alloc (.cells #[.int .i64 op, .int .u8 k, .int .i64 n, .string s, .slice A ln c] 26)) := Ex.At.below hB1 _ (by simp only [Ex.At]; exact ⟨hcl, hal⟩)
    obtain ⟨fn, tmps, assign, body, hy, hR⟩ := HY.out pre (d, .node op ⟨k, n, s⟩ A c l) _ hJ1 ⟨hAt1, List.IsPrefix.trans ⟨_, rfl⟩ hpre1⟩
    simp only [ptVals, Ex.v, Ex.op, Ex.vl, Ex.adr, Ex.args, Ex.cp, ← hln] at hy
    have HBX := Lib.hid bx
    have HNC := Lib.hid hnc
    have HK1 := Lib.hid hk1
    have HPF := Lib.hid hpre1
    have HCL := Lib.hid hcl
    have HIH := Lib.hid (fun e he => ih e he)
    have HAL := Lib.hid (fun e he => atL_mem hal e he)
    have HSZ := Lib.hid (fun e (he : e ∈ l) => sizeL_mem he)
    obtain ⟨pre1, hp1⟩ : ∃ pre1, pre1 = pre ++ [(d, Ex.node op ⟨k, n, s⟩ A c l)] := ⟨_, rfl⟩
    have HP1 := Lib.hid (show pre1 ≠ [] by rw [hp1]; simp)
    rw [← hp1] at hR HPF ⊢
    have hsl : 0 ≤ sizeL l := by have := sizeL_len l; omega
    have hs9 : sizeL l ≤ 3000 := by omega
    have hd9 : d + 1 + sizeL l ≤ 1000000 := by omega
    clear ih hal hcl bx hnc hk1 hpre1 hln hp1 hout hw hpf hAt1 hB1 hJ1 hJ hb0 hY hd1 hsz
    refine (callsIn_wide (n := 4)).1 ?_
    refine callsIn_of_wp Tryd.func43 rfl trivial ?_ rfl
    simp only [Tryd.ntmps43, List.size_toArray, List.length_cons, List.length_nil, Nat.reduceAdd, Nat.reduceSub, Array.replicate_succ, Array.replicate_zero, List.push_toArray, List.append_toArray, List.nil_append, List.cons_append]
    gi_wp2
    refine (roundIn_wide hR).mono ?_
    rintro e' W2 (⟨rfl, hJ2, hk2⟩ | ⟨rfl, hJx2⟩)
    · have hlt0 : W.heap.size < (W.alloc (.cells #[.int .i64 op, .int .u8 k, .int .i64 n, .string s, .slice A ln c] 26)).heap.size := by simp
      have hb2 : Blk W2 W.heap.size #[.int .i64 op, .int .u8 k, .int .i64 n, .string s, .slice A ln c] 26 := (hk2.2 _ hlt0 HNC.out).1.trans HBX.out
      obtain ⟨y0, y1, y2, y3, y4⟩ := hb2.cells5
      have HJ2 := Lib.hid hJ2
      have HK2 := Lib.hid (HK1.out.trans hk2)
      clear hb2 hJ2 hk2 hlt0
      obtain ⟨W1, hW1⟩ : ∃ W1, W1 = W.alloc (.cells #[.int .i64 op, .int .u8 k, .int .i64 n, .string s, .slice A ln c] 26) := ⟨_, rfl⟩
      have HEND := Lib.hid (show walkL (d + 1) (l.take l.length) = walkL (d + 1) l by rw [List.take_length])
      have HNX := Lib.hid (fun k e => walkL_next (d := d + 1) (l := l) (k := k) (e := e))
      have HPX := Lib.hid (fun k => walkL_prefix (d + 1) l k)
      clear x0 x1 x2 x3 x4 hy hR
      gi_wp2
      gi_loopw [17] (RelV C J pre1 (d + 1) l W2) (fun i _ => 3001 - (intOf i).toNat)
      case atStart => exact ⟨0, rfl, Nat.zero_le _, Lib.hid (by simpa [walkL] using HJ2.out), Lib.hid (KpC.refl _ _)⟩
      case round =>
        obtain ⟨j, rfl, hj, hJw, hkw⟩ := hrel
        rw [← HLN.out] at hj
        have HJW := Lib.hid hJw.out
        have HKW := Lib.hid hkw.out
        clear hJw hkw
        by_cases hlt : j < ln
        · obtain ⟨e, he⟩ : ∃ e, l[j]? = some e := ⟨l[j]'(by rw [← HLN.out]; exact hlt), by simp⟩
          obtain ⟨b, o, hA, hb, hck⟩ := arg_cells HCL.out (by rw [← HLN.out]; omega)
          subst hA
          obtain ⟨a0, a1, a2, a3, a4⟩ := hck j e he wr (HK0.out _ _ HJW.out)
          have hmem := List.mem_of_getElem? he
          have hnx := HNX.out j e he
          have hes := HSZ.out e hmem
          have hpx : (pre1 ++ walkL (d + 1) (l.take j)) ++ e.walk (d + 1) <+: whole := by
            have h1 := HPX.out (j + 1)
            rw [hnx] at h1
            have h2 := (List.prefix_append_right_inj pre1).2 h1
            rw [← List.append_assoc] at h2
            exact h2.trans HPF.out
          have hJA := HJ.out _ _ _ (below_one wr (.cells #[.int .i64 e.op, .int .u8 e.vl.k, .int .i64 e.vl.n, .string e.vl.s, .slice e.adr e.args.length e.cp] 26)) HJW.out
          have hkA : KpC C wr (wr.alloc (.cells #[.int .i64 e.op, .int .u8 e.vl.k, .int .i64 e.vl.n, .string e.vl.s, .slice e.adr e.args.length e.cp] 26)) := KpC.of_below (below_one wr _) (fun k h => HC.out _ wr _ k HJW.out (below_one wr _) h)
          have hC9 := HIH.out e hmem (d + 1) _ _ (by omega) (by omega) (by omega) (HAL.out e hmem) hJA hpx
          have by2 := Blk.new wr #[.int .i64 e.op, .int .u8 e.vl.k, .int .i64 e.vl.n, .string e.vl.s, .slice e.adr e.args.length e.cp] 26
          obtain ⟨z0, z1, z2, z3, z4⟩ := by2.cells5
          have HE := Lib.hid hC9
          have HKA := Lib.hid (HKW.out.trans hkA)
          have HNW := Lib.hid hnx
          unfold Ex.v at HE
          have h1i : (j : Int) < (ln : Int) := by omega
          have hw1 : wrap64 (d + 1) = d + 1 := by unfold wrap64; omega
          have hsl9 := HLN.out
          have hln3 : ln ≤ 3000 := by have := sizeL_len l; omega
          generalize e.op = p0 at *
          generalize e.vl.k = p1 at *
          generalize e.vl.n = p2 at *
          generalize e.vl.s = p3 at *
          generalize e.adr = p4 at *
          generalize e.args.length = p5 at *
          generalize e.cp = p6 at *
          clear hck he hmem hnx hes hpx hJA hkA hC9 by2 hj hb hsl9
          gi_wp2
          refine ⟨trivial, ?_⟩
          refine (callsIn_wide.2 HE.out).mono ?_
          rintro r w3 (⟨rfl, hJ3, hk3⟩ | ⟨rfl, p, hp, hpn, hJ3⟩)
          · have HJ3 := Lib.hid hJ3
            have HK3 := Lib.hid (HKA.out.trans hk3)
            clear hJ3 hk3
            gi_wp2
            go_roundw
            case rel => exact ⟨j + 1, by go_num, by rw [← HLN.out]; omega, Lib.hid (by rw [HNW.out, ← List.append_assoc]; exact HJ3.out), Lib.hid HK3.out⟩
            case measure => simp [intOf]; omega
          · have HJ3 := Lib.hid hJ3
            have HP3 := Lib.hid hp
            have HP4 := Lib.hid hpn
            clear hJ3 hp hpn
            gi_wp2
            refine bodyPost_ret (results_tmp (by rfl) _ _ _) rfl ?_
            exact .inr ⟨rfl, p, HP3.out, HP4.out, HJ3.out⟩
        · obtain rfl : j = ln := by omega
          have hd2 : decide ((j : Int) < (j : Int)) = false := by simp
          have hJ9 := HJW.out
          rw [show l.take j = l.take l.length by rw [HLN.out], HEND.out] at hJ9
          have HJ9 := Lib.hid hJ9
          clear hJ9
          gi_wp2
          refine bodyPost_ret (results_tmp (by rfl) _ _ _) rfl ?_
          exact .inl ⟨rfl, HJ9.out, HK2.out.trans HKW.out⟩
    · gi_wp2
      refine bodyPost_ret (results_tmp (by rfl) _ _ _) rfl ?_
      exact .inr ⟨rfl, _, List.IsPrefix.trans ⟨_, rfl⟩ HPF.out, HP1.out, hJx2⟩
end Go.Proofs.YtkaapfakalojaaaDoor
namespace Go.Proofs.YtkaapfakalojaaaDoor
open Go.ChangeShapes Go.WideShapes Go.ChangeAt Go.RowKit Go.Shelf
set_option linter.unusedVariables false
attribute [local go_sem] Oper.semAt_some
def Ex.cells (e : Ex) : Array Value := #[.int .i64 e.op, .int .u8 e.vl.k, .int .i64 e.vl.n, .string e.vl.s, .slice e.adr e.args.length e.cp]
theorem parts_calls (e : Ex) (w : World) : Calls Tryd.prog 27 #[e.v] w fun r w' => r = .returned (.func (.func 42) #[] #[.pointer (some ⟨w.heap.size, 0, none⟩)]) ∧ w' = w.alloc (.cells e.cells 26) := by
  have hmf : ∀ (fn : Fn) (first cap : Array Value) (w : World), (Instr.makeFunc fn first cap).run Tryd.prog w = .ok (.func fn first cap) w := fun _ _ _ _ => rfl
  unfold Ex.v Ex.cells
  go_enter Tryd.func27, Tryd.ntmps27
  go_wp2
  go_ret
  exact ⟨rfl, rfl⟩
/-- What the rounds keep. -/
def KqV (w0 : World) (Bn : Nat) (e : Ex) (pre : List Pt) (W : World) : Prop := Below w0.heap.size w0 W ∧ Blk W Bn e.cells 26
set_option maxRecDepth 100000 in
set_option maxHeartbeats 4000000 in
theorem iter_visits (N : Nat) (w0 w : World) (e : Ex) (hsz : e.size ≤ 3000) (hAt : e.At w0) (Bn : Nat) :
    SeqK Fence.wide N Tryd.prog 42 #[.pointer (some ⟨Bn, 0, none⟩)] ptVals (KqV w0 Bn e) (FxV (e.walk 1)) (fun xs => xs = e.walk 1) (fun p => p <+: e.walk 1 ∧ p ≠ []) w := by
  intro L C J Jx W hW hJ hJx hJK hC hY h0
  obtain ⟨hB0, hbx⟩ := hJK _ _ h0
  have hV : YieldV L w0 C J Jx (e.walk 1) := ⟨hJ, fun pre A h => (hJK pre A h).1, hC, fun pre x W1 h1 h2 => by
    obtain ⟨fn, tmps, assign, body, hy, hR⟩ := hY pre x W1 h1 h2
    exact ⟨fn, tmps, assign, body, hy, roundIn_wide hR⟩⟩
  have HV := Lib.hid (visit_calls L w0 C J Jx (e.walk 1) hV e 1 [] W (by omega) (by omega) hsz hAt h0 (by simp))
  rw [List.nil_append] at HV
  unfold Ex.cells at hbx
  unfold Ex.v at HV
  obtain ⟨x0, x1, x2, x3, x4⟩ := hbx.cells5
  generalize e.op = p0 at *
  generalize e.vl.k = p1 at *
  generalize e.vl.n = p2 at *
  generalize e.vl.s = p3 at *
  generalize e.adr = p4 at *
  generalize e.args.length = p5 at *
  generalize e.cp = p6 at *
  generalize e.walk 1 = whole at *
  clear hB0 hbx hV hY hC hJK hJx hJ hAt hsz h0
  refine callsIn_any (n := 4) ?_
  refine callsIn_of_wp Tryd.func42 rfl trivial ?_ rfl
  simp only [Tryd.ntmps42, List.size_toArray, List.length_cons, List.length_nil, Nat.reduceAdd, Nat.reduceSub, Array.replicate_succ, Array.replicate_zero, List.push_toArray, List.append_toArray, List.nil_append, List.cons_append]
  gi_wp2
  refine ⟨trivial, ?_⟩
  refine (callsIn_wide.2 HV.out).mono ?_
  rintro r w3 (⟨rfl, hJ3, hk3⟩ | ⟨rfl, p, hp, hpn, hJ3⟩)
  · have HJ3 := Lib.hid hJ3
    clear hJ3 hk3
    gi_wp2
    go_end0
    exact ⟨⟨_, rfl⟩, .inl ⟨_, rfl, HJ3.out⟩⟩
  · have HJ3 := Lib.hid hJ3
    have HP3 := Lib.hid hp
    have HP4 := Lib.hid hpn
    clear hJ3 hp hpn
    gi_wp2
    go_end0
    exact ⟨⟨_, rfl⟩, .inr ⟨p, ⟨HP3.out, HP4.out⟩, HJ3.out⟩⟩
end Go.Proofs.YtkaapfakalojaaaDoor
namespace Go.Proofs.YtkaapfakalojaaaDoor
open Go.ChangeShapes Go.WideShapes Go.ChangeAt Go.RowKit Go.Shelf
set_option linter.unusedVariables false
attribute [local go_sem] Oper.semAt_some
/-- A function whose result lies in a slot returns behind a range loop. -/
theorem ret_one {N : Nat} {f : Func} {R : Ending → World → Prop} {p : Tmp} (hres : f.results = #[.tmp p]) {a : Act} {W : World} {D : Nat} (hdef : a.defers = [{ target := .collected D, args := #[] }]) (hK : W.heap[D]? = some (.deferred (some [])))
    (hR : R (.returned (a.tmps.getD p undef)) (W.putObj D (.deferred none))) : bodyPostM Fence.wide N Tryd.prog f R Exit.ret a W := by
  show LeavesInM _ _ _ _ _ _ a.defers _ _
  rw [hdef]
  refine ⟨by simp, .inl ⟨_, _, rfl, run_takeDeferred hK, ?_⟩⟩
  exact ⟨_, results_tmp hres _ _ _, hR⟩
/-- What lies in memory between two rounds. -/
def SzI (w : World) (e : Ex) (pre : List Pt) (W : World) : Prop := Blk W (w.heap.size + 1) #[.int .i64 pre.length] 3 ∧ Blk W (w.heap.size + 1 + 1) e.cells 26 ∧ Below w.heap.size w W
theorem SzI.stays {w : World} {e : Ex} (pre : List Pt) (X Y : World) (hs : Stays w.heap.size X Y) (h : SzI w e pre X) : SzI w e pre Y := ⟨hs.cells _ _ h.1 rfl, hs.cells _ _ h.2.1 rfl, h.2.2.trans hs.below⟩
/-- The frame of a round behind the assignment. -/
def SzAct (w : World) (e : Ex) (x : Pt) : Act :=
  { tmps := #[e.v, .pointer (some ⟨w.heap.size, 0, none⟩), .int .i64 0, .pointer (some ⟨w.heap.size + 1, 0, none⟩), e.v, .func (.func 42) #[] #[.pointer (some ⟨w.heap.size + 1 + 1, 0, none⟩)], .int .i64 x.1, x.2.v, undef, undef, undef], defers := [] }
def SzA (w : World) (e : Ex) (pre : List Pt) (x : Pt) (a' : Act) (W : World) : Prop := a' = SzAct w e x ∧ pre ++ [x] <+: e.walk 1
def SzC (w : World) (W : World) (k : Nat) : Prop := k = w.heap.size + 1
theorem SzC.stays {w : World} {e : Ex} (pre : List Pt) (A B : World) (k : Nat) (h : SzI w e pre A) (hs : Stays w.heap.size A B) (hk : SzC w B k) : k < A.heap.size ∧ SzC w A k := by
  refine ⟨?_, hk⟩
  rw [show k = _ from hk]
  exact h.1.lt
theorem SzI.set {w : World} {e : Ex} {pre : List Pt} {x : Pt} {W : World} (h : SzI w e pre W) (n : Int) (hn : n = (pre ++ [x]).length) : KeepsOthers W (W.setCell ⟨w.heap.size + 1, 0, none⟩ (.int .i64 n)) ∧ KpC (SzC w) W (W.setCell ⟨w.heap.size + 1, 0, none⟩ (.int .i64 n)) ∧ SzI w e (pre ++ [x]) (W.setCell ⟨w.heap.size + 1, 0, none⟩ (.int .i64 n)) := by
  subst hn
  obtain ⟨h1, h2, h3⟩ := h
  refine ⟨KeepsOthers.setCell _ _ _, ⟨by simp [World.setCell], fun k hk hc => ⟨Below.heap_setCell _ _ _ k hc, hc⟩⟩, ?_, (Below.heap_setCell _ _ _ _ (by show w.heap.size + 1 + 1 ≠ w.heap.size + 1; omega)).trans h2, h3.setCell (p := ⟨w.heap.size + 1, 0, none⟩) (by show w.heap.size ≤ w.heap.size + 1; omega) _⟩
  have := h1.set 0 (.int .i64 ((pre ++ [x]).length : Nat))
  simpa using this
set_option maxRecDepth 100000 in
set_option maxHeartbeats 4000000 in
theorem size_calls (e : Ex) (w : World) (hsz : e.size ≤ 3000) (hAt : e.At w) : Calls Tryd.prog 8 #[e.v] w fun q w' => q = .returned (.int .i64 e.size) ∧ Below w.heap.size w w' := by
  have HP := Lib.hid (fun W => parts_calls e W)
  have bx := Blk.new w e.cells 26
  have hB1 := below_one w (.cells e.cells 26)
  have hB2 : Below w.heap.size w (((w.alloc (.cells e.cells 26)).alloc (.cells #[.int .i64 0] 3)).alloc (.cells e.cells 26)) := (hB1.alloc (by simp) _).alloc (by simp; omega) _
  have b1 : Blk (((w.alloc (.cells e.cells 26)).alloc (.cells #[.int .i64 0] 3)).alloc (.cells e.cells 26)) (w.heap.size + 1) #[.int .i64 0] 3 := by
    have := (Blk.new (w.alloc (.cells e.cells 26)) #[.int .i64 0] 3).alloc (.cells e.cells 26)
    simpa using this
  have b2 : Blk (((w.alloc (.cells e.cells 26)).alloc (.cells #[.int .i64 0] 3)).alloc (.cells e.cells 26)) (w.heap.size + 1 + 1) e.cells 26 := by
    have := Blk.new ((w.alloc (.cells e.cells 26)).alloc (.cells #[.int .i64 0] 3)) e.cells 26
    simpa using this
  have hst : SzI w e [] (((w.alloc (.cells e.cells 26)).alloc (.cells #[.int .i64 0] 3)).alloc (.cells e.cells 26)) := ⟨b1, b2, hB2⟩
  have HST := Lib.hid hst
  have HIT := Lib.hid (fun W => iter_visits 3 w W e hsz hAt (w.heap.size + 1 + 1))
  have hlen := walk_length e 1
  clear b1 b2 hB2 hst hB1
  unfold Ex.cells at bx HST HP
  unfold Ex.v at HP ⊢
  obtain ⟨x0, x1, x2, x3, x4⟩ := bx.cells5
  clear bx
  obtain ⟨whole, hwh⟩ : ∃ whole, whole = e.walk 1 := ⟨_, rfl⟩
  have HWH := Lib.hid hwh
  rw [← hwh] at hlen HIT
  have HLE := Lib.hid hlen
  obtain ⟨sz, hsize⟩ : ∃ sz, sz = e.size := ⟨_, rfl⟩
  rw [← hsize] at HLE hsz ⊢
  clear hlen hwh hAt hsize
  refine (callsIn_wide (n := 4)).1 ?_
  refine callsIn_of_wp_marks Tryd.func8 rfl trivial ?_ rfl
  simp only [Tryd.ntmps8, List.size_toArray, List.length_cons, List.length_nil, Nat.reduceAdd, Nat.reduceSub, Array.replicate_succ, Array.replicate_zero, List.push_toArray, List.append_toArray, List.nil_append, List.cons_append]
  gi_wp2
  refine ⟨trivial, ?_⟩
  refine (callsIn_wide.2 (HP.out _)).mono ?_
  rintro r w' ⟨rfl, rfl⟩
  gi_wp2
  have hI0 := HST.out
  refine range_law (α := Pt) rfl (by omega) (gf := 42) (lb := #[.pointer (some ⟨w.heap.size + 1 + 1, 0, none⟩)]) rfl trivial (enters_of Tryd.func42 (by kernel_rfl) rfl)
    (HIT.out _) (fun _ => rfl) w.heap.size (by simp; omega) (SzC w) (SzI w e) (fun _ _ _ => False) (SzA w e) SzI.stays (fun _ _ _ _ _ h => h) (fun _ _ _ _ _ _ h => h)
    (fun pre W hi => ⟨hi.2.2, hi.2.1⟩) SzC.stays hI0 ?assign ?body ?done ?stop
  case assign =>
    rintro L pre ⟨d, y⟩ W K hi hfx hK
    dsimp only [ptVals]
    have HFX := Lib.hid hfx.2
    clear hI0 hfx
    gi_wp2
    exact hK _ _ (KeepsOthers.refl _) (KpC.refl _ _) hi ⟨by simp [SzAct, Ex.v], by rw [← HWH.out]; exact HFX.out⟩
  case body =>
    rintro L pre ⟨d, y⟩ a' W hi ⟨rfl, hpf⟩
    dsimp only [SzAct]
    rw [← HWH.out] at hpf
    have hle := hpf.length_le
    simp only [List.length_append, List.length_singleton] at hle
    have c1 : W.cell? ⟨w.heap.size + 1, 0, none⟩ = some (.int .i64 pre.length) := hi.1.cell 0
    have f1 := hi.1.free 0
    have hsz9 := HLE.out
    have hpl : (pre.length : Int) + 1 ≤ 3000 := by omega
    have HI := Lib.hid hi
    obtain ⟨pl, hpl2⟩ : ∃ pl : Int, pl = pre.length := ⟨_, rfl⟩
    have HPL := Lib.hid hpl2
    rw [← hpl2] at c1 hpl
    have hw1 : wrap64 (pl + 1) = pl + 1 := by unfold wrap64; omega
    clear hI0 hi hpf hle hpl2 hsz9
    gi_wp2
    exact HI.out.set _ (by rw [HPL.out]; simp)
  case done =>
    rintro D xs W hD hS hi hK
    have c1 : W.cell? ⟨w.heap.size + 1, 0, none⟩ = some (.int .i64 xs.length) := hi.1.cell 0
    have hxs : (xs.length : Int) = sz := by rw [hS]; exact HLE.out
    rw [hxs] at c1
    have HB := Lib.hid hi.2.2
    have HK := Lib.hid hK
    have HD := Lib.hid hD
    clear hI0 hi hK hS hD hxs
    gi_wp2
    refine ret_one (p := 2) rfl rfl HK.out ⟨rfl, ?_⟩
    exact HB.out.trans (Stays.putObj (n := w.heap.size) _ HK.out rfl (by have := HD.out; simp at this; omega)).below
  case stop => exact fun _ _ _ _ _ _ h => h.elim
end Go.Proofs.YtkaapfakalojaaaDoor
namespace Go.Proofs.YtkaapfakalojaaaDoor
open Go.ChangeShapes Go.WideShapes Go.ChangeAt Go.RowKit Go.Shelf
set_option linter.unusedVariables false
attribute [local go_sem] Oper.semAt_some
/-- What lies in memory between two rounds. -/
def DpI (w : World) (e : Ex) (pre : List Pt) (W : World) : Prop := Blk W (w.heap.size + 1) #[.int .i64 (maxd pre)] 3 ∧ Blk W (w.heap.size + 1 + 1) e.cells 26 ∧ Below w.heap.size w W
theorem DpI.stays {w : World} {e : Ex} (pre : List Pt) (X Y : World) (hs : Stays w.heap.size X Y) (h : DpI w e pre X) : DpI w e pre Y := ⟨hs.cells _ _ h.1 rfl, hs.cells _ _ h.2.1 rfl, h.2.2.trans hs.below⟩
/-- The frame of a round behind the assignment. -/
def DpAct (w : World) (e : Ex) (x : Pt) : Act :=
  { tmps := #[e.v, .pointer (some ⟨w.heap.size, 0, none⟩), .int .i64 0, .pointer (some ⟨w.heap.size + 1, 0, none⟩), .int .i64 x.1, e.v, .func (.func 42) #[] #[.pointer (some ⟨w.heap.size + 1 + 1, 0, none⟩)], .int .i64 x.1, x.2.v, undef, undef, undef, undef], defers := [] }
def DpA (w : World) (e : Ex) (pre : List Pt) (x : Pt) (a' : Act) (W : World) : Prop := a' = DpAct w e x ∧ pre ++ [x] <+: e.walk 1
def DpC (w : World) (W : World) (k : Nat) : Prop := k = w.heap.size + 1
theorem DpC.stays {w : World} {e : Ex} (pre : List Pt) (A B : World) (k : Nat) (h : DpI w e pre A) (hs : Stays w.heap.size A B) (hk : DpC w B k) : k < A.heap.size ∧ DpC w A k := by
  refine ⟨?_, hk⟩
  rw [show k = _ from hk]
  exact h.1.lt
theorem DpI.set {w : World} {e : Ex} {pre : List Pt} {x : Pt} {W : World} (h : DpI w e pre W) (n : Int) (hn : n = maxd (pre ++ [x])) : KeepsOthers W (W.setCell ⟨w.heap.size + 1, 0, none⟩ (.int .i64 n)) ∧ KpC (DpC w) W (W.setCell ⟨w.heap.size + 1, 0, none⟩ (.int .i64 n)) ∧ DpI w e (pre ++ [x]) (W.setCell ⟨w.heap.size + 1, 0, none⟩ (.int .i64 n)) := by
  subst hn
  obtain ⟨h1, h2, h3⟩ := h
  refine ⟨KeepsOthers.setCell _ _ _, ⟨by simp [World.setCell], fun k hk hc => ⟨Below.heap_setCell _ _ _ k hc, hc⟩⟩, ?_, (Below.heap_setCell _ _ _ _ (by show w.heap.size + 1 + 1 ≠ w.heap.size + 1; omega)).trans h2, h3.setCell (p := ⟨w.heap.size + 1, 0, none⟩) (by show w.heap.size ≤ w.heap.size + 1; omega) _⟩
  have := h1.set 0 (.int .i64 (maxd (pre ++ [x])))
  simpa using this
set_option maxRecDepth 100000 in
set_option maxHeartbeats 4000000 in
theorem deep_calls (e : Ex) (w : World) (hsz : e.size ≤ 3000) (hAt : e.At w) : Calls Tryd.prog 10 #[e.v] w fun q w' => q = .returned (.int .i64 e.deep) ∧ Below w.heap.size w w' := by
  have HP := Lib.hid (fun W => parts_calls e W)
  have bx := Blk.new w e.cells 26
  have hB1 := below_one w (.cells e.cells 26)
  have hB2 : Below w.heap.size w (((w.alloc (.cells e.cells 26)).alloc (.cells #[.int .i64 0] 3)).alloc (.cells e.cells 26)) := (hB1.alloc (by simp) _).alloc (by simp; omega) _
  have b1 : Blk (((w.alloc (.cells e.cells 26)).alloc (.cells #[.int .i64 0] 3)).alloc (.cells e.cells 26)) (w.heap.size + 1) #[.int .i64 0] 3 := by
    have := (Blk.new (w.alloc (.cells e.cells 26)) #[.int .i64 0] 3).alloc (.cells e.cells 26)
    simpa using this
  have b2 : Blk (((w.alloc (.cells e.cells 26)).alloc (.cells #[.int .i64 0] 3)).alloc (.cells e.cells 26)) (w.heap.size + 1 + 1) e.cells 26 := by
    have := Blk.new ((w.alloc (.cells e.cells 26)).alloc (.cells #[.int .i64 0] 3)) e.cells 26
    simpa using this
  have hst : DpI w e [] (((w.alloc (.cells e.cells 26)).alloc (.cells #[.int .i64 0] 3)).alloc (.cells e.cells 26)) := ⟨b1, b2, hB2⟩
  have HST := Lib.hid hst
  have HIT := Lib.hid (fun W => iter_visits 3 w W e hsz hAt (w.heap.size + 1 + 1))
  have hlen : maxd (e.walk 1) = e.deep := by have := walk_maxd e 1 (by omega); omega
  clear b1 b2 hB2 hst hB1
  unfold Ex.cells at bx HST HP
  unfold Ex.v at HP ⊢
  obtain ⟨x0, x1, x2, x3, x4⟩ := bx.cells5
  clear bx
  obtain ⟨whole, hwh⟩ : ∃ whole, whole = e.walk 1 := ⟨_, rfl⟩
  have HWH := Lib.hid hwh
  rw [← hwh] at hlen HIT
  have HLE := Lib.hid hlen
  obtain ⟨sz, hsize⟩ : ∃ sz, sz = e.deep := ⟨_, rfl⟩
  rw [← hsize] at HLE ⊢
  clear hlen hwh hAt hsize hsz
  refine (callsIn_wide (n := 4)).1 ?_
  refine callsIn_of_wp_marks Tryd.func10 rfl trivial ?_ rfl
  simp only [Tryd.ntmps10, List.size_toArray, List.length_cons, List.length_nil, Nat.reduceAdd, Nat.reduceSub, Array.replicate_succ, Array.replicate_zero, List.push_toArray, List.append_toArray, List.nil_append, List.cons_append]
  gi_wp2
  refine ⟨trivial, ?_⟩
  refine (callsIn_wide.2 (HP.out _)).mono ?_
  rintro r w' ⟨rfl, rfl⟩
  gi_wp2
  have hI0 := HST.out
  refine range_law (α := Pt) rfl (by omega) (gf := 42) (lb := #[.pointer (some ⟨w.heap.size + 1 + 1, 0, none⟩)]) rfl trivial (enters_of Tryd.func42 (by kernel_rfl) rfl)
    (HIT.out _) (fun _ => rfl) w.heap.size (by simp; omega) (DpC w) (DpI w e) (fun _ _ _ => False) (DpA w e) DpI.stays (fun _ _ _ _ _ h => h) (fun _ _ _ _ _ _ h => h)
    (fun pre W hi => ⟨hi.2.2, hi.2.1⟩) DpC.stays hI0 ?assign ?body ?done ?stop
  case assign =>
    rintro L pre ⟨d, y⟩ W K hi hfx hK
    dsimp only [ptVals]
    have HFX := Lib.hid hfx.2
    clear hI0 hfx
    gi_wp2
    exact hK _ _ (KeepsOthers.refl _) (KpC.refl _ _) hi ⟨by simp [DpAct, Ex.v], by rw [← HWH.out]; exact HFX.out⟩
  case body =>
    rintro L pre ⟨d, y⟩ a' W hi ⟨rfl, hpf⟩
    dsimp only [DpAct]
    have c1 : W.cell? ⟨w.heap.size + 1, 0, none⟩ = some (.int .i64 (maxd pre)) := hi.1.cell 0
    have f1 := hi.1.free 0
    have HI := Lib.hid hi
    obtain ⟨pl, hpl2⟩ : ∃ pl : Int, pl = maxd pre := ⟨_, rfl⟩
    have HPL := Lib.hid hpl2
    rw [← hpl2] at c1
    clear hI0 hi hpf hpl2
    gi_wp2
    all_goals exact HI.out.set _ (by rw [maxd_snoc, ← HPL.out] <;> (dsimp only; omega))
  case done =>
    rintro D xs W hD hS hi hK
    have c1 : W.cell? ⟨w.heap.size + 1, 0, none⟩ = some (.int .i64 (maxd xs)) := hi.1.cell 0
    have hxs : maxd xs = sz := by rw [hS]; exact HLE.out
    rw [hxs] at c1
    have HB := Lib.hid hi.2.2
    have HK := Lib.hid hK
    have HD := Lib.hid hD
    clear hI0 hi hK hS hD hxs
    gi_wp2
    refine ret_one (p := 2) rfl rfl HK.out ⟨rfl, ?_⟩
    exact HB.out.trans (Stays.putObj (n := w.heap.size) _ HK.out rfl (by have := HD.out; simp at this; omega)).below
  case stop => exact fun _ _ _ _ _ _ h => h.elim
end Go.Proofs.YtkaapfakalojaaaDoor
