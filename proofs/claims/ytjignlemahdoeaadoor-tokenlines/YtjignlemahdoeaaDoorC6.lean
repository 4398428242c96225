/-
  Contract of the document's Tokens. Conditions: a text of at most 1,000,000 bytes.
  Contract of the program's read: the token at a place. Conditions: a text of at most 1,000,000 bytes; strconv.ErrRange reads as an error.
  Contract of the program's Tokens. Conditions: a text of at most 1,000,000 bytes; strconv.ErrRange reads as an error.
  Slices of ints of the call's own: append, and what a store elsewhere leaves. Conditions: as in the premises.
  Contracts of cmp.Compare at uint8 and int, and of cmp.Or at int. No conditions.
  Contract of cmp.Or at three ints. Condition: they lie in a block of three.
  Contracts of the program's Order, of the document's Order and Same. Conditions: values of 64 bits and texts as long as an input can be.
  Contracts of the document's Order and Same. Conditions: texts as long as an input can be.
-/
import Derived.Deep.CutBlock
import Derived.WalkMore
import Derived.Deep.RegionLaw
import Derived.Deep.Cut
import Derived.Deep.CutRange
import Derived.Test.YtjignlemahdoeaaDoorC5
namespace Go.Proofs.YtjignlemahdoeaaDoor
open Go.ChangeShapes Go.WideShapes Go.ChangeAt Go.RowKit
set_option linter.unusedVariables false
set_option maxRecDepth 20000
section
variable {l : List Int} {i n f : Nat} {acc : List Tk} {t : Tk} {e : Int}
theorem kr_end (h : ¬ i < l.length) : tokRun f l i acc = (acc, (i : Int), 0) := by
  cases f with
  | zero => rfl
  | succ f => rw [tokRun, if_neg h]
theorem kr_skip (hi : i < l.length) (h : tokStep l i = .skip n) : tokRun (f + 1) l i acc = tokRun f l n acc := by rw [tokRun, if_pos hi, h]
theorem kr_tok (hi : i < l.length) (h : tokStep l i = .tok t n) (ha : acc.length < 65536) : tokRun (f + 1) l i acc = tokRun f l n (acc ++ [t]) := by
  rw [tokRun, if_pos hi, h]; show (if _ then _ else _) = _; rw [if_neg (by omega)]
theorem kr_many (hi : i < l.length) (h : tokStep l i = .tok t n) (ha : 65536 ≤ acc.length) : tokRun (f + 1) l i acc = ([], (i : Int), 9) := by
  rw [tokRun, if_pos hi, h]; show (if _ then _ else _) = _; rw [if_pos ha]
theorem kr_err (hi : i < l.length) (h : tokStep l i = .err e) : tokRun (f + 1) l i acc = ([], (i : Int), e) := by rw [tokRun, if_pos hi, h]
end
theorem let_next {l : List Int} {j : Nat} (h : letAt l j = true) : past letI' l j = past letI' l (j + 1) ∧ j < l.length := by
  unfold letAt at h
  split at h
  · rename_i c hc
    exact ⟨past_next hc h, by rcases Nat.lt_or_ge j l.length with h1 | h1; exact h1; rw [List.getElem?_eq_none h1] at hc; cases hc⟩
  · cases h
theorem let_stop {l : List Int} {j : Nat} (h : letAt l j = false) : past letI' l j = j := past_stop fun x hx => by unfold letAt at h; rw [hx] at h; exact h
theorem dig_next {l : List Int} {j : Nat} (h : digAt l j = true) : past digI l j = past digI l (j + 1) ∧ j < l.length := by
  unfold digAt at h
  split at h
  · rename_i c hc
    exact ⟨past_next hc h, by rcases Nat.lt_or_ge j l.length with h1 | h1; exact h1; rw [List.getElem?_eq_none h1] at hc; cases hc⟩
  · cases h
theorem dig_stop {l : List Int} {j : Nat} (h : digAt l j = false) : past digI l j = j := past_stop fun x hx => by unfold digAt at h; rw [hx] at h; exact h
theorem textG_place : ∀ (f : Nat) (l : List Int) (k : Nat) (T q : List Int) (x : Int), textG f l k T = (q, x, 0) → ∃ n : Nat, x = n ∧ k < n ∧ n ≤ l.length
  | 0, l, k, T, q, x, h => by unfold textG at h; simp at h
  | f + 1, l, k, T, q, x, h => by
    rcases Nat.lt_or_ge k l.length with hk | hk
    · have hc : l[k]? = some l[k] := List.getElem?_eq_getElem hk
      generalize l[k] = c at hc
      by_cases c34 : c = 34
      · rw [tg1 (by rw [hc, c34])] at h
        by_cases hT : 65536 < T.length
        · rw [if_pos hT] at h; simp at h
        · rw [if_neg hT] at h
          simp only [Prod.mk.injEq] at h
          exact ⟨k + 1, by omega, by omega, by omega⟩
      · by_cases c32 : c < 32
        · rw [tg2 hc c32] at h; simp at h
        · by_cases c92 : c = 92
          · rw [c92] at hc
            by_cases hd : l[k + 1]? = some 34 ∨ l[k + 1]? = some 92
            · have ⟨d, hd1, hd2⟩ : ∃ d, l[k + 1]? = some d ∧ (d = 34 ∨ d = 92) := by rcases hd with h1 | h1 <;> exact ⟨_, h1, by omega⟩
              rw [tg4 hc hd1 hd2] at h
              obtain ⟨n, h1, h2, h3⟩ := textG_place f l _ _ q x h
              exact ⟨n, h1, by omega, h3⟩
            · by_cases hx : l[k + 1]? ≠ some 120 ∨ half l (k + 2) < 0 ∨ half l (k + 3) < 0
              · rw [tg5 hc (fun e => hd (.inl e)) (fun e => hd (.inr e)) hx] at h; simp at h
              · have h1 : l[k + 1]? = some 120 := by
                  rcases Classical.em (l[k + 1]? = some 120) with e | e
                  · exact e
                  · exact absurd (.inl e) hx
                rw [tg6 hc h1 (fun e => hx (.inr (.inl e))) (fun e => hx (.inr (.inr e)))] at h
                obtain ⟨n, h1, h2, h3⟩ := textG_place f l _ _ q x h
                exact ⟨n, h1, by omega, h3⟩
          · rw [tg3 hc c32 c34 c92] at h
            obtain ⟨n, h1, h2, h3⟩ := textG_place f l _ _ q x h
            exact ⟨n, h1, by omega, h3⟩
    · rw [tg_end (List.getElem?_eq_none hk)] at h; simp at h
/-- The inner loops: how far. -/
def RelP' (p : Int → Bool) (l : List Int) (i m : Nat) (W : World) (s9 : Value) (wx : World) : Prop := ∃ j : Nat, s9 = .int .i64 j ∧ i ≤ j ∧ j ≤ l.length ∧ Hid (m = past p l j) ∧ wx = W
/-- The loop. -/
def RelTk (B : Nat) (w : World) (s : ByteArray) (X : List Tk × Int × Int) (l at' : Value) (wr : World) : Prop :=
  ∃ (i f : Nat) (acc : List Tk) (A : Option Addr) (c : Nat), l = .slice A acc.length c ∧ at' = .int .i64 i ∧ i ≤ s.size ∧ s.size < f + i ∧ Hid (X = tokRun f (sl s) i acc) ∧ acc.length ≤ 65536 ∧ OwnG 35 6 enT B wr A c acc ∧ Below B w wr
set_option maxHeartbeats 4000000 in
theorem rtokens_calls (s : ByteArray) (hs : s.size ≤ 1000000) (w : World) : Calls Tryd.prog 8 #[.string s] w fun q w' => ∃ A c, q = .returned (.tuple #[.slice A (tokensP (sl s)).1.length c, .int .i64 (tokensP (sl s)).2.1, .int .i64 (tokensP (sl s)).2.2]) ∧ OwnG 35 6 enT w.heap.size w' A c (tokensP (sl s)).1 ∧ Below w.heap.size w w' := by
  obtain ⟨X, hX⟩ : ∃ X, X = tokensP (sl s) := ⟨_, rfl⟩
  rw [← hX]
  have HX0 := Lib.hid (show X = tokRun (s.size + 1) (sl s) 0 [] by rw [hX]; unfold tokensP; rw [sl_length])
  clear hX
  go_enter Tryd.func8, Tryd.ntmps8
  go_wp2
  go_loopw [5, 6] (RelTk w.heap.size w s X) (fun _ i _ => s.size + 1 - (intOf i).toNat)
  case atStart => exact ⟨0, s.size + 1, [], none, 0, rfl, by go_num, by omega, by omega, HX0, by simp, OwnG.nil _ _, Below.refl _ _⟩
  case round =>
    obtain ⟨i, f, acc, A, c, rfl, rfl, hi, hf, hX, hacc, hown, hb⟩ := hrel
    by_cases hlt : i < s.size
    · have h1 : (i : Int) < (s.size : Int) := by omega
      obtain ⟨f, rfl⟩ : ∃ g, f = g + 1 := ⟨f - 1, by omega⟩
      have hll : i < (sl s).length := by rw [sl_length]; exact hlt
      have hgd : (sl s).getD i 0 = ((s[i].toNat : Nat) : Int) := by rw [List.getD, sl_at s i hlt]; rfl
      have hb255 : ((s[i].toNat : Nat) : Int) ≤ 255 := by have := s[i].toNat_lt; omega
      have hbs := hb.size
      by_cases c32 : ((s[i].toNat : Nat) : Int) = 32
      · have HE := Lib.hid (hX.out.trans (kr_skip hll (show tokStep (sl s) i = .skip (i + 1) by unfold tokStep; rw [hgd, c32]; rfl)))
        clear hX hgd
        go_wp2
        go_roundw
        case rel => exact ⟨i + 1, f, acc, A, c, rfl, by go_num, by omega, by omega, HE, hacc, hown, hb⟩
        case measure => simp [intOf]; omega
      · have e32 : (((s[i].toNat : Nat) : Int) == 32) = false := by simpa using c32
        by_cases c35 : ((s[i].toNat : Nat) : Int) = 35
        · have hs0 := past_next (p := fun x => decide (x ≠ 10)) (sl_at s i hlt) (by rw [c35]; rfl)
          obtain ⟨m, hm⟩ : ∃ m, m = past (fun x => decide (x ≠ 10)) (sl s) i := ⟨_, rfl⟩
          have HE := Lib.hid (hX.out.trans (kr_skip hll (show tokStep (sl s) i = .skip m by rw [hm]; unfold tokStep; rw [hgd, c35]; rfl)))
          have HM := Lib.hid hm
          have HM1 := Lib.hid (show m = past (fun x => decide (x ≠ 10)) (sl s) (i + 1) by rw [hm]; exact hs0)
          have HO := Lib.hid hown
          have HB := Lib.hid hb
          clear hX hgd hm hs0 hown hb
          go_wp2
          go_loopw [6] (RelP' (fun x => decide (x ≠ 10)) (sl s) i m wr) (fun a _ => s.size + 1 - (intOf a).toNat)
          case atStart => exact ⟨i, rfl, Nat.le_refl _, by rw [sl_length]; omega, HM, rfl⟩
          case round =>
            obtain ⟨j, rfl, hij, hj, hmj, rfl⟩ := hrel
            rw [sl_length] at hj
            have HMJ := Lib.hid hmj.out
            clear hmj
            have hge : m = past (fun x => decide (x ≠ 10)) (sl s) (i + 1) := HM1.out
            have hi1 : i + 1 ≤ m := by rw [hge]; unfold past; omega
            clear hge
            by_cases hj2 : j < s.size
            · have h2 : (j : Int) < (s.size : Int) := by omega
              by_cases d10 : ((s[j].toNat : Nat) : Int) = 10
              · have f10 : (((s[j].toNat : Nat) : Int) != 10) = false := by simpa using d10
                have HJ := Lib.hid (HMJ.out.trans (past_stop (fun x hx => by rw [sl_at s j hj2] at hx; injection hx with hx; rw [← hx, d10]; rfl)))
                have hmj : m = j := HJ.out
                go_wp2
                go_roundw
                case rel => exact ⟨m, f, acc, A, c, rfl, by rw [hmj], by omega, by omega, HE, hacc, HO.out, HB.out⟩
                case measure => simp [intOf]; omega
              · have f10 : (((s[j].toNat : Nat) : Int) != 10) = true := by simpa using d10
                have HJ := Lib.hid (HMJ.out.trans (past_next (sl_at s j hj2) (by simpa using d10)))
                go_wp2
                go_roundw
                case rel => exact ⟨j + 1, by go_num, by omega, by rw [sl_length]; omega, HJ, rfl⟩
                case measure => simp [intOf]; omega
            · have h2 : decide ((j : Int) < (s.size : Int)) = false := decide_eq_false (by omega)
              have HJ := Lib.hid (HMJ.out.trans (past_stop (fun x hx => by rw [List.getElem?_eq_none (by rw [sl_length]; omega)] at hx; cases hx)))
              have hmj : m = j := HJ.out
              go_wp2
              go_roundw
              case rel => exact ⟨m, f, acc, A, c, rfl, by rw [hmj], by omega, by omega, HE, hacc, HO.out, HB.out⟩
              case measure => simp [intOf]; omega
        · have e35 : (((s[i].toNat : Nat) : Int) == 35) = false := by simpa using c35
          obtain ⟨W1, hW1⟩ : ∃ W1, W1 = wr.alloc (.cells #[.int .u8 0, .string ⟨#[]⟩, .int .u8 0, .int .i64 0, .string ⟨#[]⟩, .int .i64 (i : Int)] 35) := ⟨_, rfl⟩
          have hbk1 : Blk W1 wr.heap.size #[.int .u8 0, .string ⟨#[]⟩, .int .u8 0, .int .i64 0, .string ⟨#[]⟩, .int .i64 (i : Int)] 35 := by rw [hW1]; exact Blk.new _ _ _
          have hbw1 : Below wr.heap.size wr W1 := by rw [hW1]; exact below_one _ _
          obtain ⟨b10, hb10⟩ : ∃ b, b = (((s[i].toNat : Nat) : Int) == 10) := ⟨_, rfl⟩
          go_upto_region 12 with fail
          rw [← hW1]
          have HBK := Lib.hid hbk1
          have HBW := Lib.hid hbw1
          clear hW1 hbk1 hbw1
          go_cut [45] from 44 to 45 (fun s45 wx => s45 = .bool b10 ∧ wx = W1)
          case first =>
            go_wp2
            go_meet
            exact ⟨by rw [hb10], rfl⟩
          case rest =>
            obtain ⟨rfl, rfl⟩ := hcut
            apply_assumption
            go_cut [9, 10, 11, 12, 13, 14] from 46 to 119 (fun s9 s10 s11 s12 s13 s14 wx => ∃ (t : Tk) (n : Nat), s9 = .int .i64 n ∧ i < n ∧ n ≤ s.size ∧ Hid (tokStep (sl s) i = .tok t n) ∧ Blk wx wr.heap.size (enT t).toArray 35 ∧ Below wr.heap.size wr wx)
            case first =>
              have HI0 := Lib.hid hi
              obtain ⟨y0, y1, y2, y3, y4, y5⟩ := HBK.out.cells6
              obtain ⟨z0, z1, z2, z3, z4, z5⟩ := HBK.out.free6
              by_cases c10 : ((s[i].toNat : Nat) : Int) = 10
              · have HT := Lib.hid (show tokStep (sl s) i = .tok ⟨5, [], zV, i⟩ (i + 1) by unfold tokStep; rw [hgd, c10]; rfl)
                obtain rfl : b10 = true := by rw [hb10, c10]; rfl
                clear hX hgd hb10
                go_wp2
                go_meet
                exact ⟨⟨5, [], zV, i⟩, i + 1, by go_num, by omega, by omega, HT, HBK.out.set 0 (.int .u8 5), HBW.out.setCell (p := ⟨wr.heap.size, 0, none⟩) (Nat.le_refl _) _⟩
              · obtain rfl : b10 = false := by rw [hb10]; simpa using c10
                have e10 := c10
                clear hb10
                by_cases c40 : ((s[i].toNat : Nat) : Int) = 40
                · have HT := Lib.hid (show tokStep (sl s) i = .tok ⟨1, [], zV, i⟩ (i + 1) by unfold tokStep; rw [hgd, c40]; rfl)
                  clear hX hgd
                  go_wp2
                  go_meet
                  exact ⟨⟨1, [], zV, i⟩, i + 1, by go_num, by omega, by omega, HT, HBK.out.set 0 (.int .u8 1), HBW.out.setCell (p := ⟨wr.heap.size, 0, none⟩) (Nat.le_refl _) _⟩
                · have e40 : (((s[i].toNat : Nat) : Int) == 40) = false := by simpa using c40
                  by_cases c41 : ((s[i].toNat : Nat) : Int) = 41
                  · have HT := Lib.hid (show tokStep (sl s) i = .tok ⟨2, [], zV, i⟩ (i + 1) by unfold tokStep; rw [hgd, c41]; rfl)
                    clear hX hgd
                    go_wp2
                    go_meet
                    exact ⟨⟨2, [], zV, i⟩, i + 1, by go_num, by omega, by omega, HT, HBK.out.set 0 (.int .u8 2), HBW.out.setCell (p := ⟨wr.heap.size, 0, none⟩) (Nat.le_refl _) _⟩
                  · have e41 : (((s[i].toNat : Nat) : Int) == 41) = false := by simpa using c41
                    obtain ⟨bl, hbl⟩ : ∃ b, b = letI' ((s[i].toNat : Nat) : Int) := ⟨_, rfl⟩
                    have HL := Lib.hid (show ∀ W, Calls Tryd.prog 21 #[.string s, .int .i64 i] W fun q w' => q = .returned (.bool bl) ∧ w' = W by rw [hbl, ← letAt_lt hlt]; exact fun W => letter_calls s hs i (by omega) W)
                    cases bl with
                    | true =>
                      obtain ⟨m, hm⟩ : ∃ m, m = past letI' (sl s) (i + 1) := ⟨_, rfl⟩
                      have HT := Lib.hid (show tokStep (sl s) i = .tok ⟨3, ((sl s).drop i).take (m - i), zV, i⟩ m by
                        rw [hm]; unfold tokStep; simp only [hgd]
                        rw [if_neg c32, if_neg c35, if_neg c10, if_neg c40, if_neg c41, ← hbl, if_pos rfl])
                      have HM := Lib.hid hm
                      have HO := Lib.hid hown
                      have HB := Lib.hid hb
                      clear hX hgd hm hown hb hbl
                      go_wp2_with fail
                      refine (HL.out _).mono ?_
                      rintro e' w1 ⟨rfl, h9⟩
                      obtain rfl := h9.symm
                      go_wp2_with fail
                      go_loopw [9] (RelP' letI' (sl s) (i + 1) m wc) (fun a _ => s.size + 1 - (intOf a).toNat)
                      case atStart => exact ⟨i + 1, by go_num, Nat.le_refl _, by rw [sl_length]; omega, HM, rfl⟩
                      case round =>
                        obtain ⟨j, rfl, hij, hj, hmj, hw⟩ := hrel
                        obtain rfl := hw.symm
                        rw [sl_length] at hj
                        have HMJ := Lib.hid hmj.out
                        clear hmj
                        obtain ⟨ba, hba⟩ : ∃ b, b = letAt (sl s) j := ⟨_, rfl⟩
                        have HLJ := Lib.hid (show ∀ W, Calls Tryd.prog 21 #[.string s, .int .i64 j] W fun q w' => q = .returned (.bool ba) ∧ w' = W by rw [hba]; exact fun W => letter_calls s hs j (by omega) W)
                        cases ba with
                        | true =>
                          obtain ⟨hn1, hn2⟩ := let_next hba.symm
                          have HJ := Lib.hid (HMJ.out.trans hn1)
                          rw [sl_length] at hn2
                          clear hba hn1
                          go_wp2_with fail
                          refine (HLJ.out _).mono ?_
                          rintro e' w1 ⟨rfl, h9⟩
                          obtain rfl := h9.symm
                          go_wp2
                          go_roundw
                          case rel => exact ⟨j + 1, by go_num, by omega, by rw [sl_length]; omega, HJ, rfl⟩
                          case measure => simp [intOf]; omega
                        | false =>
                          have hmj : m = j := HMJ.out.trans (let_stop hba.symm)
                          subst hmj
                          have HCP := Lib.hid (cut_piece s i m (by omega) hj)
                          clear hba
                          go_wp2_with fail
                          refine (HLJ.out _).mono ?_
                          rintro e' w1 ⟨rfl, h9⟩
                          obtain rfl := h9.symm
                          go_upto_region 21 with fail
                          obtain ⟨P, hP⟩ : ∃ P, P = str (((sl s).drop i).take (m - i)) := ⟨_, rfl⟩
                          rw [← hP] at HCP
                          have HP := Lib.hid hP
                          have hH := HBK.out
                          clear hP y0 y1 y2 y3 y4 y5 z0 z1 z2 z3 z4 z5 HLJ HL
                          have bq : Blk (wc.setCell ⟨wr.heap.size, 0, none⟩ (.int .u8 3)) wr.heap.size #[.int .u8 3, .string ⟨#[]⟩, .int .u8 0, .int .i64 0, .string ⟨#[]⟩, .int .i64 (i : Int)] 35 := hH.set 0 (.int .u8 3)
                          have br : Blk (wc.setCell ⟨wr.heap.size, 1, none⟩ (.string P)) wr.heap.size #[.int .u8 0, .string P, .int .u8 0, .int .i64 0, .string ⟨#[]⟩, .int .i64 (i : Int)] 35 := hH.set 1 (.string P)
                          obtain ⟨u0, u1, _, _, _, _⟩ := hH.cells6
                          obtain ⟨v0, v1, _, _, _, _⟩ := hH.free6
                          obtain ⟨p0, p1, _, _, _, _⟩ := bq.cells6
                          obtain ⟨q0, q1, _, _, _, _⟩ := bq.free6
                          obtain ⟨r0, r1, _, _, _, _⟩ := br.cells6
                          obtain ⟨s0, s1, _, _, _, _⟩ := br.free6
                          have HCP := HCP.out
                          have HH := Lib.hid hH
                          clear bq br hH
                          go_region
                          go_wp2
                          go_meet
                          obtain rfl := HP.out
                          exact ⟨⟨3, ((sl s).drop i).take (m - i), zV, i⟩, m, rfl, by omega, hj, HT, ((HH.out.set 0 (.int .u8 3)).set 1 (.string (str (((sl s).drop i).take (m - i))))).drew, ((HBW.out.setCell (p := ⟨wr.heap.size, 0, none⟩) (Nat.le_refl _) _).setCell (p := ⟨wr.heap.size, 1, none⟩) (Nat.le_refl _) _).drew⟩
                    | false =>
                      have hl0 : letI' ((s[i].toNat : Nat) : Int) = false := hbl.symm
                      obtain ⟨bd, hbd⟩ : ∃ b, b = digI ((s[i].toNat : Nat) : Int) := ⟨_, rfl⟩
                      have HD := Lib.hid (show ∀ W, Calls Tryd.prog 22 #[.string s, .int .i64 i] W fun q w' => q = .returned (.bool bd) ∧ w' = W by rw [hbd, ← digAt_lt hlt]; exact fun W => digit_calls s hs i (by omega) W)
                      obtain ⟨be, hbe⟩ : ∃ b, b = digAt (sl s) (i + 1) := ⟨_, rfl⟩
                      have HD1 := Lib.hid (show ∀ W, Calls Tryd.prog 22 #[.string s, .int .i64 ((i : Int) + 1)] W fun q w' => q = .returned (.bool be) ∧ w' = W by rw [hbe]; exact fun W => digit_calls s hs (i + 1) (by omega) W)
                      obtain ⟨bn, hbn⟩ : ∃ b, b = (digI ((s[i].toNat : Nat) : Int) || (decide (((s[i].toNat : Nat) : Int) = 45) && digAt (sl s) (i + 1))) := ⟨_, rfl⟩
                      have hbn2 : bn = (bd || (decide (((s[i].toNat : Nat) : Int) = 45) && be)) := by rw [hbn, hbd, hbe]
                      have HN := Lib.hid hbn
                      have HX := Lib.hid hX.out
                      have HO := Lib.hid hown
                      have HB := Lib.hid hb
                      have HG := Lib.hid hgd
                      have HL0 := Lib.hid hl0
                      clear hX hgd hown hb hbl hl0 hbd hbe hbn
                      go_upto_region 22 with (refine (HL.out _).mono ?_; rintro e' w1 ⟨rfl, h9⟩; obtain rfl := h9.symm)
                      go_cut [79] from 67 to 79 (fun s79 wx => s79 = .bool bn ∧ wx = wc)
                      case first =>
                        clear HX HG
                        cases bd with
                        | true =>
                          go_wp2_with fail
                          refine (HD.out _).mono ?_
                          rintro e' w1 ⟨rfl, h9⟩
                          obtain rfl := h9.symm
                          go_wp2
                          go_meet
                          exact ⟨by rw [hbn2]; rfl, rfl⟩
                        | false =>
                          by_cases c45 : ((s[i].toNat : Nat) : Int) = 45
                          · have e45 : (((s[i].toNat : Nat) : Int) == 45) = true := by simpa using c45
                            have hbq : bn = be := by rw [hbn2, c45]; simp
                            subst hbq
                            clear hbn2 c45
                            go_wp2_with fail
                            refine (HD.out _).mono ?_
                            rintro e' w1 ⟨rfl, h9⟩
                            obtain rfl := h9.symm
                            go_wp2_with fail
                            refine (HD1.out _).mono ?_
                            rintro e' w1 ⟨rfl, h9⟩
                            obtain rfl := h9.symm
                            go_wp2
                            go_meet
                            exact ⟨rfl, rfl⟩
                          · have e45 : (((s[i].toNat : Nat) : Int) == 45) = false := by simpa using c45
                            have hbq : bn = false := by rw [hbn2]; simp [c45]
                            subst hbq
                            clear hbn2 c45
                            go_wp2_with fail
                            refine (HD.out _).mono ?_
                            rintro e' w1 ⟨rfl, h9⟩
                            obtain rfl := h9.symm
                            go_wp2
                            go_meet
                            exact ⟨rfl, rfl⟩
                      case rest =>
                        obtain ⟨rfl, h9⟩ := hcut
                        obtain rfl := h9.symm
                        clear hbn2 HD1 HD HL
                        have HBA := Lib.hid (HB.out.trans (HBW.out.mono hbs))
                        cases bn with
                        | true =>
                          obtain ⟨m, hm⟩ : ∃ m, m = past digI (sl s) (i + 1) := ⟨_, rfl⟩
                          obtain ⟨nv, ne, hnum⟩ : ∃ nv ne, numI (((sl s).drop i).take (m - i)) = (nv, ne) := ⟨_, _, rfl⟩
                          have HT := Lib.hid (show tokStep (sl s) i = if ne = 0 then .tok ⟨4, [], ⟨0, nv, ⟨#[]⟩⟩, i⟩ m else .err ne by
                            unfold tokStep; simp only [HG.out]
                            rw [if_neg c32, if_neg c35, if_neg c10, if_neg c40, if_neg c41, HL0.out, if_neg (by decide), ← HN.out, if_pos rfl, ← hm, hnum])
                          have HM := Lib.hid hm
                          have HNU := Lib.hid hnum
                          clear hm hnum HG HN HL0
                          go_wp2_with fail
                          go_loopw [9] (RelP' digI (sl s) (i + 1) m wc) (fun a _ => s.size + 1 - (intOf a).toNat)
                          case atStart => exact ⟨i + 1, by go_num, Nat.le_refl _, by rw [sl_length]; omega, HM, rfl⟩
                          case round =>
                            obtain ⟨j, rfl, hij, hj, hmj, hw⟩ := hrel
                            obtain rfl := hw.symm
                            rw [sl_length] at hj
                            have HMJ := Lib.hid hmj.out
                            clear hmj
                            obtain ⟨ba, hba⟩ : ∃ b, b = digAt (sl s) j := ⟨_, rfl⟩
                            have HLJ := Lib.hid (show ∀ W, Calls Tryd.prog 22 #[.string s, .int .i64 j] W fun q w' => q = .returned (.bool ba) ∧ w' = W by rw [hba]; exact fun W => digit_calls s hs j (by omega) W)
                            cases ba with
                            | true =>
                              obtain ⟨hn1, hn2⟩ := dig_next hba.symm
                              have HJ := Lib.hid (HMJ.out.trans hn1)
                              rw [sl_length] at hn2
                              clear hba hn1
                              go_wp2_with fail
                              refine (HLJ.out _).mono ?_
                              rintro e' w1 ⟨rfl, h9⟩
                              obtain rfl := h9.symm
                              go_wp2
                              go_roundw
                              case rel => exact ⟨j + 1, by go_num, by omega, by rw [sl_length]; omega, HJ, rfl⟩
                              case measure => simp [intOf]; omega
                            | false =>
                              have hmj : m = j := HMJ.out.trans (dig_stop hba.symm)
                              subst hmj
                              have HCP := Lib.hid (cut_piece s i m (by omega) hj)
                              have hpb : IsB (((sl s).drop i).take (m - i)) := fun x hx => sl_bytes s x (List.mem_of_mem_drop (List.mem_of_mem_take hx))
                              have hpl : (str (((sl s).drop i).take (m - i))).size ≤ reachBytes := by rw [str_size, List.length_take]; have := sl_length s; have : (m - i) ≤ 1000000 := by omega
                                                                                                      exact Nat.le_trans (Nat.min_le_left _ _) (Nat.le_trans this (by decide))
                              have HRN := Lib.hid (show ∀ W, Calls Tryd.prog 23 #[.string (str (((sl s).drop i).take (m - i)))] W fun q w' => q = .returned (.tuple #[.int .i64 nv, .int .i64 ne]) ∧ w' = W from fun W => by
                                have := rnumber_calls (str (((sl s).drop i).take (m - i))) hpl W
                                rw [piece_num _ hpb, HNU.out] at this
                                exact this)
                              obtain ⟨P, hP⟩ : ∃ P, P = str (((sl s).drop i).take (m - i)) := ⟨_, rfl⟩
                              rw [← hP] at HCP HRN
                              have HCP := HCP.out
                              clear hP hba hpb hpl HNU
                              by_cases hz : ne = 0
                              · have ez : (ne != 0) = false := by simpa using hz
                                have HTK := Lib.hid (HT.out.trans (if_pos hz))
                                go_wp2_with fail
                                refine (HLJ.out _).mono ?_
                                rintro e' w1 ⟨rfl, h9⟩
                                obtain rfl := h9.symm
                                go_wp2_with fail
                                refine (HRN.out _).mono ?_
                                rintro e' w1 ⟨rfl, h9⟩
                                obtain rfl := h9.symm
                                go_wp2
                                go_meet
                                exact ⟨⟨4, [], ⟨0, nv, ⟨#[]⟩⟩, i⟩, m, rfl, by omega, hj, HTK, (((HBK.out.set 0 (.int .u8 4)).set 2 (.int .u8 0)).set 3 (.int .i64 nv)).set 4 (.string ⟨#[]⟩), (((HBW.out.setCell (p := ⟨wr.heap.size, 0, none⟩) (Nat.le_refl _) _).setCell (p := ⟨wr.heap.size, 2, none⟩) (Nat.le_refl _) _).setCell (p := ⟨wr.heap.size, 3, none⟩) (Nat.le_refl _) _).setCell (p := ⟨wr.heap.size, 4, none⟩) (Nat.le_refl _) _⟩
                              · have ez : (ne != 0) = true := by simpa using hz
                                have HE := Lib.hid (HX.out.trans (kr_err hll (HT.out.trans (if_neg hz))))
                                go_wp2_with fail
                                refine (HLJ.out _).mono ?_
                                rintro e' w1 ⟨rfl, h9⟩
                                obtain rfl := h9.symm
                                go_wp2_with fail
                                refine (HRN.out _).mono ?_
                                rintro e' w1 ⟨rfl, h9⟩
                                obtain rfl := h9.symm
                                go_wp2
                                go_ret3
                                rw [HE.out]
                                exact ⟨none, 0, rfl, OwnG.nil _ _, HBA.out⟩
                        | false =>
                          by_cases c34 : ((s[i].toNat : Nat) : Int) = 34
                          · have e34 : (((s[i].toNat : Nat) : Int) == 34) = true := by simpa using c34
                            have HC := Lib.hid (rtextq_calls s hs i hlt wc)
                            obtain ⟨q, x, e, hr⟩ : ∃ q x e, textG (s.size + 1) (sl s) (i + 1) [] = (q, x, e) := ⟨_, _, _, rfl⟩
                            have HT := Lib.hid (show tokStep (sl s) i = if e = 0 then .tok ⟨4, [], ⟨1, 0, str q⟩, i⟩ x.toNat else .err e by
                              unfold tokStep; simp only [HG.out]
                              rw [if_neg c32, if_neg c35, if_neg c10, if_neg c40, if_neg c41, HL0.out, if_neg (by decide), ← HN.out, if_neg (by decide), if_pos c34, sl_length, hr])
                            rw [hr] at HC
                            unfold triT at HC
                            dsimp only at HC
                            by_cases hz : e = 0
                            · have ez : (e != 0) = false := by simpa using hz
                              obtain ⟨n, hxn, hn1, hn2⟩ := textG_place _ _ _ _ q x (by rw [hr, hz])
                              rw [sl_length] at hn2
                              have HTK := Lib.hid (HT.out.trans (if_pos hz))
                              rw [hxn, Int.toNat_natCast] at HTK
                              rw [hxn] at HC
                              clear hr hxn HG HN HL0 c34 y0 y1 y2 y3 y4 y5 z0 z1 z2 z3 z4 z5
                              go_wp2_with fail
                              refine HC.out.mono ?_
                              rintro e' w1 ⟨rfl, hb1⟩
                              have b1 := HBK.out.belowAll hb1
                              obtain ⟨y0, y1, y2, y3, y4, y5⟩ := b1.cells6
                              obtain ⟨z0, z1, z2, z3, z4, z5⟩ := b1.free6
                              have HB1 := Lib.hid b1
                              have HW1 := Lib.hid (HBW.out.trans (hb1.mono HBW.out.size))
                              clear b1 hb1
                              dsimp only
                              go_wp2
                              go_meet
                              exact ⟨⟨4, [], ⟨1, 0, str q⟩, i⟩, n, rfl, by omega, hn2, HTK, (((HB1.out.set 0 (.int .u8 4)).set 2 (.int .u8 1)).set 3 (.int .i64 0)).set 4 (.string (str q)), (((HW1.out.setCell (p := ⟨wr.heap.size, 0, none⟩) (Nat.le_refl _) _).setCell (p := ⟨wr.heap.size, 2, none⟩) (Nat.le_refl _) _).setCell (p := ⟨wr.heap.size, 3, none⟩) (Nat.le_refl _) _).setCell (p := ⟨wr.heap.size, 4, none⟩) (Nat.le_refl _) _⟩
                            · have ez : (e != 0) = true := by simpa using hz
                              have HE := Lib.hid (HX.out.trans (kr_err hll (HT.out.trans (if_neg hz))))
                              clear hr HG HN HL0 c34 y0 y1 y2 y3 y4 y5 z0 z1 z2 z3 z4 z5
                              go_wp2_with fail
                              refine HC.out.mono ?_
                              rintro e' w1 ⟨rfl, hb1⟩
                              have HB1 := Lib.hid (HBA.out.trans (hb1.mono HBA.out.size))
                              clear hb1
                              dsimp only
                              go_wp2
                              go_ret3
                              rw [HE.out]
                              exact ⟨none, 0, rfl, OwnG.nil _ _, HB1.out⟩
                          · have e34 : (((s[i].toNat : Nat) : Int) == 34) = false := by simpa using c34
                            have HE := Lib.hid (HX.out.trans (kr_err hll (show tokStep (sl s) i = .err 3 by
                              unfold tokStep; simp only [HG.out]
                              rw [if_neg c32, if_neg c35, if_neg c10, if_neg c40, if_neg c41, HL0.out, if_neg (by decide), ← HN.out, if_neg (by decide), if_neg c34])))
                            clear HG HN HL0
                            go_wp2
                            go_ret3
                            rw [HE.out]
                            exact ⟨none, 0, rfl, OwnG.nil _ _, HBA.out⟩
            case rest =>
              obtain ⟨t, n, rfl, hin, hn, hst, hbk, hbw⟩ := hcut
              clear HBK HBW
              have hst := hst.out
              by_cases hful : 65536 ≤ acc.length
              · have HE := Lib.hid (hX.out.trans (kr_many hll hst hful))
                have hfw : decide ((65536 : Int) ≤ (acc.length : Int)) = true := by simp; omega
                have HB := Lib.hid (hb.trans (hbw.mono hbs))
                clear hX hst hbk hbw hgd hfw
                have hful' : (65536 : Int) ≤ (acc.length : Int) := by omega
                go_wp2
                go_ret3
                rw [HE.out]
                exact ⟨none, 0, rfl, OwnG.nil _ _, HB.out⟩
              · have HE := Lib.hid (hX.out.trans (kr_tok hll hst (by omega)))
                have hful' : ¬ (65536 : Int) ≤ (acc.length : Int) := by omega
                obtain ⟨tk, nm, ⟨vk, vn, vs⟩, ti⟩ := t
                have b6 : Blk wc wr.heap.size #[.int .u8 tk, .string (str nm), .int .u8 vk, .int .i64 vn, .string vs, .int .i64 ti] 35 := hbk
                obtain ⟨y0, y1, y2, y3, y4, y5⟩ := b6.cells6
                have HB := Lib.hid (hb.trans (hbw.mono hbs))
                have HO4 := Lib.hid ((hown.below hbw).alloc (.cells #[.int .u8 tk, .string (str nm), .int .u8 vk, .int .i64 vn, .string vs, .int .i64 ti] 35))
                have HB4 := Lib.hid (HB.out.trans ((below_one wc (.cells #[.int .u8 tk, .string (str nm), .int .u8 vk, .int .i64 vn, .string vs, .int .i64 ti] 35)).mono HB.out.size))
                have HC4 := Lib.hid (cells_one_val elT wc ⟨tk, nm, ⟨vk, vn, vs⟩, ti⟩ #[.int .u8 tk, .string (str nm), .int .u8 vk, .int .i64 vn, .string vs, .int .i64 ti] rfl)
                clear hX hst hbk hbw hgd b6
                go_wp2_with (at_builtin; refine wpList_append_vals elT rfl _ _ 23 Tryd.underlying23 rfl w.heap.size A c acc rfl HO4.out (some ⟨wc.heap.size, 0, none⟩) 1 [⟨tk, nm, ⟨vk, vn, vs⟩, ti⟩] rfl HC4.out (by simp; omega) (by decide) HB4.out.size ?_; intro A5 c5 w5 R hR ho5 hg5; have HB5 := Lib.hid (HO4.out.grow HB4.out hg5 HB4.out.size); have HO5 := Lib.hid ho5; clear hg5 ho5)
                go_roundw
                case rel => exact ⟨n, f, R, A5, c5, rfl, rfl, hn, by omega, Lib.hid (by rw [hR.out]; exact HE.out), by rw [hR.out]; simp; omega, HO5.out, HB5.out⟩
                case measure => simp [intOf]; omega
    · have h1 : decide ((i : Int) < (s.size : Int)) = false := decide_eq_false (by omega)
      have HE := Lib.hid (hX.out.trans (kr_end (by rw [sl_length]; exact hlt)))
      clear hX
      go_wp2
      go_ret3
      rw [HE.out]
      exact ⟨A, c, rfl, hown, hb⟩
end Go.Proofs.YtjignlemahdoeaaDoor
namespace Go.Proofs.YtjignlemahdoeaaDoor
open Go.ChangeShapes Go.WideShapes Go.ChangeAt Go.RowKit
set_option linter.unusedVariables false
set_option maxRecDepth 20000
theorem sclone_calls (s : ByteArray) (hs : s.size ≤ 1000000) (w : World) : Calls Tryd.prog 35 #[.string s] w fun e w' => e = .returned (.string s) ∧ Below w.heap.size w w' := by
  have HC := Lib.hid (Tryd.stringslite_Clone s w (by omega))
  go_enter Tryd.func35, Tryd.ntmps35
  go_wp2_with fail
  refine HC.out.mono ?_
  rintro e w1 ⟨rfl, hb1⟩
  have HB := Lib.hid hb1
  clear hb1
  go_wp2
  go_ret
  exact ⟨rfl, HB.out⟩
theorem arr6 (cs : Array Value) (hs : cs.size = 6) (x0 x1 x2 x3 x4 x5 : Value) : (((((cs.setIfInBounds 0 x0).setIfInBounds 1 x1).setIfInBounds 2 x2).setIfInBounds 3 x3).setIfInBounds 4 x4).setIfInBounds 5 x5 = #[x0, x1, x2, x3, x4, x5] := by
  obtain ⟨l⟩ := cs
  have h2 : l.length = 6 := hs
  match l, h2 with
  | [a, b, c, d, e, f], _ => rfl
theorem Blk.set6 {W : World} {g : Nat} {cs : Array Value} {t : TypeId} (h : Blk W g cs t) (hs : cs.size = 6) (x0 x1 x2 x3 x4 x5 : Value) : Blk ((((((W.setCell ⟨g, 0, none⟩ x0).setCell ⟨g, 1, none⟩ x1).setCell ⟨g, 2, none⟩ x2).setCell ⟨g, 3, none⟩ x3).setCell ⟨g, 4, none⟩ x4).setCell ⟨g, 5, none⟩ x5) g #[x0, x1, x2, x3, x4, x5] t := by
  have := (((((h.set 0 x0).set 1 x1).set 2 x2).set 3 x3).set 4 x4).set 5 x5
  rw [arr6 cs hs] at this
  exact this
theorem below_set6 {n : Nat} {w W : World} {g : Nat} (h : Below n w W) (hg : n ≤ g) (x0 x1 x2 x3 x4 x5 : Value) : Below n w ((((((W.setCell ⟨g, 0, none⟩ x0).setCell ⟨g, 1, none⟩ x1).setCell ⟨g, 2, none⟩ x2).setCell ⟨g, 3, none⟩ x3).setCell ⟨g, 4, none⟩ x4).setCell ⟨g, 5, none⟩ x5) :=
  (((((h.setCell (p := ⟨g, 0, none⟩) hg x0).setCell (p := ⟨g, 1, none⟩) hg x1).setCell (p := ⟨g, 2, none⟩) hg x2).setCell (p := ⟨g, 3, none⟩) hg x3).setCell (p := ⟨g, 4, none⟩) hg x4).setCell (p := ⟨g, 5, none⟩) hg x5
/-- What read hands back at a place. -/
def ReadsT (s : ByteArray) (k : Nat) (t : Tk) (x e : Int) : Prop := (e = 0 → ∃ n : Nat, x = n ∧ tokStep (sl s) k = .tok t n ∧ k < n ∧ n ≤ s.size) ∧ (e ≠ 0 → tokStep (sl s) k = .err e)
theorem dig_stop' {l : List Int} {j : Nat} (h : digAt l j = false) : past digI l j = j := past_stop fun x hx => by unfold digAt at h; rw [hx] at h; exact h
theorem numI_minus : numI [45] = (0, 3) := by decide +kernel
set_option maxHeartbeats 4000000 in
theorem read_calls (s : ByteArray) (hs : s.size ≤ 1000000) (k : Nat) (hk : k < s.size) (n32 : ((s[k].toNat : Nat) : Int) ≠ 32) (n35 : ((s[k].toNat : Nat) : Int) ≠ 35) (w : World) (hv : ErrV w) :
    Calls Tryd.prog 20 #[.string s, .int .i64 k] w fun q w' => ∃ t x e, q = .returned (.tuple #[.agg (enT t).toArray, .int .i64 x, .int .i64 e]) ∧ ReadsT s k t x e ∧ Below w.heap.size w w' := by
  have hgd : (sl s).getD k 0 = ((s[k].toNat : Nat) : Int) := by rw [List.getD, sl_at s k hk]; rfl
  have hki : (k : Int) < (s.size : Int) := by omega
  have hc255 : ((s[k].toNat : Nat) : Int) ≤ 255 := by have := s[k].toNat_lt; omega
  have b0 := Blk.new w #[.int .u8 0, .string ⟨#[]⟩, .int .u8 0, .int .i64 0, .string ⟨#[]⟩, .int .i64 (k : Int)] 35
  have hB1 := below_one w (.cells #[.int .u8 0, .string ⟨#[]⟩, .int .u8 0, .int .i64 0, .string ⟨#[]⟩, .int .i64 (k : Int)] 35)
  have HX := Lib.hid b0
  have HB1 := Lib.hid hB1
  clear b0 hB1
  by_cases c10 : ((s[k].toNat : Nat) : Int) = 10
  · have HT := Lib.hid (show ReadsT s k ⟨5, [], zV, k⟩ ((k : Int) + 1) 0 from ⟨fun _ => ⟨k + 1, by omega, by unfold tokStep; rw [hgd, c10]; rfl, by omega, by omega⟩, fun h => absurd rfl h⟩)
    have d1 : (((s[k].toNat : Nat) : Int) == 10) = true := by simpa using c10
    have HB := Lib.hid (below_one w (.cells #[.int .u8 5, .string ⟨#[]⟩, .int .u8 0, .int .i64 0, .string ⟨#[]⟩, .int .i64 (k : Int)] 35))
    clear hgd c10
    go_enter Tryd.func20, Tryd.ntmps20
    go_wp2
    exact bodyPost_ret (results_cell_tmp2 rfl _ _ _ _ _ rfl (lv35 (Blk.newAt _ _ _ rfl))) rfl ⟨⟨5, [], zV, k⟩, (k : Int) + 1, 0, rfl, HT.out, HB.out⟩
  · have d10 : (((s[k].toNat : Nat) : Int) == 10) = false := by simpa using c10
    by_cases c40 : ((s[k].toNat : Nat) : Int) = 40
    · have HT := Lib.hid (show ReadsT s k ⟨1, [], zV, k⟩ ((k : Int) + 1) 0 from ⟨fun _ => ⟨k + 1, by omega, by unfold tokStep; rw [hgd, c40]; rfl, by omega, by omega⟩, fun h => absurd rfl h⟩)
      have d1 : (((s[k].toNat : Nat) : Int) == 40) = true := by simpa using c40
      have HB := Lib.hid (below_one w (.cells #[.int .u8 1, .string ⟨#[]⟩, .int .u8 0, .int .i64 0, .string ⟨#[]⟩, .int .i64 (k : Int)] 35))
      clear hgd c10 c40
      go_enter Tryd.func20, Tryd.ntmps20
      go_wp2
      exact bodyPost_ret (results_cell_tmp2 rfl _ _ _ _ _ rfl (lv35 (Blk.newAt _ _ _ rfl))) rfl ⟨⟨1, [], zV, k⟩, (k : Int) + 1, 0, rfl, HT.out, HB.out⟩
    · have d40 : (((s[k].toNat : Nat) : Int) == 40) = false := by simpa using c40
      by_cases c41 : ((s[k].toNat : Nat) : Int) = 41
      · have HT := Lib.hid (show ReadsT s k ⟨2, [], zV, k⟩ ((k : Int) + 1) 0 from ⟨fun _ => ⟨k + 1, by omega, by unfold tokStep; rw [hgd, c41]; rfl, by omega, by omega⟩, fun h => absurd rfl h⟩)
        have d1 : (((s[k].toNat : Nat) : Int) == 41) = true := by simpa using c41
        have HB := Lib.hid (below_one w (.cells #[.int .u8 2, .string ⟨#[]⟩, .int .u8 0, .int .i64 0, .string ⟨#[]⟩, .int .i64 (k : Int)] 35))
        clear hgd c10 c40 c41
        go_enter Tryd.func20, Tryd.ntmps20
        go_wp2
        exact bodyPost_ret (results_cell_tmp2 rfl _ _ _ _ _ rfl (lv35 (Blk.newAt _ _ _ rfl))) rfl ⟨⟨2, [], zV, k⟩, (k : Int) + 1, 0, rfl, HT.out, HB.out⟩
      · have d41 : (((s[k].toNat : Nat) : Int) == 41) = false := by simpa using c41
        have HLC := Lib.hid (fun W => isletter_calls ((s[k].toNat : Nat) : Int) W)
        have HDC := Lib.hid (fun W => isdigit_calls ((s[k].toNat : Nat) : Int) W)
        have HGD := Lib.hid hgd
        cases hl : letI' ((s[k].toNat : Nat) : Int) with
        | true =>
          have hm1 := past_ge letI' (sl s) (k + 1)
          have hm2 := past_le letI' (sl s) (k + 1) (by rw [sl_length]; omega)
          have hm3 : past letI' (sl s) k = past letI' (sl s) (k + 1) := past_next (sl_at s k hk) hl
          rw [sl_length] at hm2
          have HA := Lib.hid (fun W => after_isletter_calls s hs k (by omega) W)
          rw [hm3] at HA
          rw [hl] at HLC
          obtain ⟨m, hm⟩ : ∃ m, m = past letI' (sl s) (k + 1) := ⟨_, rfl⟩
          have HT := Lib.hid (show tokStep (sl s) k = .tok ⟨3, ((sl s).drop k).take (m - k), zV, k⟩ m by
            rw [hm]; unfold tokStep; simp only [hgd]
            rw [if_neg n32, if_neg n35, if_neg c10, if_neg c40, if_neg c41, hl, if_pos rfl])
          rw [← hm] at hm1 hm2 HA
          clear hm hm3 hl hgd HGD HDC
          have HCUT := Lib.hid (fun W => cut_piece s k m (by omega) hm2 W)
          have hpz : (str (((sl s).drop k).take (m - k))).size ≤ 1000000 := by
            rw [str_size, List.length_take, List.length_drop, sl_length]; omega
          have HCL := Lib.hid (sclone_calls (str (((sl s).drop k).take (m - k))) hpz)
          have HRT := Lib.hid (show ReadsT s k ⟨3, ((sl s).drop k).take (m - k), zV, k⟩ (m : Int) 0 from ⟨fun _ => ⟨m, rfl, HT.out, by omega, hm2⟩, fun h => absurd rfl h⟩)
          have HEN := Lib.hid (show enT ⟨3, ((sl s).drop k).take (m - k), zV, k⟩ = [.int .u8 3, .string (str (((sl s).drop k).take (m - k))), .int .u8 0, .int .i64 0, .string ⟨#[]⟩, .int .i64 k] from rfl)
          generalize str (((sl s).drop k).take (m - k)) = nm at HCUT HCL HEN hpz
          clear hpz
          go_enter Tryd.func20, Tryd.ntmps20
          have KC := HCUT.out
          go_wp2_with (first | (go_at_call 34; refine (HLC.out _).mono ?_; rintro e' w1 ⟨rfl, h9⟩; obtain rfl := h9.symm) | (go_at_call 18; refine (HA.out _).mono ?_; rintro e' w1 ⟨rfl, h9⟩; obtain rfl := h9.symm) | fail)
          refine (HCL.out _).mono ?_
          rintro e' w1 ⟨rfl, hb1⟩
          have b1 := HX.out.belowAll hb1
          have HX1 := Lib.hid b1
          have HC1 := Lib.hid (HB1.out.trans (hb1.mono HB1.out.size))
          obtain ⟨y0, y1, y2, y3, y4, y5⟩ := b1.cells6
          obtain ⟨z0, z1, z2, z3, z4, z5⟩ := b1.free6
          clear b1 hb1
          go_wp2
          exact bodyPost_ret (results_cell_tmp2 rfl _ _ _ _ _ rfl (lv35 (((HX1.out.set 0 _).set 1 _).set6 (by simp) _ _ _ _ _ _))) rfl ⟨⟨3, ((sl s).drop k).take (m - k), zV, k⟩, (m : Int), 0, by rw [HEN.out]; rfl, HRT.out, below_set6 ((HC1.out.setCell (p := ⟨w.heap.size, 0, none⟩) (Nat.le_refl _) _).setCell (p := ⟨w.heap.size, 1, none⟩) (Nat.le_refl _) _) (Nat.le_refl _) _ _ _ _ _ _⟩
        | false =>
          rw [hl] at HLC
          cases hn : (digI ((s[k].toNat : Nat) : Int) || decide (((s[k].toNat : Nat) : Int) = 45)) with
          | true =>
            have HRN := Lib.hid (fun W (hW : ErrV W) => readnumber_calls s hs k hk W hW)
            have hm1 := past_ge digI (sl s) (k + 1)
            have hm2 := past_le digI (sl s) (k + 1) (by rw [sl_length]; omega)
            rw [sl_length] at hm2
            have HRT := Lib.hid (show ReadsT s k ⟨4, [], ⟨0, (numI (((sl s).drop k).take (past digI (sl s) (k + 1) - k))).1, ⟨#[]⟩⟩, k⟩ ((past digI (sl s) (k + 1) : Nat) : Int) (numI (((sl s).drop k).take (past digI (sl s) (k + 1) - k))).2 by
              cases hd : digI ((s[k].toNat : Nat) : Int) || (decide (((s[k].toNat : Nat) : Int) = 45) && digAt (sl s) (k + 1)) with
              | true =>
                constructor
                · intro h0
                  refine ⟨_, rfl, ?_, by omega, hm2⟩
                  unfold tokStep; simp only [hgd]
                  rw [if_neg n32, if_neg n35, if_neg c10, if_neg c40, if_neg c41, hl, if_neg (by decide), hd, if_pos rfl, if_pos h0]
                · intro h0
                  unfold tokStep; simp only [hgd]
                  rw [if_neg n32, if_neg n35, if_neg c10, if_neg c40, if_neg c41, hl, if_neg (by decide), hd, if_pos rfl, if_neg h0]
              | false =>
                obtain ⟨hd1, hd2⟩ := Bool.or_eq_false_iff.1 hd
                rw [hd1, Bool.false_or] at hn
                rw [hn, Bool.true_and] at hd2
                have c45 := of_decide_eq_true hn
                have hp := dig_stop' hd2
                have hpc : ((sl s).drop k).take (k + 1 - k) = [45] := by
                  rw [List.drop_eq_getElem_cons (by rw [sl_length]; exact hk), show k + 1 - k = 1 by omega]
                  have : (sl s)[k]'(by rw [sl_length]; exact hk) = 45 := by
                    have := sl_at s k hk
                    rw [List.getElem?_eq_getElem (by rw [sl_length]; exact hk)] at this
                    injection this with this
                    rw [this, c45]
                  rw [this]; rfl
                rw [hp, hpc, numI_minus]
                refine ⟨fun h => by simp at h, fun _ => ?_⟩
                unfold tokStep; simp only [hgd]
                rw [if_neg n32, if_neg n35, if_neg c10, if_neg c40, if_neg c41, hl, if_neg (by decide), hd, if_neg (by decide), if_neg (by omega)])
            have HV1 := Lib.hid (show ErrV (w.alloc (.cells #[.int .u8 4, .string ⟨#[]⟩, .int .u8 0, .int .i64 0, .string ⟨#[]⟩, .int .i64 (k : Int)] 35)) by
              obtain ⟨tp, p, hvv⟩ := hv
              exact ⟨tp, p, fun V hV => hvv V ((below_one w _).trans (hV.mono (by simp)))⟩)
            have HX4 := Lib.hid (Blk.new w #[.int .u8 4, .string ⟨#[]⟩, .int .u8 0, .int .i64 0, .string ⟨#[]⟩, .int .i64 (k : Int)] 35)
            have HB4 := Lib.hid (below_one w (.cells #[.int .u8 4, .string ⟨#[]⟩, .int .u8 0, .int .i64 0, .string ⟨#[]⟩, .int .i64 (k : Int)] 35))
            generalize past digI (sl s) (k + 1) = m at *
            generalize numI (((sl s).drop k).take (m - k)) = g at *
            obtain ⟨n, e⟩ := g
            dsimp only at HRN HRT
            unfold Vl.v at HRN
            dsimp only at HRN
            have HEN := Lib.hid (show enT ⟨4, [], ⟨0, n, ⟨#[]⟩⟩, k⟩ = [.int .u8 4, .string ⟨#[]⟩, .int .u8 0, .int .i64 n, .string ⟨#[]⟩, .int .i64 k] from rfl)
            clear hm1 hm2 hv hl hgd HGD
            by_cases h45 : ((s[k].toNat : Nat) : Int) = 45
            · have d45 : (((s[k].toNat : Nat) : Int) == 45) = true := by simpa using h45
              clear h45 hn
              go_enter Tryd.func20, Tryd.ntmps20
              go_wp2_with (first | (go_at_call 34; refine (HLC.out _).mono ?_; rintro e' w1 ⟨rfl, h9⟩; obtain rfl := h9.symm) | fail)
              refine (HRN.out _ HV1.out).mono ?_
              rintro e' w1 ⟨rfl, hb1⟩
              have b1 := HX4.out.belowAll hb1
              have HX1 := Lib.hid b1
              have HC1 := Lib.hid (HB4.out.trans (hb1.mono HB4.out.size))
              obtain ⟨y0, y1, y2, y3, y4, y5⟩ := b1.cells6
              obtain ⟨z0, z1, z2, z3, z4, z5⟩ := b1.free6
              clear b1 hb1
              dsimp only
              go_wp2
              exact bodyPost_ret (results_cell_tmp2 rfl _ _ _ _ _ rfl (lv35 ((((HX1.out.set 2 _).set 3 _).set 4 _).set6 (by simp) _ _ _ _ _ _))) rfl ⟨⟨4, [], ⟨0, n, ⟨#[]⟩⟩, k⟩, (m : Int), e, by rw [HEN.out]; rfl, HRT.out, below_set6 (((HC1.out.setCell (p := ⟨w.heap.size, 2, none⟩) (Nat.le_refl _) _).setCell (p := ⟨w.heap.size, 3, none⟩) (Nat.le_refl _) _).setCell (p := ⟨w.heap.size, 4, none⟩) (Nat.le_refl _) _) (Nat.le_refl _) _ _ _ _ _ _⟩
            · have d45 : (((s[k].toNat : Nat) : Int) == 45) = false := by simpa using h45
              have hd : digI ((s[k].toNat : Nat) : Int) = true := by rw [decide_eq_false h45, Bool.or_false] at hn; exact hn
              rw [hd] at HDC
              clear h45 hn hd
              go_enter Tryd.func20, Tryd.ntmps20
              go_wp2_with (first | (go_at_call 34; refine (HLC.out _).mono ?_; rintro e' w1 ⟨rfl, h9⟩; obtain rfl := h9.symm) | (go_at_call 36; refine (HDC.out _).mono ?_; rintro e' w1 ⟨rfl, h9⟩; obtain rfl := h9.symm) | fail)
              refine (HRN.out _ HV1.out).mono ?_
              rintro e' w1 ⟨rfl, hb1⟩
              have b1 := HX4.out.belowAll hb1
              have HX1 := Lib.hid b1
              have HC1 := Lib.hid (HB4.out.trans (hb1.mono HB4.out.size))
              obtain ⟨y0, y1, y2, y3, y4, y5⟩ := b1.cells6
              obtain ⟨z0, z1, z2, z3, z4, z5⟩ := b1.free6
              clear b1 hb1
              dsimp only
              go_wp2
              exact bodyPost_ret (results_cell_tmp2 rfl _ _ _ _ _ rfl (lv35 ((((HX1.out.set 2 _).set 3 _).set 4 _).set6 (by simp) _ _ _ _ _ _))) rfl ⟨⟨4, [], ⟨0, n, ⟨#[]⟩⟩, k⟩, (m : Int), e, by rw [HEN.out]; rfl, HRT.out, below_set6 (((HC1.out.setCell (p := ⟨w.heap.size, 2, none⟩) (Nat.le_refl _) _).setCell (p := ⟨w.heap.size, 3, none⟩) (Nat.le_refl _) _).setCell (p := ⟨w.heap.size, 4, none⟩) (Nat.le_refl _) _) (Nat.le_refl _) _ _ _ _ _ _⟩
          | false =>
            obtain ⟨hd, h45⟩ := Bool.or_eq_false_iff.1 hn
            have d45 : (((s[k].toNat : Nat) : Int) == 45) = false := by simpa using h45
            rw [hd] at HDC
            have hnd : (digI ((s[k].toNat : Nat) : Int) || (decide (((s[k].toNat : Nat) : Int) = 45) && digAt (sl s) (k + 1))) = false := by rw [hd, h45]; rfl
            by_cases c34 : ((s[k].toNat : Nat) : Int) = 34
            · have d34 : (((s[k].toNat : Nat) : Int) == 34) = true := by simpa using c34
              have HRN := Lib.hid (fun W => readtext_calls s hs k hk W)
              have HTP := Lib.hid (textG_place (s.size + 1) (sl s) (k + 1) [])
              have HT := Lib.hid (show tokStep (sl s) k = if (textG (s.size + 1) (sl s) (k + 1) []).2.2 = 0 then .tok ⟨4, [], ⟨1, 0, str (textG (s.size + 1) (sl s) (k + 1) []).1⟩, k⟩ (textG (s.size + 1) (sl s) (k + 1) []).2.1.toNat else .err (textG (s.size + 1) (sl s) (k + 1) []).2.2 by
                unfold tokStep; simp only [hgd]
                rw [if_neg n32, if_neg n35, if_neg c10, if_neg c40, if_neg c41, hl, if_neg (by decide), hnd, if_neg (by decide), if_pos c34, sl_length])
              have HX4 := Lib.hid (Blk.new w #[.int .u8 4, .string ⟨#[]⟩, .int .u8 0, .int .i64 0, .string ⟨#[]⟩, .int .i64 (k : Int)] 35)
              have HB4 := Lib.hid (below_one w (.cells #[.int .u8 4, .string ⟨#[]⟩, .int .u8 0, .int .i64 0, .string ⟨#[]⟩, .int .i64 (k : Int)] 35))
              have HRT := Lib.hid (show ReadsT s k ⟨4, [], valT (textG (s.size + 1) (sl s) (k + 1) []), k⟩ (textG (s.size + 1) (sl s) (k + 1) []).2.1 (textG (s.size + 1) (sl s) (k + 1) []).2.2 by
                have hT := HT.out
                have hP := HTP.out
                generalize textG (s.size + 1) (sl s) (k + 1) [] = X at *
                obtain ⟨q, x, e⟩ := X
                dsimp only at hT ⊢
                constructor
                · intro h0
                  obtain ⟨n, hx, hn1, hn2⟩ := hP q x (by rw [h0])
                  refine ⟨n, hx, ?_, by omega, by rw [sl_length] at hn2; exact hn2⟩
                  rw [hT, if_pos h0, hx, Int.toNat_natCast]
                  unfold valT; rw [if_pos h0]
                · intro h0
                  rw [hT, if_neg h0])
              generalize textG (s.size + 1) (sl s) (k + 1) [] = X at *
              generalize hvT : valT X = v at *
              obtain ⟨q, x, e⟩ := X
              obtain ⟨vk, vn, vs⟩ := v
              dsimp only at HRN HRT
              unfold Vl.v at HRN
              dsimp only at HRN
              have HEN := Lib.hid (show enT ⟨4, [], ⟨vk, vn, vs⟩, k⟩ = [.int .u8 4, .string ⟨#[]⟩, .int .u8 vk, .int .i64 vn, .string vs, .int .i64 k] from rfl)
              clear hv hl hgd HGD HT HTP hvT c34 hn hnd hd h45
              go_enter Tryd.func20, Tryd.ntmps20
              go_wp2_with (first | (go_at_call 34; refine (HLC.out _).mono ?_; rintro e' w1 ⟨rfl, h9⟩; obtain rfl := h9.symm) | (go_at_call 36; refine (HDC.out _).mono ?_; rintro e' w1 ⟨rfl, h9⟩; obtain rfl := h9.symm) | fail)
              refine (HRN.out _).mono ?_
              rintro e' w1 ⟨rfl, hb1⟩
              have b1 := HX4.out.belowAll hb1
              have HX1 := Lib.hid b1
              have HC1 := Lib.hid (HB4.out.trans (hb1.mono HB4.out.size))
              obtain ⟨y0, y1, y2, y3, y4, y5⟩ := b1.cells6
              obtain ⟨z0, z1, z2, z3, z4, z5⟩ := b1.free6
              clear b1 hb1
              dsimp only
              go_wp2
              exact bodyPost_ret (results_cell_tmp2 rfl _ _ _ _ _ rfl (lv35 ((((HX1.out.set 2 _).set 3 _).set 4 _).set6 (by simp) _ _ _ _ _ _))) rfl ⟨⟨4, [], ⟨vk, vn, vs⟩, k⟩, x, e, by rw [HEN.out]; rfl, HRT.out, below_set6 (((HC1.out.setCell (p := ⟨w.heap.size, 2, none⟩) (Nat.le_refl _) _).setCell (p := ⟨w.heap.size, 3, none⟩) (Nat.le_refl _) _).setCell (p := ⟨w.heap.size, 4, none⟩) (Nat.le_refl _) _) (Nat.le_refl _) _ _ _ _ _ _⟩
            · have d34 : (((s[k].toNat : Nat) : Int) == 34) = false := by simpa using c34
              have HRT := Lib.hid (show ReadsT s k ⟨0, [], zV, k⟩ ((k : Int) + 1) 3 from ⟨fun h => by simp at h, fun _ => by
                unfold tokStep; simp only [hgd]
                rw [if_neg n32, if_neg n35, if_neg c10, if_neg c40, if_neg c41, hl, if_neg (by decide), hnd, if_neg (by decide), if_neg c34]⟩)
              clear hv hl hgd HGD c34 hn hnd hd h45
              go_enter Tryd.func20, Tryd.ntmps20
              go_wp2_with (first | (go_at_call 34; refine (HLC.out _).mono ?_; rintro e' w1 ⟨rfl, h9⟩; obtain rfl := h9.symm) | (go_at_call 36; refine (HDC.out _).mono ?_; rintro e' w1 ⟨rfl, h9⟩; obtain rfl := h9.symm))
              exact bodyPost_ret (results_cell_tmp2 rfl _ _ _ _ _ rfl (lv35 (Blk.newAt _ _ _ rfl))) rfl ⟨⟨0, [], zV, k⟩, (k : Int) + 1, 3, rfl, HRT.out, HB1.out⟩
end Go.Proofs.YtjignlemahdoeaaDoor
namespace Go.Proofs.YtjignlemahdoeaaDoor
open Go.ChangeShapes Go.WideShapes Go.ChangeAt Go.RowKit
set_option linter.unusedVariables false
set_option maxRecDepth 20000
theorem ErrV.below {w w' : World} (h : ErrV w) (hb : Below w.heap.size w w') : ErrV w' := by
  obtain ⟨tp, p, hvv⟩ := h
  exact ⟨tp, p, fun V hV => hvv V (hb.trans (hV.mono hb.size))⟩
/-- The loop. -/
def RelPk (B : Nat) (w : World) (s : ByteArray) (X : List Tk × Int × Int) (l at' : Value) (wr : World) : Prop :=
  ∃ (i f : Nat) (acc : List Tk) (A : Option Addr) (c : Nat), l = .slice A acc.length c ∧ at' = .int .i64 i ∧ i ≤ s.size ∧ s.size < f + i ∧ Hid (X = tokRun f (sl s) i acc) ∧ acc.length ≤ 65536 ∧ OwnG 35 6 enT B wr A c acc ∧ Below B w wr
set_option maxHeartbeats 4000000 in
theorem tokens_calls (s : ByteArray) (hs : s.size ≤ 1000000) (w : World) (hv : ErrV w) : Calls Tryd.prog 7 #[.string s] w fun q w' => ∃ A c, q = .returned (.tuple #[.slice A (tokensP (sl s)).1.length c, .int .i64 (tokensP (sl s)).2.1, .int .i64 (tokensP (sl s)).2.2]) ∧ OwnG 35 6 enT w.heap.size w' A c (tokensP (sl s)).1 ∧ Below w.heap.size w w' := by
  obtain ⟨X, hX⟩ : ∃ X, X = tokensP (sl s) := ⟨_, rfl⟩
  rw [← hX]
  have HX0 := Lib.hid (show X = tokRun (s.size + 1) (sl s) 0 [] by rw [hX]; unfold tokensP; rw [sl_length])
  have HV := Lib.hid (fun W (hb : Below w.heap.size w W) => hv.below hb)
  clear hX hv
  go_enter Tryd.func7, Tryd.ntmps7
  go_wp2
  go_step3
  go_wp2
  go_step3
  go_wp2
  go_loopw [2, 3] (RelPk w.heap.size w s X) (fun _ i _ => s.size + 1 - (intOf i).toNat)
  case atStart => exact ⟨0, s.size + 1, [], none, 0, rfl, by go_num, by omega, by omega, HX0, by simp, OwnG.nil _ _, Below.refl _ _⟩
  case round =>
    obtain ⟨i, f, acc, A, c, rfl, rfl, hi, hf, hX, hacc, hown, hb⟩ := hrel
    by_cases hlt : i < s.size
    · have h1 : (i : Int) < (s.size : Int) := by omega
      obtain ⟨f, rfl⟩ : ∃ g, f = g + 1 := ⟨f - 1, by omega⟩
      have hll : i < (sl s).length := by rw [sl_length]; exact hlt
      have hgd : (sl s).getD i 0 = ((s[i].toNat : Nat) : Int) := by rw [List.getD, sl_at s i hlt]; rfl
      have hb255 : ((s[i].toNat : Nat) : Int) ≤ 255 := by have := s[i].toNat_lt; omega
      have hbs := hb.size
      by_cases c32 : ((s[i].toNat : Nat) : Int) = 32
      · have d32 : (((s[i].toNat : Nat) : Int) == 32) = true := by simpa using c32
        have HE := Lib.hid (hX.out.trans (kr_skip hll (show tokStep (sl s) i = .skip (i + 1) by unfold tokStep; rw [hgd, c32]; rfl)))
        clear hX hgd c32
        go_wp2
        go_roundw
        case rel => exact ⟨i + 1, f, acc, A, c, rfl, by go_num, by omega, by omega, HE, hacc, hown, hb⟩
        case measure => simp [intOf]; omega
      · have d32 : (((s[i].toNat : Nat) : Int) == 32) = false := by simpa using c32
        by_cases c35 : ((s[i].toNat : Nat) : Int) = 35
        · have d35 : (((s[i].toNat : Nat) : Int) == 35) = true := by simpa using c35
          have hs0 : past lineI (sl s) i = past lineI (sl s) (i + 1) := past_next (sl_at s i hlt) (by rw [c35]; rfl)
          have HA := Lib.hid (fun W => after_inline_calls s hs i (by omega) W)
          have hm1 := past_ge lineI (sl s) (i + 1)
          have hm2 := past_le lineI (sl s) (i + 1) (by rw [sl_length]; omega)
          rw [sl_length] at hm2
          rw [hs0] at HA
          have HE := Lib.hid (hX.out.trans (kr_skip hll (show tokStep (sl s) i = .skip (past lineI (sl s) (i + 1)) by rw [← hs0]; unfold tokStep; rw [hgd, c35]; rfl)))
          generalize past lineI (sl s) (i + 1) = m at *
          clear hX hgd c35 hs0
          go_wp2_with (go_at_call 18; refine (HA.out _).mono ?_; rintro e' w1 ⟨rfl, h9⟩; obtain rfl := h9.symm)
          go_roundw
          case rel => exact ⟨m, f, acc, A, c, rfl, rfl, hm2, by omega, HE, hacc, hown, hb⟩
          case measure => simp [intOf]; omega
        · have d35 : (((s[i].toNat : Nat) : Int) == 35) = false := by simpa using c35
          have HR := Lib.hid (read_calls s hs i hlt c32 c35 wr (HV.out wr hb))
          have HO := Lib.hid hown
          have HB := Lib.hid hb
          clear hgd hown hb
          go_wp2_with fail
          refine HR.out.mono ?_
          rintro e' w1 ⟨t, x, e, rfl, hrd, hb1⟩
          have HO1 := Lib.hid (HO.out.below hb1)
          have HB1 := Lib.hid (HB.out.trans (hb1.mono hbs))
          obtain ⟨tk, nm, ⟨vk, vn, vs⟩, ti⟩ := t
          have HRD := Lib.hid hrd
          clear hb1 hrd
          have HBX := Lib.hid (HB1.out.trans ((below_one w1 (.cells #[.int .u8 tk, .string (str nm), .int .u8 vk, .int .i64 vn, .string vs, .int .i64 ti] 35)).mono HB1.out.size))
          unfold enT
          dsimp only
          by_cases he : e = 0
          · obtain ⟨n, hxn, hst, hn1, hn2⟩ := HRD.out.1 he
            have ee : (e == 0) = true := by simpa using he
            have ee2 : (e != 0) = false := by simpa using he
            by_cases hful : acc.length = 65536
            · have HE := Lib.hid (hX.out.trans (kr_many hll hst (by omega)))
              have hfw : ((acc.length : Int) == 65536) = true := by simp; omega
              clear hX hst HRD hful
              go_wp2
              unfold Exit.noGoto
              dsimp only
              go_ret3
              rw [HE.out]
              exact ⟨none, 0, rfl, OwnG.nil _ _, HBX.out⟩
            · have HE := Lib.hid (hX.out.trans (kr_tok hll hst (by omega)))
              have hfw : ((acc.length : Int) == 65536) = false := by simp; omega
              have HO4 := Lib.hid ((HO1.out.alloc (.cells #[.int .u8 tk, .string (str nm), .int .u8 vk, .int .i64 vn, .string vs, .int .i64 ti] 35)).alloc (.cells #[.int .u8 tk, .string (str nm), .int .u8 vk, .int .i64 vn, .string vs, .int .i64 ti] 35))
              have HB4 := Lib.hid (HB1.out.trans ((below_two w1 (.cells #[.int .u8 tk, .string (str nm), .int .u8 vk, .int .i64 vn, .string vs, .int .i64 ti] 35) (.cells #[.int .u8 tk, .string (str nm), .int .u8 vk, .int .i64 vn, .string vs, .int .i64 ti] 35)).mono HB1.out.size))
              have hC4 := cells_one_val elT (w1.alloc (.cells #[.int .u8 tk, .string (str nm), .int .u8 vk, .int .i64 vn, .string vs, .int .i64 ti] 35)) ⟨tk, nm, ⟨vk, vn, vs⟩, ti⟩ #[.int .u8 tk, .string (str nm), .int .u8 vk, .int .i64 vn, .string vs, .int .i64 ti] rfl
              rw [show (w1.alloc (.cells #[.int .u8 tk, .string (str nm), .int .u8 vk, .int .i64 vn, .string vs, .int .i64 ti] 35)).heap.size = w1.heap.size + 1 by simp] at hC4
              have HC4 := Lib.hid hC4
              clear hC4
              have hacc2 : acc.length < 65536 := by omega
              clear hX hst HRD hful
              go_wp2_with (at_builtin; refine wpList_append_vals elT rfl _ _ 23 Tryd.underlying23 rfl w.heap.size A c acc rfl HO4.out (some ⟨w1.heap.size + 1, 0, none⟩) 1 [⟨tk, nm, ⟨vk, vn, vs⟩, ti⟩] rfl HC4.out (by simp; omega) (by decide) HB4.out.size ?_; intro A5 c5 w5 R hR ho5 hg5; have HB5 := Lib.hid (HO4.out.grow HB4.out hg5 HB4.out.size); have HO5 := Lib.hid ho5; clear hg5 ho5)
              go_roundw
              case rel => exact ⟨n, f, R, A5, c5, rfl, rfl, hn2, by omega, Lib.hid (by rw [hR.out]; exact HE.out), by rw [hR.out]; simp; omega, HO5.out, HB5.out⟩
              case measure => simp [intOf]; omega
          · have ee : (e == 0) = false := by simpa using he
            have ee2 : (e != 0) = true := by simpa using he
            have HE := Lib.hid (hX.out.trans (kr_err hll (HRD.out.2 he)))
            clear hX HRD
            go_wp2
            unfold Exit.noGoto
            dsimp only
            go_ret3
            rw [HE.out]
            exact ⟨none, 0, rfl, OwnG.nil _ _, HBX.out⟩
    · have h1 : decide ((i : Int) < (s.size : Int)) = false := decide_eq_false (by omega)
      have HE := Lib.hid (hX.out.trans (kr_end (by rw [sl_length]; exact hlt)))
      clear hX
      go_wp2
      unfold Exit.noGoto
      dsimp only
      go_ret3
      rw [HE.out]
      exact ⟨A, c, rfl, hown, hb⟩
end Go.Proofs.YtjignlemahdoeaaDoor
namespace Go.Proofs.YtjignlemahdoeaaDoor
open Go.ChangeShapes Go.WideShapes Go.ChangeAt Go.RowKit
set_option linter.unusedVariables false

def cellsI (es : List Int) : List Value := es.map (Value.int .i64)
theorem cellsI_length (es : List Int) : (cellsI es).length = es.length := by simp [cellsI]
theorem cellsI_one (es : List Int) : ∀ u ∈ cellsI es, u.oneCell' = true := by
  intro u hu
  obtain ⟨n, _, rfl⟩ := List.mem_map.1 hu
  rfl
theorem cellsI_append (a b : List Int) : cellsI (a ++ b) = cellsI a ++ cellsI b := by simp [cellsI]
theorem Tryd.info3 : (Tryd.prog.info? 3).map (fun i => (i.zero, i.size, i.bytes)) = some (some (.int .i64 0), 1, 8) := by kernel_rfl
theorem size3 (w : World) : (Go.sizeOf 3).run Tryd.prog w = .ok 1 w := by kernel_rfl

/-- A slice of ints of the call own. -/
def OwnI (B : Nat) (w : World) (A : Option Addr) (c : Nat) (es : List Int) : Prop := w.ownsRow B 3 1 (.slice A es.length c) es.length (cellsI es)
theorem OwnI.nil (B : Nat) (w : World) : OwnI B w none 0 [] := World.ownsRow_nil w B 3 1
theorem OwnI.below {B : Nat} {w w' : World} {A : Option Addr} {c : Nat} {es : List Int} (h : OwnI B w A c es) (hb : Below w.heap.size w w') : OwnI B w' A c es := by
  refine ⟨h.1, ?_⟩
  rcases h.2 with h2 | ⟨g, cap, cur, hv, hg, hh, r⟩
  · exact .inl h2
  · refine .inr ⟨g, cap, cur, hv, hg, ?_, r⟩
    rw [hb.block g (lt_of_block hh)]
    exact hh
theorem OwnI.alloc {B : Nat} {w : World} {A : Option Addr} {c : Nat} {es : List Int} (h : OwnI B w A c es) (o : Obj) : OwnI B (w.alloc o) A c es := World.ownsRow.alloc h o
theorem OwnI.grow {B : Nat} {w0 w w' : World} {A : Option Addr} {c : Nat} {es : List Int} (h : OwnI B w A c es) (hb : Below B w0 w) (hg : w.grownBy w' (Value.slice A es.length c).ownBlock) (hB : B ≤ w.heap.size) : Below B w0 w' :=
  hb.grown hg hB (fun k hk => (World.ownsRow.lt h k hk).1)
theorem OwnI.row {B : Nat} {W : World} {A : Option Addr} {c : Nat} {es : List Int} (h : OwnI B W A c es) : ∀ g, (Value.slice A es.length c).ownBlock = some g → B ≤ g ∧ ∃ cur z, W.heap[g]? = some (.cells cur 3 z) := fun g hg => by
  rcases h.2 with ⟨h1, _⟩ | ⟨g', cap, cur, h1, hb, hgg, _⟩
  · rw [h1] at hg; simp [Value.ownBlock] at hg
  · rw [h1] at hg
    simp [Value.ownBlock] at hg
    subst hg
    exact ⟨hb, cur, _, hgg⟩
/-- Where its elements lie. -/
theorem OwnI.at_ {B : Nat} {W : World} {A : Option Addr} {c : Nat} {es : List Int} (h : OwnI B W A c es) (hl : 0 < es.length) :
    ∃ g, A = some ⟨g, 0, none⟩ ∧ g < W.heap.size ∧ ∀ j, j < es.length → W.cell? ⟨g, j, none⟩ = some (.int .i64 (es.getD j 0)) := by
  rcases h.2 with ⟨_, h0⟩ | ⟨g, cap, cur, hv, hb, hg, _⟩
  · omega
  · have hA : A = some ⟨g, 0, none⟩ := by injection hv
    subst hA
    refine ⟨g, rfl, lt_of_block hg, fun j hj => ?_⟩
    rw [World.ownsRow.cellAt h j (by omega)]
    simp [cellsI, List.getD, hj]

theorem run_append_ints (T ty : TypeId) (hT : Tryd.prog.underlying T = some (.slice 3)) (w : World) (base : Nat) (A : Option Addr) (c : Nat) (es : List Int) (hown : OwnI base w A c es) (a : Addr) (d : Nat) (ns : List Int) (hr : ∀ j u, (cellsI ns)[j]? = some u → w.cell? (a.add j) = some u)
    (h63 : es.length + ns.length ≤ 1000000000) (hbase : base ≤ w.heap.size) :
    ∃ A' c' w', (Builtin.append_ #[T, T] ty #[.slice A es.length c, .slice (some a) ns.length d]).run Tryd.prog w = .ok (.slice A' (es ++ ns).length c') w' ∧ OwnI base w' A' c' (es ++ ns) ∧ w.grownBy w' (Value.slice A es.length c).ownBlock := by
  obtain ⟨i0, hi, hz0, hz1, hz2⟩ := info_parts Tryd.info3
  unfold OwnI at *
  rw [List.length_append, cellsI_append]
  obtain ⟨v', w', hrun, h2, h3, _, h5⟩ := run_append_own_at (P := Tryd.prog) w base T ty 3 i0 (.int .i64 0) 1 8 hT hi hz0 hz1 hz2 rfl (by decide) _ _ _ hown a ns.length d (cellsI ns) (by rw [cellsI_length]; omega) hr (cellsI_one ns) (by unfold maxLen; omega) (by omega) hbase
  rcases h2.2 with ⟨hv, h0⟩ | ⟨g, cap, cur, hv, _⟩
  · subst hv
    refine ⟨none, 0, w', ?_, ?_, h3⟩
    · rw [h0]; exact hrun
    · rw [h0] at h2 ⊢; exact h2
  · subst hv
    exact ⟨_, cap, w', hrun, h2, h3⟩

theorem wpList_append_ints {w : World} {ops : Array Oper} {rest : List Oper} {o : Oper} {a : Act} {Q : Exit → Act → World → Prop} (hgd : o.guard = none) (s x : Operand) (T : TypeId) (hT : Tryd.prog.underlying T = some (.slice 3))
    (ho : o.op = .call { callee := .builtin .append, args := #[s, x], argTypes := #[T, T] })
    (base : Nat) (A : Option Addr) (c : Nat) (es : List Int) (hs : a.eval s = .slice A es.length c) (hown : OwnI base w A c es)
    (p : Addr) (d : Nat) (ns : List Int) (hx : a.eval x = .slice (some p) ns.length d) (hr : ∀ j u, (cellsI ns)[j]? = some u → w.cell? (p.add j) = some u) (h63 : es.length + ns.length ≤ 1000000000) (hbase : base ≤ w.heap.size)
    (h : ∀ A' c' w' R, Hid (R = es ++ ns) → OwnI base w' A' c' R → w.grownBy w' (Value.slice A es.length c).ownBlock → wpList Tryd.prog ops Q rest (a.put o.dst (.slice A' R.length c')) w') : wpList Tryd.prog ops Q (o :: rest) a w := by
  obtain ⟨A', c', w', hrun, h2, h3⟩ := run_append_ints T o.type hT w base A c es hown p d ns hr h63 hbase
  refine wpList_plain hgd fun K hK => ?_
  unfold Oper.wp execOp
  simp only [ho, resolve, invoke, builtin, Sem.run_bind, Sem.run_pure, Result.andThen_ok, List.map_toArray, List.map_cons, List.map_nil, hs, hx, hrun]
  exact hK _ _ (h A' c' w' _ (Lib.hid rfl) h2 h3)

theorem cells_one_int (w : World) (x : Int) : ∀ j u, (cellsI [x])[j]? = some u → (w.alloc (.cells #[.int .i64 x] 3)).cell? ((⟨w.heap.size, 0, none⟩ : Addr).add j) = some u := by
  intro j u hu
  cases j with
  | zero => simp [cellsI] at hu; subst hu; simp [Addr.add]
  | succ j => simp [cellsI] at hu
end Go.Proofs.YtjignlemahdoeaaDoor
namespace Go.Proofs.YtjignlemahdoeaaDoor
open Go.ChangeShapes Go.WideShapes Go.ChangeAt Go.RowKit
set_option linter.unusedVariables false
set_option maxRecDepth 20000
end Go.Proofs.YtjignlemahdoeaaDoor
namespace Go.Proofs.YtjignlemahdoeaaDoor
open Go.ChangeShapes Go.WideShapes Go.ChangeAt Go.RowKit
set_option linter.unusedVariables false
set_option maxRecDepth 20000
def or3 (a b c : Int) : Int := if a = 0 then (if b = 0 then c else b) else a
def RelO (a b c : Int) (w : World) (v : Value) (wr : World) : Prop := ∃ k : Nat, v = .int .i64 k ∧ k ≤ 3 ∧ (0 < k → a = 0) ∧ (1 < k → b = 0) ∧ (2 < k → c = 0) ∧ wr = w
end Go.Proofs.YtjignlemahdoeaaDoor
namespace Go.Proofs.YtjignlemahdoeaaDoor
open Go.ChangeShapes Go.WideShapes Go.ChangeAt Go.RowKit
set_option linter.unusedVariables false
set_option maxRecDepth 20000
theorem or3_ord (a b : Vl) : or3 (cmpI (plainV a).k (plainV b).k) (cmpI (plainV a).n (plainV b).n) (cmpT (sl (plainV a).s) (sl (plainV b).s)) = ordV a b := by
  unfold plainV ordV
  by_cases h1 : a.k = 0
  · by_cases h2 : b.k = 0
    · rw [if_pos h1, if_pos h2, if_pos h1, if_pos h2]
      show or3 (cmpI 0 0) (cmpI a.n b.n) (cmpT (sl ⟨#[]⟩) (sl ⟨#[]⟩)) = _
      rw [cmpT_same]
      unfold or3
      rw [if_pos (by rfl)]
      split
      · rename_i h; exact h.symm
      · rfl
    · rw [if_pos h1, if_neg h2, if_pos h1, if_neg h2]; rfl
  · by_cases h2 : b.k = 0
    · rw [if_neg h1, if_pos h2, if_neg h1, if_pos h2]; rfl
    · rw [if_neg h1, if_neg h2, if_neg h1, if_neg h2]; rfl
end Go.Proofs.YtjignlemahdoeaaDoor
namespace Go.Proofs.YtjignlemahdoeaaDoor
open Go.ChangeShapes Go.WideShapes Go.ChangeAt Go.RowKit
set_option linter.unusedVariables false
set_option maxRecDepth 20000
set_option maxHeartbeats 4000000 in
theorem rorder_calls (a b : Vl) (w : World) (ha : a.s.size ≤ reachBytes) (hb : b.s.size ≤ reachBytes) : Calls Tryd.prog 40 #[a.v, b.v] w fun e w' => e = .returned (.int .i64 (ordV a b)) ∧ Below w.heap.size w w' := by
  obtain ⟨k, n, s⟩ := a
  obtain ⟨k', n', s'⟩ := b
  unfold Vl.v ordV
  dsimp only at ha hb ⊢
  have HL := Lib.hid (fun w => less_calls s s' w ha hb)
  clear ha hb
  have b4 := Blk.new w #[.int .u8 k, .int .i64 n, .string s] 33
  have b5 := Blk.newAt (w.alloc (.cells #[.int .u8 k, .int .i64 n, .string s] 33)) #[.int .u8 k', .int .i64 n', .string s'] 33 (g := w.heap.size + 1) (by simp)
  have b6 := b4.alloc (.cells #[.int .u8 k', .int .i64 n', .string s'] 33)
  have hB := below_two w (.cells #[.int .u8 k, .int .i64 n, .string s] 33) (.cells #[.int .u8 k', .int .i64 n', .string s'] 33)
  have HBl := Lib.hid hB
  clear hB
  obtain ⟨x0, x1, x2⟩ := b6.cells3
  obtain ⟨y0, y1, y2⟩ := b5.cells3
  clear b4 b5 b6
  by_cases hk : k = 0
  · rw [if_pos hk]
    by_cases hk' : k' = 0
    · rw [if_pos hk']
      subst hk hk'
      unfold cmpI
      by_cases h1 : n < n'
      · rw [if_pos h1]
        have d1 : decide (n < n') = true := by simpa using h1
        go_enter Tryd.func40, Tryd.ntmps40
        go_wp2
        go_ret
        exact ⟨rfl, HBl.out⟩
      · rw [if_neg h1]
        have d1 : decide (n < n') = false := by simpa using h1
        by_cases h2 : n' < n
        · rw [if_pos h2]
          have d2 : decide (n' < n) = true := by simpa using h2
          go_enter Tryd.func40, Tryd.ntmps40
          go_wp2
          go_ret
          exact ⟨rfl, HBl.out⟩
        · rw [if_neg h2]
          have d2 : decide (n' < n) = false := by simpa using h2
          go_enter Tryd.func40, Tryd.ntmps40
          go_wp2
          go_ret
          exact ⟨rfl, HBl.out⟩
    · rw [if_neg hk']
      subst hk
      have e' : (k' == 0) = false := by simpa using hk'
      go_enter Tryd.func40, Tryd.ntmps40
      go_wp2
      go_ret
      exact ⟨rfl, HBl.out⟩
  · rw [if_neg hk]
    have e : (k == 0) = false := by simpa using hk
    by_cases hk' : k' = 0
    · rw [if_pos hk']
      subst hk'
      go_enter Tryd.func40, Tryd.ntmps40
      go_wp2
      go_ret
      exact ⟨rfl, HBl.out⟩
    · rw [if_neg hk']
      have e' : (k' == 0) = false := by simpa using hk'
      obtain ⟨r, hr⟩ : ∃ r, r = cmpT (sl s) (sl s') := ⟨_, rfl⟩
      rw [← hr]
      unfold cmpT at hr
      by_cases h1 : ltT (sl s) (sl s') = true
      · rw [h1] at HL
        have HR := Lib.hid (show r = -1 by rw [hr, if_pos h1])
        clear hr h1
        go_enter Tryd.func40, Tryd.ntmps40
        go_wp2_with fail
        refine (HL.out _).mono ?_
        rintro e w' ⟨rfl, q, rfl⟩
        dsimp only
        go_wp2
        go_ret
        exact ⟨by rw [HR.out]; rfl, HBl.out.trans ⟨rfl, rfl, rfl, Nat.le_refl _, fun _ _ => rfl⟩⟩
      · have h1' : ltT (sl s) (sl s') = false := by simpa using h1
        rw [h1'] at HL
        by_cases h2 : s = s'
        · subst h2
          have HR := Lib.hid (show r = 0 by rw [hr, if_neg h1, if_neg h1])
          clear hr h1 h1'
          go_enter Tryd.func40, Tryd.ntmps40
          go_wp2_with fail
          refine (HL.out _).mono ?_
          rintro e w' ⟨rfl, q, rfl⟩
          dsimp only
          go_wp2
          go_ret
          exact ⟨by rw [HR.out]; rfl, HBl.out.trans ⟨rfl, rfl, rfl, Nat.le_refl _, fun _ _ => rfl⟩⟩
        · have h5 : ltT (sl s') (sl s) = true := by
            rcases Bool.eq_false_or_eq_true (ltT (sl s') (sl s)) with h | h
            · exact h
            · exact absurd (sl_inj (ltT_total _ _ h1' h)) h2
          have HR := Lib.hid (show r = 1 by rw [hr, if_neg h1, if_pos h5])
          have hne := toList_beq_false h2
          clear hr h1 h1' h5 h2
          go_enter Tryd.func40, Tryd.ntmps40
          go_wp2_with fail
          refine (HL.out _).mono ?_
          rintro e w' ⟨rfl, q, rfl⟩
          dsimp only
          go_wp2
          go_ret
          exact ⟨by rw [HR.out]; rfl, HBl.out.trans ⟨rfl, rfl, rfl, Nat.le_refl _, fun _ _ => rfl⟩⟩
theorem same_calls (a b : Vl) (w : World) (ha : a.s.size ≤ reachBytes) (hb : b.s.size ≤ reachBytes) : Calls Tryd.prog 25 #[a.v, b.v] w fun e w' => e = .returned (.bool (decide (ordV a b = 0))) ∧ Below w.heap.size w w' := by
  have HO := Lib.hid (fun W => rorder_calls a b W ha hb)
  clear ha hb
  generalize ordV a b = r at *
  obtain ⟨k, n, s⟩ := a
  obtain ⟨k', n', s'⟩ := b
  unfold Vl.v at *
  dsimp only at *
  have b4 := Blk.new w #[.int .u8 k, .int .i64 n, .string s] 33
  have b5 := Blk.newAt (w.alloc (.cells #[.int .u8 k, .int .i64 n, .string s] 33)) #[.int .u8 k', .int .i64 n', .string s'] 33 (g := w.heap.size + 1) (by simp)
  have b6 := b4.alloc (.cells #[.int .u8 k', .int .i64 n', .string s'] 33)
  have hB := below_two w (.cells #[.int .u8 k, .int .i64 n, .string s] 33) (.cells #[.int .u8 k', .int .i64 n', .string s'] 33)
  have HBl := Lib.hid hB
  clear hB
  obtain ⟨x0, x1, x2⟩ := b6.cells3
  obtain ⟨y0, y1, y2⟩ := b5.cells3
  clear b4 b5 b6
  go_enter Tryd.func25, Tryd.ntmps25
  go_wp2_with fail
  refine (HO.out _).mono ?_
  rintro e w' ⟨rfl, hb⟩
  have HB := Lib.hid hb
  clear hb
  dsimp only
  go_wp2
  go_ret
  exact ⟨by first | rfl | (congr 2; exact Bool.eq_iff_iff.2 (by simp)), HBl.out.trans (HB.out.mono HBl.out.size)⟩
end Go.Proofs.YtjignlemahdoeaaDoor
