/-
  Contracts of the program's inLine, isLetter, isDigit and after. Conditions: a text of at most 1,000,000 bytes.
  What it means that tokens lie in memory; blocks of a token's six cells. Conditions: as in the premises.
  Contracts of the program's val.Int, val.Text and readNumber. Conditions: a text of at most 1,000,000 bytes; strconv.ErrRange reads as an error.
  The statement 'for x := range seq' over an iterator that makes memory as it goes and whose values point into it: a law of any program. The iterator is told what the body keeps of its own memory, and that all blocks that are not the body's own (C) stand as they stood, those among them that the iterator makes as it goes; the body is told what the value that it is handed reads as. Conditions: as in the premises.
  A strings.Builder in a block of its own, and its writing methods at this program: copyCheck, WriteByte, WriteString, String. Conditions: the new length takes at most 2^47 bytes.
  Contract of the program's readText: a string in marks. Conditions: a text of at most 1,000,000 bytes.
  Contract of the document's Number of layer 8 (a text as a number). Condition: the text is as long as an input can be.
-/
import Derived.RangeFuncNested
import Derived.RangeFuncLeaves
import Derived.RangeFuncCalls
import Derived.Lib.FrozenHead2
import Derived.Lib.OthersKept
import Derived.Maps.AppendAt
import Derived.Test.YtjignlemahdoeaaDoorC4
namespace Go.Proofs.YtjignlemahdoeaaDoor
open Go.ChangeShapes Go.WideShapes Go.ChangeAt Go.RowKit
set_option linter.unusedVariables false
set_option maxRecDepth 20000
def lineI (c : Int) : Bool := decide (c ≠ 10)
theorem isletter_calls (c : Int) (w : World) : Calls Tryd.prog 34 #[.int .u8 c] w fun q w' => q = .returned (.bool (letI' c)) ∧ w' = w := by
  by_cases h1 : 97 ≤ c
  · by_cases h2 : c ≤ 122
    · have HR := Lib.hid (show letI' c = true by unfold letI'; simp; omega)
      go_enter Tryd.func34, Tryd.ntmps34
      go_wp2
      go_ret
      exact ⟨by rw [HR.out]; rfl, rfl⟩
    · have HR := Lib.hid (show letI' c = false by unfold letI'; simp; omega)
      have d2 : decide (c ≤ 122) = false := decide_eq_false h2
      go_enter Tryd.func34, Tryd.ntmps34
      go_wp2
      go_ret
      exact ⟨by rw [HR.out]; rfl, rfl⟩
  · have HR := Lib.hid (show letI' c = false by unfold letI'; simp; omega)
    have d1 : decide (97 ≤ c) = false := decide_eq_false h1
    go_enter Tryd.func34, Tryd.ntmps34
    go_wp2
    go_ret
    exact ⟨by rw [HR.out]; rfl, rfl⟩
theorem isdigit_calls (c : Int) (w : World) : Calls Tryd.prog 36 #[.int .u8 c] w fun q w' => q = .returned (.bool (digI c)) ∧ w' = w := by
  by_cases h1 : 48 ≤ c
  · by_cases h2 : c ≤ 57
    · have HR := Lib.hid (show digI c = true by unfold digI; simp; omega)
      go_enter Tryd.func36, Tryd.ntmps36
      go_wp2
      go_ret
      exact ⟨by rw [HR.out]; rfl, rfl⟩
    · have HR := Lib.hid (show digI c = false by unfold digI; simp; omega)
      have d2 : decide (c ≤ 57) = false := decide_eq_false h2
      go_enter Tryd.func36, Tryd.ntmps36
      go_wp2
      go_ret
      exact ⟨by rw [HR.out]; rfl, rfl⟩
  · have HR := Lib.hid (show digI c = false by unfold digI; simp; omega)
    have d1 : decide (48 ≤ c) = false := decide_eq_false h1
    go_enter Tryd.func36, Tryd.ntmps36
    go_wp2
    go_ret
    exact ⟨by rw [HR.out]; rfl, rfl⟩
theorem inline_calls (c : Int) (w : World) : Calls Tryd.prog 19 #[.int .u8 c] w fun q w' => q = .returned (.bool (lineI c)) ∧ w' = w := by
  by_cases h1 : c = 10
  · have HR := Lib.hid (show lineI c = false by unfold lineI; simp; omega)
    have d1 : (c != 10) = false := by simpa using h1
    clear h1
    go_enter Tryd.func19, Tryd.ntmps19
    go_wp2
    go_ret
    exact ⟨by rw [HR.out]; rfl, rfl⟩
  · have HR := Lib.hid (show lineI c = true by unfold lineI; simp; omega)
    have d1 : (c != 10) = true := by simpa using h1
    go_enter Tryd.func19, Tryd.ntmps19
    go_wp2
    go_ret
    exact ⟨by rw [HR.out]; rfl, rfl⟩
theorem past_next {p : Int → Bool} {l : List Int} {j : Nat} {x : Int} (h : l[j]? = some x) (hp : p x = true) : past p l j = past p l (j + 1) := by
  have hj : j < l.length := by
    rcases Nat.lt_or_ge j l.length with h1 | h1
    · exact h1
    · rw [List.getElem?_eq_none h1] at h; cases h
  have e := List.drop_eq_getElem_cons hj
  rw [List.getElem?_eq_getElem hj] at h
  injection h with h
  unfold past
  rw [e, List.takeWhile_cons, h, hp]
  simp only [if_true, List.length_cons]
  omega
theorem past_stop {p : Int → Bool} {l : List Int} {j : Nat} (h : ∀ x, l[j]? = some x → p x = false) : past p l j = j := by
  unfold past
  rcases Nat.lt_or_ge j l.length with h1 | h1
  · rw [List.drop_eq_getElem_cons h1, List.takeWhile_cons, h _ (List.getElem?_eq_getElem h1)]; simp
  · rw [List.drop_of_length_le h1]; simp
theorem past_ge (p : Int → Bool) (l : List Int) (j : Nat) : j ≤ past p l j := by unfold past; omega
theorem past_le (p : Int → Bool) (l : List Int) (j : Nat) (h : j ≤ l.length) : past p l j ≤ l.length := by
  unfold past
  have := (l.drop j).takeWhile_sublist (p := p)
  have h2 := this.length_le
  rw [List.length_drop] at h2
  omega
def RelAf (p : Int → Bool) (s : ByteArray) (m : Nat) (W : World) (a : Value) (wx : World) : Prop := ∃ j : Nat, a = .int .i64 j ∧ j ≤ s.size ∧ Hid (m = past p (sl s) j) ∧ wx = W
set_option maxHeartbeats 1000000 in
theorem after_inline_calls (s : ByteArray) (hs : s.size ≤ 1000000) (k : Nat) (hk : k ≤ s.size) (w : World) : Calls Tryd.prog 18 #[.string s, .int .i64 k, .func (.func 19) #[] #[]] w fun q w' => q = .returned (.int .i64 (past lineI (sl s) k : Nat)) ∧ w' = w := by
  obtain ⟨m, hm⟩ : ∃ m, m = past lineI (sl s) k := ⟨_, rfl⟩
  have HM := Lib.hid hm
  rw [← hm]
  clear hm
  go_enter Tryd.func18, Tryd.ntmps18
  go_wp2
  go_loopw [1] (RelAf lineI s m w) (fun a _ => s.size + 1 - (intOf a).toNat)
  case atStart => exact ⟨k, rfl, hk, HM, rfl⟩
  case round =>
    obtain ⟨j, rfl, hj, hmj, hw⟩ := hrel
    obtain rfl := hw.symm
    have HMJ := Lib.hid hmj.out
    clear hmj
    by_cases hlt : j < s.size
    · have h1 : (j : Int) < (s.size : Int) := by omega
      have HAT := Lib.hid (sl_at s j hlt)
      have HC := Lib.hid (fun W => inline_calls ((s[j].toNat : Nat) : Int) W)
      obtain ⟨b, hb⟩ : ∃ b, b = lineI ((s[j].toNat : Nat) : Int) := ⟨_, rfl⟩
      rw [← hb] at HC
      cases b with
      | true =>
        have HN := Lib.hid (HMJ.out.trans (past_next HAT.out hb.symm))
        clear hb
        go_wp2_with (go_at_call 19; refine (HC.out _).mono ?_; rintro e' w1 ⟨rfl, h9⟩; obtain rfl := h9.symm)
        go_roundw
        case rel => exact ⟨j + 1, by go_num, by omega, HN, rfl⟩
        case measure => simp [intOf]; omega
      | false =>
        have HN := Lib.hid (HMJ.out.trans (past_stop (fun x hx => by rw [HAT.out] at hx; injection hx with hx; rw [← hx]; exact hb.symm)))
        clear hb
        go_wp2_with (go_at_call 19; refine (HC.out _).mono ?_; rintro e' w1 ⟨rfl, h9⟩; obtain rfl := h9.symm)
        go_ret
        exact ⟨by rw [HN.out]; rfl, rfl⟩
    · have h1 : decide ((j : Int) < (s.size : Int)) = false := decide_eq_false (by omega)
      have HN := Lib.hid (HMJ.out.trans (past_stop (fun x hx => by rw [List.getElem?_eq_none (by rw [sl_length]; omega)] at hx; cases hx)))
      go_wp2
      go_ret
      exact ⟨by rw [HN.out]; rfl, rfl⟩
set_option maxHeartbeats 1000000 in
theorem after_isletter_calls (s : ByteArray) (hs : s.size ≤ 1000000) (k : Nat) (hk : k ≤ s.size) (w : World) : Calls Tryd.prog 18 #[.string s, .int .i64 k, .func (.func 34) #[] #[]] w fun q w' => q = .returned (.int .i64 (past letI' (sl s) k : Nat)) ∧ w' = w := by
  obtain ⟨m, hm⟩ : ∃ m, m = past letI' (sl s) k := ⟨_, rfl⟩
  have HM := Lib.hid hm
  rw [← hm]
  clear hm
  go_enter Tryd.func18, Tryd.ntmps18
  go_wp2
  go_loopw [1] (RelAf letI' s m w) (fun a _ => s.size + 1 - (intOf a).toNat)
  case atStart => exact ⟨k, rfl, hk, HM, rfl⟩
  case round =>
    obtain ⟨j, rfl, hj, hmj, hw⟩ := hrel
    obtain rfl := hw.symm
    have HMJ := Lib.hid hmj.out
    clear hmj
    by_cases hlt : j < s.size
    · have h1 : (j : Int) < (s.size : Int) := by omega
      have HAT := Lib.hid (sl_at s j hlt)
      have HC := Lib.hid (fun W => isletter_calls ((s[j].toNat : Nat) : Int) W)
      obtain ⟨b, hb⟩ : ∃ b, b = letI' ((s[j].toNat : Nat) : Int) := ⟨_, rfl⟩
      rw [← hb] at HC
      cases b with
      | true =>
        have HN := Lib.hid (HMJ.out.trans (past_next HAT.out hb.symm))
        clear hb
        go_wp2_with (go_at_call 34; refine (HC.out _).mono ?_; rintro e' w1 ⟨rfl, h9⟩; obtain rfl := h9.symm)
        go_roundw
        case rel => exact ⟨j + 1, by go_num, by omega, HN, rfl⟩
        case measure => simp [intOf]; omega
      | false =>
        have HN := Lib.hid (HMJ.out.trans (past_stop (fun x hx => by rw [HAT.out] at hx; injection hx with hx; rw [← hx]; exact hb.symm)))
        clear hb
        go_wp2_with (go_at_call 34; refine (HC.out _).mono ?_; rintro e' w1 ⟨rfl, h9⟩; obtain rfl := h9.symm)
        go_ret
        exact ⟨by rw [HN.out]; rfl, rfl⟩
    · have h1 : decide ((j : Int) < (s.size : Int)) = false := decide_eq_false (by omega)
      have HN := Lib.hid (HMJ.out.trans (past_stop (fun x hx => by rw [List.getElem?_eq_none (by rw [sl_length]; omega)] at hx; cases hx)))
      go_wp2
      go_ret
      exact ⟨by rw [HN.out]; rfl, rfl⟩
set_option maxHeartbeats 1000000 in
theorem after_isdigit_calls (s : ByteArray) (hs : s.size ≤ 1000000) (k : Nat) (hk : k ≤ s.size) (w : World) : Calls Tryd.prog 18 #[.string s, .int .i64 k, .func (.func 36) #[] #[]] w fun q w' => q = .returned (.int .i64 (past digI (sl s) k : Nat)) ∧ w' = w := by
  obtain ⟨m, hm⟩ : ∃ m, m = past digI (sl s) k := ⟨_, rfl⟩
  have HM := Lib.hid hm
  rw [← hm]
  clear hm
  go_enter Tryd.func18, Tryd.ntmps18
  go_wp2
  go_loopw [1] (RelAf digI s m w) (fun a _ => s.size + 1 - (intOf a).toNat)
  case atStart => exact ⟨k, rfl, hk, HM, rfl⟩
  case round =>
    obtain ⟨j, rfl, hj, hmj, hw⟩ := hrel
    obtain rfl := hw.symm
    have HMJ := Lib.hid hmj.out
    clear hmj
    by_cases hlt : j < s.size
    · have h1 : (j : Int) < (s.size : Int) := by omega
      have HAT := Lib.hid (sl_at s j hlt)
      have HC := Lib.hid (fun W => isdigit_calls ((s[j].toNat : Nat) : Int) W)
      obtain ⟨b, hb⟩ : ∃ b, b = digI ((s[j].toNat : Nat) : Int) := ⟨_, rfl⟩
      rw [← hb] at HC
      cases b with
      | true =>
        have HN := Lib.hid (HMJ.out.trans (past_next HAT.out hb.symm))
        clear hb
        go_wp2_with (go_at_call 36; refine (HC.out _).mono ?_; rintro e' w1 ⟨rfl, h9⟩; obtain rfl := h9.symm)
        go_roundw
        case rel => exact ⟨j + 1, by go_num, by omega, HN, rfl⟩
        case measure => simp [intOf]; omega
      | false =>
        have HN := Lib.hid (HMJ.out.trans (past_stop (fun x hx => by rw [HAT.out] at hx; injection hx with hx; rw [← hx]; exact hb.symm)))
        clear hb
        go_wp2_with (go_at_call 36; refine (HC.out _).mono ?_; rintro e' w1 ⟨rfl, h9⟩; obtain rfl := h9.symm)
        go_ret
        exact ⟨by rw [HN.out]; rfl, rfl⟩
    · have h1 : decide ((j : Int) < (s.size : Int)) = false := decide_eq_false (by omega)
      have HN := Lib.hid (HMJ.out.trans (past_stop (fun x hx => by rw [List.getElem?_eq_none (by rw [sl_length]; omega)] at hx; cases hx)))
      go_wp2
      go_ret
      exact ⟨by rw [HN.out]; rfl, rfl⟩
end Go.Proofs.YtjignlemahdoeaaDoor
namespace Go.Proofs.YtjignlemahdoeaaDoor
open Go.ChangeShapes Go.WideShapes Go.ChangeAt Go.RowKit
set_option linter.unusedVariables false
set_option maxRecDepth 20000
/-- A token's cells. -/
def enT (t : Tk) : List Value := [.int .u8 t.k, .string (str t.nm), .int .u8 t.v.k, .int .i64 t.v.n, .string t.v.s, .int .i64 t.i]
def Tk.v' (t : Tk) : Value := .agg #[.int .u8 t.k, .string (str t.nm), .agg #[.int .u8 t.v.k, .int .i64 t.v.n, .string t.v.s], .int .i64 t.i]
theorem elT : El 35 6 64 (.agg #[.int .u8 0, .string ⟨#[]⟩, .int .u8 0, .int .i64 0, .string ⟨#[]⟩, .int .i64 0]) enT where
  info := by kernel_rfl
  zero := rfl
  pos := by decide
  len := fun _ => rfl
  one := fun x u hu => by
    simp only [enT, List.mem_cons, List.not_mem_nil, or_false] at hu
    rcases hu with rfl | rfl | rfl | rfl | rfl | rfl <;> rfl
theorem Blk.cells6 {W : World} {g : Nat} {a b c d e f : Value} {t : TypeId} (h : Blk W g #[a, b, c, d, e, f] t) : W.cell? ⟨g, 0, none⟩ = some a ∧ W.cell? ⟨g, 1, none⟩ = some b ∧ W.cell? ⟨g, 2, none⟩ = some c ∧ W.cell? ⟨g, 3, none⟩ = some d ∧ W.cell? ⟨g, 4, none⟩ = some e ∧ W.cell? ⟨g, 5, none⟩ = some f := ⟨h.cell 0, h.cell 1, h.cell 2, h.cell 3, h.cell 4, h.cell 5⟩
theorem Blk.free6 {W : World} {g : Nat} {cs : Array Value} {t : TypeId} (h : Blk W g cs t) : W.frozen? ⟨g, 0, none⟩ = false ∧ W.frozen? ⟨g, 1, none⟩ = false ∧ W.frozen? ⟨g, 2, none⟩ = false ∧ W.frozen? ⟨g, 3, none⟩ = false ∧ W.frozen? ⟨g, 4, none⟩ = false ∧ W.frozen? ⟨g, 5, none⟩ = false := ⟨h.free 0, h.free 1, h.free 2, h.free 3, h.free 4, h.free 5⟩
theorem lv35 {W : World} {g : Nat} {a b c d e f : Value} (h : Blk W g #[a, b, c, d, e, f] 35) : (loadVar 35 ⟨g, 0, none⟩).run Tryd.prog W = .ok (.agg #[a, b, c, d, e, f]) W := by
  have hl := run_loadCells_list (P := Tryd.prog) W ⟨g, 0, none⟩ [a, b, c, d, e, f] (fun j u hu => by
    have e1 : (⟨g, 0, none⟩ : Addr).add j = ⟨g, j, none⟩ := by
      unfold Addr.add
      split
      · rename_i hz; rw [hz]
      · simp
    rw [e1, h.cell j, ← Array.getElem?_toList]
    exact hu)
  simp at hl
  simp [loadVar, isAgg, underlying, Tryd.underlying35, hl]
/-- A piece of a string. -/
theorem cut_piece (s : ByteArray) (i j : Nat) (h1 : i ≤ j) (h2 : j ≤ s.size) (w : World) : (Instr.slice 9 (.string s) (some (.int .i64 (i : Int))) (some (.int .i64 (j : Int))) none).run Tryd.prog w = .ok (.string (str (((sl s).drop i).take (j - i)))) w := by
  rw [run_slice_string w 9 s .i64 .i64 (i : Int) (j : Int) Tryd.underlying9 (by omega) (by omega) (by omega)]
  congr 2
  apply ByteArray.ext
  apply Array.toList_inj.1
  rw [str_data, ByteArray.data_extract, Array.toList_extract]
  simp only [List.extract, Int.toNat_natCast]
  unfold sl
  rw [← List.map_drop, ← List.map_take, List.map_map]
  have : ((fun n => UInt8.ofNat n.toNat) ∘ fun b : UInt8 => (b.toNat : Int)) = id := by funext b; simp
  rw [this, List.map_id]
theorem piece_num (l : List Int) (hb : IsB l) : numD (str l).data.toList = numI l := by
  unfold numI; rw [str_data]
end Go.Proofs.YtjignlemahdoeaaDoor
namespace Go.Proofs.YtjignlemahdoeaaDoor
open Go.ChangeShapes Go.WideShapes Go.ChangeAt Go.RowKit
set_option linter.unusedVariables false
set_option maxRecDepth 20000
theorem int_calls (n : Int) (w : World) : Calls Tryd.prog 45 #[.int .i64 n] w fun e w' => e = .returned (Vl.v ⟨0, n, ⟨#[]⟩⟩) ∧ Below w.heap.size w w' := by
  have b5 := Blk.new w #[.int .u8 0, .int .i64 0, .string ⟨#[]⟩] 33
  obtain ⟨x0, x1, x2⟩ := b5.cells3
  obtain ⟨z0, z1, z2⟩ := b5.free3
  clear b5
  unfold Vl.v
  dsimp only
  go_enter Tryd.func45, Tryd.ntmps45
  go_wp2
  exact bodyPost_ret (results_cell1 rfl _ _ _ _ _ rfl (lv23 (Blk.newAt _ _ _ rfl))) rfl ⟨rfl, below_one w _⟩
theorem text1_calls (s : ByteArray) (w : World) : Calls Tryd.prog 49 #[.string s] w fun e w' => e = .returned (Vl.v ⟨1, 0, s⟩) ∧ Below w.heap.size w w' := by
  have b5 := Blk.new w #[.int .u8 0, .int .i64 0, .string ⟨#[]⟩] 33
  obtain ⟨x0, x1, x2⟩ := b5.cells3
  obtain ⟨z0, z1, z2⟩ := b5.free3
  clear b5
  unfold Vl.v
  dsimp only
  go_enter Tryd.func49, Tryd.ntmps49
  go_wp2
  exact bodyPost_ret (results_cell1 rfl _ _ _ _ _ rfl (lv23 (Blk.newAt _ _ _ rfl))) rfl ⟨rfl, below_one w _⟩
set_option maxHeartbeats 2000000 in
theorem readnumber_calls (s : ByteArray) (hs : s.size ≤ 1000000) (k : Nat) (hk : k < s.size) (w : World) (hv : ErrV w) : Calls Tryd.prog 37 #[.string s, .int .i64 k] w fun q w' => q = .returned (.tuple #[Vl.v ⟨0, (numI (((sl s).drop k).take (past digI (sl s) (k + 1) - k))).1, ⟨#[]⟩⟩, .int .i64 (past digI (sl s) (k + 1) : Nat), .int .i64 (numI (((sl s).drop k).take (past digI (sl s) (k + 1) - k))).2]) ∧ Below w.heap.size w w' := by
  have hB1 := below_one w (.cells #[.int .u8 0, .int .i64 0, .string ⟨#[]⟩] 33)
  have bx := Blk.new w #[.int .u8 0, .int .i64 0, .string ⟨#[]⟩] 33
  have hm1 := past_ge digI (sl s) (k + 1)
  have hm2 := past_le digI (sl s) (k + 1) (by rw [sl_length]; omega)
  rw [sl_length] at hm2
  have HA := Lib.hid (fun W => after_isdigit_calls s hs (k + 1) (by omega) W)
  rw [show ((k + 1 : Nat) : Int) = (k : Int) + 1 by omega] at HA
  obtain ⟨m, hm⟩ : ∃ m, m = past digI (sl s) (k + 1) := ⟨_, rfl⟩
  rw [← hm] at hm1 hm2 HA
  rw [← hm]
  clear hm
  have HCUT := Lib.hid (fun W => cut_piece s k m (by omega) hm2 W)
  have hb2 : IsB (((sl s).drop k).take (m - k)) := fun x hx => sl_bytes s x (List.mem_of_mem_drop (List.mem_of_mem_take hx))
  have hpz : (str (((sl s).drop k).take (m - k))).size ≤ 1000000 := by
    rw [str_size, List.length_take, List.length_drop, sl_length]; omega
  have HN := Lib.hid (fun W (hW : ErrV W) => number_calls (str (((sl s).drop k).take (m - k))) (by unfold reachBytes; omega) W hW)
  rw [piece_num _ hb2] at HN
  generalize str (((sl s).drop k).take (m - k)) = t at *
  generalize numI (((sl s).drop k).take (m - k)) = g at *
  obtain ⟨n, e⟩ := g
  dsimp only at HN ⊢
  have HI := Lib.hid (int_calls n)
  unfold Vl.v at HI
  dsimp only at HI
  have HV := Lib.hid (show ErrV (w.alloc (.cells #[.int .u8 0, .int .i64 0, .string ⟨#[]⟩] 33)) by
    obtain ⟨tp, p, hvv⟩ := hv
    exact ⟨tp, p, fun V hV => hvv V (hB1.trans (hV.mono hB1.size))⟩)
  have HB1 := Lib.hid hB1
  have HX := Lib.hid bx
  unfold Vl.v
  dsimp only
  clear hB1 bx hb2 hpz hv
  go_enter Tryd.func37, Tryd.ntmps37
  go_wp2_with (go_at_call 18; refine (HA.out _).mono ?_; rintro e' w1 ⟨rfl, h9⟩; obtain rfl := h9.symm; have KC := HCUT.out)
  have KC := HCUT.out
  go_wp2_with fail
  refine (HN.out _ HV.out).mono ?_
  rintro e' w1 ⟨rfl, hb1⟩
  have b1 := HX.out.belowAll hb1
  have HX1 := Lib.hid b1
  have HC1 := Lib.hid (HB1.out.trans (hb1.mono HB1.out.size))
  clear b1 hb1
  dsimp only
  go_wp2_with fail
  refine (HI.out _).mono ?_
  rintro e' w2 ⟨rfl, hb2⟩
  have b2 := HX1.out.belowAll hb2
  obtain ⟨y0, y1, y2⟩ := b2.cells3
  obtain ⟨z0, z1, z2⟩ := b2.free3
  have HX2 := Lib.hid b2
  have HC2 := Lib.hid (HC1.out.trans (hb2.mono HC1.out.size))
  clear b2 hb2
  dsimp only
  go_wp2
  exact bodyPost_ret (results_cell_tmp2 rfl _ _ _ _ _ rfl (lv23 (HX2.out.set3 _ _ _))) rfl ⟨rfl, below_set3 HC2.out (Nat.le_refl _) _ _ _⟩
end Go.Proofs.YtjignlemahdoeaaDoor
namespace Go.Proofs.YtjignlemahdoeaaDoor
open Go.RowKit
set_option linter.unusedVariables false

/-- All cells lie as they lay, and so does all that lay below n. -/
structure Stays (n : Nat) (W W' : World) : Prop where
  below : Below n W W'
  cells : ∀ (k : Nat) (o : Obj), W.heap[k]? = some o → o.isCells = true → W'.heap[k]? = some o

theorem Stays.refl (n : Nat) (W : World) : Stays n W W := ⟨Below.refl _ _, fun _ _ h _ => h⟩
theorem Stays.trans {n : Nat} {A B C : World} (h : Stays n A B) (k : Stays n B C) : Stays n A C := ⟨h.below.trans k.below, fun i o hi ho => k.cells i o (h.cells i o hi ho) ho⟩
theorem Stays.of_below {n : Nat} {W W' : World} (h : Below W.heap.size W W') (hn : n ≤ W.heap.size) : Stays n W W' :=
  ⟨h.mono hn, fun k o hk _ => (h.block k (Array.getElem?_eq_some_iff.1 hk).1).trans hk⟩
theorem Stays.putObj {n : Nat} {W : World} {l : Nat} {o : Obj} (o' : Obj) (h : W.heap[l]? = some o) (ho : o.isCells = false) (hl : n ≤ l) : Stays n W (W.putObj l o') :=
  ⟨(Below.refl n W).grown (grownBy_putObj' W l o') (by have := (Array.getElem?_eq_some_iff.1 h).1; omega) (fun k e => by cases e; omega), fun k o2 hk hc => by
    by_cases e : k = l
    · subst e; rw [h] at hk; cases hk; rw [ho] at hc; cases hc
    · exact (World.putObj_heap_other e).trans hk⟩

variable {F : Fence} {n : Nat} {P : Program}

/-- All blocks that lie in A and are not C's stand in B as they stood, and are not C's there. -/
def KpC (C : World → Nat → Prop) (A B : World) : Prop := A.heap.size ≤ B.heap.size ∧ ∀ k, k < A.heap.size → ¬ C A k → B.heap[k]? = A.heap[k]? ∧ ¬ C B k
theorem KpC.refl (C : World → Nat → Prop) (A : World) : KpC C A A := ⟨Nat.le_refl _, fun k _ h => ⟨rfl, h⟩⟩
theorem KpC.trans {C : World → Nat → Prop} {A B D : World} (h : KpC C A B) (g : KpC C B D) : KpC C A D :=
  ⟨Nat.le_trans h.1 g.1, fun k hk hc => by
    obtain ⟨h1, h2⟩ := h.2 k hk hc
    obtain ⟨g1, g2⟩ := g.2 k (Nat.lt_of_lt_of_le hk h.1) h2
    exact ⟨g1.trans h1, g2⟩⟩
theorem KpC.of_below {C : World → Nat → Prop} {A B : World} (hb : Below A.heap.size A B) (hC : ∀ k, C B k → k < A.heap.size ∧ C A k) : KpC C A B :=
  ⟨hb.size, fun k hk hc => ⟨hb.block k hk, fun h => hc (hC k h).2⟩⟩

/-- What an iterator owes: for every loop body. J: between two rounds; Jx: a round has said no more; Kq: what the rounds keep; Fx: what is known of a value that is handed over; C: the blocks that the rounds may write. -/
def SeqK {α : Type} (F : Fence) (n : Nat) (P : Program) (g : Nat) (lb : Array Value) (encs : α → Array Value) (Kq : List α → World → Prop) (Fx : List α → α → World → Prop) (S Sp : List α → Prop) (w : World) : Prop :=
  ∀ (l : Nat) (C : World → Nat → Prop) (J Jx : List α → World → Prop) (W : World), Below w.heap.size w W →
    (∀ pre A B, Below A.heap.size A B → J pre A → J pre B) → (∀ pre A B, Below A.heap.size A B → Jx pre A → Jx pre B) → (∀ pre A, J pre A → Kq pre A) →
    (∀ pre A B k, J pre A → Below A.heap.size A B → C B k → k < A.heap.size ∧ C A k) →
    (∀ pre x W1, J pre W1 → Fx pre x W1 → YieldAt F (n - 1) P l (encs x) W1 fun e W' => (e = .returned (.bool true) ∧ J (pre ++ [x]) W' ∧ KpC C W1 W') ∨ (e = .returned (.bool false) ∧ Jx (pre ++ [x]) W')) →
    J [] W →
    CallsIn F n P g (#[.func (.yield l) #[] #[]] ++ lb) W fun e W' => (∃ v, e = .returned v) ∧ ((∃ xs, S xs ∧ J xs W') ∨ (∃ pre, Sp pre ∧ Jx pre W'))

/-- How the body of a round may be left. -/
def ownPostC {α : Type} (C : World → Nat → Prop) (I : List α → World → Prop) (Ix : Code → List α → World → Prop) (xs : List α) (W : World) : Exit → Act → World → Prop
  | .normal, _, W' => KeepsOthers W W' ∧ KpC C W W' ∧ I xs W'
  | .ret, _, W' => KeepsOthers W W' ∧ Ix .ret xs W'
  | .exit id, _, W' => KeepsOthers W W' ∧ Ix (.exit id) xs W'
  | .goto t, _, W' => KeepsOthers W W' ∧ Ix (.goto t) xs W'
  | .panic _, _, _ => False
  | .outgrown, _, _ => False

/-- Where the loop stands: the block of its deferred calls, and its record behind it. -/
structure Stands (d : Nat) (r : Loop) (W : World) : Prop where
  mark : W.heap[d]? = some (.deferred (some []))
  here : W.heap[d + 1]? = some (.loop r)

theorem Stands.lt {d : Nat} {r : Loop} {W : World} (h : Stands d r W) : d + 1 < W.heap.size := (Array.getElem?_eq_some_iff.1 h.here).1
theorem Stands.up {d : Nat} {r : Loop} {A B : World} (h : Stands d r A) (hb : Below A.heap.size A B) : Stands d r B :=
  ⟨(hb.block _ (Nat.lt_of_succ_lt h.lt)).trans h.mark, (hb.block _ h.lt).trans h.here⟩
theorem Stands.others {d : Nat} {r : Loop} {A B : World} (h : Stands d r A) (hk : KeepsOthers A B) : Stands d r B := ⟨hk.same _ _ h.mark rfl, hk.same _ _ h.here rfl⟩
theorem Stands.turn {d : Nat} {r : Loop} {W : World} (h : Stands d r W) (r' : Loop) : Stands d r' (W.putObj (d + 1) (.loop r')) :=
  ⟨(World.putObj_heap_other (Nat.ne_of_lt (Nat.lt_succ_self d))).trans h.mark, World.putObj_heap_same h.lt⟩
theorem Stands.stays {d m : Nat} {r : Loop} {W : World} (h : Stands d r W) (hm : m ≤ d) (r' : Loop) : Stays m W (W.putObj (d + 1) (.loop r')) := Stays.putObj _ h.here rfl (Nat.le_succ_of_le hm)
theorem Stands.new (w : World) (r : Loop) : Stands w.heap.size r ((w.alloc (.deferred (some []))).alloc (.loop r)) ∧ Below w.heap.size w ((w.alloc (.deferred (some []))).alloc (.loop r)) := by
  have h2 := World.alloc_heap_new (w.alloc (.deferred (some []))) (.loop r)
  rw [World.size_alloc] at h2
  exact ⟨⟨(Below.heap_alloc _ _ _ (by simp)).trans (World.alloc_heap_new w _), h2⟩, ((Below.refl _ w).alloc (Nat.le_refl _) _).alloc (by simp) _⟩

/-- The jump that a body's end leaves pending, if it is one that a round takes. -/
def leaves : Exit → Option (Option Code)
  | .normal => some none
  | .ret => some (some .ret)
  | .exit id => some (some (.exit id))
  | .goto t => some (some (.goto t))
  | _ => none

/-- The record behind a round. -/
def Loop.behind (r : Loop) (j : Option Code) : Loop := { r with state := if j.isNone then .ready else .done, pending := j }

/-- One round: the assignment, then the body, each walked once. -/
theorem one_round {d k : Nat} {r : Loop} {args : Array Value} {W : World} {R : Ending → World → Prop} {G : Act → World → Prop} (hr : r.state = .ready) (hF : F.fn r.fn) (hs : args.size = r.params.size) (hat : Stands d r W)
    (ha : r.assign.wpIn (F.inRound (d + 1)) k P (Exit.then G (fun _ _ _ => False)) { tmps := (r.params.zip args).foldl (fun t (p, v) => t.setIfInBounds p v) r.tmps, defers := [] } W)
    (hG : ∀ a A, G a A → Stands d r A ∧ r.body.wpIn (F.inRound (d + 1)) k P (fun e _ B => ∃ j, leaves e = some j ∧ Stands d { r with state := .busy } B ∧ R (.returned (.bool j.isNone)) (B.putObj (d + 1) (.loop (Loop.behind r j)))) a (A.putObj (d + 1) (.loop { r with state := .busy }))) :
    YieldAt F k P (d + 1) args W R := by
  refine ⟨_, _, _, _, run_yield hat.here hs, roundIn_of_wpIn hF (wpIn_mono ha ?_)⟩
  intro e a A h
  cases e with
  | normal =>
    obtain ⟨hst, hbody⟩ := hG a A h
    refine ⟨_, run_beginRound hst.here hr, wpIn_mono hbody ?_⟩
    rintro e _ B ⟨j, hj, hB, hR⟩
    have hend := run_endRound (P := P) j hB.here
    cases e with
    | normal => cases hj; exact ⟨_, _, hend, hR⟩
    | ret => cases hj; exact ⟨_, _, hend, hR⟩
    | exit id => cases hj; exact ⟨_, _, hend, hR⟩
    | goto t => cases hj; exact ⟨_, _, hend, hR⟩
    | panic c => cases hj
    | outgrown => cases hj
  | ret => exact h.elim
  | exit id => exact h.elim
  | goto t => exact h.elim
  | panic c => exact h.elim
  | outgrown => exact h.elim

/-- The statement: an invariant of the caller's cells, the assignment and the body walked once, what follows the loop. -/
theorem range_law {α : Type} {g : Operand} {ps : Array Tmp} {assign body : Code} {Q : Exit → Act → World → Prop} {a : Act} {w : World}
    (hro : F.round = none) (h1 : 1 ≤ n) {gf : Nat} {lb : Array Value} (hg : a.eval g = .func (.func gf) #[] lb) (hFg : F.fn gf) (eg : ∀ args w, (callFunc gf args).run P w = .ok (.enter gf args) w)
    {encs : α → Array Value} {Kq : List α → World → Prop} {Fx : List α → α → World → Prop} {S Sp : List α → Prop} (hseq : SeqK F (n - 1) P gf lb encs Kq Fx S Sp w) (hps : ∀ x, (encs x).size = ps.size)
    (m : Nat) (hm : m ≤ w.heap.size)
    (C : World → Nat → Prop) (I : List α → World → Prop) (Ix : Code → List α → World → Prop) (Ax : List α → α → Act → World → Prop)
    (hI : ∀ pre A B, Stays m A B → I pre A → I pre B) (hIx : ∀ c pre A B, Stays m A B → Ix c pre A → Ix c pre B) (hAx : ∀ pre x a' A B, Stays m A B → Ax pre x a' A → Ax pre x a' B) (hIK : ∀ pre A, I pre A → Kq pre A) (hCS : ∀ pre A B k, I pre A → Stays m A B → C B k → k < A.heap.size ∧ C A k) (h0 : I [] w)
    (hassign : ∀ (l : Nat) (pre : List α) (x : α) (W : World) (K : Act → World → Prop), I pre W → Fx pre x W → (∀ a' W', KeepsOthers W W' → KpC C W W' → I pre W' → Ax pre x a' W' → K a' W') →
      assign.wpIn (F.inRound l) (n - 1 - 1) P (Exit.then K (fun _ _ _ => False)) { tmps := (ps.zip (encs x)).foldl (fun t (p, v) => t.setIfInBounds p v) a.tmps, defers := [] } W)
    (hbody : ∀ (l : Nat) (pre : List α) (x : α) (a' : Act) (W : World), I pre W → Ax pre x a' W → body.wpIn (F.inRound l) (n - 1 - 1) P (ownPostC C I Ix (pre ++ [x]) W) a' W)
    (hdone : ∀ (D : Nat) (xs : List α) (W : World), w.heap.size ≤ D → S xs → I xs W → W.heap[D]? = some (.deferred (some [])) → Q .normal { a with defers := { target := .collected D, args := #[] } :: a.defers } W)
    (hstop : ∀ (D : Nat) (c : Code) (pre : List α) (W : World), w.heap.size ≤ D → Sp pre → Ix c pre W → W.heap[D]? = some (.deferred (some [])) → c.wpIn F n P Q { a with defers := { target := .collected D, args := #[] } :: a.defers } W) :
    (Code.rangeFunc g ps assign body).wpIn F n P Q a w := by
  refine wpIn_rangeFunc fun fn hfn => ?_
  obtain ⟨r, hr⟩ : ∃ r : Loop, r = { state := .ready, pending := none, fn := fn, tmps := a.tmps, params := ps, assign := assign, body := body, defers := w.heap.size } := ⟨_, rfl⟩
  obtain ⟨hat, hb⟩ := Stands.new w r
  obtain ⟨W0, hW0⟩ : ∃ W0, W0 = (w.alloc (.deferred (some []))).alloc (.loop r) := ⟨_, rfl⟩
  rw [← hW0] at hat hb
  refine ⟨w.heap.size + 1, [{ target := .collected w.heap.size, args := #[] }], W0, { target := .fn (.func gf) lb, args := #[.func (.yield (w.heap.size + 1)) #[] #[]] }, W0, gf, #[.func (.yield (w.heap.size + 1)) #[] #[]] ++ lb, W0,
    (by rw [hro, hW0, hr]; exact run_enterLoop_outer _ _ _ _ _), (by simp only [resolve, hg]; simp [go_sem]), (fun f' h => by simp [Target.leads] at h; subst h; exact hFg), (by simp [invoke, go_sem, eg]), fun _ => h1, ?_⟩
  obtain ⟨e0, e1, e2, e3, e4, e5, e6⟩ : r.state = .ready ∧ r.fn = fn ∧ r.params = ps ∧ r.tmps = a.tmps ∧ r.assign = assign ∧ r.body = body ∧ r.pending = none := by rw [hr]; exact ⟨rfl, rfl, rfl, rfl, rfl, rfl, rfl⟩
  have hup : ∀ {r' : Loop} {A B : World}, Stands w.heap.size r' A → Below A.heap.size A B → Stays m A B := fun h hb => Stays.of_below hb (by have := h.lt; omega)
  have hput : ∀ (pre : List α) (A : World) (r1 r2 : Loop), I pre A → Stands w.heap.size r1 A → KpC (fun W k => C W k ∨ k = w.heap.size + 1) A (A.putObj (w.heap.size + 1) (.loop r2)) := fun pre A r1 r2 hi hs =>
    ⟨by simp [World.putObj], fun k hk hc => ⟨World.putObj_heap_other (fun e => hc (.inr e)), fun h => h.elim (fun h => hc (.inl (hCS pre A _ k hi (hs.stays hm r2) h).2)) (fun h => hc (.inr h))⟩⟩
  have hup2 : ∀ {A B : World}, KpC C A B → KpC (fun W k => C W k ∨ k = w.heap.size + 1) A B := fun h => ⟨h.1, fun k hk hc => ⟨(h.2 k hk fun e => hc (.inl e)).1, fun e => e.elim (h.2 k hk fun e => hc (.inl e)).2 fun e => hc (.inr e)⟩⟩
  refine (hseq (w.heap.size + 1) (fun W k => C W k ∨ k = w.heap.size + 1) (fun pre W => I pre W ∧ Stands w.heap.size r W) (fun pre W => ∃ c, Ix c pre W ∧ Stands w.heap.size (Loop.behind r (some c)) W) _ hb
    (fun pre A B hb h => ⟨hI _ _ _ (hup h.2 hb) h.1, h.2.up hb⟩) (fun pre A B hb h => h.elim fun c h => ⟨c, hIx _ _ _ _ (hup h.2 hb) h.1, h.2.up hb⟩) (fun pre A h => hIK _ _ h.1)
    (fun pre A B k h hb hc => hc.elim (fun hc => (hCS pre A B k h.1 (hup h.2 hb) hc).imp id .inl) (fun e => by subst e; exact ⟨h.2.lt, .inr rfl⟩)) ?_
    ⟨hI _ _ _ (Stays.of_below hb hm) h0, hat⟩).mono ?_
  · rintro pre x W ⟨hi, hst⟩ hfx
    have hass := hassign (w.heap.size + 1) pre x W (fun a' A => I pre A ∧ Ax pre x a' A ∧ Stands w.heap.size r A ∧ KpC C W A) hi hfx (fun a' A hk hkc hiA hax => ⟨hiA, hax, hst.others hk, hkc⟩)
    refine one_round (r := r) (G := fun a' A => I pre A ∧ Ax pre x a' A ∧ Stands w.heap.size r A ∧ KpC C W A) e0 (by rw [e1]; exact hfn) (by rw [e2]; exact hps x) hst (by rw [e2, e3, e4]; exact hass) ?_
    rintro a' A ⟨hiA, hax, hstA, hkA⟩
    refine ⟨hstA, ?_⟩
    have hs1 := hstA.stays hm { r with state := .busy }
    have hbd := hbody (w.heap.size + 1) pre x a' _ (hI _ _ _ hs1 hiA) (hAx _ _ _ _ _ hs1 hax)
    rw [← e5] at hbd
    refine wpIn_mono hbd ?_
    have hgo : ∀ (B : World), KeepsOthers (A.putObj (w.heap.size + 1) (.loop { r with state := .busy })) B → Stands w.heap.size { r with state := .busy } B := fun B hk => (hstA.turn _).others hk
    have hno : Loop.behind r none = r := by rw [hr]; rfl
    rintro e a3 B hp
    cases e with
    | normal =>
      refine ⟨none, rfl, hgo B hp.1, .inl ⟨rfl, ?_⟩⟩
      have hB := hgo B hp.1
      have ht := hB.turn (Loop.behind r none)
      have hk2 := hput _ B _ (Loop.behind r none) hp.2.2 hB
      have hk1 := ((hup2 hkA).trans (hput _ A _ { r with state := .busy } hiA hstA)).trans (hup2 hp.2.1)
      rw [hno] at ht hk2 ⊢
      exact ⟨⟨hI _ _ _ (hB.stays hm _) hp.2.2, ht⟩, hk1.trans hk2⟩
    | ret => exact ⟨some .ret, rfl, hgo B hp.1, .inr ⟨rfl, .ret, hIx _ _ _ _ ((hgo B hp.1).stays hm _) hp.2, (hgo B hp.1).turn _⟩⟩
    | exit id => exact ⟨some (.exit id), rfl, hgo B hp.1, .inr ⟨rfl, .exit id, hIx _ _ _ _ ((hgo B hp.1).stays hm _) hp.2, (hgo B hp.1).turn _⟩⟩
    | goto t => exact ⟨some (.goto t), rfl, hgo B hp.1, .inr ⟨rfl, .goto t, hIx _ _ _ _ ((hgo B hp.1).stays hm _) hp.2, (hgo B hp.1).turn _⟩⟩
    | panic c => exact hp.elim
    | outgrown => exact hp.elim
  · rintro e W2 ⟨⟨v, rfl⟩, (⟨xs, hS, hi, hst⟩ | ⟨pre, hSp, c, hi, hst⟩)⟩
    · have he := run_endLoop (P := P) hst.here (by rw [e0]; simp)
      rw [e6] at he
      exact ⟨none, _, he, hdone _ xs _ (Nat.le_refl _) hS (hI _ _ _ (hst.stays hm _) hi) (hst.turn _).mark⟩
    · have he := run_endLoop (P := P) hst.here (by simp [Loop.behind])
      exact ⟨some c, _, he, hstop _ c pre _ (Nat.le_refl _) hSp (hIx _ _ _ _ (hst.stays hm _) hi) (hst.turn _).mark⟩

end Go.Proofs.YtjignlemahdoeaaDoor
namespace Go.Proofs.YtjignlemahdoeaaDoor
open Go.ChangeShapes Go.WideShapes Go.ChangeAt Go.RowKit
set_option linter.unusedVariables false
set_option maxRecDepth 20000
theorem below_any (W : World) (o : Obj) : Below W.heap.size W (W.alloc o) := (Below.refl _ _).alloc (Nat.le_refl _) _
/-- A builder in block b, of the call's own from B on, holds these bytes. -/
def Bld (B b : Nat) (l : List Int) (W : World) : Prop := Lib.IsBuilder 75 5 B b (cellsOf l) W ∧ B ≤ W.heap.size
/-- The blocks that a write into the builder may write. -/
def BldC (b : Nat) (W : World) (k : Nat) : Prop := k = b ∨ ∃ p o n c, W.heap[b]? = some (.cells #[p, .slice (some ⟨k, o, none⟩) n c] 75 (0, 0))
/-- What a write into the builder leaves as it was. -/
structure BldStep (B b : Nat) (W W' : World) : Prop where
  below : Below B W W'
  kp : KpC (BldC b) W W'
theorem BldStep.refl (B b : Nat) (W : World) : BldStep B b W W := ⟨Below.refl _ _, KpC.refl _ _⟩
theorem BldStep.trans {B b : Nat} {A C D : World} (h : BldStep B b A C) (k : BldStep B b C D) : BldStep B b A D := ⟨h.below.trans k.below, h.kp.trans k.kp⟩
theorem bldC_at {b : Nat} {W : World} {p v : Value} (h : W.heap[b]? = some (.cells #[p, v] 75 (0, 0))) {k : Nat} (hk : BldC b W k) : k = b ∨ v.ownBlock = some k := by
  rcases hk with hk | ⟨p', o, n, c, hk⟩
  · exact .inl hk
  · rw [h] at hk
    simp only [Option.some.injEq, Obj.cells.injEq, Array.mk.injEq, List.cons.injEq, and_true] at hk
    exact .inr (by rw [hk.2]; rfl)
theorem bldC_of {b : Nat} {W : World} {p : Value} {B n : Nat} {v : Value} {xs : List Value} (h : W.heap[b]? = some (.cells #[p, v] 75 (0, 0))) (ho : W.ownsRow B 5 1 v n xs) {k : Nat} (hk : v.ownBlock = some k) : BldC b W k := by
  rcases ho.2 with ⟨rfl, _⟩ | ⟨g, cap, cur, rfl, _⟩
  · cases hk
  · simp only [Value.ownBlock, Option.some.injEq] at hk
    subst hk
    exact .inr ⟨p, 0, n, cap, h⟩
/-- Memory that a later call makes above leaves a builder as it is. -/
theorem Bld.step {B b : Nat} {l : List Int} {W W' : World} (h : Bld B b l W) (hb : Below W.heap.size W W') : Bld B b l W' ∧ BldStep B b W W' := by
  obtain ⟨h, hB⟩ := h
  have key : ∀ p, Lib.BuilderAt 75 5 B b p (cellsOf l) W → Lib.BuilderAt 75 5 B b p (cellsOf l) W' ∧ KpC (BldC b) W W' := fun p hA => by
    obtain ⟨hBb, v, hbk, hown, hne⟩ := hA
    have hlt : b < W.heap.size := (Array.getElem?_eq_some_iff.1 hbk).1
    have hbk' : W'.heap[b]? = some (.cells #[p, v] 75 (0, 0)) := (hb.block b hlt).trans hbk
    have hown' : W'.ownsRow B 5 1 v (cellsOf l).length (cellsOf l) := by
      refine ⟨hown.1, ?_⟩
      rcases hown.2 with h2 | ⟨g, cap, cur, hv, hg, hh, r⟩
      · exact .inl h2
      · exact .inr ⟨g, cap, cur, hv, hg, (hb.block g (Array.getElem?_eq_some_iff.1 hh).1).trans hh, r⟩
    refine ⟨⟨hBb, v, hbk', hown', hne⟩, KpC.of_below hb (fun k hk => ?_)⟩
    rcases bldC_at hbk' hk with rfl | hk
    · exact ⟨hlt, .inl rfl⟩
    · exact ⟨(World.ownsRow.lt hown k hk).2, bldC_of hbk hown hk⟩
  have hbB : Below B W W' := hb.mono hB
  rcases h with h | h
  · obtain ⟨h1, h2⟩ := key _ h
    exact ⟨⟨.inl h1, Nat.le_trans hB hb.size⟩, hbB, h2⟩
  · obtain ⟨h1, h2⟩ := key _ h
    exact ⟨⟨.inr h1, Nat.le_trans hB hb.size⟩, hbB, h2⟩
theorem bsize : (Tryd.prog.info? 75).map (·.size) = some 2 := by kernel_rfl
theorem blies : liesAt Tryd.prog Tryd.prog.depth 75 (2 / Tryd.prog.cellsOf 75) 0 75 1 = true := by kernel_rfl
theorem bbyte : (Tryd.prog.info? 5).map (fun i => (i.zero, i.size, i.bytes)) = some (some (.int .u8 0), 1, 1) := by kernel_rfl
set_option maxHeartbeats 1000000 in
theorem bcheck_used (b : Nat) (w : World) (h0 : w.cell? ⟨b, 0, none⟩ = some (.pointer (some ⟨b, 0, none⟩))) : Calls Tryd.prog 57 #[.pointer (some ⟨b, 0, none⟩)] w fun e w' => e = .returned (.tuple #[]) ∧ w' = w := by
  obtain ⟨j, hj, _⟩ := Option.map_eq_some_iff.1 bsize
  go_enter Tryd.func57, Tryd.ntmps57
  go_wp2
  rw [Lib.run_neq_ptr_same w _ Tryd.underlying73 hj]
  go_wp2
  go_end0
  exact ⟨rfl, rfl⟩
set_option maxHeartbeats 1000000 in
theorem bcheck_fresh (b : Nat) (w : World) (h0 : w.cell? ⟨b, 0, none⟩ = some (.pointer none)) (hsh : w.shape? b = some (75, 2)) (hfz : w.frozen? ⟨b, 0, none⟩ = false) :
    Calls Tryd.prog 57 #[.pointer (some ⟨b, 0, none⟩)] w fun e w' => e = .returned (.tuple #[]) ∧ w' = w.setCell ⟨b, 0, none⟩ (.pointer (some ⟨b, 0, none⟩)) := by
  obtain ⟨j, hj, hjs⟩ := Option.map_eq_some_iff.1 bsize
  go_enter Tryd.func57, Tryd.ntmps57
  go_wp2
  rw [Lib.run_to_unsafe w ⟨b, 0, none⟩ Tryd.underlying73 Tryd.underlying99 hj (by rw [hjs]; decide) hsh (Nat.zero_lt_succ 1)]
  simp only [Result.andThen]
  rw [Oper.upon_value]
  go_wp2
  rw [run_callFunc_extern Tryd.func70 (by kernel_rfl) (by kernel_rfl) (by kernel_rfl) (e := Extern.AbiNoEscape.same) (by kernel_rfl)]
  rw [Lib.run_noEscape]
  simp only [Result.andThen]
  rw [Oper.upon_value]
  go_wp2
  rw [Lib.run_from_unsafe w ⟨b, 0, none⟩ Tryd.underlying99 Tryd.underlying73 hj hsh blies]
  simp only [Result.andThen]
  rw [Oper.upon_value]
  go_wp2
  go_end0
  exact ⟨rfl, rfl⟩
theorem bcheck_calls (B b : Nat) (bs : List Value) (w : World) (h : Lib.IsBuilder 75 5 B b bs w) :
    Calls Tryd.prog 57 #[.pointer (some ⟨b, 0, none⟩)] w fun e w' => e = .returned (.tuple #[]) ∧ Lib.BuilderAt 75 5 B b (.pointer (some ⟨b, 0, none⟩)) bs w' ∧ BldStep B b w w' := by
  rcases h with h | h
  · refine (bcheck_fresh b w h.cell0 h.shape h.frozen0).mono ?_
    rintro e w' ⟨rfl, rfl⟩
    refine ⟨rfl, h.used _, (Below.refl B w).setCell (p := ⟨b, 0, none⟩) h.1 _, ⟨by simp [World.setCell], fun k hk hc => ⟨Below.heap_setCell _ _ _ k (fun e => hc (.inl e)), fun hc2 => hc ?_⟩⟩⟩
    obtain ⟨_, v, hbk, hown, _⟩ := h
    have hbk' : (w.setCell ⟨b, 0, none⟩ (.pointer (some ⟨b, 0, none⟩))).heap[b]? = some (.cells #[.pointer (some ⟨b, 0, none⟩), v] 75 (0, 0)) := by
      have := Blk.set (show Blk w b #[.pointer none, v] 75 from hbk) 0 (.pointer (some ⟨b, 0, none⟩))
      simp at this; exact this
    rcases bldC_at hbk' hc2 with rfl | hk2
    · exact .inl rfl
    · exact bldC_of hbk hown hk2
  · refine (bcheck_used b w h.cell0).mono ?_
    rintro e w' ⟨rfl, rfl⟩
    exact ⟨rfl, h, BldStep.refl _ _ _⟩
/-- What the append into the buffer leaves, and the store of the new buffer. -/
theorem bput {B b : Nat} {v v' : Value} {bs news : List Value} {w1 w2 : World} (hB : B ≤ b) (hbk : w1.heap[b]? = some (.cells #[.pointer (some ⟨b, 0, none⟩), v] 75 (0, 0))) (hown : w1.ownsRow B 5 1 v bs.length bs) (hne : v.ownBlock ≠ some b)
    (hBw : B ≤ w1.heap.size) (hown' : w2.ownsRow B 5 1 v' (bs ++ news).length (bs ++ news)) (hg : w1.grownBy w2 v.ownBlock) (hbb : v'.ownBlock = v.ownBlock ∨ v'.ownBlock = some w1.heap.size) :
    w2.cell? ⟨b, 0, none⟩ = some (.pointer (some ⟨b, 0, none⟩)) ∧ w2.cell? ⟨b, 1, none⟩ = some v ∧ w2.frozen? ⟨b, 1, none⟩ = false ∧ Lib.BuilderAt 75 5 B b (.pointer (some ⟨b, 0, none⟩)) (bs ++ news) (w2.setCell ⟨b, 1, none⟩ v') ∧ BldStep B b w1 (w2.setCell ⟨b, 1, none⟩ v') := by
  have hlt : b < w1.heap.size := (Array.getElem?_eq_some_iff.1 hbk).1
  have hb2 : w2.heap[b]? = some (.cells #[.pointer (some ⟨b, 0, none⟩), v] 75 (0, 0)) := by
    rw [hg.block b hlt (fun e => hne e.symm)]
    exact hbk
  refine ⟨by rw [Lib.cell_of_heap hb2]; rfl, by rw [Lib.cell_of_heap hb2]; rfl, Lib.frozen_of_heap hb2 1, Lib.BuilderAt.put hB hb2 hown' (by decide), ?_, ?_⟩
  · exact ((Below.refl B w1).grown hg hBw (fun k hk => (World.ownsRow.lt hown k hk).1)).setCell (p := ⟨b, 1, none⟩) hB _
  · refine ⟨by have := hg.size; simpa [World.setCell] using this, fun k hk hc => ?_⟩
    have hkb : k ≠ b := fun e => hc (.inl e)
    have hkv : v.ownBlock ≠ some k := fun e => hc (bldC_of hbk hown e)
    refine ⟨(Below.heap_setCell _ _ _ k hkb).trans (hg.block k hk (fun e => hkv e.symm)), fun hc2 => ?_⟩
    have hb3 : (w2.setCell ⟨b, 1, none⟩ v').heap[b]? = some (.cells #[.pointer (some ⟨b, 0, none⟩), v'] 75 (0, 0)) := by
      have := Blk.set (show Blk w2 b #[.pointer (some ⟨b, 0, none⟩), v] 75 from hb2) 1 v'
      simp at this; exact this
    rcases bldC_at hb3 hc2 with h9 | h9
    · exact hkb h9
    · rcases hbb with h8 | h8
      · exact hkv (h8.symm.trans h9)
      · rw [h8] at h9; injection h9 with h9; omega
/-- Where the buffer lies behind an append of a text. -/
theorem str_block {B : Nat} {w w' : World} {v v' : Value} {n : Nat} {xs : List Value} (hown : w.ownsRow B 5 1 v n xs) (s : ByteArray) (hn : n + s.size ≤ 140737488355328) (hn2 : n + s.size ≤ maxLen) (ty : TypeId)
    (hr : (Builtin.append_ #[65, 9] ty #[v, .string s]).run Tryd.prog w = .ok v' w') : v'.ownBlock = v.ownBlock ∨ v'.ownBlock = some w.heap.size := by
  obtain ⟨i, hi, hz, hs1, hb1⟩ := info_parts bbyte
  have hxl : xs.length = n := by simpa using hown.1
  rcases hown.2 with ⟨rfl, rfl⟩ | ⟨g, cap, cur, rfl, hbg, hg, hnc, hcm, hcs, htake⟩
  · by_cases hm : s.size = 0
    · have hf := Lib.run_firstCells_string (P := Tryd.prog) w 1 s
      rw [hm] at hf
      simp [Builtin.append_, run_underlying Tryd.underlying65, run_underlying Tryd.underlying9, sizeOf, typeInfo, hi, hs1, Builtin.lenOf, hm, hf] at hr
      exact .inl (by rw [← hr.1])
    · have h2 := run_append_nil_string (P := Tryd.prog) w 65 9 ty 5 i (.int .u8 0) Tryd.underlying65 Tryd.underlying9 hi hz s (by omega) (by unfold maxLen at hn2; omega) (by rw [hb1]; omega)
      rw [hr] at h2
      injection h2 with h2
      exact .inr (by rw [h2]; rfl)
  · by_cases hroom : n + s.size ≤ cap
    · have h2 := Lib.run_append_room_string (P := Tryd.prog) w 65 9 ty 5 i Tryd.underlying65 Tryd.underlying9 hi hs1 g n cap cur hg s hroom (by omega)
      rw [hr] at h2
      injection h2 with h2
      exact .inl (by rw [h2]; rfl)
    · have holds : ∀ j u, xs[j]? = some u → w.cell? ((⟨g, 0, none⟩ : Addr).add j) = some u := World.ownsRow.cells hown (g := g) rfl
      have h2 := Lib.run_append_grow_string (P := Tryd.prog) w 65 9 ty 5 i (.int .u8 0) Tryd.underlying65 Tryd.underlying9 hi hz ⟨g, 0, none⟩ n cap xs (by rw [hs1]; simpa using hxl) holds s (by omega) (by unfold maxLen at hn2; omega) (by rw [hb1]; exact growslice_fits (by omega) (by omega))
      rw [hr] at h2
      injection h2 with h2
      exact .inr (by rw [h2]; rfl)
/-- An append whose outcome is known. -/
theorem wpList_append_known {w : World} {ops : Array Oper} {rest : List Oper} {o : Oper} {a : Act} {Q : Exit → Act → World → Prop} (hgd : o.guard = none) (s x : Operand) (t u : TypeId)
    (ho : o.op = .call { callee := .builtin .append, args := #[s, x], argTypes := #[t, u] }) (v y v' : Value) (w' : World) (hs : a.eval s = v) (hx : a.eval x = y)
    (hrun : (Builtin.append_ #[t, u] o.type #[v, y]).run Tryd.prog w = .ok v' w') (h : wpList Tryd.prog ops Q rest (a.put o.dst v') w') : wpList Tryd.prog ops Q (o :: rest) a w := by
  refine wpList_plain hgd fun K hK => ?_
  unfold Oper.wp execOp
  simp only [ho, resolve, invoke, builtin, Sem.run_bind, Sem.run_pure, Result.andThen_ok, List.map_toArray, List.map_cons, List.map_nil, hs, hx, hrun]
  exact hK _ _ h
set_option maxHeartbeats 2000000 in
theorem bbyte_calls (B b : Nat) (l : List Int) (c : Int) (w : World) (h : Bld B b l w) (hl : l.length + 1 ≤ 140737488355328) :
    Calls Tryd.prog 47 #[.pointer (some ⟨b, 0, none⟩), .int .u8 c] w fun e w' => e = .returned .nilIface ∧ Bld B b (l ++ [c]) w' ∧ BldStep B b w w' := by
  obtain ⟨h, hBw⟩ := h
  obtain ⟨i0, hi, hz0, hz1, hz2⟩ := info_parts bbyte
  have hcl : (cellsOf l).length = l.length := by simp [cellsOf]
  have hcc : cellsOf (l ++ [c]) = cellsOf l ++ [.int .u8 c] := by simp [cellsOf]
  go_enter Tryd.func47, Tryd.ntmps47
  go_wp2_with (go_at_call 57; refine (bcheck_calls B b (cellsOf l) _ h).mono ?_)
  rintro e w1 ⟨rfl, h1, hs1⟩
  obtain ⟨hB, v, hbk, hown, hne⟩ := h1
  have hb1 := hs1.below
  have c0 : w1.cell? ⟨b, 0, none⟩ = some (.pointer (some ⟨b, 0, none⟩)) := by rw [Lib.cell_of_heap hbk]; rfl
  have c1 : w1.cell? ⟨b, 1, none⟩ = some v := by rw [Lib.cell_of_heap hbk]; rfl
  have hsz := hb1.size
  obtain ⟨v', w2, hrun, ho2, hg2, hn2, hbb⟩ := run_append_own_at (P := Tryd.prog) (w1.alloc (.cells #[.int .u8 c] 5)) B 65 65 5 i0 (.int .u8 0) 1 1 Tryd.underlying65 hi hz0 hz1 hz2 rfl (by decide) v (cellsOf l).length (cellsOf l) (hown.alloc _) ⟨w1.heap.size, 0, none⟩ 1 1 [.int .u8 c] rfl
    (fun j u hj => by
      match j, hj with
      | 0, hj => simp at hj; subst hj; simp [Addr.add])
    (fun u hu => by simp at hu; subst hu; rfl) (by unfold maxLen; omega) (by omega) (by simp; omega)
  obtain ⟨q0, q1, q2, q3, q4⟩ := bput (news := [.int .u8 c]) hB (show (w1.alloc (.cells #[.int .u8 c] 5)).heap[b]? = _ from (Below.heap_alloc w1 _ b (Array.getElem?_eq_some_iff.1 hbk).1).trans hbk) (hown.alloc _) hne (by simp; omega) (by simpa [hcl] using ho2) hg2 hbb
  have hst : BldStep B b w1 (w1.alloc (.cells #[.int .u8 c] 5)) := ⟨(Below.refl B w1).alloc (by omega) _, KpC.of_below (below_any w1 _) (fun k hk => by
    rcases bldC_at ((Below.heap_alloc w1 _ b (Array.getElem?_eq_some_iff.1 hbk).1).trans hbk) hk with rfl | hk
    · exact ⟨(Array.getElem?_eq_some_iff.1 hbk).1, .inl rfl⟩
    · exact ⟨(World.ownsRow.lt hown k hk).2, bldC_of hbk hown hk⟩)⟩
  have HE := Lib.hid q3
  have HS := Lib.hid (hs1.trans (hst.trans q4))
  clear q3 q4 hst hg2 hbb
  obtain ⟨g, cap, rfl⟩ : ∃ g cap, v' = .slice (some ⟨g, 0, none⟩) (l.length + 1) cap := by
    rcases ho2.2 with ⟨_, h0⟩ | ⟨g, cap, cur, hv, _⟩
    · omega
    · exact ⟨g, cap, by simpa [cellsOf] using hv⟩
  go_wp2_with (at_builtin; refine wpList_append_known rfl _ _ 65 65 rfl v (.slice (some ⟨w1.heap.size, 0, none⟩) 1 1) _ w2 rfl rfl hrun ?_)
  go_wp2
  go_ret
  exact ⟨rfl, ⟨by rw [hcc]; exact .inr HE.out, Nat.le_trans hBw HS.out.below.size⟩, HS.out⟩
theorem bString_calls (B b : Nat) (l : List Int) (w : World) (hb : IsB l) (h : Bld B b l w) :
    Calls Tryd.prog 50 #[.pointer (some ⟨b, 0, none⟩)] w fun e w' => e = .returned (.string (str l)) ∧ Below B w w' := by
  have hcl : cellsOf l = Lib.byteCells (l.map fun n => UInt8.ofNat n.toNat) := by
    simp only [cellsOf, Lib.byteCells, List.map_map]
    apply List.map_congr_left
    intro x hx
    have := hb x hx
    simp
    omega
  have h1 := Lib.IsBuilderF.of h.1
  rw [hcl] at h1
  refine (Tryd.Builder_String_any_k B b _ w h1 h.2).mono ?_
  rintro e w' ⟨rfl, _, h2, _⟩
  refine ⟨?_, h2⟩
  congr 2
  apply ByteArray.ext
  apply Array.toList_inj.1
  rw [str_data]
theorem Bld.new (W : World) : Bld W.heap.size W.heap.size [] (W.alloc (.cells #[.pointer none, .slice none 0 0] 75)) :=
  ⟨Lib.fresh_isBuilder 75 5 W, by simp⟩
end Go.Proofs.YtjignlemahdoeaaDoor
namespace Go.Proofs.YtjignlemahdoeaaDoor
open Go.ChangeShapes Go.WideShapes Go.ChangeAt Go.RowKit
set_option linter.unusedVariables false
set_option maxRecDepth 20000
theorem half_nonneg_le (l : List Int) (k : Nat) : half l k ≤ 15 := half_le l k
theorem byteS_range (l : List Int) (k : Nat) (hb : IsB l) : 0 ≤ (byteS l k).1 ∧ (byteS l k).1 ≤ 255 := by
  unfold byteS
  split
  · exact ⟨by decide, by decide⟩
  · rename_i c hc
    have hcm := hb c (List.mem_of_getElem? hc)
    split
    · exact ⟨by decide, by decide⟩
    · split
      · exact hcm
      · split
        · rename_i h
          rcases h with h | h
          · show 0 ≤ l.getD (k + 1) 0 ∧ l.getD (k + 1) 0 ≤ 255
            rw [List.getD, h]; exact ⟨by decide, by decide⟩
          · show 0 ≤ l.getD (k + 1) 0 ∧ l.getD (k + 1) 0 ≤ 255
            rw [List.getD, h]; exact ⟨by decide, by decide⟩
        · split
          · exact ⟨by decide, by decide⟩
          · rename_i h
            have h2 := half_le l (k + 2)
            have h3 := half_le l (k + 3)
            have n2 : ¬ half l (k + 2) < 0 := fun e => h (.inr (.inl e))
            have n3 : ¬ half l (k + 3) < 0 := fun e => h (.inr (.inr e))
            constructor
            · show 0 ≤ 16 * half l (k + 2) + half l (k + 3); omega
            · show 16 * half l (k + 2) + half l (k + 3) ≤ 255; omega
/-- The loop of readText. -/
def RelRt (g : Nat) (w : World) (s : ByteArray) (X : List Int × Int × Int) (at' : Value) (wr : World) : Prop :=
  ∃ (k f : Nat) (T : List Int), at' = .int .i64 k ∧ k ≤ s.size ∧ s.size < f + k ∧ Hid (X = textG f (sl s) k T) ∧ T.length ≤ k ∧ Hid (IsB T) ∧ Bld (g + 1) (g + 1) T wr ∧ Blk wr g #[.int .u8 0, .int .i64 0, .string ⟨#[]⟩] 33 ∧ Below g w wr
/-- What readText hands back. -/
def valT (X : List Int × Int × Int) : Vl := if X.2.2 = 0 then ⟨1, 0, str X.1⟩ else ⟨0, 0, ⟨#[]⟩⟩
set_option maxHeartbeats 4000000 in
theorem readtext_calls (s : ByteArray) (hs : s.size ≤ 1000000) (p : Nat) (hp : p < s.size) (w : World) : Calls Tryd.prog 38 #[.string s, .int .i64 p] w fun q w' => q = .returned (.tuple #[(valT (textG (s.size + 1) (sl s) (p + 1) [])).v, .int .i64 (textG (s.size + 1) (sl s) (p + 1) []).2.1, .int .i64 (textG (s.size + 1) (sl s) (p + 1) []).2.2]) ∧ Below w.heap.size w w' := by
  obtain ⟨X, hX⟩ : ∃ X, X = textG (s.size + 1) (sl s) (p + 1) [] := ⟨_, rfl⟩
  rw [← hX]
  have HX0 := Lib.hid hX
  have hB2 := below_two w (.cells #[.int .u8 0, .int .i64 0, .string ⟨#[]⟩] 33) (.cells #[.pointer none, .slice none 0 0] 75)
  have bx : Blk ((w.alloc (.cells #[.int .u8 0, .int .i64 0, .string ⟨#[]⟩] 33)).alloc (.cells #[.pointer none, .slice none 0 0] 75)) w.heap.size #[.int .u8 0, .int .i64 0, .string ⟨#[]⟩] 33 := (Blk.new w #[.int .u8 0, .int .i64 0, .string ⟨#[]⟩] 33).alloc _
  have hbl : Bld (w.heap.size + 1) (w.heap.size + 1) [] ((w.alloc (.cells #[.int .u8 0, .int .i64 0, .string ⟨#[]⟩] 33)).alloc (.cells #[.pointer none, .slice none 0 0] 75)) := by
    have := Bld.new (w.alloc (.cells #[.int .u8 0, .int .i64 0, .string ⟨#[]⟩] 33))
    rw [show (w.alloc (.cells #[.int .u8 0, .int .i64 0, .string ⟨#[]⟩] 33)).heap.size = w.heap.size + 1 by simp] at this
    exact this
  have HB2 := Lib.hid hB2
  have HBX := Lib.hid bx
  have HBL := Lib.hid hbl
  clear hX hB2 bx hbl
  go_enter Tryd.func38, Tryd.ntmps38
  go_wp2
  go_loopw [1] (RelRt w.heap.size w s X) (fun i _ => s.size + 4 - (intOf i).toNat)
  case atStart =>
    refine ⟨p + 1, s.size + 1, [], by go_num, by omega, by omega, HX0, by simp, Lib.hid (fun x hx => by simp at hx), HBL.out, HBX.out, HB2.out⟩
  case round =>
    obtain ⟨k, f, T, rfl, hk, hf, hX, hT, hTB, hbl, hbk, hbw⟩ := hrel
    have HTB := Lib.hid hTB.out
    have HBL := Lib.hid hbl
    have HBK := Lib.hid hbk
    have HBW := Lib.hid hbw
    clear hTB hbl hbk hbw
    obtain ⟨y0, y1, y2⟩ := HBK.out.cells3
    obtain ⟨z0, z1, z2⟩ := HBK.out.free3
    by_cases hlt : k < s.size
    · have h1 : (k : Int) < (s.size : Int) := by omega
      have hne : ((k : Int) == (s.size : Int)) = false := by simp; omega
      have HAT := Lib.hid (sl_at s k hlt)
      obtain ⟨f, rfl⟩ : ∃ g, f = g + 1 := ⟨f - 1, by omega⟩
      by_cases c34 : ((s[k].toNat : Nat) : Int) = 34
      · have e1 : (((s[k].toNat : Nat) : Int) != 34) = false := by simpa using c34
        have HE := Lib.hid (hX.out.trans (tg1 (by rw [HAT.out, c34])))
        have HLEN := Lib.hid (show ∀ W, Bld (w.heap.size + 1) (w.heap.size + 1) T W → Calls Tryd.prog 48 #[.pointer (some ⟨w.heap.size + 1, 0, none⟩)] W fun e w' => e = .returned (.int .i64 (T.length : Nat)) ∧ w' = W from fun W hW => by
          have := Tryd.Builder_Len (w.heap.size + 1) (w.heap.size + 1) (cellsOf T) W hW.1
          rw [cellsOf_length] at this
          exact this)
        clear hX c34
        by_cases hlong : 65536 < T.length
        · have hlw : decide ((65536 : Int) < (T.length : Int)) = true := by simp; omega
          have HE2 := Lib.hid (HE.out.trans (if_pos hlong))
          obtain ⟨n, hn⟩ : ∃ n, n = T.length := ⟨_, rfl⟩
          rw [← hn] at HLEN hlw
          clear HE hn
          go_wp2_with fail
          refine (HLEN.out _ HBL.out).mono ?_
          rintro e' w1 ⟨rfl, h9⟩
          obtain rfl := h9.symm
          go_wp2
          refine bodyPost_ret (results_cell_tmp2 rfl _ _ _ _ _ rfl (lv23 (HBK.out.set3 _ _ _))) rfl ⟨?_, below_set3 HBW.out (Nat.le_refl _) _ _ _⟩
          rw [HE2.out]; rfl
        · have hlw : decide ((65536 : Int) < (T.length : Int)) = false := by simp; omega
          have HE2 := Lib.hid (HE.out.trans (if_neg hlong))
          have HSTR := Lib.hid (bString_calls (w.heap.size + 1) (w.heap.size + 1) T wr HTB.out HBL.out)
          have HI := Lib.hid (text1_calls (str T))
          unfold Vl.v at HI
          dsimp only at HI
          obtain ⟨n, hn⟩ : ∃ n, n = T.length := ⟨_, rfl⟩
          rw [← hn] at HLEN hlw
          clear HE hn
          go_wp2_with fail
          refine (HLEN.out _ HBL.out).mono ?_
          rintro e' w1 ⟨rfl, h9⟩
          obtain rfl := h9.symm
          go_wp2_with fail
          refine HSTR.out.mono ?_
          rintro e' w1 ⟨rfl, hb1⟩
          have HK1 := Lib.hid (HBK.out.below hb1 (by omega))
          have HW1 := Lib.hid (HBW.out.trans (hb1.mono (by omega)))
          clear hb1
          go_wp2_with fail
          refine (HI.out _).mono ?_
          rintro e' w2 ⟨rfl, hb2⟩
          have HK2 := Lib.hid (HK1.out.belowAll hb2)
          have HW2 := Lib.hid (HW1.out.trans (hb2.mono HW1.out.size))
          obtain ⟨y0, y1, y2⟩ := HK2.out.cells3
          obtain ⟨z0, z1, z2⟩ := HK2.out.free3
          clear hb2
          dsimp only
          go_wp2
          refine bodyPost_ret (results_cell_tmp2 rfl _ _ _ _ _ rfl (lv23 (HK2.out.set3 _ _ _))) rfl ⟨?_, below_set3 HW2.out (Nat.le_refl _) _ _ _⟩
          rw [HE2.out]; rfl
      · have e1 : (((s[k].toNat : Nat) : Int) != 34) = true := by simpa using c34
        have HE := Lib.hid (hX.out.trans (textG_byte HAT.out c34))
        have HRB := Lib.hid (readbyte_calls s hs k hlt wr)
        have HPL := Lib.hid (byteS_place (l := sl s) (k := k))
        have HRG := Lib.hid (byteS_range (sl s) k (sl_bytes s))
        have HER := Lib.hid (byteS_err (l := sl s) (k := k))
        clear hX c34
        generalize byteS (sl s) k = R at *
        obtain ⟨c, x, e⟩ := R
        dsimp only at HE HRB HPL HRG HER
        by_cases he : e = 0
        · have ee : (e != 0) = false := by simpa using he
          obtain ⟨n, hxn, hn1, hn2, hn4⟩ := HPL.out he
          rw [sl_length] at hn2
          have HE2 := Lib.hid (HE.out.trans (if_pos he))
          rw [hxn, Int.toNat_natCast] at HE2
          rw [hxn] at HRB
          have HNB := Lib.hid (show IsB (T ++ [c]) from HTB.out.append fun z hz => by simp at hz; subst hz; exact HRG.out)
          have HWB := Lib.hid (fun q => bbyte_calls (w.heap.size + 1) (w.heap.size + 1) T c (wr.drewN q) (show Bld (w.heap.size + 1) (w.heap.size + 1) T (wr.drewN q) from HBL.out) (by omega))
          clear HE hxn HPL HER he
          go_wp2_with fail
          refine HRB.out.mono ?_
          rintro e' w1 ⟨rfl, q, rfl⟩
          dsimp only
          go_wp2_with fail
          refine (HWB.out q).mono ?_
          rintro e' w2 ⟨rfl, hb2, hst⟩
          have HB2 := Lib.hid hb2
          have HK2 := Lib.hid (show Blk w2 w.heap.size #[.int .u8 0, .int .i64 0, .string ⟨#[]⟩] 33 from (show Blk (wr.drewN q) w.heap.size #[.int .u8 0, .int .i64 0, .string ⟨#[]⟩] 33 from HBK.out).below hst.below (by omega))
          have HW2 := Lib.hid (show Below w.heap.size w w2 from (show Below w.heap.size w (wr.drewN q) from below_drewN HBW.out q).trans (hst.below.mono (by omega)))
          clear hb2 hst
          go_wp2
          go_roundw
          case rel => exact ⟨n, f, T ++ [c], rfl, hn2, by omega, HE2.out, by simp; omega, HNB, HB2.out, HK2.out, HW2.out⟩
          case measure => simp [intOf]; omega
        · have ee : (e != 0) = true := by simpa using he
          have h0 := HER.out he
          obtain ⟨rfl, rfl, rfl⟩ : c = 0 ∧ x = 0 ∧ e = 3 := by injection h0 with h3 h4; injection h4 with h5 h6; exact ⟨h3, h5, h6⟩
          have HE2 := Lib.hid (HE.out.trans (if_neg he))
          clear HE HPL HER he h0 HRG
          go_wp2_with fail
          refine HRB.out.mono ?_
          rintro e' w1 ⟨rfl, q, rfl⟩
          have HKq := Lib.hid (show Blk (wr.drewN q) w.heap.size #[.int .u8 0, .int .i64 0, .string ⟨#[]⟩] 33 from HBK.out)
          obtain ⟨y0, y1, y2⟩ := HKq.out.cells3
          obtain ⟨z0, z1, z2⟩ := HKq.out.free3
          dsimp only
          go_wp2
          refine bodyPost_ret (results_cell_tmp2 rfl _ _ _ _ _ rfl (lv23 (HKq.out.set3 _ _ _))) rfl ⟨?_, below_set3 (below_drewN HBW.out q) (Nat.le_refl _) _ _ _⟩
          rw [HE2.out]; rfl
    · have h1 : decide ((k : Int) < (s.size : Int)) = false := decide_eq_false (by omega)
      obtain rfl : k = s.size := by omega
      have HE := Lib.hid (hX.out.trans (tg_end (by rw [List.getElem?_eq_none (by rw [sl_length]; omega)])))
      clear hX
      go_wp2
      refine bodyPost_ret (results_cell_tmp2 rfl _ _ _ _ _ rfl (lv23 (HBK.out.set3 _ _ _))) rfl ⟨?_, below_set3 HBW.out (Nat.le_refl _) _ _ _⟩
      rw [HE.out]; rfl
end Go.Proofs.YtjignlemahdoeaaDoor
namespace Go.Proofs.YtjignlemahdoeaaDoor
open Go.ChangeShapes Go.WideShapes Go.ChangeAt Go.RowKit
set_option linter.unusedVariables false
set_option maxRecDepth 20000

/-- The first loop: digits so far. -/
def RelF (t : ByteArray) (w : World) (i : Value) (wr : World) : Prop := ∃ k : Nat, i = .int .i64 k ∧ k ≤ t.size ∧ (t.data.toList.take k).all isDig = true ∧ wr = w
/-- The second loop: the number so far, below zero. -/
def RelG (t : ByteArray) (w : World) (n i : Value) (wr : World) : Prop := ∃ (k : Nat) (x : Int), n = .int .i64 x ∧ i = .int .i64 k ∧ k ≤ t.size ∧ Hid (x = -(dval 0 (t.data.toList.take k) : Int)) ∧ -9223372036854775808 ≤ x ∧ x ≤ 0 ∧ wr = w
theorem relG_start (t : ByteArray) (w : World) : RelG t w (.int .i64 0) (.int .i64 0) w := ⟨0, 0, rfl, rfl, Nat.zero_le _, Lib.hid rfl, by omega, by omega, rfl⟩
theorem wrap_dig (z : Int) (h0 : 0 ≤ z) (h1 : z ≤ 255) : wrap64 (wrap64 z - 48) = z - 48 := by unfold wrap64; omega
theorem wrap_next (x z : Int) (h0 : -922337203685477580 ≤ x) (h1 : x ≤ 0) (h2 : -9223372036854775808 ≤ 10 * x - z) (h3 : -48 ≤ z) : wrap64 (wrap64 (10 * x) - z) = 10 * x - z := by unfold wrap64; omega
theorem wrap_neg (x : Int) (h0 : -9223372036854775807 ≤ x) (h1 : x ≤ 0) : wrap64 (-x) = -x := by unfold wrap64; omega
theorem size_list (t : ByteArray) : t.data.toList.length = t.size := by simp
theorem data_at (t : ByteArray) (k : Nat) (h : k < t.size) : t.data.toList[k]? = some t[k] := by
  have : k < t.data.toList.length := by simpa using h
  rw [List.getElem?_eq_getElem this]; rfl
theorem take_all_succ {t : ByteArray} {k : Nat} (h : k < t.size) (ha : (t.data.toList.take k).all isDig = true) (hx : isDig t[k] = true) : (t.data.toList.take (k + 1)).all isDig = true := by
  rw [List.take_add_one, data_at t k h, List.all_append, ha]
  simpa using hx
theorem not_all {t : ByteArray} {k : Nat} (h : k < t.size) (hx : isDig t[k] = false) : t.data.toList.all isDig = false := by
  rw [Bool.eq_false_iff]
  intro hall
  have := List.all_eq_true.1 hall t[k] (List.mem_of_getElem? (data_at t k h))
  rw [hx] at this; cases this
theorem isDig_at {t : ByteArray} {k : Nat} (h : k < t.size) (ha : t.data.toList.all isDig = true) : 48 ≤ t[k].toNat ∧ t[k].toNat ≤ 57 := by
  have := List.all_eq_true.1 ha t[k] (List.mem_of_getElem? (data_at t k h))
  unfold isDig at this
  simpa using this
/-- One digit more: it is too much, or it is there. -/
theorem dstep {t : ByteArray} {k : Nat} {x : Int} (h : k < t.size) (ha : t.data.toList.all isDig = true) (hx : x = -(dval 0 (t.data.toList.take k) : Int)) :
    -(dval 0 (t.data.toList.take (k + 1)) : Int) = 10 * x - (((t[k].toNat : Nat) : Int) - 48) := by
  rw [dval_take_succ (data_at t k h), hx]
  have := isDig_at h ha
  omega
theorem numD_form {L : List UInt8} {D : List UInt8} (hD : digitsOf L = D) (h : D = [] ∨ D.all isDig = false) : numD L = (0, 3) := by
  unfold numD; rw [hD, if_pos h]
theorem numD_much {L : List UInt8} {D : List UInt8} (hD : digitsOf L = D) (h0 : D ≠ []) (h1 : D.all isDig = true) (h : 9223372036854775808 < dval 0 D) : numD L = (0, 8) := by
  unfold numD
  rw [hD, if_neg (fun h => by rcases h with h | h; exact h0 h; rw [h1] at h; cases h)]
  split
  · rw [if_neg (by omega)]
  · rw [if_neg (by omega)]
theorem numD_minus {L : List UInt8} {D : List UInt8} (hD : digitsOf L = D) (hm : minusOf L = true) (h0 : D ≠ []) (h1 : D.all isDig = true) (h : dval 0 D ≤ 9223372036854775808) : numD L = (-(dval 0 D : Int), 0) := by
  unfold numD
  rw [hD, if_neg (fun h => by rcases h with h | h; exact h0 h; rw [h1] at h; cases h), if_pos hm, if_pos h]
theorem numD_plus {L : List UInt8} {D : List UInt8} (hD : digitsOf L = D) (hm : minusOf L = false) (h0 : D ≠ []) (h1 : D.all isDig = true) : numD L = if dval 0 D < 9223372036854775808 then ((dval 0 D : Int), 0) else (0, 8) := by
  unfold numD
  rw [hD, if_neg (fun h => by rcases h with h | h; exact h0 h; rw [h1] at h; cases h), if_neg (by rw [hm]; decide)]
theorem dval_end {t : ByteArray} {k : Nat} (h : ¬ k < t.size) : dval 0 (t.data.toList.take k) = dval 0 t.data.toList := by
  rw [List.take_of_length_le (by have := size_list t; omega)]

set_option maxHeartbeats 4000000 in
theorem rnumber_calls (s : ByteArray) (hs : s.size ≤ reachBytes) (w : World) : Calls Tryd.prog 23 #[.string s] w fun e w' => e = .returned (.tuple #[.int .i64 (numD s.data.toList).1, .int .i64 (numD s.data.toList).2]) ∧ w' = w := by
  have hs2 : s.size ≤ 140737488351232 := hs
  clear hs
  obtain ⟨r, hr⟩ : ∃ r, r = numD s.data.toList := ⟨_, rfl⟩
  rw [← hr]
  have HR := Lib.hid hr
  clear hr
  by_cases h0 : 0 < s.size
  · have h0i : (0 : Int) < (s.size : Int) := by omega
    have hL : s.data.toList = s[0] :: s.data.toList.drop 1 := by
      have h9 := data_at s 0 h0
      cases hl : s.data.toList with
      | nil => rw [hl] at h9; simp at h9
      | cons c q => rw [hl] at h9; simp at h9; rw [h9]; rfl
    by_cases hm : s[0].toNat = 45
    · have hmb : (((s[0].toNat : Nat) : Int) == 45) = true := by simp; omega
      obtain ⟨t, ht⟩ : ∃ t : ByteArray, t = s.extract 1 s.size := ⟨_, rfl⟩
      have hcut : ∀ W, (Instr.slice 9 (.string s) (some (.int .i64 1)) none none).run Tryd.prog W = .ok (.string t) W := fun W => by
        rw [run_slice_string_from_if W 9 s .i64 1 Tryd.underlying9, if_pos (by omega), ht]; rfl
      have htl : t.data.toList = s.data.toList.drop 1 := by
        rw [ht, ByteArray.data_extract, Array.toList_extract]
        have e : s.data.toList.length = s.size := by simp
        simp only [List.extract]
        rw [List.take_of_length_le (by rw [List.length_drop, e]; omega)]
      have hD : digitsOf s.data.toList = t.data.toList := by
        rw [htl, hL]
        show (if s[0].toNat = 45 then _ else _) = _
        rw [if_pos hm]; rfl
      have hM : minusOf s.data.toList = true := by rw [hL]; show decide (s[0].toNat = 45) = true; simpa using hm
      have htz : t.size = s.size - 1 := by
        have e1 : t.data.toList.length = t.size := by simp
        have e2 : s.data.toList.length = s.size := by simp
        rw [← e1, htl, List.length_drop, e2]
      have hts : t.size ≤ 140737488351232 := by omega
      have HD := Lib.hid hD
      have HM := Lib.hid hM
      clear ht htl hD hM htz hL
      by_cases ht0 : t.size = 0
      · have hzi : ((t.size : Int) == 0) = true := beq_iff_eq.2 (by omega)
        have hl : t.data.toList = [] := List.eq_nil_of_length_eq_zero (by have := size_list t; omega)
        have HE := Lib.hid (show r = (0, 3) by rw [HR.out]; exact numD_form HD.out (.inl hl))
        clear ht0 hl
        go_enter Tryd.func23, Tryd.ntmps23
        go_wp2
        go_ret2
        exact ⟨by rw [HE.out]; rfl, rfl⟩
      · have hzi : ((t.size : Int) == 0) = false := beq_eq_false_iff_ne.2 (by omega)
        have hne : t.data.toList ≠ [] := fun h => ht0 (by rw [← size_list t, h]; rfl)
        have HNE := Lib.hid hne
        clear hne
        go_enter Tryd.func23, Tryd.ntmps23
        go_wp2
        go_loopw [5] (RelF t w) (fun i _ => t.size - (intOf i).toNat)
        case atStart => exact ⟨0, rfl, by omega, rfl, rfl⟩
        case round =>
          obtain ⟨k, rfl, hk, hall, rfl⟩ := hrel
          have HA := Lib.hid hall
          clear hall
          by_cases hlt : k < t.size
          · have h1i : (k : Int) < (t.size : Int) := by omega
            by_cases hx : isDig t[k] = true
            · have hx2 : 48 ≤ t[k].toNat ∧ t[k].toNat ≤ 57 := by unfold isDig at hx; simpa using hx
              have e1 : decide (((t[k].toNat : Nat) : Int) < 48) = false := by simp; omega
              have e2 : decide ((57 : Int) < ((t[k].toNat : Nat) : Int)) = false := by simp; omega
              have HA2 := Lib.hid (take_all_succ hlt HA.out hx)
              clear hx hx2
              go_wp2
              go_roundw
              case rel => exact ⟨k + 1, by go_num, by omega, HA2.out, rfl⟩
              case measure => simp [intOf]; omega
            · have hx' : isDig t[k] = false := by simpa using hx
              have HE := Lib.hid (show r = (0, 3) by rw [HR.out]; exact numD_form HD.out (.inr (not_all hlt hx')))
              by_cases h48 : t[k].toNat < 48
              · have e1 : decide (((t[k].toNat : Nat) : Int) < 48) = true := by simp; omega
                clear hx hx'
                go_wp2
                go_ret2
                exact ⟨by rw [HE.out]; rfl, rfl⟩
              · have h57 : 57 < t[k].toNat := by
                  unfold isDig at hx
                  simp at hx
                  omega
                have e1 : decide (((t[k].toNat : Nat) : Int) < 48) = false := by simp; omega
                have e2 : decide ((57 : Int) < ((t[k].toNat : Nat) : Int)) = true := by simp; omega
                clear hx hx'
                go_wp2
                go_ret2
                exact ⟨by rw [HE.out]; rfl, rfl⟩
          · have hd1 : decide ((k : Int) < (t.size : Int)) = false := by simp; omega
            have hall : t.data.toList.all isDig = true := by
              have e : t.data.toList.take k = t.data.toList := List.take_of_length_le (by have := size_list t; omega)
              rw [← e]; exact HA.out
            have HAL := Lib.hid hall
            clear hall HA
            go_wp2

            go_loopw [6, 7] (RelG t wr) (fun _ i _ => t.size - (intOf i).toNat)
            case atStart => exact relG_start t wr
            case round =>
              obtain ⟨j, x, rfl, rfl, hj, hxv, hx0, hx1, rfl⟩ := hrel
              by_cases hlt : j < t.size
              · have h1i : (j : Int) < (t.size : Int) := by omega
                have hst := dstep hlt HAL.out hxv.out
                have hxy := isDig_at hlt HAL.out
                obtain ⟨y, hy⟩ : ∃ y : Int, y = 10 * x - (((t[j].toNat : Nat) : Int) - 48) := ⟨_, rfl⟩
                rw [← hy] at hst
                have hw1 : wrap64 (wrap64 ((t[j].toNat : Nat) : Int) - 48) = ((t[j].toNat : Nat) : Int) - 48 := wrap_dig _ (by omega) (by omega)
                have hle := dval_take_le t.data.toList (j + 1)
                by_cases hbig : y < -9223372036854775808
                · have HE := Lib.hid (show r = (0, 8) by rw [HR.out]; exact numD_much HD.out HNE.out HAL.out (by omega))
                  by_cases ht1 : x < -922337203685477580
                  · have e1 : decide (x < -922337203685477580) = true := by simpa using ht1
                    clear hst hxy hle hbig hy hw1
                    go_wp2
                    go_ret2
                    exact ⟨by rw [HE.out]; rfl, rfl⟩
                  · have e1 : decide (x < -922337203685477580) = false := by simpa using ht1
                    have hx3 : x = -922337203685477580 := by omega
                    have e2 : (x == -922337203685477580) = true := by simpa using hx3
                    have e3 : decide ((8 : Int) < wrap64 (wrap64 ((t[j].toNat : Nat) : Int) - 48)) = true := decide_eq_true (by omega)
                    clear hst hxy hle hbig hy hx3 hw1
                    go_wp2
                    go_ret2
                    exact ⟨by rw [HE.out]; rfl, rfl⟩
                · have e1 : decide (x < -922337203685477580) = false := by simp; omega
                  have hw3 : wrap64 (wrap64 (10 * x) - wrap64 (wrap64 ((t[j].toNat : Nat) : Int) - 48)) = y := by rw [hw1, wrap_next x _ (by omega) hx1 (by rw [← hy]; omega) (by omega), ← hy]
                  have HNX := Lib.hid (show RelG t wr (.int .i64 (wrap64 (wrap64 (10 * x) - wrap64 (wrap64 ((t[j].toNat : Nat) : Int) - 48)))) (.int .i64 ((j : Int) + 1)) wr from ⟨j + 1, y, by rw [hw3], by go_num, by omega, Lib.hid (by omega), by omega, by omega, rfl⟩)
                  by_cases hx3 : x = -922337203685477580
                  · have e2 : (x == -922337203685477580) = true := by simpa using hx3
                    have e3 : decide ((8 : Int) < wrap64 (wrap64 ((t[j].toNat : Nat) : Int) - 48)) = false := decide_eq_false (by omega)
                    clear hst hxy hle hbig hx3 hw1 hw3 hy
                    go_wp2
                    go_roundw
                    case rel => exact HNX.out
                    case measure => simp [intOf]; omega
                  · have e2 : (x == -922337203685477580) = false := by simpa using hx3
                    clear hst hxy hle hbig hx3 hw1 hw3 hy
                    go_wp2
                    go_roundw
                    case rel => exact HNX.out
                    case measure => simp [intOf]; omega
              · have hd2 : decide ((j : Int) < (t.size : Int)) = false := by simp; omega
                have hxe : x = -(dval 0 t.data.toList : Int) := by rw [hxv.out, dval_end hlt]
                have HE := Lib.hid (show r = (x, 0) by rw [HR.out, numD_minus HD.out HM.out HNE.out HAL.out (by omega), hxe])
                clear hxe
                go_wp2
                go_ret2
                exact ⟨by rw [HE.out]; rfl, rfl⟩
    · have hmb : (((s[0].toNat : Nat) : Int) == 45) = false := by simp; omega
      have hD : digitsOf s.data.toList = s.data.toList := by
        rw [hL]
        show (if s[0].toNat = 45 then _ else _) = _
        rw [if_neg hm]
      have hM : minusOf s.data.toList = false := by rw [hL]; show decide (s[0].toNat = 45) = false; simpa using hm
      have HD := Lib.hid hD
      have HM := Lib.hid hM
      have hts := hs2
      clear hD hM hL
      by_cases ht0 : s.size = 0
      · have hzi : ((s.size : Int) == 0) = true := beq_iff_eq.2 (by omega)
        have hl : s.data.toList = [] := List.eq_nil_of_length_eq_zero (by have := size_list s; omega)
        have HE := Lib.hid (show r = (0, 3) by rw [HR.out]; exact numD_form HD.out (.inl hl))
        clear ht0 hl
        go_enter Tryd.func23, Tryd.ntmps23
        go_wp2
        go_ret2
        exact ⟨by rw [HE.out]; rfl, rfl⟩
      · have hzi : ((s.size : Int) == 0) = false := beq_eq_false_iff_ne.2 (by omega)
        have hne : s.data.toList ≠ [] := fun h => ht0 (by rw [← size_list s, h]; rfl)
        have HNE := Lib.hid hne
        clear hne
        go_enter Tryd.func23, Tryd.ntmps23
        go_wp2
        go_loopw [5] (RelF s w) (fun i _ => s.size - (intOf i).toNat)
        case atStart => exact ⟨0, rfl, by omega, rfl, rfl⟩
        case round =>
          obtain ⟨k, rfl, hk, hall, rfl⟩ := hrel
          have HA := Lib.hid hall
          clear hall
          by_cases hlt : k < s.size
          · have h1i : (k : Int) < (s.size : Int) := by omega
            by_cases hx : isDig s[k] = true
            · have hx2 : 48 ≤ s[k].toNat ∧ s[k].toNat ≤ 57 := by unfold isDig at hx; simpa using hx
              have e1 : decide (((s[k].toNat : Nat) : Int) < 48) = false := by simp; omega
              have e2 : decide ((57 : Int) < ((s[k].toNat : Nat) : Int)) = false := by simp; omega
              have HA2 := Lib.hid (take_all_succ hlt HA.out hx)
              clear hx hx2
              go_wp2
              go_roundw
              case rel => exact ⟨k + 1, by go_num, by omega, HA2.out, rfl⟩
              case measure => simp [intOf]; omega
            · have hx' : isDig s[k] = false := by simpa using hx
              have HE := Lib.hid (show r = (0, 3) by rw [HR.out]; exact numD_form HD.out (.inr (not_all hlt hx')))
              by_cases h48 : s[k].toNat < 48
              · have e1 : decide (((s[k].toNat : Nat) : Int) < 48) = true := by simp; omega
                clear hx hx'
                go_wp2
                go_ret2
                exact ⟨by rw [HE.out]; rfl, rfl⟩
              · have h57 : 57 < s[k].toNat := by
                  unfold isDig at hx
                  simp at hx
                  omega
                have e1 : decide (((s[k].toNat : Nat) : Int) < 48) = false := by simp; omega
                have e2 : decide ((57 : Int) < ((s[k].toNat : Nat) : Int)) = true := by simp; omega
                clear hx hx'
                go_wp2
                go_ret2
                exact ⟨by rw [HE.out]; rfl, rfl⟩
          · have hd1 : decide ((k : Int) < (s.size : Int)) = false := by simp; omega
            have hall : s.data.toList.all isDig = true := by
              have e : s.data.toList.take k = s.data.toList := List.take_of_length_le (by have := size_list s; omega)
              rw [← e]; exact HA.out
            have HAL := Lib.hid hall
            clear hall HA
            go_wp2

            go_loopw [6, 7] (RelG s wr) (fun _ i _ => s.size - (intOf i).toNat)
            case atStart => exact relG_start s wr
            case round =>
              obtain ⟨j, x, rfl, rfl, hj, hxv, hx0, hx1, rfl⟩ := hrel
              by_cases hlt : j < s.size
              · have h1i : (j : Int) < (s.size : Int) := by omega
                have hst := dstep hlt HAL.out hxv.out
                have hxy := isDig_at hlt HAL.out
                obtain ⟨y, hy⟩ : ∃ y : Int, y = 10 * x - (((s[j].toNat : Nat) : Int) - 48) := ⟨_, rfl⟩
                rw [← hy] at hst
                have hw1 : wrap64 (wrap64 ((s[j].toNat : Nat) : Int) - 48) = ((s[j].toNat : Nat) : Int) - 48 := wrap_dig _ (by omega) (by omega)
                have hle := dval_take_le s.data.toList (j + 1)
                by_cases hbig : y < -9223372036854775808
                · have HE := Lib.hid (show r = (0, 8) by rw [HR.out]; exact numD_much HD.out HNE.out HAL.out (by omega))
                  by_cases ht1 : x < -922337203685477580
                  · have e1 : decide (x < -922337203685477580) = true := by simpa using ht1
                    clear hst hxy hle hbig hy hw1
                    go_wp2
                    go_ret2
                    exact ⟨by rw [HE.out]; rfl, rfl⟩
                  · have e1 : decide (x < -922337203685477580) = false := by simpa using ht1
                    have hx3 : x = -922337203685477580 := by omega
                    have e2 : (x == -922337203685477580) = true := by simpa using hx3
                    have e3 : decide ((8 : Int) < wrap64 (wrap64 ((s[j].toNat : Nat) : Int) - 48)) = true := decide_eq_true (by omega)
                    clear hst hxy hle hbig hy hx3 hw1
                    go_wp2
                    go_ret2
                    exact ⟨by rw [HE.out]; rfl, rfl⟩
                · have e1 : decide (x < -922337203685477580) = false := by simp; omega
                  have hw3 : wrap64 (wrap64 (10 * x) - wrap64 (wrap64 ((s[j].toNat : Nat) : Int) - 48)) = y := by rw [hw1, wrap_next x _ (by omega) hx1 (by rw [← hy]; omega) (by omega), ← hy]
                  have HNX := Lib.hid (show RelG s wr (.int .i64 (wrap64 (wrap64 (10 * x) - wrap64 (wrap64 ((s[j].toNat : Nat) : Int) - 48)))) (.int .i64 ((j : Int) + 1)) wr from ⟨j + 1, y, by rw [hw3], by go_num, by omega, Lib.hid (by omega), by omega, by omega, rfl⟩)
                  by_cases hx3 : x = -922337203685477580
                  · have e2 : (x == -922337203685477580) = true := by simpa using hx3
                    have e3 : decide ((8 : Int) < wrap64 (wrap64 ((s[j].toNat : Nat) : Int) - 48)) = false := decide_eq_false (by omega)
                    clear hst hxy hle hbig hx3 hw1 hw3 hy
                    go_wp2
                    go_roundw
                    case rel => exact HNX.out
                    case measure => simp [intOf]; omega
                  · have e2 : (x == -922337203685477580) = false := by simpa using hx3
                    clear hst hxy hle hbig hx3 hw1 hw3 hy
                    go_wp2
                    go_roundw
                    case rel => exact HNX.out
                    case measure => simp [intOf]; omega
              · have hd2 : decide ((j : Int) < (s.size : Int)) = false := by simp; omega
                have hxe : x = -(dval 0 s.data.toList : Int) := by rw [hxv.out, dval_end hlt]
                by_cases hmin : x = -9223372036854775808
                · have e1 : (x == -9223372036854775808) = true := by simpa using hmin
                  have HE := Lib.hid (show r = (0, 8) by rw [HR.out, numD_plus HD.out HM.out HNE.out HAL.out, if_neg (by omega)])
                  clear hxe hmin
                  go_wp2
                  go_ret2
                  exact ⟨by rw [HE.out]; rfl, rfl⟩
                · have e1 : (x == -9223372036854775808) = false := by simpa using hmin
                  have hw4 : wrap64 (-x) = -x := wrap_neg x (by omega) hx1
                  have HE := Lib.hid (show r = (wrap64 (-x), 0) by rw [hw4, HR.out, numD_plus HD.out HM.out HNE.out HAL.out, if_pos (by omega), hxe]; simp)
                  clear hxe hmin hw4
                  go_wp2
                  go_ret2
                  exact ⟨by rw [HE.out]; rfl, rfl⟩
  · have h0d : decide ((0 : Int) < (s.size : Int)) = false := decide_eq_false (by omega)
    have hz : s.size = 0 := by omega
    have hzi : ((s.size : Int) == 0) = true := beq_iff_eq.2 (by omega)
    have hl : s.data.toList = [] := List.eq_nil_of_length_eq_zero (by have := size_list s; omega)
    have HE := Lib.hid (show r = (0, 3) by rw [HR.out, hl]; rfl)
    clear hz h0 hl
    go_enter Tryd.func23, Tryd.ntmps23
    go_wp2
    go_ret2
    exact ⟨by rw [HE.out]; rfl, rfl⟩
end Go.Proofs.YtjignlemahdoeaaDoor
