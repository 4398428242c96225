/-
  Contracts of vint.PutText and GetText and of the document Text and GetText. Conditions: strings and slices of the sizes that each theorem names.
-/
import Derived.Test.YtdgdkkapikopnaaDoorVInt
import Derived.Test.YtdgdkkapikopnaaDoorVBytes
namespace Go.Proofs.YtdgdkkapikopnaaDoor
open Go.ChangeShapes Go.WideShapes Go.ChangeAt Go.RowKit
set_option linter.unusedVariables false
set_option maxRecDepth 20000

/-- What GetText answers. -/
def getT (l : List Int) (i m : Int) : List Int × Int × Int :=
  if (getS l i).2.2 = 0 then
    if m < 0 ∨ m < (getS l i).1 then ([], 0, 5)
    else if (l.length : Int) - (getS l i).2.1 < (getS l i).1 then ([], 0, 2)
    else ((l.drop (getS l i).2.1.toNat).take (getS l i).1.toNat, (getS l i).2.1 + (getS l i).1, 0)
  else ([], 0, (getS l i).2.2)
def triT (r : List Int × Int × Int) : Value := .tuple #[.string (str r.1), .int .i64 r.2.1, .int .i64 r.2.2]

set_option maxHeartbeats 1000000 in
theorem getText_calls (A : Option Addr) (c : Nat) (l : List Int) (i m : Int) (w : World) (h : Lies w A c l) (hb : IsB l) (hc : l.length ≤ c) (hl : l.length ≤ 1000000) (hm1 : m ≤ 9223372036854775807) :
    Calls Tryd.prog 48 #[.slice A l.length c, .int .i64 i, .int .i64 m] w fun e w' => e = .returned (triT (getT l i m)) ∧ Below w.heap.size w w' := by
  obtain ⟨n0, n1, x0, x1⟩ := getS_range l hb i
  obtain ⟨n, x, e, hg⟩ : ∃ n x e, getS l i = (n, x, e) := ⟨_, _, _, rfl⟩
  have HG := Lib.hid hg
  have HT := Lib.hid (show getT l i m = if e = 0 then (if m < 0 ∨ m < n then ([], 0, 5) else if (l.length : Int) - x < n then ([], 0, 2) else ((l.drop x.toNat).take n.toNat, x + n, 0)) else ([], 0, e) by unfold getT; rw [hg])
  have HC := Lib.hid (get_calls A c l i w h hb hc hl)
  have he := getS_err l i
  rw [hg] at n0 n1 x0 x1 he
  simp only at n0 n1 x0 x1 he
  obtain ⟨he0, he1⟩ := he
  have H := Lib.hid h
  clear hg h hb
  by_cases hz : e = 0
  · have e0 : (e != 0) = false := by simp [hz]
    have HZ := Lib.hid hz
    clear hz
    by_cases hmn : m < 0
    · go_enter Tryd.func48, Tryd.ntmps48
      go_wp2_with (go_at_call 67; refine HC.out.mono ?_; rw [HG.out]; unfold tri; rintro e' w1 ⟨rfl, hb1⟩)
      go_ret3
      rw [HT.out, if_pos HZ.out, if_pos (by omega)]
      exact ⟨rfl, hb1⟩
    · by_cases hmx : m < n
      · have hmw : decide (m < n) = true := by simpa using hmx
        go_enter Tryd.func48, Tryd.ntmps48
        go_wp2_with (go_at_call 67; refine HC.out.mono ?_; rw [HG.out]; unfold tri; rintro e' w1 ⟨rfl, hb1⟩)
        go_ret3
        rw [HT.out, if_pos HZ.out, if_pos (by omega)]
        exact ⟨rfl, hb1⟩
      · have hmw : decide (m < n) = false := by simpa using hmx
        by_cases hs : (l.length : Int) - x < n
        · go_enter Tryd.func48, Tryd.ntmps48
          go_wp2_with (go_at_call 67; refine HC.out.mono ?_; rw [HG.out]; unfold tri; rintro e' w1 ⟨rfl, hb1⟩)
          go_ret3
          rw [HT.out, if_pos HZ.out, if_neg (by omega), if_pos (by omega)]
          exact ⟨rfl, hb1⟩
        · obtain ⟨A', C', hcut, hstr⟩ := cut_str H.out x.toNat n.toNat x (x + n) (by omega) (by omega) (by omega) hc
          go_enter Tryd.func48, Tryd.ntmps48
          go_wp2_with (go_at_call 67; refine HC.out.mono ?_; rw [HG.out]; unfold tri; rintro e' w1 ⟨rfl, hb1⟩)
          go_ret3
          rw [HT.out, if_pos HZ.out, if_neg (by omega), if_neg (by omega)]
          exact ⟨rfl, hb1⟩
  · have e0 : (e != 0) = true := by simp [hz]
    have HZ := Lib.hid hz
    clear hz
    go_enter Tryd.func48, Tryd.ntmps48
    go_wp2_with (go_at_call 67; refine HC.out.mono ?_; rw [HG.out]; unfold tri; rintro e' w1 ⟨rfl, hb1⟩)
    go_ret3
    rw [HT.out, if_neg HZ.out]
    exact ⟨rfl, hb1⟩

set_option maxHeartbeats 1000000 in
theorem rgetText_calls (A : Option Addr) (c : Nat) (l : List Int) (i m : Int) (w : World) (h : Lies w A c l) (hb : IsB l) (hc : l.length ≤ c) (hl : l.length ≤ 1000000) (hm1 : m ≤ 9223372036854775807) :
    Calls Tryd.prog 28 #[.slice A l.length c, .int .i64 i, .int .i64 m] w fun e w' => e = .returned (triT (getT l i m)) ∧ Below w.heap.size w w' := by
  obtain ⟨n0, n1, x0, x1⟩ := getS_range l hb i
  obtain ⟨n, x, e, hg⟩ : ∃ n x e, getS l i = (n, x, e) := ⟨_, _, _, rfl⟩
  have HG := Lib.hid hg
  have HT := Lib.hid (show getT l i m = if e = 0 then (if m < 0 ∨ m < n then ([], 0, 5) else if (l.length : Int) - x < n then ([], 0, 2) else ((l.drop x.toNat).take n.toNat, x + n, 0)) else ([], 0, e) by unfold getT; rw [hg])
  have HC := Lib.hid (rget_calls A c l i w h hb hc hl)
  have he := getS_err l i
  rw [hg] at n0 n1 x0 x1 he
  simp only at n0 n1 x0 x1 he
  obtain ⟨he0, he1⟩ := he
  have H := Lib.hid h
  clear hg h hb
  by_cases hz : e = 0
  · have e0 : (e != 0) = false := by simp [hz]
    have HZ := Lib.hid hz
    clear hz
    by_cases hmn : m < 0
    · go_enter Tryd.func28, Tryd.ntmps28
      go_wp2_with (go_at_call 49; refine HC.out.mono ?_; rw [HG.out]; unfold tri; rintro e' w1 ⟨rfl, hb1⟩)
      go_ret3
      rw [HT.out, if_pos HZ.out, if_pos (by omega)]
      exact ⟨rfl, hb1⟩
    · by_cases hmx : m < n
      · have hmw : decide (m < n) = true := by simpa using hmx
        go_enter Tryd.func28, Tryd.ntmps28
        go_wp2_with (go_at_call 49; refine HC.out.mono ?_; rw [HG.out]; unfold tri; rintro e' w1 ⟨rfl, hb1⟩)
        go_ret3
        rw [HT.out, if_pos HZ.out, if_pos (by omega)]
        exact ⟨rfl, hb1⟩
      · have hmw : decide (m < n) = false := by simpa using hmx
        by_cases hs : (l.length : Int) - x < n
        · go_enter Tryd.func28, Tryd.ntmps28
          go_wp2_with (go_at_call 49; refine HC.out.mono ?_; rw [HG.out]; unfold tri; rintro e' w1 ⟨rfl, hb1⟩)
          go_ret3
          rw [HT.out, if_pos HZ.out, if_neg (by omega), if_pos (by omega)]
          exact ⟨rfl, hb1⟩
        · obtain ⟨A', C', hcut, hstr⟩ := cut_str H.out x.toNat n.toNat x (x + n) (by omega) (by omega) (by omega) hc
          go_enter Tryd.func28, Tryd.ntmps28
          go_wp2_with (go_at_call 49; refine HC.out.mono ?_; rw [HG.out]; unfold tri; rintro e' w1 ⟨rfl, hb1⟩)
          go_ret3
          rw [HT.out, if_pos HZ.out, if_neg (by omega), if_neg (by omega)]
          exact ⟨rfl, hb1⟩
  · have e0 : (e != 0) = true := by simp [hz]
    have HZ := Lib.hid hz
    clear hz
    go_enter Tryd.func28, Tryd.ntmps28
    go_wp2_with (go_at_call 49; refine HC.out.mono ?_; rw [HG.out]; unfold tri; rintro e' w1 ⟨rfl, hb1⟩)
    go_ret3
    rw [HT.out, if_neg HZ.out]
    exact ⟨rfl, hb1⟩

theorem putText_calls (A : Option Addr) (c : Nat) (l : List Int) (s : ByteArray) (w : World) (h : Lies w A c l) (hl : l.length ≤ 100000) (hs : s.size ≤ 100000) :
    Calls Tryd.prog 23 #[.slice A l.length c, .string s] w (Own w.heap.size w (l ++ enc s.size ++ sl s)) := by
  obtain ⟨i0, hi, hz0, hz1, hz2⟩ := info_parts Tryd.info5
  have hv := vlen_le s.size
  have hv1 := vlen_pos s.size
  have HC := Lib.hid (fun m (h0 : 0 ≤ m) (h1 : m ≤ 1000000) => copyWithRoom_calls A c l m w h (by omega) h0 h1)
  have HA := Lib.hid (fun (A1 : Option Addr) (c1 : Nat) (w1 : World) (hown : w1.ownsRow w.heap.size 5 1 (.slice A1 l.length c1) l.length (cellsOf l)) (hB : w.heap.size ≤ w1.heap.size) => appendNumber_calls w.heap.size A1 c1 l s.size w1 hown hB (by omega) (by omega) (by omega))
  have hL : (l ++ enc s.size).length ≤ 200000 := by rw [List.length_append, enc_length]; omega
  have hL0 : 0 < (l ++ enc s.size).length := by rw [List.length_append, enc_length]; omega
  clear h
  generalize l ++ enc s.size = L at *
  go_enter Tryd.func23, Tryd.ntmps23
  go_wp2_with (go_at_call 45; refine (len_calls _ _).mono ?_; rintro e w' ⟨rfl, rfl⟩)
  refine (HC.out _ (by omega) (by omega)).mono ?_
  rintro e w1 ⟨A1, c1, rfl, hown1, hb1⟩
  have H1 := Lib.hid hown1
  clear hown1
  go_wp2_with fail
  refine (HA.out A1 c1 w1 H1.out hb1.size).mono ?_
  rintro e w2 ⟨A2, c2, rfl, hown2, hb2⟩
  have hb12 := hb1.trans hb2
  have hz := Nat.le_trans hb1.size hb2.size
  go_wp2_with (at_builtin; go_must (refine Lib.wpList_append_own_string _ rfl _ _ 24 9 rfl w.heap.size 5 i0 Tryd.underlying24 Tryd.underlying9 hi hz0 hz1 hz2 (.slice A2 L.length c2) L.length (cellsOf L) rfl hown2 s rfl (by unfold maxLen; omega) (by omega) hz ?_); intro v3 w3 hown3 hgrow3 _)
  go_ret
  exact own_text hb12 hz hown2 hL0 hown3 hgrow3

theorem text_calls (s : ByteArray) (w : World) (hs : s.size ≤ 100000) :
    Calls Tryd.prog 31 #[.string s] w (Own w.heap.size w (enc s.size ++ sl s)) := by
  obtain ⟨i0, hi, hz0, hz1, hz2⟩ := info_parts Tryd.info5
  have hv := vlen_le s.size
  have hv1 := vlen_pos s.size
  have HB := Lib.hid (bytes_calls s.size w (by omega) (by omega))
  have hL : (enc s.size).length ≤ 9 := by rw [enc_length]; omega
  have hL0 : 0 < (enc s.size).length := by rw [enc_length]; omega
  generalize enc s.size = L at *
  go_enter Tryd.func31, Tryd.ntmps31
  go_wp2_with fail
  refine HB.out.mono ?_
  rintro e w1 ⟨A1, c1, rfl, hown1, hb1⟩
  go_wp2_with (at_builtin; go_must (refine Lib.wpList_append_own_string _ rfl _ _ 24 9 rfl w.heap.size 5 i0 Tryd.underlying24 Tryd.underlying9 hi hz0 hz1 hz2 (.slice A1 L.length c1) L.length (cellsOf L) rfl hown1 s rfl (by unfold maxLen; omega) (by omega) hb1.size ?_); intro v3 w3 hown3 hgrow3 _)
  go_ret
  exact own_text hb1 hb1.size hown1 hL0 hown3 hgrow3
end Go.Proofs.YtdgdkkapikopnaaDoor
