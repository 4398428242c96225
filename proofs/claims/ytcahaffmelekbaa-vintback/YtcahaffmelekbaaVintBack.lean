/-
  For every number, signed number, string and byte slice the law VintBack returns true (what Put, PutInt and PutText wrote is read back by Get, GetInt and GetText, whatever follows), and the arguments read afterwards as before. No conditions.
-/
import Derived.Test.YtcahaffmelekbaaRows
import Derived.Test.YtcahaffmelekbaaLaw
import Derived.Test.YtcahaffmelekbaaBack
namespace Go.Proofs.Ytcahaffmelekbaa
namespace vintBack
open Go.ChangeShapes Go.WideShapes Go.ChangeAt Go.RowKit
open Go.ChangeMaps (open_string shut_string)
set_option linter.unusedVariables false

theorem getT_ok (l : List Int) (i m n x : Int) (hg : getS l i = (n, x, 0)) (h1 : ¬ (m < 0 ∨ m < n)) (h2 : ¬ (l.length : Int) - x < n) : getT l i m = ((l.drop x.toNat).take n.toNat, x + n, 0) := by
  unfold getT
  rw [hg]
  simp only
  rw [if_pos trivial, if_neg h1, if_neg h2]

/-- All that is written, and what the three readers answer. -/
theorem plain (n m : Int) (s : ByteArray) (r : List Int) (hr : IsB r) (n0 : 0 ≤ n) (n1 : n < 18446744073709551616) (m0 : -9223372036854775808 ≤ m) (m1 : m ≤ 9223372036854775807) (hs : s.size ≤ 1000) (hrl : r.length ≤ 1000)
    (L : List Int) (hL : L = enc n ++ enc (zig m) ++ enc s.size ++ sl s ++ r) :
    IsB L ∧ L.length ≤ 100000 ∧ getS L 0 = (n, (vlen n : Int), 0) ∧ getI L (vlen n) = (m, (vlen n : Int) + vlen (zig m), 0) ∧
      getT L ((vlen n : Int) + vlen (zig m)) 2000 = (sl s, (L.length : Int) - r.length, 0) := by
  obtain ⟨z0, z1⟩ := zig_range m m0 m1
  have v1 := vlen_le n
  have v2 := vlen_le (zig m)
  have v3 := vlen_le s.size
  have hlen : L.length = vlen n + vlen (zig m) + vlen s.size + s.size + r.length := by rw [hL]; simp [enc_length, sl_length]; omega
  refine ⟨?_, by omega, ?_, ?_, ?_⟩
  · intro x hx
    rw [hL] at hx
    simp only [List.mem_append] at hx
    rcases hx with (((hx | hx) | hx) | hx) | hx
    · exact enc_bytes n n0 n1 x hx
    · exact enc_bytes (zig m) z0 z1 x hx
    · exact enc_bytes s.size (by omega) (by omega) x hx
    · exact sl_bytes s x hx
    · exact hr x hx
  · have h := get_back [] (enc (zig m) ++ enc s.size ++ sl s ++ r) n n0 n1
    simp only [List.nil_append, List.length_nil] at h
    rw [hL]
    simp only [List.append_assoc] at h ⊢
    rw [show ((0 : Nat) : Int) = 0 by rfl] at h
    rw [h]
    simp
  · have h := get_back (enc n) (enc s.size ++ sl s ++ r) (zig m) z0 z1
    rw [enc_length] at h
    unfold getI
    rw [hL]
    simp only [List.append_assoc] at h ⊢
    rw [h]
    simp [zag_zig]
  · have h := get_back (enc n ++ enc (zig m)) (sl s ++ r) s.size (by omega) (by omega)
    rw [List.length_append, enc_length, enc_length] at h
    have hd : (L.drop (vlen n + vlen (zig m) + vlen s.size)).take s.size = sl s := by
      have e : L = (enc n ++ enc (zig m) ++ enc s.size) ++ (sl s ++ r) := by rw [hL]; simp only [List.append_assoc]
      rw [e, List.drop_left' (by simp [enc_length]; omega)]
      exact List.take_left' (sl_length s)
    have h2 : getS L ((vlen n : Int) + vlen (zig m)) = ((s.size : Int), (vlen n : Int) + vlen (zig m) + vlen s.size, 0) := by
      rw [hL]
      simp only [List.append_assoc] at h ⊢
      rw [show ((vlen n : Int) + vlen (zig m)) = ((vlen n + vlen (zig m) : Nat) : Int) by omega, h]
    rw [getT_ok L _ 2000 _ _ h2 (by omega) (by omega), show ((vlen n : Int) + vlen (zig m) + vlen s.size).toNat = vlen n + vlen (zig m) + vlen s.size by omega, Int.toNat_natCast, hd, show (vlen n : Int) + vlen (zig m) + vlen s.size + (s.size : Int) = (L.length : Int) - r.length by omega]

/-- Appending a slice that came in to one of the call own. -/
theorem own_more {B : Nat} {w w1 w2 : World} {A : Option Addr} {c g cap : Nat} {l r : List Int} (hb : Below B w w1) (hB : B ≤ w1.heap.size) (h1 : w1.ownsRow B 5 1 (.slice A l.length c) l.length (cellsOf l))
    (h2 : w2.ownsRow B 5 1 (.slice (some ⟨g, 0, none⟩) (l.length + r.length) cap) (l.length + r.length) (cellsOf l ++ cellsOf r)) (hg : w1.grownBy w2 (Value.slice A l.length c).ownBlock) :
    w2.ownsRow B 5 1 (.slice (some ⟨g, 0, none⟩) (l ++ r).length cap) (l ++ r).length (cellsOf (l ++ r)) ∧ Below B w w2 := by
  rw [← cellsOf_append, ← List.length_append] at h2
  exact ⟨h2, hb.grown hg hB (fun k hk => (h1.lt k hk).1)⟩

theorem own_cap {w : World} {B : Nat} {A : Option Addr} {c : Nat} {l : List Int} (h : w.ownsRow B 5 1 (.slice A l.length c) l.length (cellsOf l)) : l.length ≤ c := by
  rcases h.2 with ⟨hv, h0⟩ | ⟨g, cap, cur, hv, _, _, hnc, _⟩
  · omega
  · simp only [Value.slice.injEq] at hv
    omega

theorem own_row {w : World} {B : Nat} {v : Value} {l : List Int} (h : w.ownsRow B 5 1 v l.length (cellsOf l)) (hl : 0 < l.length) :
    ∃ A c, v = .slice A l.length c ∧ l.length ≤ c ∧ Lies w A c l := by
  obtain ⟨g, cap, rfl, _, _⟩ := h.form hl
  exact ⟨_, cap, rfl, own_cap h, Lies.of_own h⟩

/-- What the three readers answer, as contracts. -/
structure Reads (n m : Int) (s : ByteArray) (k : Nat) (L : List Int) : Prop where
  get : ∀ (A : Option Addr) (c : Nat) (w : World), Lies w A c L → L.length ≤ c → Calls Try.prog 14 #[.slice A L.length c, .int .i64 0] w fun e w' => e = .returned (.tuple #[.int .u64 n, .int .i64 (vlen n), .int .i64 0]) ∧ Below w.heap.size w w'
  getInt : ∀ (A : Option Addr) (c : Nat) (w : World), Lies w A c L → L.length ≤ c → Calls Try.prog 17 #[.slice A L.length c, .int .i64 (vlen n)] w fun e w' => e = .returned (.tuple #[.int .i64 m, .int .i64 ((vlen n : Int) + vlen (zig m)), .int .i64 0]) ∧ Below w.heap.size w w'
  getText : ∀ (A : Option Addr) (c : Nat) (w : World), Lies w A c L → L.length ≤ c → Calls Try.prog 21 #[.slice A L.length c, .int .i64 ((vlen n : Int) + vlen (zig m)), .int .i64 2000] w fun e w' => e = .returned (.tuple #[.string s, .int .i64 ((L.length : Int) - k), .int .i64 0]) ∧ Below w.heap.size w w'
  len : L.length ≤ 100000 ∧ k < L.length

theorem reads (n m : Int) (s : ByteArray) (r : List Int) (hr : IsB r) (n0 : 0 ≤ n) (n1 : n < 18446744073709551616) (m0 : -9223372036854775808 ≤ m) (m1 : m ≤ 9223372036854775807) (hs : s.size ≤ 1000) (hrl : r.length ≤ 1000) :
    Reads n m s r.length (enc n ++ enc (zig m) ++ enc s.size ++ sl s ++ r) := by
  obtain ⟨hb, hl, h1, h2, h3⟩ := plain n m s r hr n0 n1 m0 m1 hs hrl _ rfl
  have hv := vlen_pos n
  have hk : r.length < (enc n ++ enc (zig m) ++ enc s.size ++ sl s ++ r).length := by simp [enc_length]; omega
  generalize enc n ++ enc (zig m) ++ enc s.size ++ sl s ++ r = L at *
  refine ⟨fun A c w h hc => ?_, fun A c w h hc => ?_, fun A c w h hc => ?_, hl, hk⟩
  · have h := get_calls A c L 0 w h hb hc (by omega)
    rw [h1] at h
    exact h
  · have h := getInt_calls A c L (vlen n) w h hb hc (by omega)
    rw [h2] at h
    exact h
  · have h := getText_calls A c L ((vlen n : Int) + vlen (zig m)) 2000 w h hb hc (by omega) (by omega)
    rw [h3] at h
    unfold triT at h
    simp only [str_sl] at h
    exact h

set_option maxRecDepth 100000 in
set_option maxHeartbeats 4000000 in
theorem small_some (n m : Int) (s : ByteArray) (a : Addr) (c : Nat) (r : List Int) (w : World) (h : ∀ j u, (cellsOf r)[j]? = some u → w.cell? (a.add j) = some u) (hr : IsB r) (n0 : 0 ≤ n) (n1 : n < 18446744073709551616) (m0 : -9223372036854775808 ≤ m) (m1 : m ≤ 9223372036854775807) (hs : s.size ≤ 1000) (hrl : (r).length ≤ 1000) :
    Calls Try.prog 7 #[.int .u64 n, .int .i64 m, .string s, .slice (some a) r.length c] w fun e w' => e = .returned (.bool true) ∧ Below w.heap.size w w' := by
  obtain ⟨i0, hi, hz0, hz1, hz2⟩ := info_parts Try.info5
  have v1 := vlen_le n
  have v2 := vlen_le (zig m)
  have v3 := vlen_le s.size
  have v4 := vlen_pos n
  have HS := Lib.hid (reads n m s r hr n0 n1 m0 m1 hs hrl)
  have HP := Lib.hid (put_calls none 0 [] n w (Lies.nil w) (by simp) n0 n1)
  have HI := Lib.hid (fun (A : Option Addr) (c : Nat) (w : World) (h : Lies w A c (enc n)) => putInt_calls A c (enc n) m w h (by rw [enc_length]; omega) m0 m1)
  have HT := Lib.hid (fun (A : Option Addr) (c : Nat) (w : World) (h : Lies w A c (enc n ++ enc (zig m))) => putText_calls A c (enc n ++ enc (zig m)) s w h (by rw [List.length_append, enc_length, enc_length]; omega) (by omega))
  have hl3 : (enc n ++ enc (zig m) ++ enc s.size ++ sl s).length ≤ 2000 := by simp [enc_length, sl_length]; omega
  have hl4 : 0 < (enc n ++ enc (zig m) ++ enc s.size ++ sl s).length := by simp [enc_length]; omega
  rw [List.nil_append] at HP
  generalize enc n ++ enc (zig m) ++ enc s.size ++ sl s = L3 at *
  generalize enc n ++ enc (zig m) = L2 at *
  generalize enc n = L1 at *
  have H := Lib.hid h
  have HCL := Lib.hid (show (cellsOf r).length = r.length * 1 by rw [cellsOf_length]; omega)
  clear h hr
  go_enter Try.func7, Try.ntmps7
  go_wp2_with fail
  refine HP.out.mono ?_
  rintro e w1 ⟨A1, c1, rfl, hown1, hb1⟩
  have H1 := Lib.hid (Lies.of_own hown1)
  clear hown1
  go_wp2_with fail
  refine (HI.out A1 c1 w1 H1.out).mono ?_
  rintro e w2 ⟨A2, c2, rfl, hown2, hb2⟩
  have H2 := Lib.hid (Lies.of_own hown2)
  clear hown2
  go_wp2_with fail
  refine (HT.out A2 c2 w2 H2.out).mono ?_
  rintro e w3 ⟨A3, c3, rfl, hown3, hb3⟩
  have hB3 : Below w.heap.size w w3 := Below.on (Below.on hb1 hb2) hb3
  have hs3 := hb3.size
  have hs2 := Nat.le_trans hb1.size hb2.size
  go_wp2_with (at_builtin; go_must (refine wpList_append_own _ rfl _ _ 22 rfl w2.heap.size 5 i0 (.int .u8 0) 1 1 Try.underlying22 hi hz0 hz1 hz2 rfl (by decide) (.slice A3 L3.length c3) L3.length (cellsOf L3) rfl hown3 a r.length c (cellsOf r) rfl HCL.out (fun j u hu => by rw [hB3.cell (block_lt_of_cell (H.out j u hu))]; exact H.out j u hu) (cellsOf_one r) (by unfold maxLen; omega) (by omega) hs3 ?_); intro v4 w4 hown4 hgrow4 _)
  have hown5 : w4.ownsRow w2.heap.size 5 1 v4 (L3 ++ r).length (cellsOf (L3 ++ r)) := by rw [cellsOf_append, List.length_append]; exact hown4
  obtain ⟨A4, c4, rfl, hc4, hlie4⟩ := own_row hown5 (by rw [List.length_append]; omega)

  have hB4 : Below w.heap.size w w4 := hB3.grown hgrow4 (Nat.le_trans hs2 hs3) (fun k hk => Nat.le_trans hs2 (hown3.lt k hk).1)
  have HL := Lib.hid hlie4
  have hlen4 := HS.out.len
  obtain ⟨hlen4, hlen5⟩ := hlen4
  clear hown4 hown5 hgrow4 hown3
  generalize L3 ++ r = L at *
  clear hlie4
  go_wp2_with fail
  refine (HS.out.get A4 c4 w4 HL.out hc4).mono ?_
  rintro e w5 ⟨rfl, hb5⟩
  go_wp2_with fail
  refine (HS.out.getInt A4 c4 w5 (HL.out.below hb5) hc4).mono ?_
  rintro e w6 ⟨rfl, hb6⟩
  go_wp2_with fail
  refine (HS.out.getText A4 c4 w6 ((HL.out.below hb5).below hb6) hc4).mono ?_
  rintro e w7 ⟨rfl, hb7⟩
  have hB7 : Below w.heap.size w w7 := Below.on (Below.on (Below.on hB4 hb5) hb6) hb7
  go_wp2_with (first
    | (go_at_call 16; refine (code_calls _ _ (by omega) (by omega)).mono ?_; rintro e w' ⟨rfl, rfl⟩)
    | (go_at_call 9; refine (live_calls _).mono ?_; rintro e w8 ⟨rfl, hb8⟩))
  go_ret
  exact ⟨rfl, Below.on hB7 hb8⟩

set_option maxRecDepth 100000 in
set_option maxHeartbeats 4000000 in
theorem small_nil (n m : Int) (s : ByteArray)  (w : World)  (hr : IsB ([] : List Int)) (n0 : 0 ≤ n) (n1 : n < 18446744073709551616) (m0 : -9223372036854775808 ≤ m) (m1 : m ≤ 9223372036854775807) (hs : s.size ≤ 1000) (hrl : ([] : List Int).length ≤ 1000) :
    Calls Try.prog 7 #[.int .u64 n, .int .i64 m, .string s, .slice none 0 0] w fun e w' => e = .returned (.bool true) ∧ Below w.heap.size w w' := by
  obtain ⟨i0, hi, hz0, hz1, hz2⟩ := info_parts Try.info5
  have v1 := vlen_le n
  have v2 := vlen_le (zig m)
  have v3 := vlen_le s.size
  have v4 := vlen_pos n
  have HS := Lib.hid (reads n m s ([] : List Int) hr n0 n1 m0 m1 hs hrl)
  have HP := Lib.hid (put_calls none 0 [] n w (Lies.nil w) (by simp) n0 n1)
  have HI := Lib.hid (fun (A : Option Addr) (c : Nat) (w : World) (h : Lies w A c (enc n)) => putInt_calls A c (enc n) m w h (by rw [enc_length]; omega) m0 m1)
  have HT := Lib.hid (fun (A : Option Addr) (c : Nat) (w : World) (h : Lies w A c (enc n ++ enc (zig m))) => putText_calls A c (enc n ++ enc (zig m)) s w h (by rw [List.length_append, enc_length, enc_length]; omega) (by omega))
  have hl3 : (enc n ++ enc (zig m) ++ enc s.size ++ sl s).length ≤ 2000 := by simp [enc_length, sl_length]; omega
  have hl4 : 0 < (enc n ++ enc (zig m) ++ enc s.size ++ sl s).length := by simp [enc_length]; omega
  rw [List.nil_append] at HP
  generalize enc n ++ enc (zig m) ++ enc s.size ++ sl s = L3 at *
  generalize enc n ++ enc (zig m) = L2 at *
  generalize enc n = L1 at *
  simp only [List.append_nil] at HS
  go_enter Try.func7, Try.ntmps7
  go_wp2_with fail
  refine HP.out.mono ?_
  rintro e w1 ⟨A1, c1, rfl, hown1, hb1⟩
  have H1 := Lib.hid (Lies.of_own hown1)
  clear hown1
  go_wp2_with fail
  refine (HI.out A1 c1 w1 H1.out).mono ?_
  rintro e w2 ⟨A2, c2, rfl, hown2, hb2⟩
  have H2 := Lib.hid (Lies.of_own hown2)
  clear hown2
  go_wp2_with fail
  refine (HT.out A2 c2 w2 H2.out).mono ?_
  rintro e w3 ⟨A3, c3, rfl, hown3, hb3⟩
  have hB3 : Below w.heap.size w w3 := Below.on (Below.on hb1 hb2) hb3
  have hs3 := hb3.size
  have hs2 := Nat.le_trans hb1.size hb2.size
  go_wp2_with (at_builtin; go_must (refine wpList_append_own_none rfl _ _ 22 rfl w2.heap.size 5 i0 1 Try.underlying22 hi (.slice A3 L3.length c3) L3.length (cellsOf L3) rfl hown3 rfl ?_))
  have hc3 := own_cap hown3
  have hlie3 := Lies.of_own hown3
  have HL := Lib.hid hlie3
  have hlen4 := HS.out.len
  obtain ⟨hlen4, hlen5⟩ := hlen4

  clear hlie3 hown3
  go_wp2_with fail
  refine (HS.out.get A3 c3 w3 HL.out hc3).mono ?_
  rintro e w5 ⟨rfl, hb5⟩
  go_wp2_with fail
  refine (HS.out.getInt A3 c3 w5 (HL.out.below hb5) hc3).mono ?_
  rintro e w6 ⟨rfl, hb6⟩
  go_wp2_with fail
  refine (HS.out.getText A3 c3 w6 ((HL.out.below hb5).below hb6) hc3).mono ?_
  rintro e w7 ⟨rfl, hb7⟩
  have hB7 : Below w.heap.size w w7 := Below.on (Below.on (Below.on hB3 hb5) hb6) hb7
  go_wp2_with (first
    | (go_at_call 16; refine (code_calls _ _ (by omega) (by omega)).mono ?_; rintro e w' ⟨rfl, rfl⟩)
    | (go_at_call 9; refine (live_calls _).mono ?_; rintro e w8 ⟨rfl, hb8⟩))
  go_ret
  exact ⟨rfl, Below.on hB7 hb8⟩

theorem walk (a0 : Int) (a1 : Int) (a2 : ByteArray) (a3 : Option Addr) (len3 cap3 : Nat) (z3 : List Int) (w : World) (w0 : (Lit.int .u64 a0).wf = true) (w1 : (Lit.int .i64 a1).wf = true) (w2 : a2.size ≤ maxLen) (w3 : IsRow w a3 len3 cap3 z3) :
    Calls Try.prog 7 #[.int .u64 a0, .int .i64 a1, .string a2, .slice a3 len3 cap3] w fun e w' => e = .returned (.bool true) ∧ Below w.heap.size w w' := by
  obtain ⟨l, rfl, hc, hm, h, hb⟩ := bytes_of_row w3
  unfold maxLen at hm w2
  have hn := bounds_u64 w0
  have hi := bounds_i64 w1
  by_cases hs : a2.size ≤ 1000
  · by_cases hl : l.length ≤ 1000
    · rcases h with ⟨rfl, rfl, rfl⟩ | ⟨a, rfl, h⟩
      · exact small_nil a0 a1 a2 w hb (by omega) (by omega) (by omega) (by omega) hs hl
      · exact small_some a0 a1 a2 a cap3 l w h hb (by omega) (by omega) (by omega) (by omega) hs hl
    · have hd : decide ((1000 : Int) < (a2.size : Int)) = false := by simp; omega
      clear h hb w3
      go_enter Try.func7, Try.ntmps7
      go_wp2_with (go_at_call 9; refine (live_calls _).mono ?_; rintro e w1 ⟨rfl, hb1⟩)
      go_ret
      exact ⟨rfl, hb1⟩
  · have hd : decide ((1000 : Int) < (a2.size : Int)) = true := by simp; omega
    clear h hb w3
    go_enter Try.func7, Try.ntmps7
    go_wp2_with (go_at_call 9; refine (live_calls _).mono ?_; rintro e w1 ⟨rfl, hb1⟩)
    go_ret
    exact ⟨rfl, hb1⟩

/- From the walk to the row. -/
set_option maxRecDepth 100000 in
theorem lifted (os : Os) (started : os.Started) (H : Type) (enc : TypeId × Value → H) :
    ReturnsInHanded {} Try.checked os 7 .any (Rows.vintBackSpec.pre6 enc Try.prog Try.f7 Rows.vintBackRow.domain false) (Rows.vintBackSpec.post enc Try.prog Try.f7 false true false false) := by
  refine returnsInHanded_of_change (C := Try.checked) own started (by kernel_rfl) Try.func7
    (ChangeSpec.witness6 (enc := enc) (C := Try.checked) false ⟨#[], #[.int .u64 0, .int .i64 0, .string ByteArray.empty, .slice none 0 0], []⟩ 8 (by kernel_rfl) (by kernel_rfl) (by kernel_rfl) (by kernel_rfl)) ?_
  intro W base args ds gs before hval0 hW hcnd _
  have hval : ∀ (j : Nat) t v, Try.f7.params[j]? = some t → args[j]? = some v → Value.okWide Try.prog W .any base t v := hval0
  have hW' := hW
  obtain ⟨p, q, hA0, hV, rfl, hfz, hnd⟩ := hW
  have hA : DataW.TrodAll enc Try.prog W 0 (fun _ => true) true Try.f7.params.toList args.toList ds p := hA0
  rw [Try.params7] at hA hval
  obtain ⟨v0, vs0, d0, ds0, p0, q0, hargs, rfl, rfl, h0, r0⟩ := trodAll_cons hA
  obtain ⟨v1, vs1, d1, ds1, p1, q1, rfl, rfl, rfl, h1, r1⟩ := trodAll_cons r0
  obtain ⟨v2, vs2, d2, ds2, p2, q2, rfl, rfl, rfl, h2, r2⟩ := trodAll_cons r1
  obtain ⟨v3, vs3, d3, ds3, p3, q3, rfl, rfl, rfl, h3, r3⟩ := trodAll_cons r2
  obtain ⟨rfl, rfl, rfl⟩ := trodAll_nil r3
  obtain rfl : args = #[v0, v1, v2, v3] := by cases args; simp_all
  obtain ⟨rfl, rfl⟩ := trodVars_none hV
  obtain ⟨a0, rfl, rfl, rfl, w0⟩ := open_int Try.underlying23 (hval 0 23 v0 rfl rfl) h0
  obtain ⟨a1, rfl, rfl, rfl, w1⟩ := open_int Try.underlying3 (hval 1 3 v1 rfl rfl) h1
  obtain ⟨a2, rfl, rfl, rfl, w2⟩ := open_string Try.underlying9 (hval 2 9 v2 rfl rfl) h2
  obtain ⟨a3, len3, cap3, rfl⟩ := okWide_slice Try.underlying22 (hval 3 22 v3 rfl rfl)
  have k3 := h3
  have lt3 : ∀ x ∈ p3, x.block < W.heap.size := by obtain ⟨m, hm⟩ := k3; exact DataW.trod_lt m _ _ _ hm
  obtain ⟨z3, w3⟩ : ∃ zs, IsRow W a3 len3 cap3 zs := by
    obtain ⟨fuel, hf⟩ := h3
    rcases open_ints Try.underlying22 Try.underlying5 (by kernel_rfl) hf with ⟨hcs, _⟩ | ⟨x, l, c, zs, hcs, _, hl, hm, hz, _, hcell, hwz⟩
    · simp [Value.cells] at hcs
      obtain ⟨rfl, rfl, rfl⟩ := hcs
      exact ⟨[], .inl ⟨rfl, rfl, rfl, rfl⟩⟩
    · simp [Value.cells] at hcs
      obtain ⟨rfl, rfl, rfl⟩ := hcs
      exact ⟨zs, .inr ⟨_, rfl, hl, hm, by simpa using hz, hcell, hwz⟩⟩
  clear hA0 hval0
  refine (walk a0 a1 a2 a3 len3 cap3 z3 W w0 w1 w2 w3).mono fun e W' ⟨he, bel⟩ => ?_
  subst he
  exact ⟨_, rfl, _, _, _, [], _, [], hW', trodAll_mk1 (shut_bool Try.underlying4 _), (trodAll_cons_mk (shut_int Try.underlying23 w0) (trodAll_cons_mk (shut_int Try.underlying3 w1) (trodAll_cons_mk (shut_string Try.underlying9 w2) (trodAll_cons_mk (Below.trod laidOut (by kernel_rfl) (of_decide_eq_true (by kernel_rfl)) k3 bel lt3) trodAll_mk0)))), rfl, bel.frame _, fun h => by cases h⟩

theorem over : Rows.vintBackRow.holds Try.pinned (OpenSpec.ofChange Rows.vintBackSpec) :=
  OpenClaim.holds_of_wide 7 Try.f7 rfl rfl rfl rfl rfl rfl rfl ⟨rfl, rfl, rfl, rfl, rfl⟩ rfl rfl rfl rfl rfl (by kernel_rfl) Try.func7 (by kernel_rfl)
    (of_decide_eq_true (by kernel_rfl)) (by unfold Func.isWrapper; first | (rw [if_pos (by decide +kernel)]; kernel_rfl) | (rw [if_neg (by decide +kernel)]; exact ⟨rfl, rfl⟩))
    (fun os started H enc _ => lifted os started H enc)

end vintBack

/-- The statement. -/
theorem vintBack_holds : Rows.VintBackSaid := vintBack.over
#print axioms vintBack_holds
end Go.Proofs.Ytcahaffmelekbaa
