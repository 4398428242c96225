/-
  Contracts of vint.PutInt and GetInt and of the document Signed and GetInt. Conditions: numbers of 64 bits, slices of at most a million bytes.
-/
import Derived.Test.YtdgdkkapikopnaaDoorVRGet
namespace Go.Proofs.YtdgdkkapikopnaaDoor
open Go.ChangeShapes Go.WideShapes Go.ChangeAt Go.RowKit
set_option linter.unusedVariables false
set_option maxRecDepth 20000

/-- A number with a sign as one without. -/
def zig (n : Int) : Int := if n < 0 then -2 * n - 1 else 2 * n
/-- And back. -/
def zag (m : Int) : Int := if m % 2 = 1 then -1 - m / 2 else m / 2
theorem zag_zig (n : Int) : zag (zig n) = n := by
  unfold zag zig
  split <;> split <;> omega

/-- What GetInt answers. -/
def getI (l : List Int) (i : Int) : Int × Int × Int := if (getS l i).2.2 = 0 then (zag (getS l i).1, (getS l i).2.1, 0) else (0, 0, (getS l i).2.2)
def triI (r : Int × Int × Int) : Value := .tuple #[.int .i64 r.1, .int .i64 r.2.1, .int .i64 r.2.2]

theorem ret3I {a b x y : Int} (h : a = b) : Ending.returned (.tuple #[.int .i64 a, .int .i64 x, .int .i64 y]) = .returned (triI (b, x, y)) := by rw [h]; rfl

theorem getS_range (l : List Int) (hb : IsB l) (i : Int) : 0 ≤ (getS l i).1 ∧ (getS l i).1 < 18446744073709551616 ∧ 0 ≤ (getS l i).2.1 ∧ (getS l i).2.1 ≤ l.length := by
  unfold getS
  simp only
  split
  · simp
  · split
    · simp
    · split
      · simp
      · split
        · simp
        · have hi : i.toNat < l.length := by omega
          have hx := hb (l.getD i.toNat 0) (by rw [getD_at hi]; exact List.getElem_mem hi)
          have hlen : ((l.drop (i.toNat + 1)).take (onesB (l.getD i.toNat 0))).length = onesB (l.getD i.toNat 0) := by rw [List.length_take, List.length_drop]; omega
          obtain ⟨hn0, hn1, hn2⟩ := dec_fits (l.getD i.toNat 0) ((l.drop (i.toNat + 1)).take (onesB (l.getD i.toNat 0))) hx.1 hx.2 (fun z hz => hb z (List.mem_of_mem_drop (List.mem_of_mem_take hz))) hlen
          refine ⟨hn0, hn1, ?_, ?_⟩ <;> simp only <;> omega

set_option maxHeartbeats 1000000 in
theorem getInt_calls (A : Option Addr) (c : Nat) (l : List Int) (i : Int) (w : World) (h : Lies w A c l) (hb : IsB l) (hc : l.length ≤ c) (hl : l.length ≤ 1000000) :
    Calls Tryd.prog 47 #[.slice A l.length c, .int .i64 i] w fun e w' => e = .returned (triI (getI l i)) ∧ Below w.heap.size w w' := by
  obtain ⟨n0, n1, x0, x1⟩ := getS_range l hb i
  obtain ⟨n, x, e, hg⟩ : ∃ n x e, getS l i = (n, x, e) := ⟨_, _, _, rfl⟩
  have HG := Lib.hid hg
  have HI := Lib.hid (show getI l i = if e = 0 then (zag n, x, 0) else (0, 0, e) by unfold getI; rw [hg])
  have HC := Lib.hid (get_calls A c l i w h hb hc hl)
  have he := getS_err l i
  rw [hg] at n0 n1 x0 x1 he
  simp only at n0 n1 x0 x1 he
  obtain ⟨he0, he1⟩ := he
  clear hg h hb
  by_cases hz : e = 0
  · have e0 : (e != 0) = false := by simp [hz]
    by_cases hp : n % 2 = 1
    · have ep : (n % 2 == 1) = true := by simp [hp]
      have HZ := Lib.hid hz
      have HPp := Lib.hid hp
      clear hz hp
      go_enter Tryd.func47, Tryd.ntmps47
      go_wp2_with (go_at_call 67; refine HC.out.mono ?_; rw [HG.out]; unfold tri; rintro e' w1 ⟨rfl, hb1⟩)
      go_ret3
      rw [HI.out, if_pos HZ.out]
      unfold zag
      rw [if_pos HPp.out]
      exact ⟨rfl, hb1⟩
    · have ep : (n % 2 == 1) = false := by simp; omega
      have HZ := Lib.hid hz
      have HPp := Lib.hid hp
      clear hz hp
      go_enter Tryd.func47, Tryd.ntmps47
      go_wp2_with (go_at_call 67; refine HC.out.mono ?_; rw [HG.out]; unfold tri; rintro e' w1 ⟨rfl, hb1⟩)
      go_ret3
      rw [HI.out, if_pos HZ.out]
      unfold zag
      rw [if_neg HPp.out]
      exact ⟨rfl, hb1⟩
  · have e0 : (e != 0) = true := by simp [hz]
    have HZ := Lib.hid hz
    clear hz
    go_enter Tryd.func47, Tryd.ntmps47
    go_wp2_with (go_at_call 67; refine HC.out.mono ?_; rw [HG.out]; unfold tri; rintro e' w1 ⟨rfl, hb1⟩)
    go_ret3
    rw [HI.out, if_neg HZ.out]
    exact ⟨rfl, hb1⟩

set_option maxHeartbeats 1000000 in
theorem rgetInt_calls (A : Option Addr) (c : Nat) (l : List Int) (i : Int) (w : World) (h : Lies w A c l) (hb : IsB l) (hc : l.length ≤ c) (hl : l.length ≤ 1000000) :
    Calls Tryd.prog 27 #[.slice A l.length c, .int .i64 i] w fun e w' => e = .returned (triI (getI l i)) ∧ Below w.heap.size w w' := by
  obtain ⟨n0, n1, x0, x1⟩ := getS_range l hb i
  obtain ⟨n, x, e, hg⟩ : ∃ n x e, getS l i = (n, x, e) := ⟨_, _, _, rfl⟩
  have HG := Lib.hid hg
  have HI := Lib.hid (show getI l i = if e = 0 then (zag n, x, 0) else (0, 0, e) by unfold getI; rw [hg])
  have HC := Lib.hid (rget_calls A c l i w h hb hc hl)
  have he := getS_err l i
  rw [hg] at n0 n1 x0 x1 he
  simp only at n0 n1 x0 x1 he
  obtain ⟨he0, he1⟩ := he
  clear hg h hb
  by_cases hz : e = 0
  · have e0 : (e != 0) = false := by simp [hz]
    by_cases hp : n % 2 = 1
    · have ep : (n % 2 == 1) = true := by simp [hp]
      have HZ := Lib.hid hz
      have HPp := Lib.hid hp
      clear hz hp
      go_enter Tryd.func27, Tryd.ntmps27
      go_wp2_with (go_at_call 49; refine HC.out.mono ?_; rw [HG.out]; unfold tri; rintro e' w1 ⟨rfl, hb1⟩)
      go_ret3
      rw [HI.out, if_pos HZ.out]
      unfold zag
      rw [if_pos HPp.out]
      exact ⟨ret3I (by omega), hb1⟩
    · have ep : (n % 2 == 1) = false := by simp; omega
      have HZ := Lib.hid hz
      have HPp := Lib.hid hp
      clear hz hp
      go_enter Tryd.func27, Tryd.ntmps27
      go_wp2_with (go_at_call 49; refine HC.out.mono ?_; rw [HG.out]; unfold tri; rintro e' w1 ⟨rfl, hb1⟩)
      go_ret3
      rw [HI.out, if_pos HZ.out]
      unfold zag
      rw [if_neg HPp.out]
      exact ⟨rfl, hb1⟩
  · have e0 : (e != 0) = true := by simp [hz]
    have HZ := Lib.hid hz
    clear hz
    go_enter Tryd.func27, Tryd.ntmps27
    go_wp2_with (go_at_call 49; refine HC.out.mono ?_; rw [HG.out]; unfold tri; rintro e' w1 ⟨rfl, hb1⟩)
    go_ret3
    rw [HI.out, if_neg HZ.out]
    exact ⟨rfl, hb1⟩

theorem zig_range (n : Int) (h0 : -9223372036854775808 ≤ n) (h1 : n ≤ 9223372036854775807) : 0 ≤ zig n ∧ zig n < 18446744073709551616 := by
  unfold zig
  split <;> omega

theorem zig_neg (n : Int) (h0 : -9223372036854775808 ≤ n) (h1 : n < 0) : IntKind.u64.wrap (IntKind.u64.wrap (-IntKind.u64.wrap (2 * IntKind.u64.wrap n)) - 1) = zig n := by
  unfold zig
  rw [if_pos h1]
  simp only [IntKind.wrap_u64]
  omega

theorem putInt_calls (A : Option Addr) (c : Nat) (l : List Int) (n : Int) (w : World) (h : Lies w A c l) (hl : l.length ≤ 1000000) (h0 : -9223372036854775808 ≤ n) (h1 : n ≤ 9223372036854775807) :
    Calls Tryd.prog 22 #[.slice A l.length c, .int .i64 n] w (Own w.heap.size w (l ++ enc (zig n))) := by
  have HP := Lib.hid (put_calls A c l (zig n) w h hl (zig_range n h0 h1).1 (zig_range n h0 h1).2)
  clear h
  by_cases hn : n < 0
  · have HZ := Lib.hid (zig_neg n h0 hn)
    generalize l ++ enc (zig n) = L at *
    go_enter Tryd.func22, Tryd.ntmps22
    go_wp2_with fail
    rw [HZ.out]
    refine HP.out.mono ?_
    rintro e w1 ⟨A1, c1, rfl, hown1, hb1⟩
    go_wp2
    go_ret
    exact ⟨A1, c1, rfl, hown1, hb1⟩
  · have HZ := Lib.hid (show 2 * n = zig n by unfold zig; rw [if_neg hn])
    generalize l ++ enc (zig n) = L at *
    go_enter Tryd.func22, Tryd.ntmps22
    go_wp2_with fail
    rw [HZ.out]
    refine HP.out.mono ?_
    rintro e w1 ⟨A1, c1, rfl, hown1, hb1⟩
    go_wp2
    go_ret
    exact ⟨A1, c1, rfl, hown1, hb1⟩

theorem signed_calls (n : Int) (w : World) (h0 : -9223372036854775808 ≤ n) (h1 : n ≤ 9223372036854775807) :
    Calls Tryd.prog 30 #[.int .i64 n] w fun e w' => e = .returned (.int .u64 (zig n)) ∧ w = w' := by
  by_cases hn : n < 0
  · have hz : zig n = -2 * n - 1 := by unfold zig; rw [if_pos hn]
    rw [hz]
    clear hz
    go_enter Tryd.func30, Tryd.ntmps30
    go_wp2
    go_ret
    exact ⟨ret_int (by omega), rfl⟩
  · have hz : zig n = 2 * n := by unfold zig; rw [if_neg hn]
    rw [hz]
    clear hz
    go_enter Tryd.func30, Tryd.ntmps30
    go_wp2
    go_ret
    exact ⟨rfl, rfl⟩
end Go.Proofs.YtdgdkkapikopnaaDoor
