/-
  Contracts of the bag's New and All. Conditions: the bag lies in memory.
-/
import Derived.Test.YtcdghipodnafmaaBTake
namespace Go.Proofs.Ytcdghipodnafmaa
open Go.ChangeShapes Go.WideShapes Go.ChangeAt Go.RowKit
set_option linter.unusedVariables false
/-- A new bag. -/
def newG (n m : Int) : Bg := ⟨[], (List.range 8).map (fun i : Nat => decide ((i : Int) < n)), n, m, 0, 0, 0⟩
def okNew (n m : Int) : Bool := decide (1 ≤ n) && decide (n ≤ 8) && decide (1 ≤ m) && decide (m ≤ 512)
def upTo (n m : Int) (k : Nat) : Bg := ⟨[], (List.range 8).map (fun i => decide (i < k)), n, m, 0, 0, 0⟩
theorem upTo_set (n m : Int) (k : Nat) (hk : k < 8) : (bcells none 0 0 (upTo n m k)).setIfInBounds (1 + k) (.bool true) = bcells none 0 0 (upTo n m (k + 1)) := by
  match k, hk with
  | 0, _ => rfl
  | 1, _ => rfl
  | 2, _ => rfl
  | 3, _ => rfl
  | 4, _ => rfl
  | 5, _ => rfl
  | 6, _ => rfl
  | 7, _ => rfl
def RelNew (n m : Int) (w : World) (i : Value) (wr : World) : Prop := ∃ k : Nat, i = .int .i64 k ∧ (k : Int) ≤ n ∧ Blk wr w.heap.size (bcells none 0 0 (upTo n m k)) 56 ∧ Touch (fun _ => False) w wr
theorem Ok.new {n m : Int} (h1 : 1 ≤ n) (h2 : n ≤ 8) (h3 : 1 ≤ m) (h4 : m ≤ 512) : Ok (newG n m) := ⟨by simp [newG], h1, h2, h3, h4, by show ((0 : Nat) : Int) ≤ m; omega, fun x hx => (by cases hx), Int.le_refl _, Int.le_refl _, Int.le_refl _⟩
theorem new_at {n m : Int} {w W : World} (h1 : 1 ≤ n) (h2 : n ≤ 8) (h3 : 1 ≤ m) (h4 : m ≤ 512) (hb : Blk W w.heap.size (bcells none 0 0 (newG n m)) 56) : BagAt (fun k => k = w.heap.size) W w.heap.size (newG n m) :=
  ⟨none, 0, [], hb, rfl, OwnG.nil 0 W, fun a ha => (by cases ha), fun k hk => (by rw [show k = w.heap.size from hk]; exact hb.lt), fun r hr => (by cases hr), rfl, Ok.new h1 h2 h3 h4⟩
set_option maxRecDepth 20000 in
set_option maxHeartbeats 4000000 in
theorem new_calls (n m : Int) (w : World) (h1 : 1 ≤ n) (h2 : n ≤ 8) (h3 : 1 ≤ m) (h4 : m ≤ 512) :
    Calls Try.prog 8 #[.int .i64 n, .int .i64 m] w fun e w' => e = .returned (.tuple #[at_ w.heap.size, .int .i64 0]) ∧ BagAt (fun k => k = w.heap.size) w' w.heap.size (newG n m) ∧ Below w.heap.size w w' := by
  have d1 : decide (n < 1) = false := by simp; omega
  have d2 : decide (8 < n) = false := by simp; omega
  have d3 : decide (m < 1) = false := by simp; omega
  have d4 : decide (512 < m) = false := by simp; omega
  have HB := Lib.hid (Blk.new w (bcells none 0 0 (upTo n m 0)) 56)
  have HT := Lib.hid (show Touch (fun _ => False) w (w.alloc (.cells (bcells none 0 0 (upTo n m 0)) 56)) from Touch.of_below (below_one w _))
  have HEND := Lib.hid (show ∀ W, Blk W w.heap.size (bcells none 0 0 (newG n m)) 56 → BagAt (fun k => k = w.heap.size) W w.heap.size (newG n m) from fun W hW => new_at h1 h2 h3 h4 hW)
  have H8 := Lib.hid h2
  have H1 := Lib.hid h1
  have HC : bcells none 0 0 (upTo n m 0) = #[.slice none 0 0, .bool false, .bool false, .bool false, .bool false, .bool false, .bool false, .bool false, .bool false, .int .i64 n, .int .i64 m, .int .i64 0, .int .i64 0, .int .i64 0] := rfl
  rw [HC] at HB HT
  have HCC := Lib.hid HC
  unfold at_
  clear h1 h2 h3 h4 HC
  go_enter Try.func8, Try.ntmps8
  go_wp2
  go_loopw [27] (RelNew n m w) (fun i _ => n.toNat - (intOf i).toNat)
  case atStart => exact ⟨0, rfl, by have := H1.out; omega, by rw [HCC.out]; exact HB.out, HT.out⟩
  case round =>
    obtain ⟨k, rfl, hk, hb, ht⟩ := hrel
    by_cases hlt : (k : Int) < n
    · have hk8 : k < 8 := by have := H8.out; omega
      have c0 := up_cell hb hk8
      have c1 := hb.free (1 + k)
      have HBK := Lib.hid hb
      have HTT := Lib.hid ht
      clear hb ht
      go_wp2
      go_roundw
      case rel =>
        refine ⟨k + 1, by go_num, by omega, ?_, touch_new HTT.out (Nat.le_refl _) _ _⟩
        have h9 := HBK.out.set (1 + k) (.bool true)
        rw [upTo_set n m k hk8] at h9
        exact h9
      case measure => simp [intOf]; omega
    · have hd : decide ((k : Int) < n) = false := by simpa using hlt
      have hkn : (k : Int) = n := by omega
      have HKN := Lib.hid hkn
      have HBK := Lib.hid hb
      have HTT := Lib.hid ht
      clear hb ht hkn hlt hk
      go_wp2
      go_ret2
      refine ⟨rfl, HEND.out _ ?_, HTT.out.none_below⟩
      have h9 := HBK.out
      have e : upTo n m k = newG n m := by
        unfold upTo newG
        congr 1
        apply List.map_congr_left
        intro i _
        have := HKN.out
        congr 1
        exact propext ⟨fun h => by omega, fun h => by omega⟩
      rw [e] at h9
      exact h9
theorem new_bad (n m : Int) (w : World) (h : okNew n m = false) : Calls Try.prog 8 #[.int .i64 n, .int .i64 m] w fun e w' => e = .returned (.tuple #[.pointer none, .int .i64 1]) ∧ w = w' := by
  unfold okNew at h
  by_cases h1 : n < 1
  · have d1 : decide (n < 1) = true := by simpa using h1
    clear h h1
    go_enter Try.func8, Try.ntmps8
    go_wp2
    go_ret2
    exact ⟨rfl, rfl⟩
  · have d1 : decide (n < 1) = false := by simpa using h1
    by_cases h2 : 8 < n
    · have d2 : decide (8 < n) = true := by simpa using h2
      clear h h1 h2
      go_enter Try.func8, Try.ntmps8
      go_wp2
      go_ret2
      exact ⟨rfl, rfl⟩
    · have d2 : decide (8 < n) = false := by simpa using h2
      by_cases h3 : m < 1
      · have d3 : decide (m < 1) = true := by simpa using h3
        clear h h1 h2 h3
        go_enter Try.func8, Try.ntmps8
        go_wp2
        go_ret2
        exact ⟨rfl, rfl⟩
      · have d3 : decide (m < 1) = false := by simpa using h3
        have d4 : decide (512 < m) = true := by
          simp only [Bool.and_eq_false_iff, decide_eq_false_iff_not] at h
          simp only [decide_eq_true_eq]
          omega
        clear h h1 h2 h3
        go_enter Try.func8, Try.ntmps8
        go_wp2
        go_ret2
        exact ⟨rfl, rfl⟩
end Go.Proofs.Ytcdghipodnafmaa
