/-
  Contracts of the bag's small functions: Len, Counts, isNode, has, full, Up, and of code. Conditions: the bag lies in memory.
-/
import Derived.Test.YtcdghipodnafmaaBRep
namespace Go.Proofs.Ytcdghipodnafmaa
open Go.ChangeShapes Go.WideShapes Go.ChangeAt Go.RowKit
set_option linter.unusedVariables false

def Bg.isNode (g : Bg) (n : Int) : Bool := decide (0 ≤ n) && decide (n < g.nodes)
def Bg.has (g : Bg) (i : Int) : Bool := decide (0 ≤ i) && decide (i < (g.ms.length : Int))
def Bg.full (g : Bg) : Bool := decide (g.most ≤ (g.ms.length : Int))
def Bg.upAt (g : Bg) (n : Int) : Bool := g.up.getD n.toNat false

theorem code_calls (n : Int) (w : World) : Calls Try.prog 9 #[.int .i64 n] w fun e w' => e = .returned (.int .i64 n) ∧ w = w' := by
  go_enter Try.func9, Try.ntmps9
  go_wp2
  go_ret
  exact ⟨rfl, rfl⟩
section
variable {S : Nat → Prop} {w : World} {p : Nat} {g : Bg}
theorem len_calls (h : BagAt S w p g) : Calls Try.prog 12 #[at_ p] w fun e w' => e = .returned (.int .i64 (g.ms.length : Int)) ∧ w = w' := by
  obtain ⟨A, c, rs, h⟩ := h
  have c0 := h.blk.cell 0
  have hl := Lib.hid h.len
  simp only [bcells] at c0
  clear h
  unfold at_
  go_enter Try.func12, Try.ntmps12
  go_wp2
  go_ret
  exact ⟨by rw [hl.out]; rfl, rfl⟩
theorem len_nil (w : World) : Calls Try.prog 12 #[.pointer none] w fun e w' => e = .returned (.int .i64 0) ∧ w = w' := by
  go_enter Try.func12, Try.ntmps12
  go_wp2
  go_ret
  exact ⟨rfl, rfl⟩
theorem counts_calls (h : BagAt S w p g) : Calls Try.prog 11 #[at_ p] w fun e w' => e = .returned (.tuple #[.int .i64 g.sent, .int .i64 g.taken, .int .i64 g.lost]) ∧ ∃ q, w' = w.drewN q := by
  obtain ⟨A, c, rs, h⟩ := h
  have c0 := h.blk.cell 11
  have c1 := h.blk.cell 12
  have c2 := h.blk.cell 13
  simp only [bcells] at c0 c1 c2
  clear h
  unfold at_
  go_enter Try.func11, Try.ntmps11
  go_wp2_with fail
  go_quiet (fail)
  go_wp2
  go_ret3
  exact ⟨rfl, _, rfl⟩
theorem counts_nil (w : World) : Calls Try.prog 11 #[.pointer none] w fun e w' => e = .returned (.tuple #[.int .i64 0, .int .i64 0, .int .i64 0]) ∧ w = w' := by
  go_enter Try.func11, Try.ntmps11
  go_wp2
  go_ret3
  exact ⟨rfl, rfl⟩
theorem isNode_calls (h : BagAt S w p g) (n : Int) : Calls Try.prog 25 #[at_ p, .int .i64 n] w fun e w' => e = .returned (.bool (g.isNode n)) ∧ w = w' := by
  obtain ⟨A, c, rs, h⟩ := h
  have c0 := h.blk.cell 9
  simp only [bcells] at c0
  clear h
  unfold at_ Bg.isNode
  by_cases h0 : 0 ≤ n
  · have hd : decide (0 ≤ n) = true := by simpa using h0
    rw [hd]
    go_enter Try.func25, Try.ntmps25
    go_wp2
    go_ret
    exact ⟨by simp, rfl⟩
  · have hd : decide (0 ≤ n) = false := by simpa using h0
    rw [hd]
    go_enter Try.func25, Try.ntmps25
    go_wp2
    go_ret
    exact ⟨rfl, rfl⟩
theorem has_calls (h : BagAt S w p g) (n : Int) : Calls Try.prog 26 #[at_ p, .int .i64 n] w fun e w' => e = .returned (.bool (g.has n)) ∧ w = w' := by
  have HL := Lib.hid (len_calls h)
  unfold at_ Bg.has
  unfold at_ at HL
  generalize (g.ms.length : Int) = q at HL ⊢
  clear h
  by_cases h0 : 0 ≤ n
  · have hd : decide (0 ≤ n) = true := by simpa using h0
    rw [hd]
    go_enter Try.func26, Try.ntmps26
    go_wp2_with (go_at_call 12; refine HL.out.mono ?_; rintro e w1 ⟨rfl, rfl⟩)
    go_ret
    exact ⟨by simp, rfl⟩
  · have hd : decide (0 ≤ n) = false := by simpa using h0
    rw [hd]
    go_enter Try.func26, Try.ntmps26
    go_wp2
    go_ret
    exact ⟨rfl, rfl⟩
theorem has_nil (n : Int) (w : World) : Calls Try.prog 26 #[.pointer none, .int .i64 n] w fun e w' => e = .returned (.bool false) ∧ w = w' := by
  have HL := Lib.hid (len_nil w)
  by_cases h0 : 0 ≤ n
  · have hd : decide (0 ≤ n) = true := by simpa using h0
    have hd2 : decide (n < 0) = false := by simpa using h0
    go_enter Try.func26, Try.ntmps26
    go_wp2_with (go_at_call 12; refine HL.out.mono ?_; rintro e w1 ⟨rfl, rfl⟩)
    go_ret
    exact ⟨rfl, rfl⟩
  · have hd : decide (0 ≤ n) = false := by simpa using h0
    go_enter Try.func26, Try.ntmps26
    go_wp2
    go_ret
    exact ⟨rfl, rfl⟩
theorem full_calls (h : BagAt S w p g) : Calls Try.prog 28 #[at_ p] w fun e w' => e = .returned (.bool g.full) ∧ ∃ q, w' = w.drewN q := by
  obtain ⟨A, c, rs, h⟩ := h
  have c0 := h.blk.cell 0
  have c1 := h.blk.cell 10
  have hl := Lib.hid h.len
  simp only [bcells] at c0 c1
  clear h
  unfold at_ Bg.full
  rw [← hl.out]
  go_enter Try.func28, Try.ntmps28
  go_wp2_with fail
  go_quiet (fail)
  go_wp2
  go_ret
  exact ⟨rfl, _, rfl⟩
theorem up_cell {A : Option Addr} {n c : Nat} (h : Blk w p (bcells A n c g) 56) {k : Nat} (hk : k < 8) : w.cell? ⟨p, 1 + k, none⟩ = some (.bool (g.up.getD k false)) := by
  rw [h.cell]
  match k, hk with
  | 0, _ => rfl
  | 1, _ => rfl
  | 2, _ => rfl
  | 3, _ => rfl
  | 4, _ => rfl
  | 5, _ => rfl
  | 6, _ => rfl
  | 7, _ => rfl
theorem bcells_set {A : Option Addr} {n c : Nat} {g : Bg} (hu : g.up.length = 8) {k : Nat} (hk : k < 8) (u : Bool) : (bcells A n c g).setIfInBounds (1 + k) (.bool u) = bcells A n c { g with up := g.up.set k u } := by
  match g, hu with
  | ⟨ms, [a0, a1, a2, a3, a4, a5, a6, a7], _, _, _, _, _⟩, _ =>
    match k, hk with
    | 0, _ => rfl
    | 1, _ => rfl
    | 2, _ => rfl
    | 3, _ => rfl
    | 4, _ => rfl
    | 5, _ => rfl
    | 6, _ => rfl
    | 7, _ => rfl
theorem Ok.node {g : Bg} (h : Ok g) {n : Int} (hn : g.isNode n = true) : ∃ k : Nat, n = (k : Int) ∧ k < 8 := by
  unfold Bg.isNode at hn
  simp only [Bool.and_eq_true, decide_eq_true_eq] at hn
  have := h.n8
  exact ⟨n.toNat, by omega, by omega⟩
theorem up_calls (h : BagAt S w p g) (n : Int) : Calls Try.prog 15 #[at_ p, .int .i64 n] w fun e w' => e = .returned (.bool (g.isNode n && g.upAt n)) ∧ w = w' := by
  have HN := Lib.hid (isNode_calls h n)
  unfold at_ at *
  cases hn : g.isNode n with
  | false =>
    rw [hn] at HN
    clear h hn
    go_enter Try.func15, Try.ntmps15
    go_wp2_with (go_at_call 25; refine HN.out.mono ?_; rintro e w1 ⟨rfl, rfl⟩)
    go_ret
    exact ⟨rfl, rfl⟩
  | true =>
    rw [hn] at HN
    obtain ⟨k, rfl, hk⟩ := h.ok.node hn
    obtain ⟨A, c, rs, h⟩ := h
    have c0 := up_cell h.blk hk
    unfold Bg.upAt
    rw [Int.toNat_natCast]
    generalize g.up.getD k false = u at c0 ⊢
    clear h hn
    go_enter Try.func15, Try.ntmps15
    go_wp2_with (go_at_call 25; refine HN.out.mono ?_; rintro e w1 ⟨rfl, rfl⟩)
    go_ret
    exact ⟨rfl, rfl⟩
theorem up_nil (n : Int) (w : World) : Calls Try.prog 15 #[.pointer none, .int .i64 n] w fun e w' => e = .returned (.bool false) ∧ w = w' := by
  go_enter Try.func15, Try.ntmps15
  go_wp2
  go_ret
  exact ⟨rfl, rfl⟩
end
end Go.Proofs.Ytcdghipodnafmaa
