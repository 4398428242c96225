/-
  The document's disk: its files in a slice, in memory; contracts of its Arm, Dead, burn, Wrong. Conditions: as in the premises.
-/
import Derived.Test.YtpnlgmnlanoncaaDActs
import Derived.Test.YtpnlgmnlanoncaaDLive
namespace Go.Proofs.Ytpnlgmnlanoncaa
open Go.ChangeShapes Go.WideShapes Go.ChangeAt Go.RowKit
set_option linter.unusedVariables false

/-- A file of the document's, and where its bytes lie. -/
structure Rf where
  f : Fl
  A : Option Addr
  c : Nat
def enF (r : Rf) : List Value := [.string r.f.name, .slice r.A r.f.b.length r.c, .int .i64 r.f.syn, .bool r.f.ever]
theorem elF : El 77 4 56 (.agg #[.string ByteArray.empty, .slice none 0 0, .int .i64 0, .bool false]) enF := ⟨by kernel_rfl, rfl, by decide, fun _ => rfl, fun x u hu => by simp [enF] at hu; rcases hu with rfl | rfl | rfl | rfl <;> rfl⟩
/-- The files of a slice, no block of them but in T. -/
def Ref (T : Nat → Prop) (w : World) (A : Option Addr) (c : Nat) (rs : List Rf) : Prop :=
  CellsG enF w A c rs ∧ (rs ≠ [] → ∀ a, A = some a → T a.block) ∧ ∀ r ∈ rs, Lies w r.A r.c r.f.b ∧ r.f.b.length ≤ r.c ∧ (r.f.b ≠ [] → ∀ a, r.A = some a → T a.block)
def FilesOf (T : Nat → Prop) (w : World) (A : Option Addr) (c : Nat) (fs : List Fl) : Prop := ∃ rs, rs.map Rf.f = fs ∧ Ref T w A c rs
theorem Ref.below {T : Nat → Prop} {w w' : World} {A : Option Addr} {c : Nat} {rs : List Rf} (h : Ref T w A c rs) (hb : Below w.heap.size w w') : Ref T w' A c rs :=
  ⟨h.1.below hb, h.2.1, fun r hr => ⟨(h.2.2 r hr).1.below hb, (h.2.2 r hr).2⟩⟩
theorem CellsG.blocks2 {α : Type} {en : α → List Value} {w w' : World} {A : Option Addr} {c : Nat} {xs : List α} (h : CellsG en w A c xs) (hk : xs ≠ [] → ∀ a, A = some a → w'.heap[a.block]? = w.heap[a.block]?) : CellsG en w' A c xs := by
  rcases h with h | ⟨a, rfl, h⟩
  · exact .inl h
  · refine .inr ⟨a, rfl, fun j u hu => ?_⟩
    have hk := hk (by rintro rfl; simp [cellsG] at hu)
    have e2 : (a.add j).block = a.block := by unfold Addr.add; split <;> rfl
    have e3 : w'.heap[(a.add j).block]? = w.heap[(a.add j).block]? := by rw [e2]; exact hk a rfl
    exact (World.cell?_of_block e3).trans (h j u hu)
theorem Ref.kept {T : Nat → Prop} {w w' : World} {A : Option Addr} {c : Nat} {rs : List Rf} (h : Ref T w A c rs) (hk : ∀ k, T k → k < w.heap.size → w'.heap[k]? = w.heap[k]?) : Ref T w' A c rs := by
  refine ⟨h.1.blocks2 fun hne a ha => ?_, h.2.1, fun r hr => ⟨(h.2.2 r hr).1.blocks fun hne a ha => ?_, (h.2.2 r hr).2⟩⟩
  · obtain ⟨b, o, h1, h2, _⟩ := h.1.at_ elF (List.length_pos_iff.2 hne)
    rw [h1] at ha
    injection ha with ha
    subst ha
    exact hk _ (h.2.1 hne _ h1) h2
  · obtain ⟨b, o, h1, h2, _⟩ := (h.2.2 r hr).1.at_ (List.length_pos_iff.2 hne)
    rw [h1] at ha
    injection ha with ha
    subst ha
    exact hk _ ((h.2.2 r hr).2.2 hne _ h1) h2
theorem Ref.mono {T T' : Nat → Prop} {w : World} {A : Option Addr} {c : Nat} {rs : List Rf} (h : Ref T w A c rs) (ht : ∀ k, T k → T' k) : Ref T' w A c rs :=
  ⟨h.1, fun hne a ha => ht _ (h.2.1 hne a ha), fun r hr => ⟨(h.2.2 r hr).1, (h.2.2 r hr).2.1, fun hne a ha => ht _ ((h.2.2 r hr).2.2 hne a ha)⟩⟩
theorem Ref.nil (T : Nat → Prop) (w : World) : Ref T w none 0 [] := ⟨CellsG.nil _ _, fun h => absurd rfl h, fun r hr => by cases hr⟩

/-- The document's disk as a value. -/
def dval (cap : Int) (A : Option Addr) (n c : Nat) (ar : Bool) (fu : Int) : Value := .agg #[.int .i64 cap, .slice A n c, .bool ar, .int .i64 fu]
def arV (d : St) : Bool := decide (0 ≤ d.left)
/-- The document's fuse; z: what it holds while no end is set. -/
def fuV (z : Int) (d : St) : Int := if 0 ≤ d.left then (if d.dead then -1 else d.left) else z
theorem lv32 {W : World} {g : Nat} {a b c d : Value} (h : Blk W g #[a, b, c, d] 32) : (loadVar 32 ⟨g, 0, none⟩).run Try.prog W = .ok (.agg #[a, b, c, d]) W := by
  have hl := run_loadCells_list (P := Try.prog) W ⟨g, 0, none⟩ [a, b, c, d] (fun j u hu => by
    have e1 : (⟨g, 0, none⟩ : Addr).add j = ⟨g, j, none⟩ := by
      unfold Addr.add
      split
      · rename_i hz; rw [hz]
      · simp
    rw [e1, h.cell j, ← Array.getElem?_toList]
    exact hu)
  simp at hl
  simp [loadVar, isAgg, underlying, Try.underlying32, hl]
theorem results_cell1 {fn : Func} {p : Tmp} {ty : TypeId} (h : fn.results = #[.cell p ty]) (tmps : Array Value) (P : Program) (w : World) (a1 : Addr) (x : Value)
    (hp : tmps.getD p undef = .pointer (some a1)) (l1 : (loadVar ty a1).run P w = .ok x w) :
    (results fn tmps).run P w = .ok x w := by
  rw [Array.getD_eq_getD_getElem?] at hp
  simp only [results, h]
  simp [hp, asAddr, l1]
theorem below_two (w : World) (o p : Obj) : Below w.heap.size w ((w.alloc o).alloc p) := ((Below.refl _ _).alloc (Nat.le_refl _) _).alloc (by simp) _

theorem rwrong_calls (s : ByteArray) (w : World) (hs : s.size ≤ maxLen) : Calls Try.prog 43 #[.string s] w fun e w' => e = .returned (.bool (bad s)) ∧ w = w' := by
  unfold maxLen at hs
  by_cases h0 : s.size = 0
  · have hb : bad s = true := by simp [bad, h0]
    have hd : ((s.size : Int) == 0) = true := by simp [h0]
    rw [hb]
    go_enter Try.func43, Try.ntmps43
    go_wp2
    go_ret
    exact ⟨rfl, rfl⟩
  · have hd : ((s.size : Int) == 0) = false := by simp [h0]
    by_cases h1 : 64 < s.size
    · have hb : bad s = true := by simp [bad, h1]
      have hd2 : decide ((64 : Int) < (s.size : Int)) = true := by simp; omega
      rw [hb]
      go_enter Try.func43, Try.ntmps43
      go_wp2
      go_ret
      exact ⟨rfl, rfl⟩
    · have hb : bad s = false := by unfold bad; simp only [Bool.or_eq_false_iff, decide_eq_false_iff_not]; omega
      have hd2 : decide ((64 : Int) < (s.size : Int)) = false := by simp; omega
      rw [hb]
      go_enter Try.func43, Try.ntmps43
      go_wp2
      go_ret
      exact ⟨rfl, rfl⟩
theorem rdead_calls (cap : Int) (A : Option Addr) (n c : Nat) (ar : Bool) (fu : Int) (w : World) : Calls Try.prog 35 #[dval cap A n c ar fu] w fun e w' => e = .returned (.bool (ar && decide (fu < 0))) ∧ Below w.heap.size w w' := by
  unfold dval
  have b0 := Blk.new w #[.int .i64 cap, .slice A n c, .bool ar, .int .i64 fu] 32
  have c2 := b0.cell 2
  have c3 := b0.cell 3
  have HB := Lib.hid (below_one w (.cells #[.int .i64 cap, .slice A n c, .bool ar, .int .i64 fu] 32))
  clear b0
  cases ar with
  | true =>
    go_enter Try.func35, Try.ntmps35
    go_wp2
    go_ret
    exact ⟨by simp, HB.out⟩
  | false =>
    go_enter Try.func35, Try.ntmps35
    go_wp2
    go_ret
    exact ⟨rfl, HB.out⟩
theorem rarm_calls (cap : Int) (A : Option Addr) (n c : Nat) (ar : Bool) (fu : Int) (m : Int) (w : World) : Calls Try.prog 34 #[dval cap A n c ar fu, .int .i64 m] w fun e w' => e = .returned (dval cap A n c (decide (0 ≤ m)) m) ∧ Below w.heap.size w w' := by
  unfold dval
  go_enter Try.func34, Try.ntmps34
  go_wp2
  refine bodyPost_ret (results_cell1 rfl _ _ _ _ _ rfl (lv32 (Blk.newAt _ _ _ (by simp)))) rfl ⟨rfl, below_two _ _ _⟩
theorem rburn_calls (cap : Int) (A : Option Addr) (n c : Nat) (ar : Bool) (fu : Int) (w : World) (h0 : -9223372036854775808 ≤ fu) (h1 : fu ≤ 9223372036854775807) : Calls Try.prog 44 #[dval cap A n c ar fu] w fun e w' => e = .returned (dval cap A n c ar (if ar && decide (0 ≤ fu) then fu - 1 else fu)) ∧ Below w.heap.size w w' := by
  unfold dval
  cases ar with
  | true =>
    by_cases h2 : 0 ≤ fu
    · have hd : decide (0 ≤ fu) = true := by simpa using h2
      have hw : wrap64 (fu - 1) = fu - 1 := by unfold wrap64; omega
      simp only [hd, Bool.and_true, if_true]
      go_enter Try.func44, Try.ntmps44
      go_wp2
      refine bodyPost_ret (results_cell1 rfl _ _ _ _ _ rfl (lv32 (Blk.newAt _ _ _ (by simp)))) rfl ⟨rfl, below_two _ _ _⟩
    · have hd : decide (0 ≤ fu) = false := by simpa using h2
      simp only [hd, Bool.and_false, Bool.false_eq_true, if_false]
      go_enter Try.func44, Try.ntmps44
      go_wp2
      refine bodyPost_ret (results_cell1 rfl _ _ _ _ _ rfl (lv32 (Blk.newAt _ _ _ (by simp)))) rfl ⟨rfl, below_two _ _ _⟩
  | false =>
    simp only [Bool.false_and, Bool.false_eq_true, if_false]
    go_enter Try.func44, Try.ntmps44
    go_wp2
    refine bodyPost_ret (results_cell1 rfl _ _ _ _ _ rfl (lv32 (Blk.newAt _ _ _ (by simp)))) rfl ⟨rfl, below_two _ _ _⟩
end Go.Proofs.Ytpnlgmnlanoncaa
