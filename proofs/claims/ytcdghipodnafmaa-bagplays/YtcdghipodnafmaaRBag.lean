/-
  The document's bag as a value and in a block; contract of its without. Conditions: as in the premises.
-/
import Derived.Test.YtcdghipodnafmaaBAdd
import Derived.Test.YtcdghipodnafmaaBTake
import Derived.Deep.RegionLaw
namespace Go.Proofs.Ytcdghipodnafmaa
open Go.ChangeShapes Go.WideShapes Go.ChangeAt Go.RowKit
set_option linter.unusedVariables false

/-- What the document's bag holds beside its messages. -/
structure Rb where
  n : Int
  m : Int
  dn : Nat → Bool
  x : Int
  y : Int
  z : Int
def rc (b : Rb) (A : Option Addr) (l c : Nat) : Array Value := #[.int .i64 b.n, .int .i64 b.m, .bool (b.dn 0), .bool (b.dn 1), .bool (b.dn 2), .bool (b.dn 3), .bool (b.dn 4), .bool (b.dn 5), .bool (b.dn 6), .bool (b.dn 7), .slice A l c, .int .i64 b.x, .int .i64 b.y, .int .i64 b.z]
def rv (b : Rb) (A : Option Addr) (l c : Nat) : Value := .agg (rc b A l c)
def rz : Array Value := #[.int .i64 0, .int .i64 0, .bool false, .bool false, .bool false, .bool false, .bool false, .bool false, .bool false, .bool false, .slice none 0 0, .int .i64 0, .int .i64 0, .int .i64 0]
theorem Blk.all {W : World} {g : Nat} {cs : Array Value} {t : TypeId} (h : Blk W g cs t) (vs : List Value) (hl : vs.length = cs.size) : Blk (W.setCells g 0 vs) g vs.toArray t := by
  obtain ⟨cs', h1, h2⟩ := Blk.sets vs 0 W cs h (by omega)
  have e : cs' = vs.toArray := by
    apply Array.toList_inj.1
    rw [h2, List.take_zero, List.nil_append, Nat.zero_add, List.drop_eq_nil_of_le (by simp; omega), List.append_nil]
  rw [← e]; exact h1
theorem lv34 {W : World} {g : Nat} {a0 a1 a2 a3 a4 a5 a6 a7 a8 a9 a10 a11 a12 a13 : Value} (h : Blk W g #[a0, a1, a2, a3, a4, a5, a6, a7, a8, a9, a10, a11, a12, a13] 34) : (loadVar 34 ⟨g, 0, none⟩).run Try.prog W = .ok (.agg #[a0, a1, a2, a3, a4, a5, a6, a7, a8, a9, a10, a11, a12, a13]) W := by
  have hl := run_loadCells_list (P := Try.prog) W ⟨g, 0, none⟩ [a0, a1, a2, a3, a4, a5, a6, a7, a8, a9, a10, a11, a12, a13] (fun j u hu => by
    have e1 : (⟨g, 0, none⟩ : Addr).add j = ⟨g, j, none⟩ := by
      unfold Addr.add
      split
      · rename_i hz; rw [hz]
      · simp
    rw [e1, h.cell j, ← Array.getElem?_toList]
    exact hu)
  simp at hl
  simp [loadVar, isAgg, underlying, Try.underlying34, hl]
/-- The cells of such a block, one by one. -/
theorem Blk.cells14 {W : World} {g : Nat} {a0 a1 a2 a3 a4 a5 a6 a7 a8 a9 a10 a11 a12 a13 : Value} {t : TypeId} (h : Blk W g #[a0, a1, a2, a3, a4, a5, a6, a7, a8, a9, a10, a11, a12, a13] t) :
    W.cell? ⟨g, 0, none⟩ = some a0 ∧ W.cell? ⟨g, 1, none⟩ = some a1 ∧ W.cell? ⟨g, 2, none⟩ = some a2 ∧ W.cell? ⟨g, 3, none⟩ = some a3 ∧ W.cell? ⟨g, 4, none⟩ = some a4 ∧ W.cell? ⟨g, 5, none⟩ = some a5 ∧ W.cell? ⟨g, 6, none⟩ = some a6 ∧ W.cell? ⟨g, 7, none⟩ = some a7 ∧ W.cell? ⟨g, 8, none⟩ = some a8 ∧ W.cell? ⟨g, 9, none⟩ = some a9 ∧ W.cell? ⟨g, 10, none⟩ = some a10 ∧ W.cell? ⟨g, 11, none⟩ = some a11 ∧ W.cell? ⟨g, 12, none⟩ = some a12 ∧ W.cell? ⟨g, 13, none⟩ = some a13 :=
  ⟨h.cell 0, h.cell 1, h.cell 2, h.cell 3, h.cell 4, h.cell 5, h.cell 6, h.cell 7, h.cell 8, h.cell 9, h.cell 10, h.cell 11, h.cell 12, h.cell 13⟩
theorem Blk.free14 {W : World} {g : Nat} {cs : Array Value} {t : TypeId} (h : Blk W g cs t) :
    W.frozen? ⟨g, 0, none⟩ = false ∧ W.frozen? ⟨g, 1, none⟩ = false ∧ W.frozen? ⟨g, 2, none⟩ = false ∧ W.frozen? ⟨g, 3, none⟩ = false ∧ W.frozen? ⟨g, 4, none⟩ = false ∧ W.frozen? ⟨g, 5, none⟩ = false ∧ W.frozen? ⟨g, 6, none⟩ = false ∧ W.frozen? ⟨g, 7, none⟩ = false ∧ W.frozen? ⟨g, 8, none⟩ = false ∧ W.frozen? ⟨g, 9, none⟩ = false ∧ W.frozen? ⟨g, 10, none⟩ = false ∧ W.frozen? ⟨g, 11, none⟩ = false ∧ W.frozen? ⟨g, 12, none⟩ = false ∧ W.frozen? ⟨g, 13, none⟩ = false :=
  ⟨h.free 0, h.free 1, h.free 2, h.free 3, h.free 4, h.free 5, h.free 6, h.free 7, h.free 8, h.free 9, h.free 10, h.free 11, h.free 12, h.free 13⟩
theorem sets_other {g k : Nat} (hne : k ≠ g) : ∀ (vs : List Value) (o : Nat) (W : World), (W.setCells g o vs).heap[k]? = W.heap[k]?
  | [], _, _ => rfl
  | v :: vs, o, W => (sets_other hne vs (o + 1) (W.setCell ⟨g, o, none⟩ v)).trans (Below.heap_setCell _ _ _ k hne)
theorem touch_news {S : Nat → Prop} {w W : World} {g : Nat} (ht : Touch S w W) (hg : w.heap.size ≤ g) (o : Nat) (vs : List Value) : Touch S w (W.setCells g o vs) :=
  ht.on (Touch.sets (S := fun k => k = g) rfl vs o W) fun b hb => .inr (by rw [hb]; exact hg)
theorem Blk.sets_other {W : World} {g k : Nat} {cs : Array Value} {t : TypeId} (h : Blk W k cs t) (hne : k ≠ g) (o : Nat) (vs : List Value) : Blk (W.setCells g o vs) k cs t := (Go.Proofs.Ytcdghipodnafmaa.sets_other hne vs o W).trans h
/-- A world in which the document's bag has been laid into a block. -/
def rset (V : World) (g : Nat) (b : Rb) (A : Option Addr) (l c : Nat) : World := ((((((((((((((V.setCell ⟨g, 0, none⟩ (.int .i64 b.n)).setCell ⟨g, 1, none⟩ (.int .i64 b.m)).setCell ⟨g, 2, none⟩ (.bool (b.dn 0))).setCell ⟨g, 3, none⟩ (.bool (b.dn 1))).setCell ⟨g, 4, none⟩ (.bool (b.dn 2))).setCell ⟨g, 5, none⟩ (.bool (b.dn 3))).setCell ⟨g, 6, none⟩ (.bool (b.dn 4))).setCell ⟨g, 7, none⟩ (.bool (b.dn 5))).setCell ⟨g, 8, none⟩ (.bool (b.dn 6))).setCell ⟨g, 9, none⟩ (.bool (b.dn 7))).setCell ⟨g, 10, none⟩ (.slice A l c)).setCell ⟨g, 11, none⟩ (.int .i64 b.x)).setCell ⟨g, 12, none⟩ (.int .i64 b.y)).setCell ⟨g, 13, none⟩ (.int .i64 b.z))
theorem rset_eq (V : World) (g : Nat) (b : Rb) (A : Option Addr) (l c : Nat) : rset V g b A l c = V.setCells g 0 (rc b A l c).toList := rfl
theorem rset_blk {V : World} {g : Nat} {cs : Array Value} (h : Blk V g cs 34) (hs : cs.size = 14) (b : Rb) (A : Option Addr) (l c : Nat) : Blk (rset V g b A l c) g (rc b A l c) 34 := by
  rw [rset_eq]
  exact h.all _ (by rw [hs]; rfl)
theorem rset_other {V : World} {g k : Nat} (hne : k ≠ g) (b : Rb) (A : Option Addr) (l c : Nat) : (rset V g b A l c).heap[k]? = V.heap[k]? := by
  rw [rset_eq]
  exact sets_other hne _ 0 V
theorem rset_touch {S : Nat → Prop} {w V : World} {g : Nat} (ht : Touch S w V) (hg : w.heap.size ≤ g) (b : Rb) (A : Option Addr) (l c : Nat) : Touch S w (rset V g b A l c) := by
  rw [rset_eq]
  exact touch_news ht hg 0 _
theorem lvr {W : World} {g : Nat} {b : Rb} {A : Option Addr} {l c : Nat} (h : Blk W g (rc b A l c) 34) : (loadVar 34 ⟨g, 0, none⟩).run Try.prog W = .ok (rv b A l c) W := lv34 h
/-- Whether a node is down. -/
theorem dn_cell {W : World} {g : Nat} {b : Rb} {A : Option Addr} {l c : Nat} {t : TypeId} (h : Blk W g (rc b A l c) t) {k : Nat} (hk : k < 8) : W.cell? ⟨g, 2 + k, none⟩ = some (.bool (b.dn k)) := by
  rw [h.cell]
  match k, hk with
  | 0, _ => rfl
  | 1, _ => rfl
  | 2, _ => rfl
  | 3, _ => rfl
  | 4, _ => rfl
  | 5, _ => rfl
  | 6, _ => rfl
  | 7, _ => rfl
/-- A part of a slice of messages: from i on, up to j. -/
theorem CellsG.part {W : World} {A : Option Addr} {c : Nat} {rs : List Mr} (h : CellsG enM W A c rs) (i : Nat) (hi : i ≤ rs.length) (hne : i < rs.length) (c' : Nat) : ∀ b o, A = some ⟨b, o, none⟩ → CellsG enM W (some ⟨b, o + i * 3, none⟩) c' (rs.drop i) := fun b o hA => by
  obtain ⟨b', o', h1, _, h2⟩ := h.at_ elM (by omega)
  rw [hA] at h1
  have e := Option.some.inj h1
  injection e with e1 e2
  subst e1
  subst e2
  refine .inr ⟨_, rfl, fun k u hu => ?_⟩
  rw [cellsG_drop rs i hi, List.getElem?_drop] at hu
  rcases h with ⟨h3, _⟩ | ⟨a, h3, h4⟩
  · rw [hA] at h3; cases h3
  · rw [hA] at h3
    have e3 := Option.some.inj h3
    subst e3
    have h5 := h4 (i * 3 + k) u hu
    rw [Addr.add_lit] at h5 ⊢
    rw [Nat.add_assoc]; exact h5
theorem CellsG.front {W : World} {A : Option Addr} {c : Nat} {rs : List Mr} (h : CellsG enM W A c rs) (i : Nat) (hi : i ≤ rs.length) : CellsG enM W A c (rs.take i) := by
  rcases h with ⟨h1, h2, h3⟩ | ⟨a, h1, h2⟩
  · exact .inl ⟨h1, h2, by rw [h3]; simp⟩
  · refine .inr ⟨a, h1, fun k u hu => h2 k u ?_⟩
    rw [cellsG_take rs i hi] at hu
    have hk : k < i * 3 := by
      have := (List.getElem?_eq_some_iff.1 hu).1
      rw [List.length_take] at this
      omega
    rwa [List.getElem?_take_of_lt hk] at hu
end Go.Proofs.Ytcdghipodnafmaa
