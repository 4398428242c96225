/-
  Blocks of the call's own: what they hold, and what leaves them as they are. No function of the program in sight. Conditions: as in the premises.
-/
import Derived.Test.YtdgdkkapikopnaaDoorGV
import Derived.Lib.OthersKept
namespace Go.Proofs.YtdgdkkapikopnaaDoor
open Go.ChangeShapes Go.WideShapes Go.ChangeAt Go.RowKit
set_option linter.unusedVariables false

def Blk (W : World) (g : Nat) (cs : Array Value) (t : TypeId) : Prop := W.heap[g]? = some (.cells cs t (0, 0))
section
variable {W W' : World} {g : Nat} {cs : Array Value} {t e : TypeId}
theorem Blk.cell (h : Blk W g cs t) (k : Nat) : W.cell? ⟨g, k, none⟩ = cs[k]? := by simp [World.cell?, show W.heap[g]? = _ from h]
theorem Blk.free (h : Blk W g cs t) (k : Nat) : W.frozen? ⟨g, k, none⟩ = false := by simp [World.frozen?, show W.heap[g]? = _ from h]
theorem Blk.lt (h : Blk W g cs t) : g < W.heap.size := (Array.getElem?_eq_some_iff.1 h).1
theorem Blk.new (w : World) (cs : Array Value) (t : TypeId) : Blk (w.alloc (.cells cs t)) w.heap.size cs t := heap_alloc_new w _
theorem Blk.alloc (h : Blk W g cs t) (o : Obj) : Blk (W.alloc o) g cs t := (Below.heap_alloc W o g h.lt).trans h
theorem Blk.grown {row : Option Nat} (h : Blk W g cs t) (hg : W.grownBy W' row) (hr : row ≠ some g) : Blk W' g cs t := (hg.block g h.lt fun e => hr e.symm).trans h
theorem Blk.kept (h : Blk W g cs t) (hk : Lib.OthersKept e none W W') (hne : t ≠ e) : Blk W' g cs t := hk g _ h (by intro hc; cases hc) (fun c fz ho => by injection ho with _ h2; exact hne h2)
theorem Blk.below {n : Nat} (h : Blk W g cs t) (hb : Below n W W') (hg : g < n) : Blk W' g cs t := (hb.block g hg).trans h
theorem Blk.belowAll (h : Blk W g cs t) (hb : Below W.heap.size W W') : Blk W' g cs t := h.below hb h.lt
theorem Blk.other (h : Blk W g cs t) {a : Addr} (hne : g ≠ a.block) (v : Value) : Blk (W.setCell a v) g cs t := (Below.heap_setCell W a v g hne).trans h
theorem Blk.set (h : Blk W g cs t) (k : Nat) (v : Value) : Blk (W.setCell ⟨g, k, none⟩ v) g (cs.setIfInBounds k v) t := by
  unfold Blk at *
  have hl := (Array.getElem?_eq_some_iff.1 h).1
  have he := (Array.getElem?_eq_some_iff.1 h).2
  simp [World.setCell, hl, Array.getElem_modify, he]
theorem Blk.drew (h : Blk W g cs t) : Blk W.drew g cs t := h
end

theorem kept_alloc (e : TypeId) (W : World) (o : Obj) : Lib.OthersKept e none W (W.alloc o) := fun k x hk _ _ => (Below.heap_alloc W o k (Array.getElem?_eq_some_iff.1 hk).1).trans hk
theorem kept_grown {W W' : World} {row : Option Nat} {e : TypeId} (hg : W.grownBy W' row) (hr : ∀ g, row = some g → ∃ cur z, W.heap[g]? = some (.cells cur e z)) : Lib.OthersKept e none W W' := fun k x hk _ hx => by
  refine (hg.block k (Array.getElem?_eq_some_iff.1 hk).1 fun he => ?_).trans hk
  obtain ⟨cur, z, h2⟩ := hr k he.symm
  rw [hk] at h2
  exact hx cur z (Option.some.inj h2)
theorem kept_below {W W' : World} (e : TypeId) (hb : Below W.heap.size W W') : Lib.OthersKept e none W W' := fun k x hk _ _ => (hb.block k (Array.getElem?_eq_some_iff.1 hk).1).trans hk
theorem kept_set {W : World} {g : Nat} {cs : Array Value} {t : TypeId} (h : Blk W g cs t) (k : Nat) (v : Value) : Lib.OthersKept t none W (W.setCell ⟨g, k, none⟩ v) := fun i x hi _ hx => by
  refine (Below.heap_setCell W _ v i fun he => ?_).trans hi
  have he' : i = g := he
  subst he'
  rw [show W.heap[i]? = _ from h] at hi
  exact hx _ _ (Option.some.inj hi).symm

variable {α : Type} {e : TypeId} {sz bt : Nat} {z : Value} {en : α → List Value}
theorem OwnG.other {B : Nat} {w : World} {A : Option Addr} {c : Nat} {xs : List α} (h : OwnG e sz en B w A c xs) {g : Nat} {cs : Array Value} {t : TypeId} (hb : Blk w g cs t) (hne : t ≠ e) (k : Nat) (v : Value) : OwnG e sz en B (w.setCell ⟨g, k, none⟩ v) A c xs := by
  refine ⟨h.1, ?_⟩
  rcases h.2 with h2 | ⟨g', cap, cur, hv, hg, hh, r⟩
  · exact .inl h2
  · refine .inr ⟨g', cap, cur, hv, hg, ?_, r⟩
    rw [Below.heap_setCell w _ v g' (fun he => ?_)]
    · exact hh
    · have he' : g' = g := he
      subst he'
      rw [show w.heap[g']? = _ from hb] at hh
      injection hh with hh
      injection hh with _ h3
      exact hne h3
theorem OwnG.kept {B : Nat} {w w' : World} {A : Option Addr} {c : Nat} {xs : List α} (h : OwnG e sz en B w A c xs) {e' : TypeId} (hk : Lib.OthersKept e' none w w') (hne : e ≠ e') : OwnG e sz en B w' A c xs := by
  refine ⟨h.1, ?_⟩
  rcases h.2 with h2 | ⟨g', cap, cur, hv, hg, hh, r⟩
  · exact .inl h2
  · exact .inr ⟨g', cap, cur, hv, hg, hk g' _ hh (by intro hc; cases hc) (fun c fz ho => by injection ho with _ h2; exact hne h2), r⟩
theorem OwnS.kept {B : Nat} {w w' : World} {A : Option Addr} {c : Nat} {l : List Int} (h : OwnS B w A c l) {e' : TypeId} (hk : Lib.OthersKept e' none w w') (hne : 5 ≠ e') : OwnS B w' A c l := by
  refine ⟨h.1, ?_⟩
  rcases h.2 with h2 | ⟨g', cap, cur, hv, hg, hh, r⟩
  · exact .inl h2
  · exact .inr ⟨g', cap, cur, hv, hg, hk g' _ hh (by intro hc; cases hc) (fun c fz ho => by injection ho with _ h2; exact hne h2), r⟩
theorem OwnS.row {B : Nat} {W : World} {A : Option Addr} {c : Nat} {l : List Int} (h : OwnS B W A c l) : ∀ g, (Value.slice A l.length c).ownBlock = some g → ∃ cur q, W.heap[g]? = some (.cells cur 5 q) := fun g hg => by
  rcases h.2 with ⟨h1, _⟩ | ⟨g', cap, cur, h1, hb, hgg, _⟩
  · rw [h1] at hg; simp [Value.ownBlock] at hg
  · rw [h1] at hg
    simp [Value.ownBlock] at hg
    subst hg
    exact ⟨cur, _, hgg⟩
theorem OwnS.alloc {B : Nat} {w : World} {A : Option Addr} {c : Nat} {l : List Int} (h : OwnS B w A c l) (o : Obj) : OwnS B (w.alloc o) A c l := World.ownsRow.alloc h o
/-- A slice of the call own that was made with room. -/
theorem OwnG.room {B : Nat} {w : World} {g cap : Nat} {cs : Array Value} (h : Blk w g cs e) (hB : B ≤ g) (hc : cap ≤ maxLen) (hs : cs.size = cap * sz) : OwnG e sz en B w (some ⟨g, 0, none⟩) cap [] :=
  ⟨by simp [cellsG], .inr ⟨g, cap, cs, rfl, hB, h, Nat.zero_le _, hc, hs, by simp [cellsG]⟩⟩
/-- Where the elements of a slice of the call own lie. -/
theorem OwnG.at0 (E : El e sz bt z en) {B : Nat} {w : World} {A : Option Addr} {c : Nat} {xs : List α} (h : OwnG e sz en B w A c xs) (hl : 0 < xs.length) :
    ∃ g, A = some ⟨g, 0, none⟩ ∧ B ≤ g ∧ g < w.heap.size ∧ ∀ i j x, xs[i]? = some x → j < sz → w.cell? ⟨g, i * sz + j, none⟩ = (en x)[j]? := by
  rcases h.2 with ⟨_, h0⟩ | ⟨g, cap, cur, hv, hb, hg, _⟩
  · omega
  · have hA : A = some ⟨g, 0, none⟩ := by injection hv
    subst hA
    obtain ⟨b, o, hbo, hlt, hc⟩ := CellsG.at_ E h.cells hl
    obtain ⟨rfl, rfl⟩ : g = b ∧ 0 = o := by simpa using hbo
    exact ⟨g, rfl, hb, hlt, fun i j x hx hj => by have := hc i j x hx hj; rwa [Nat.zero_add] at this⟩
end Go.Proofs.YtdgdkkapikopnaaDoor
