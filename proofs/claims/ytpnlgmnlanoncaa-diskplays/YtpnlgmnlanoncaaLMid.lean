/-
  A disk of the program's and one of the document's, side by side in memory, with boxes of the call's own between. No function of the program in sight. Conditions: as in the premises.
-/
import Derived.Test.YtpnlgmnlanoncaaRApp
namespace Go.Proofs.Ytpnlgmnlanoncaa
open Go.ChangeShapes Go.WideShapes Go.ChangeAt Go.RowKit
set_option linter.unusedVariables false

/-- The program's disk holds d1, the document's files are those of d2; they lie apart, and apart from the three blocks behind w; T: where the document's files may lie of old. -/
structure MidAt (T S : Nat → Prop) (w : World) (sb : Nat) (d1 d2 : St) (A : Option Addr) (c : Nat) (rs : List Rf) (S' : Nat → Prop) (W : World) : Prop where
  disk : DiskAt S' W sb d1
  fs : rs.map Rf.f = d2.fs
  ref : Ref (fun k => ¬ S' k ∧ ((k < w.heap.size ∧ T k) ∨ w.heap.size + 3 ≤ k)) W A c rs
  sub : ∀ k, S' k → (S k ∧ k < w.heap.size) ∨ w.heap.size + 3 ≤ k
  touch : Touch S w W
  size : w.heap.size + 3 ≤ W.heap.size
/-- The three boxes. -/
structure Boxes (w : World) (cs : Array Value) (a : Ac) (W : World) : Prop where
  b0 : Blk W w.heap.size cs 32
  b1 : Blk W (w.heap.size + 1) (enA a).toArray 36
  b2 : Blk W (w.heap.size + 2) z32 32
section
variable {T S S' : Nat → Prop} {w W W1 : World} {sb : Nat} {d1 d2 d1' d2' : St} {A A2 : Option Addr} {c c2 : Nat} {rs rs2 : List Rf} {cs : Array Value} {a : Ac}
theorem Ref.bound {T : Nat → Prop} (h : Ref T w A c rs) {T' : Nat → Prop} (ht : ∀ k, T k → k < w.heap.size → T' k) : Ref T' w A c rs := h.bounded.mono fun k hk => ht k hk.1 hk.2
theorem MidAt.start {o p q : Obj} (hd : DiskAt S w sb d1) (hfs : rs.map Rf.f = d1.fs) (hr : Ref T w A c rs) (hT : ∀ k, T k → ¬ S k) : MidAt T S w sb d1 d1 A c rs S (((w.alloc o).alloc p).alloc q) := by
  have hb : Below w.heap.size w (((w.alloc o).alloc p).alloc q) := (below_two w o p).alloc (by simp; omega) _
  exact ⟨hd.below hb, hfs, (hr.bound fun k h1 h2 => ⟨hT k h1, .inl ⟨h2, h1⟩⟩).below hb, fun k hk => .inl ⟨hk, hd.lt k hk⟩, Touch.of_below hb, by simp⟩
theorem MidAt.prog (h : MidAt T S w sb d1 d2 A c rs S' W) (hd : DiskAt (Ext S' W W1) W1 sb d1') (ht : Touch S' W W1) : MidAt T S w sb d1' d2 A c rs (Ext S' W W1) W1 where
  disk := hd
  fs := h.fs
  ref := (h.ref.bounded.kept fun k hk hk2 => ht.block k hk2 hk.1.1).mono fun k hk => ⟨fun he => by
    rcases he with h1 | h1
    · exact hk.1.1 h1
    · have := hk.2; omega, hk.1.2⟩
  sub := fun k hk => by
    rcases hk with h1 | h1
    · exact h.sub k h1
    · have := h.size; exact .inr (by omega)
  touch := h.touch.on ht fun b hb => by
    rcases h.sub b hb with h1 | h1
    · exact .inl h1.1
    · exact .inr (by omega)
  size := Nat.le_trans h.size ht.size
theorem MidAt.arm (h : MidAt T S w sb d1 d2 A c rs S' W) (hd : DiskAt S' W1 sb d1') (ht : Touch S' W W1) : MidAt T S w sb d1' d2 A c rs (Ext S' W W1) W1 :=
  h.prog (hd.wider (fun k hk => .inl hk) fun k hk => by
    rcases hk with h1 | h1
    · exact hd.lt k h1
    · exact h1.2) ht
theorem MidAt.after (h : MidAt T S w sb d1 d2 A c rs S' W) (hfs : rs2.map Rf.f = d2'.fs) (hr : Ref (fun k => (¬ S' k ∧ ((k < w.heap.size ∧ T k) ∨ w.heap.size + 3 ≤ k)) ∨ W.heap.size ≤ k) W1 A2 c2 rs2) (hb : Below W.heap.size W W1) : MidAt T S w sb d1 d2' A2 c2 rs2 S' W1 where
  disk := h.disk.below hb
  fs := hfs
  ref := hr.mono fun k hk => by
    rcases hk with h1 | h1
    · exact h1
    · have h2 := h.size
      exact ⟨fun h3 => by have := h.disk.lt k h3; omega, .inr (by omega)⟩
  sub := h.sub
  touch := h.touch.on (Touch.of_below (S := S) hb) fun b hb => .inl hb
  size := Nat.le_trans h.size hb.size
theorem MidAt.below (h : MidAt T S w sb d1 d2 A c rs S' W) (hb : Below W.heap.size W W1) : MidAt T S w sb d1 d2 A c rs S' W1 := h.after h.fs ((h.ref.below hb).mono fun k hk => .inl hk) hb
/-- A box is written. -/
theorem MidAt.box (h : MidAt T S w sb d1 d2 A c rs S' W) {g : Nat} (h0 : w.heap.size ≤ g) (h1 : g < w.heap.size + 3) (x0 x1 x2 x3 : Value) : MidAt T S w sb d1 d2 A c rs S' ((((W.setCell ⟨g, 0, none⟩ x0).setCell ⟨g, 1, none⟩ x1).setCell ⟨g, 2, none⟩ x2).setCell ⟨g, 3, none⟩ x3) := by
  have hs : ((((W.setCell ⟨g, 0, none⟩ x0).setCell ⟨g, 1, none⟩ x1).setCell ⟨g, 2, none⟩ x2).setCell ⟨g, 3, none⟩ x3).heap.size = W.heap.size := set4_size W g x0 x1 x2 x3
  have hb := set4_below (Below.refl w.heap.size W) h0 x0 x1 x2 x3
  refine ⟨h.disk.kept (fun k hk => set4_other ?_ x0 x1 x2 x3) (fun _ hk => hk) (fun k hk => ?_), h.fs, h.ref.kept (fun k hk _ => set4_other ?_ x0 x1 x2 x3), h.sub, h.touch.on (Touch.mk hb.os hb.tape hb.output hb.size (fun k hk hn => set4_other ?_ x0 x1 x2 x3) : Touch (fun k => w.heap.size ≤ k) W _) (fun b hb => .inr hb), ?_⟩
  · intro e
    have := h.sub k hk
    omega
  · rw [hs]; exact h.disk.lt k hk
  · intro e
    have := hk.2
    omega
  · intro e
    exact hn (by omega)
  · rw [hs]; exact h.size
theorem Boxes.start (w : World) (cs : Array Value) (a : Ac) : Boxes w cs a (((w.alloc (.cells cs 32)).alloc (.cells (enA a).toArray 36)).alloc (.cells z32 32)) :=
  ⟨((Blk.new w cs 32).alloc _).alloc _, (Blk.newAt _ _ _ (by simp)).alloc _, Blk.newAt _ _ _ (by simp)⟩
theorem Boxes.touch (hb : Boxes w cs a W) (h : MidAt T S w sb d1 d2 A c rs S' W) (ht : Touch S' W W1) : Boxes w cs a W1 := by
  have hs := h.size
  have k : ∀ k, w.heap.size ≤ k → k < w.heap.size + 3 → W1.heap[k]? = W.heap[k]? := fun k h1 h2 => ht.block k (by omega) fun h3 => by have := h.sub k h3; omega
  exact ⟨(k _ (by omega) (by omega)).trans hb.b0, (k _ (by omega) (by omega)).trans hb.b1, (k _ (by omega) (by omega)).trans hb.b2⟩
theorem Boxes.below (hb : Boxes w cs a W) (h : Below W.heap.size W W1) : Boxes w cs a W1 := ⟨hb.b0.belowAll h, hb.b1.belowAll h, hb.b2.belowAll h⟩
theorem Blk.cells6 {W : World} {g : Nat} {a b c d e f : Value} {t : TypeId} (h : Blk W g #[a, b, c, d, e, f] t) : W.cell? ⟨g, 0, none⟩ = some a ∧ W.cell? ⟨g, 1, none⟩ = some b ∧ W.cell? ⟨g, 2, none⟩ = some c ∧ W.cell? ⟨g, 3, none⟩ = some d ∧ W.cell? ⟨g, 4, none⟩ = some e ∧ W.cell? ⟨g, 5, none⟩ = some f := ⟨h.cell 0, h.cell 1, h.cell 2, h.cell 3, h.cell 4, h.cell 5⟩
end
end Go.Proofs.Ytpnlgmnlanoncaa
