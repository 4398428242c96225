/-
  What the law that plays a list of calls keeps of what was sent. Conditions: as in the premises.
-/
import Derived.Test.YtcdghipodnafmaaBKeep
import Derived.Deep.RegionLaw
namespace Go.Proofs.Ytcdghipodnafmaa
open Go.ChangeShapes Go.WideShapes Go.ChangeAt Go.RowKit
set_option linter.unusedVariables false

theorem GoodA.below {w W : World} {a : Ac} (h : GoodA w a) (hb : Below w.heap.size w W) : GoodA W a := ⟨h.do_, h.i, h.j, h.b.below hb, h.isB, h.bl, h.bcap⟩
theorem Blk.cells5 {W : World} {g : Nat} {a b c d e : Value} {t : TypeId} (h : Blk W g #[a, b, c, d, e] t) : W.cell? ⟨g, 0, none⟩ = some a ∧ W.cell? ⟨g, 1, none⟩ = some b ∧ W.cell? ⟨g, 2, none⟩ = some c ∧ W.cell? ⟨g, 3, none⟩ = some d ∧ W.cell? ⟨g, 4, none⟩ = some e := ⟨h.cell 0, h.cell 1, h.cell 2, h.cell 3, h.cell 4⟩
/-- A bag stays while a row of messages that is not its own grows. -/
theorem BagAt.grown {S : Nat → Prop} {W W' : World} {p : Nat} {g : Bg} (h : BagAt S W p g) {row : Option Nat} (hg : W.grownBy W' row) (hr : ∀ b, row = some b → ¬ S b ∧ ∃ cur q, W.heap[b]? = some (.cells cur 48 q)) : BagAt S W' p g := by
  obtain ⟨X, cx, rs, hO⟩ := h
  have ht : ∀ b, S b → W'.heap[b]? = W.heap[b]? := fun b hs => hg.block b (hO.lt b hs) (fun e => (hr b e.symm).1 hs)
  refine ⟨X, cx, rs, (ht _ hO.pS).trans hO.blk, hO.pS, hO.row.blocks fun a ha => ht _ (hO.rowS a ha), hO.rowS, fun k hk => Nat.lt_of_lt_of_le (hO.lt k hk) hg.size, fun r hr' => ?_, hO.fs, hO.ok⟩
  refine (hO.data r hr').blocks fun hn a ha => hg.block _ ((hO.data r hr').1.lt hn a ha) fun e => ?_
  obtain ⟨cur, q, h1⟩ := (hO.data r hr').2.2 hn a ha
  obtain ⟨cur2, q2, h2⟩ := (hr a.block e.symm).2
  rw [h1] at h2
  injection h2 with h2
  injection h2 with _ h3
  exact absurd h3 (by decide)
section
variable {w W W1 : World} {p : Nat} {S : Nat → Prop} {g g' : Bg} {A : Option Addr} {c : Nat} {ss : List Mr} {ts ts' : List Mg} {nev nev' : Int} {k k' : Nat}
theorem OwnG.ownb {α : Type} {e sz : Nat} {en : α → List Value} {B : Nat} {xs : List α} (h : OwnG e sz en B W A c xs) : ∀ b, (Value.slice A xs.length c).ownBlock = some b → B ≤ b ∧ ∃ cur q, W.heap[b]? = some (.cells cur e q) := fun b hb => h.row b hb
/-- What was sent grows. -/
theorem Kept.push (h : Kept w p S g A c ss ts nev k W) (s : Mr) (hl : Lies w s.A s.c s.m.b) (hb : IsB s.m.b) {R : List Mr} (hR : R = ss ++ [s]) {A' : Option Addr} {c' : Nat} {W' : World} (ho : OwnG 48 3 enM w.heap.size W' A' c' R) (hg : W.grownBy W' (Value.slice A ss.length c).ownBlock) (hbb : A'.map Addr.block = A.map Addr.block ∨ A'.map Addr.block = some W.heap.size) (hf : R.length ≤ k) : Kept w p S g A' c' R ts nev k W' := by
  have hrow : ∀ b, (Value.slice A ss.length c).ownBlock = some b → ¬ S b ∧ ∃ cur q, W.heap[b]? = some (.cells cur 48 q) := fun b hb => ⟨by
    cases A with
    | none => cases hb
    | some a => exact (Option.some.inj hb) ▸ h.off a rfl, (h.row.ownb b hb).2⟩
  refine ⟨h.bag.grown hg hrow, h.up, h.row.grow h.below hg h.below.size, ho, fun a ha hs => ?_, fun x hx => ?_, h.inv, hf⟩
  · subst ha
    rcases hbb with e | e
    · cases A with
      | none => cases e
      | some b =>
        have e2 : a.block = b.block := Option.some.inj e
        rw [e2] at hs
        exact h.off b rfl hs
    · have e2 : a.block = W.heap.size := Option.some.inj e
      have := h.bag.lt _ hs
      omega
  · rw [hR] at hx
    rcases List.mem_append.1 hx with h1 | h1
    · exact h.data x h1
    · simp only [List.mem_singleton] at h1
      subst h1
      exact ⟨hl, hb⟩
theorem Kept.next (h : Kept w p S g A c ss ts nev k W) (hi : Bal g ts' nev' k') (hk : k ≤ k') : Kept w p S g A c ss ts' nev' k' W := ⟨h.bag, h.up, h.below, h.row, h.off, h.data, hi, Nat.le_trans h.few hk⟩
end
/-- Two slices of one message each, each in a block of its own. -/
theorem same_blks (W : World) (b1 b2 : Nat) (m n : Mg) (A B : Option Addr) (c d : Nat) (h1 : Blk W b1 #[.int .i64 m.frm, .int .i64 m.tgt, .slice A m.b.length c] 48) (h2 : Blk W b2 #[.int .i64 n.frm, .int .i64 n.tgt, .slice B n.b.length d] 48) (ha : Lies W A c m.b) (hb : Lies W B d n.b) (ia : IsB m.b) (ib : IsB n.b) :
    Calls Try.prog 13 #[.slice (some ⟨b1, 0, none⟩) 1 1, .slice (some ⟨b2, 0, none⟩) 1 1] W fun e w' => (∃ r, e = .returned (.bool r) ∧ (r = true ↔ m = n)) ∧ Below W.heap.size W w' := by
  have cells : ∀ (b : Nat) (x : Mr), Blk W b #[.int .i64 x.m.frm, .int .i64 x.m.tgt, .slice x.A x.m.b.length x.c] 48 → CellsG enM W (some ⟨b, 0, none⟩) 1 [x] := fun b x hx => .inr ⟨_, rfl, fun k u hu => by
    rw [Addr.add_lit, Nat.zero_add, hx.cell, ← Array.getElem?_toList]
    rw [cellsG, List.flatMap_cons, List.flatMap_nil, List.append_nil] at hu
    exact hu⟩
  have k1 : Msgs W (some ⟨b1, 0, none⟩) 1 [⟨m, A, c⟩] := ⟨cells b1 ⟨m, A, c⟩ h1, fun x hx => by simp only [List.mem_singleton] at hx; subst hx; exact ⟨ha, ia⟩⟩
  have k2 : Msgs W (some ⟨b2, 0, none⟩) 1 [⟨n, B, d⟩] := ⟨cells b2 ⟨n, B, d⟩ h2, fun x hx => by simp only [List.mem_singleton] at hx; subst hx; exact ⟨hb, ib⟩⟩
  refine (same_calls k1 k2 (by show 1 ≤ 100000; decide)).mono ?_
  rintro e w' ⟨r, q, rfl, hr, rfl⟩
  refine ⟨⟨r, rfl, hr.trans ⟨fun h => ?_, fun h => by rw [h]; rfl⟩⟩, below_drewN _ q⟩
  simp only [List.map_cons, List.map_nil, List.cons.injEq, and_true] at h
  exact h
end Go.Proofs.Ytcdghipodnafmaa
