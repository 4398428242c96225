/-
  A bag in memory: its struct, its row of messages; what a call may touch of it. Conditions: as in the premises.
-/
import Derived.Test.YtcdghipodnafmaaEB2
import Derived.Laws.IdiomCopy
namespace Go.Proofs.Ytcdghipodnafmaa
open Go.ChangeShapes Go.WideShapes Go.ChangeAt Go.RowKit
set_option linter.unusedVariables false

/-! What may have turned. -/
/-- Nothing has turned but blocks of S, and new ones. -/
structure Touch (S : Nat → Prop) (w w' : World) : Prop where
  os : w'.os = w.os
  tape : w'.tape = w.tape
  output : w'.output = w.output
  size : w.heap.size ≤ w'.heap.size
  block : ∀ k, k < w.heap.size → ¬ S k → w'.heap[k]? = w.heap[k]?
/-- S and what is new. -/
def Ext (S : Nat → Prop) (w w' : World) (k : Nat) : Prop := S k ∨ (w.heap.size ≤ k ∧ k < w'.heap.size)
section
variable {S S' : Nat → Prop} {w w1 w2 w' : World}
theorem Touch.refl (S : Nat → Prop) (w : World) : Touch S w w := ⟨rfl, rfl, rfl, Nat.le_refl _, fun _ _ _ => rfl⟩
theorem Touch.on (h : Touch S w w1) (k : Touch S' w1 w2) (hs : ∀ b, S' b → S b ∨ w.heap.size ≤ b) : Touch S w w2 :=
  ⟨k.os.trans h.os, k.tape.trans h.tape, k.output.trans h.output, Nat.le_trans h.size k.size, fun b hb hn =>
    (k.block b (Nat.lt_of_lt_of_le hb h.size) (fun h2 => by rcases hs b h2 with h3 | h3; exact hn h3; omega)).trans (h.block b hb hn)⟩
theorem Touch.then (h : Touch S w w1) (k : Touch (Ext S w w1) w1 w2) : Touch S w w2 := h.on k fun b hb => by
  rcases hb with h | h
  · exact .inl h
  · exact .inr h.1
theorem Touch.more (h : Touch S w w1) (k : Touch S w1 w2) : Touch S w w2 := h.on k fun b hb => .inl hb
theorem Touch.of_below (h : Below w.heap.size w w') : Touch S w w' := ⟨h.os, h.tape, h.output, h.size, fun k hk _ => h.block k hk⟩
theorem Touch.below {B : Nat} (h : Touch S w w') (hs : ∀ k, S k → B ≤ k) (hB : B ≤ w.heap.size) : Below B w w' :=
  ⟨h.os, h.tape, h.output, h.size, fun k hk => h.block k (by omega) fun h2 => by have := hs k h2; omega⟩
theorem Touch.weaken (h : Touch S w w') (hs : ∀ k, S k → S' k) : Touch S' w w' := ⟨h.os, h.tape, h.output, h.size, fun k hk hn => h.block k hk fun h2 => hn (hs k h2)⟩
theorem Touch.set {g : Nat} (hg : S g) (w : World) (k : Nat) (v : Value) : Touch S w (w.setCell ⟨g, k, none⟩ v) :=
  ⟨rfl, rfl, rfl, by simp [World.setCell], fun b hb hn => Below.heap_setCell w _ v b fun e => hn (by rw [show b = g from e]; exact hg)⟩
theorem Touch.grown {row : Option Nat} (h : w.grownBy w' row) (hs : ∀ g, row = some g → S g) : Touch S w w' :=
  ⟨h.os, h.tape, h.output, h.size, fun k hk hn => h.block k hk fun e => hn (hs k e.symm)⟩
theorem Touch.alloc (S : Nat → Prop) (w : World) (o : Obj) : Touch S w (w.alloc o) := Touch.of_below ((Below.refl _ _).alloc (Nat.le_refl _) o)
theorem Touch.drewN (S : Nat → Prop) (w : World) (q : Nat) : Touch S w (w.drewN q) := ⟨rfl, rfl, rfl, Nat.le_refl _, fun _ _ _ => rfl⟩
theorem Ext.mono_left (h : ∀ k, S k → S' k) : ∀ k, Ext S w w' k → Ext S' w w' k := fun k hk => hk.imp (h k) id
theorem Ext.later (h : w1.heap.size ≤ w2.heap.size) : ∀ k, Ext S w w1 k → Ext S w w2 k := fun k hk => hk.imp id fun h2 => ⟨h2.1, Nat.lt_of_lt_of_le h2.2 h⟩
theorem Ext.two (h : w.heap.size ≤ w1.heap.size) (h2 : w1.heap.size ≤ w2.heap.size) : ∀ k, Ext (Ext S w w1) w1 w2 k → Ext S w w2 k := fun k hk => by
  rcases hk with (h3 | h3) | h3
  · exact .inl h3
  · exact .inr ⟨h3.1, by omega⟩
  · exact .inr ⟨by omega, h3.2⟩
end


def at_ (p : Nat) : Value := .pointer (some ⟨p, 0, none⟩)
/-- A message. -/
structure Mg where
  frm : Int
  tgt : Int
  b : List Int
/-- A message in memory: where its bytes lie. -/
structure Mr where
  m : Mg
  A : Option Addr
  c : Nat
def enM (r : Mr) : List Value := [.int .i64 r.m.frm, .int .i64 r.m.tgt, .slice r.A r.m.b.length r.c]
def zM : Value := .agg #[.int .i64 0, .int .i64 0, .slice none 0 0]
theorem elM : El 48 3 40 zM enM := ⟨by kernel_rfl, rfl, by decide, fun _ => rfl, fun x u hu => by simp [enM] at hu; rcases hu with rfl | rfl | rfl <;> rfl⟩
/-- The bytes of a message lie, outside of S. -/
def Out (S : Nat → Prop) (w : World) (A : Option Addr) (c : Nat) (l : List Int) : Prop := Lies w A c l ∧ (l ≠ [] → ∀ a, A = some a → ¬ S a.block) ∧ (l ≠ [] → ∀ a, A = some a → ∃ cur q, w.heap[a.block]? = some (.cells cur 5 q))
def Sub (S' S : Nat → Prop) (w : World) : Prop := ∀ k, S' k → S k ∨ w.heap.size ≤ k
section
variable {S S' S2 : Nat → Prop} {w w' w2 : World} {A : Option Addr} {c : Nat} {l : List Int}
theorem Sub.refl (S : Nat → Prop) (w : World) : Sub S S w := fun _ h => .inl h
theorem Sub.on (h : Sub S' S w) (k : Sub S2 S' w') (hs : w.heap.size ≤ w'.heap.size) : Sub S2 S w := fun b hb => by
  rcases k b hb with h1 | h1
  · exact h b h1
  · exact .inr (by omega)
theorem Lies.lt (h : Lies w A c l) (hn : l ≠ []) : ∀ a, A = some a → a.block < w.heap.size := fun a ha => by
  obtain ⟨b, o, h1, h2, _⟩ := h.at_ (List.length_pos_iff.2 hn)
  rw [h1] at ha
  injection ha with ha
  subst ha
  exact h2
theorem Lies.blocks (h : Lies w A c l) (hk : l ≠ [] → ∀ a, A = some a → w'.heap[a.block]? = w.heap[a.block]?) : Lies w' A c l := by
  rcases h with h | ⟨a, rfl, h⟩
  · exact .inl h
  · refine .inr ⟨a, rfl, fun j u hu => ?_⟩
    have hk := hk (by rintro rfl; simp [cellsOf] at hu)
    have e2 : (a.add j).block = a.block := by unfold Addr.add; split <;> rfl
    have e3 : w'.heap[(a.add j).block]? = w.heap[(a.add j).block]? := by rw [e2]; exact hk a rfl
    exact (World.cell?_of_block e3).trans (h j u hu)
theorem Out.step (h : Out S w A c l) (ht : Touch S w w') (hs : Sub S' S w) : Out S' w' A c l :=
  ⟨h.1.blocks fun hn a ha => ht.block _ (h.1.lt hn a ha) (h.2.1 hn a ha), fun hn a ha h3 => by
    rcases hs _ h3 with h4 | h4
    · exact h.2.1 hn a ha h4
    · have := h.1.lt hn a ha; omega, fun hn a ha => by
    obtain ⟨cur, q, hq⟩ := h.2.2 hn a ha
    exact ⟨cur, q, (ht.block _ (h.1.lt hn a ha) (h.2.1 hn a ha)).trans hq⟩⟩
theorem Out.nil (S : Nat → Prop) (w : World) : Out S w none 0 [] := ⟨Lies.nil w, fun h => absurd rfl h, fun h => absurd rfl h⟩
theorem Out.below (h : Out S w A c l) (hb : Below w.heap.size w w') : Out S w' A c l := ⟨h.1.below hb, h.2.1, fun hn a ha => by
    obtain ⟨cur, q, hq⟩ := h.2.2 hn a ha
    exact ⟨cur, q, (hb.block _ (h.1.lt hn a ha)).trans hq⟩⟩
/-- A change that leaves the blocks of bytes as they are. -/
theorem Out.blocks (h : Out S w A c l) (hk : l ≠ [] → ∀ a, A = some a → w'.heap[a.block]? = w.heap[a.block]?) : Out S w' A c l := ⟨h.1.blocks hk, h.2.1, fun hn a ha => by
    obtain ⟨cur, q, hq⟩ := h.2.2 hn a ha
    exact ⟨cur, q, (hk hn a ha).trans hq⟩⟩
theorem Out.mono (h : Out S w A c l) (hs : Sub S' S w) : Out S' w A c l := h.step (Touch.refl S w) hs
end

/-- A bag: its messages, which nodes are up, its bounds and counts. -/
structure Bg where
  ms : List Mg
  up : List Bool
  nodes : Int
  most : Int
  sent : Int
  taken : Int
  lost : Int
def bcells (A : Option Addr) (n c : Nat) (g : Bg) : Array Value := #[.slice A n c, .bool (g.up.getD 0 false), .bool (g.up.getD 1 false), .bool (g.up.getD 2 false), .bool (g.up.getD 3 false), .bool (g.up.getD 4 false), .bool (g.up.getD 5 false), .bool (g.up.getD 6 false), .bool (g.up.getD 7 false), .int .i64 g.nodes, .int .i64 g.most, .int .i64 g.sent, .int .i64 g.taken, .int .i64 g.lost]
structure GoodM (n : Int) (m : Mg) : Prop where
  lo : 0 ≤ m.tgt
  hi : m.tgt < n
  isB : IsB m.b
  len : m.b.length ≤ 100000
structure Ok (g : Bg) : Prop where
  up : g.up.length = 8
  n1 : 1 ≤ g.nodes
  n8 : g.nodes ≤ 8
  m1 : 1 ≤ g.most
  m2 : g.most ≤ 512
  many : (g.ms.length : Int) ≤ g.most
  msgs : ∀ m ∈ g.ms, GoodM g.nodes m
  s0 : 0 ≤ g.sent
  t0 : 0 ≤ g.taken
  l0 : 0 ≤ g.lost
/-- The counts are low. -/
structure Low (g : Bg) : Prop where
  s1 : g.sent ≤ 100000
  t1 : g.taken ≤ 100000
  l1 : g.lost ≤ 100000
structure Open (S : Nat → Prop) (w : World) (p : Nat) (A : Option Addr) (c : Nat) (rs : List Mr) (g : Bg) : Prop where
  blk : Blk w p (bcells A rs.length c g) 56
  pS : S p
  row : OwnG 48 3 enM 0 w A c rs
  rowS : ∀ a, A = some a → S a.block
  lt : ∀ k, S k → k < w.heap.size
  data : ∀ r ∈ rs, Out S w r.A r.c r.m.b
  fs : rs.map Mr.m = g.ms
  ok : Ok g
def BagAt (S : Nat → Prop) (w : World) (p : Nat) (g : Bg) : Prop := ∃ A c rs, Open S w p A c rs g
/-- The bag has become g. -/
def Done (S : Nat → Prop) (w : World) (p : Nat) (g : Bg) (w' : World) : Prop := ∃ S', BagAt S' w' p g ∧ Touch S w w' ∧ Sub S' S w
section
variable {S S' : Nat → Prop} {w w' : World} {p : Nat} {A : Option Addr} {c : Nat} {rs : List Mr} {g : Bg}
theorem OwnG.blocks {α : Type} {e : TypeId} {sz : Nat} {en : α → List Value} {B : Nat} {xs : List α} (h : OwnG e sz en B w A c xs) (hk : ∀ a, A = some a → w'.heap[a.block]? = w.heap[a.block]?) : OwnG e sz en B w' A c xs := by
  refine ⟨h.1, ?_⟩
  rcases h.2 with h2 | ⟨g, cap, cur, hv, hg, hh, r⟩
  · exact .inl h2
  · refine .inr ⟨g, cap, cur, hv, hg, ?_, r⟩
    have : A = some ⟨g, 0, none⟩ := by injection hv
    rw [hk _ this]; exact hh
theorem Open.below (h : Open S w p A c rs g) (hb : Below w.heap.size w w') : Open S w' p A c rs g :=
  ⟨h.blk.belowAll hb, h.pS, h.row.below hb, h.rowS, fun k hk => Nat.lt_of_lt_of_le (h.lt k hk) hb.size, fun r hr => (h.data r hr).below hb, h.fs, h.ok⟩
theorem BagAt.below (h : BagAt S w p g) (hb : Below w.heap.size w w') : BagAt S w' p g := by
  obtain ⟨A, c, rs, h⟩ := h
  exact ⟨A, c, rs, h.below hb⟩
theorem BagAt.ok (h : BagAt S w p g) : Ok g := by obtain ⟨A, c, rs, h⟩ := h; exact h.ok
theorem BagAt.lt (h : BagAt S w p g) : ∀ k, S k → k < w.heap.size := by obtain ⟨A, c, rs, h⟩ := h; exact h.lt
theorem Open.len (h : Open S w p A c rs g) : rs.length = g.ms.length := by rw [← h.fs, List.length_map]
theorem Open.row_ne (h : Open S w p A c rs g) : ∀ a, A = some a → a.block ≠ p := fun a ha e => by
  obtain ⟨cur, q, hq⟩ := (h.row.row a.block (by rw [ha]; rfl)).2
  rw [e, show w.heap[p]? = _ from h.blk] at hq
  simp at hq
theorem Done.refl (h : BagAt S w p g) : Done S w p g w := ⟨S, h, Touch.refl S w, Sub.refl S w⟩
theorem Done.below {w2 : World} (h : Done S w p g w') (hb : Below w'.heap.size w' w2) : Done S w p g w2 := by
  obtain ⟨S', h1, h2, h3⟩ := h
  exact ⟨S', h1.below hb, h2.on (Touch.of_below (S := S) hb) (fun b hb => .inl hb), h3⟩
theorem Done.ahead {w0 : World} (h : Done S w p g w') (hb : Below w0.heap.size w0 w) : Done S w0 p g w' := by
  obtain ⟨S', h1, h2, h3⟩ := h
  exact ⟨S', h1, (Touch.of_below (S := S) hb).on h2 (fun b hb => .inl hb), fun k hk => by
    rcases h3 k hk with h4 | h4
    · exact .inl h4
    · have := hb.size; exact .inr (by omega)⟩
theorem below_one (w : World) (o : Obj) : Below w.heap.size w (w.alloc o) := (Below.refl _ _).alloc (Nat.le_refl _) o
theorem below_drew (w : World) : Below w.heap.size w w.drew := ⟨rfl, rfl, rfl, Nat.le_refl _, fun _ _ => rfl⟩
end
/-! Cells of a block, many at once. -/
theorem Blk.sets {g : Nat} {t : TypeId} : ∀ (vs : List Value) (o : Nat) (W : World) (cs : Array Value), Blk W g cs t → o + vs.length ≤ cs.size → ∃ cs' : Array Value, Blk (W.setCells g o vs) g cs' t ∧ cs'.toList = cs.toList.take o ++ vs ++ cs.toList.drop (o + vs.length)
  | [], o, W, cs, h, hl => ⟨cs, h, by simp⟩
  | v :: vs, o, W, cs, h, hl => by
    simp only [List.length_cons] at hl
    obtain ⟨cs', h1, h2⟩ := Blk.sets vs (o + 1) (W.setCell ⟨g, o, none⟩ v) (cs.setIfInBounds o v) (h.set o v) (by simp; omega)
    refine ⟨cs', h1, ?_⟩
    rw [h2]
    have ho : o < cs.toList.length := by simp; omega
    simp only [Array.toList_setIfInBounds, List.length_cons]
    rw [List.take_succ_eq_append_getElem (by simpa using ho), List.take_set_of_le (Nat.le_refl o), List.drop_set_of_lt (by omega)]
    simp [Nat.add_comm, Nat.add_left_comm]
theorem Touch.sets {S : Nat → Prop} {g : Nat} (hg : S g) : ∀ (vs : List Value) (o : Nat) (W : World), Touch S W (W.setCells g o vs)
  | [], o, W => Touch.refl S W
  | v :: vs, o, W => (Touch.set hg W o v).more (Touch.sets hg vs (o + 1) _)
end Go.Proofs.Ytcdghipodnafmaa
