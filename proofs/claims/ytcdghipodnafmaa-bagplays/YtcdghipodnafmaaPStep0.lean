/-
  The law's step: what is common. Conditions: both bags lie in memory and are the same; the counts are low.
-/
import Derived.Test.YtcdghipodnafmaaRDoA
namespace Go.Proofs.Ytcdghipodnafmaa
open Go.ChangeShapes Go.WideShapes Go.ChangeAt Go.RowKit
set_option linter.unusedVariables false
structure Both (w : World) (p : Nat) (n : Int) (k : Nat) (S : Nat → Prop) (g : Bg) (b : Rb) (A : Option Addr) (c : Nat) (rs : List Mr) (W : World) : Prop where
  mem : MemB w p S g A c rs W
  ms : rs.map Mr.m = g.ms
  rel : Rel g b
  cnt : Cnt g k
  nn : g.nodes = n
def StepR (w : World) (p : Nat) (n : Int) (k : Nat) (S0 : Nat → Prop) (W : World) (e : Ending) (w' : World) : Prop := ∃ S g b A c rs, e = .returned (.tuple #[rv b A rs.length c, .bool true]) ∧ Both w p n (k + 1) S g b A c rs w' ∧ Touch S0 W w' ∧ Sub S S0 W
structure GoodB (w : World) (D : Option Addr) (dc : Nat) (l : List Int) : Prop where
  lies : Lies w D dc l
  isB : IsB l
  few : l.length ≤ 100000
section
variable {w : World} {p : Nat} {n : Int} {k : Nat} {S : Nat → Prop} {g : Bg} {b : Rb} {A : Option Addr} {c : Nat} {rs : List Mr} {W : World}
theorem Both.lowR (h : Both w p n k S g b A c rs W) (hk : k ≤ 1000) : LowR b := by
  have h1 := h.mem.bag.ok
  have h2 := h.cnt.low hk
  have h3 := h.rel
  obtain ⟨ss, nev, h4⟩ := h.cnt
  exact ⟨by rw [h3.n]; exact h1.n8, by rw [h3.x]; exact h1.s0, by rw [h3.x]; exact h2.s1, by rw [h3.y]; exact h1.t0, by rw [h3.y]; exact h2.t1, by rw [h3.z]; exact h1.l0, by rw [h3.z]; exact h2.l1⟩
theorem Both.few (h : Both w p n k S g b A c rs W) : rs.length ≤ 512 := by
  have h1 := h.mem.bag.ok
  have h2 := h1.many
  have h3 := h1.m2
  rw [← h.ms, List.length_map] at h2
  omega
theorem Both.tgt (h : Both w p n k S g b A c rs W) : ∀ r ∈ rs, 0 ≤ r.m.tgt ∧ r.m.tgt < 8 := fun r hr => by
  have h1 := h.mem.bag.ok
  have h2 := h1.msgs r.m (by rw [← h.ms]; exact List.mem_map.2 ⟨r, hr, rfl⟩)
  have h3 := h1.n8
  exact ⟨h2.lo, by have := h2.hi; omega⟩
theorem Both.on (h : Both w p n k S g b A c rs W) {W' : World} (hb : Below W.heap.size W W') : Both w p n k S g b A c rs W' := ⟨h.mem.on hb, h.ms, h.rel, h.cnt, h.nn⟩
theorem MemB.done2 {w W W1 : World} {p : Nat} {S : Nat → Prop} {g g' : Bg} {A : Option Addr} {c : Nat} {rs : List Mr} (h : MemB w p S g A c rs W) (hd : Done S W p g' W1) : ∃ S', Sub S' S W ∧ Touch S W W1 ∧ MemB w p S' g' A c rs W1 := by
  obtain ⟨S', h1, h2, h3⟩ := hd
  refine ⟨S', h3, h2, h1, fun b hb => ?_, h.below.trans (h2.below h.up h.below.size), h.row.blocks fun a ha => ?_, fun a ha hs => ?_, h.data⟩
  · rcases h3 b hb with h4 | h4
    · exact h.up b h4
    · have := h.below.size; omega
  · obtain ⟨cur, q, hq⟩ := (h.row.row a.block (by rw [ha]; rfl)).2
    exact h2.block _ (Array.getElem?_eq_some_iff.1 hq).1 (h.off a ha)
  · obtain ⟨cur, q, hq⟩ := (h.row.row a.block (by rw [ha]; rfl)).2
    have hlt := (Array.getElem?_eq_some_iff.1 hq).1
    rcases h3 _ hs with h4 | h4
    · exact h.off a ha h4
    · omega
theorem MemB.done3 {w W W1 : World} {p : Nat} {S S' : Nat → Prop} {g g' : Bg} {A : Option Addr} {c : Nat} {rs : List Mr} (h : MemB w p S g A c rs W) (h1 : BagAt S' W1 p g') (h2 : Touch S W W1) (h3 : Sub S' S W) : MemB w p S' g' A c rs W1 := by
  refine ⟨h1, fun b hb => ?_, h.below.trans (h2.below h.up h.below.size), h.row.blocks fun a ha => ?_, fun a ha hs => ?_, h.data⟩
  · rcases h3 b hb with h4 | h4
    · exact h.up b h4
    · have := h.below.size; omega
  · obtain ⟨cur, q, hq⟩ := (h.row.row a.block (by rw [ha]; rfl)).2
    exact h2.block _ (Array.getElem?_eq_some_iff.1 hq).1 (h.off a ha)
  · obtain ⟨cur, q, hq⟩ := (h.row.row a.block (by rw [ha]; rfl)).2
    have hlt := (Array.getElem?_eq_some_iff.1 hq).1
    rcases h3 _ hs with h4 | h4
    · exact h.off a ha h4
    · omega
/-- A store into a block of another's that holds no bytes and no messages. -/
theorem BagAt.off {S : Nat → Prop} {W W' : World} {p : Nat} {g : Bg} (h : BagAt S W p g) {gb t : Nat} {cs : Array Value} (hb : Blk W gb cs t) (ht5 : t ≠ 5) (hS : ¬ S gb) (ho : ∀ k, k ≠ gb → W'.heap[k]? = W.heap[k]?) (hs : W.heap.size ≤ W'.heap.size) : BagAt S W' p g := by
  obtain ⟨X, cx, rs, hO⟩ := h
  have ht : ∀ q, S q → W'.heap[q]? = W.heap[q]? := fun q hq => ho q (fun e => hS (e ▸ hq))
  refine ⟨X, cx, rs, (ht _ hO.pS).trans hO.blk, hO.pS, hO.row.blocks fun a ha => ht _ (hO.rowS a ha), hO.rowS, fun k hk => Nat.lt_of_lt_of_le (hO.lt k hk) hs, fun r hr' => ?_, hO.fs, hO.ok⟩
  refine (hO.data r hr').blocks fun hn a ha => ho _ fun e => ?_
  obtain ⟨cur, q, h1⟩ := (hO.data r hr').2.2 hn a ha
  rw [e, show W.heap[gb]? = _ from hb] at h1
  injection h1 with h2
  injection h2 with _ h3
  exact absurd h3 ht5
theorem MemB.off' {W' : World} (h : MemB w p S g A c rs W) {gb t : Nat} {cs : Array Value} (hb : Blk W gb cs t) (ht5 : t ≠ 5) (hrow : ∀ a, A = some a → a.block ≠ gb) (hS : ¬ S gb) (hg : w.heap.size ≤ gb) (ht : Touch (fun q => q = gb) W W') : MemB w p S g A c rs W' := by
  have ho : ∀ q, q < W.heap.size → q ≠ gb → W'.heap[q]? = W.heap[q]? := fun q hq hne => ht.block q hq hne
  have hbelow : Below w.heap.size w W' := h.below.trans (ht.below (fun q hq => by rw [hq]; exact hg) h.below.size)
  obtain ⟨X, cx, rx, hO⟩ := h.bag
  have hne : ∀ q, S q → q ≠ gb := fun q hq e => hS (e ▸ hq)
  refine ⟨⟨X, cx, rx, (ho _ (hO.lt _ hO.pS) (hne _ hO.pS)).trans hO.blk, hO.pS, hO.row.blocks fun a ha => ho _ (hO.lt _ (hO.rowS a ha)) (hne _ (hO.rowS a ha)), hO.rowS, fun q hq => Nat.lt_of_lt_of_le (hO.lt q hq) ht.size, fun r hr' => ?_, hO.fs, hO.ok⟩, h.up, hbelow, h.row.blocks fun a ha => ?_, h.off, h.data⟩
  · refine (hO.data r hr').blocks fun hn a ha => ho _ ((hO.data r hr').1.lt hn a ha) fun e => ?_
    obtain ⟨cur, q, h1⟩ := (hO.data r hr').2.2 hn a ha
    rw [e, show W.heap[gb]? = _ from hb] at h1
    injection h1 with h2
    injection h2 with _ h3
    exact absurd h3 ht5
  · obtain ⟨cur, q, h1⟩ := (h.row.row a.block (by rw [ha]; rfl)).2
    exact ho _ (Array.getElem?_eq_some_iff.1 h1).1 (hrow a ha)
theorem takeS_nodes (g : Bg) (i : Int) : (takeS g i).1.nodes = g.nodes := by
  unfold takeS
  split
  · split <;> rfl
  · rfl
theorem loseS_nodes (g : Bg) (i : Int) : (loseS g i).1.nodes = g.nodes := by unfold loseS; split <;> rfl
theorem twiceS_nodes (g : Bg) (i : Int) : (twiceS g i).1.nodes = g.nodes := by unfold twiceS; split <;> rfl
theorem moveS_nodes (g : Bg) (i j : Int) : (moveS g i j).1.nodes = g.nodes := by unfold moveS; split <;> rfl
theorem setS_nodes (g : Bg) (i : Int) (u : Bool) : (setS g i u).1.nodes = g.nodes := by unfold setS; split <;> rfl
/-- The document's call gives this answer, and the bag that goes with it. -/
structure Sync (g' : Bg) (n : Int) (k : Nat) (q : Rb × List Mr × Mr × Bool) (m : Mg) (ok : Bool) : Prop where
  ok : q.2.2.2 = ok
  m : q.2.2.1.m = m
  ms : q.2.1.map Mr.m = g'.ms
  rel : Rel g' q.1
  cnt : Cnt g' (k + 1)
  nn : g'.nodes = n
theorem sync_take (B : Both w p n k S g b A c rs W) (x y : Int) : Sync (takeS g x).1 n k (doQ b rs 0 x y) (takeS g x).2.1 (takeS g x).2.2 := by
  obtain ⟨h1, h2, h3, h4⟩ := B.rel.take B.mem.bag.ok B.ms x y
  exact ⟨h1, h2, h3, h4, B.cnt.take x, (takeS_nodes g x).trans B.nn⟩
theorem sync_lose (B : Both w p n k S g b A c rs W) (x y : Int) : Sync (loseS g x).1 n k (doQ b rs 1 x y) m0 (loseS g x).2 := by
  obtain ⟨h1, h2, h3, h4⟩ := B.rel.lose B.ms x y
  exact ⟨h1, by rw [h2]; rfl, h3, h4, B.cnt.lose x, (loseS_nodes g x).trans B.nn⟩
theorem sync_twice (B : Both w p n k S g b A c rs W) (x y : Int) : Sync (twiceS g x).1 n k (doQ b rs 2 x y) m0 (twiceS g x).2 := by
  obtain ⟨h1, h2, h3, h4⟩ := B.rel.twice B.ms x y
  exact ⟨h1, by rw [h2]; rfl, h3, h4, B.cnt.twice x, (twiceS_nodes g x).trans B.nn⟩
theorem sync_move (B : Both w p n k S g b A c rs W) (x y : Int) : Sync (moveS g x y).1 n k (doQ b rs 3 x y) m0 (moveS g x y).2 := by
  obtain ⟨h1, h2, h3, h4⟩ := B.rel.move B.ms x y
  exact ⟨h1, by rw [h2]; rfl, h3, h4, B.cnt.move x y, (moveS_nodes g x y).trans B.nn⟩
theorem Both.off {W' : World} (h : Both w p n k S g b A c rs W) {gb t : Nat} {cs : Array Value} (hb : Blk W gb cs t) (ht5 : t ≠ 5) (ht48 : t ≠ 48) (hS : ¬ S gb) (hg : w.heap.size ≤ gb) (ht : Touch (fun q => q = gb) W W') : Both w p n k S g b A c rs W' := by
  have ho : ∀ q, q < W.heap.size → q ≠ gb → W'.heap[q]? = W.heap[q]? := fun q hq hne => ht.block q hq hne
  have hbelow : Below w.heap.size w W' := h.mem.below.trans (ht.below (fun q hq => by rw [hq]; exact hg) h.mem.below.size)
  obtain ⟨X, cx, rx, hO⟩ := h.mem.bag
  have hne : ∀ q, S q → q ≠ gb := fun q hq e => hS (e ▸ hq)
  refine ⟨⟨⟨X, cx, rx, (ho _ (hO.lt _ hO.pS) (hne _ hO.pS)).trans hO.blk, hO.pS, hO.row.blocks fun a ha => ho _ (hO.lt _ (hO.rowS a ha)) (hne _ (hO.rowS a ha)), hO.rowS, fun q hq => Nat.lt_of_lt_of_le (hO.lt q hq) ht.size, fun r hr' => ?_, hO.fs, hO.ok⟩, h.mem.up, hbelow, h.mem.row.blocks fun a ha => ?_, h.mem.off, h.mem.data⟩, h.ms, h.rel, h.cnt, h.nn⟩
  · refine (hO.data r hr').blocks fun hn a ha => ho _ ((hO.data r hr').1.lt hn a ha) fun e => ?_
    obtain ⟨cur, q, h1⟩ := (hO.data r hr').2.2 hn a ha
    rw [e, show W.heap[gb]? = _ from hb] at h1
    injection h1 with h2
    injection h2 with _ h3
    exact absurd h3 ht5
  · obtain ⟨cur, q, h1⟩ := (h.mem.row.row a.block (by rw [ha]; rfl)).2
    refine ho _ (Array.getElem?_eq_some_iff.1 h1).1 fun e => ?_
    rw [e, show W.heap[gb]? = _ from hb] at h1
    injection h1 with h2
    injection h2 with _ h3
    exact absurd h3 ht48
theorem rset_touch1 (V : World) (gb : Nat) (b : Rb) (A : Option Addr) (l c : Nat) : Touch (fun q => q = gb) V (rset V gb b A l c) := by
  rw [rset_eq]
  exact Touch.sets (S := fun q => q = gb) rfl _ 0 V
theorem Both.rset (h : Both w p n k S g b A c rs W) {gb : Nat} {cs : Array Value} (hb : Blk W gb cs 34) (hS : ¬ S gb) (hg : w.heap.size ≤ gb) (b' : Rb) (A' : Option Addr) (l' c' : Nat) : Both w p n k S g b A c rs (Go.Proofs.Ytcdghipodnafmaa.rset W gb b' A' l' c') := h.off hb (by decide) (by decide) hS hg (rset_touch1 W gb b' A' l' c')
end
end Go.Proofs.Ytcdghipodnafmaa
