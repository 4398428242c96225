/-
  A disk in memory: its struct, its map, its files; what a call may touch of it. Conditions: as in the premises.
-/
import Derived.Test.YtpnlgmnlanoncaaDNums
import Derived.Test.YtpnlgmnlanoncaaEB2
import Derived.Maps.OwnSet
import Derived.Sort.KeysCollected
namespace Go.Proofs.Ytpnlgmnlanoncaa
open Go.ChangeShapes Go.WideShapes Go.ChangeAt Go.RowKit
open Go.Maps (Keyed IsMap Tidy string_keyed)
set_option linter.unusedVariables false

/-! What may have turned. -/
/-- Nothing has turned but blocks of S, and new ones. -/
structure Touch (S : Nat → Prop) (w w' : World) : Prop where
  os : w'.os = w.os
  tape : w'.tape = w.tape
  output : w'.output = w.output
  size : w.heap.size ≤ w'.heap.size
  block : ∀ k, k < w.heap.size → ¬ S k → w'.heap[k]? = w.heap[k]?
/-- S and what is new. -/
def Ext (S : Nat → Prop) (w w' : World) (k : Nat) : Prop := S k ∨ (w.heap.size ≤ k ∧ k < w'.heap.size)
section
variable {S S' : Nat → Prop} {w w1 w2 w' : World}
theorem Touch.refl (S : Nat → Prop) (w : World) : Touch S w w := ⟨rfl, rfl, rfl, Nat.le_refl _, fun _ _ _ => rfl⟩
theorem Touch.on (h : Touch S w w1) (k : Touch S' w1 w2) (hs : ∀ b, S' b → S b ∨ w.heap.size ≤ b) : Touch S w w2 :=
  ⟨k.os.trans h.os, k.tape.trans h.tape, k.output.trans h.output, Nat.le_trans h.size k.size, fun b hb hn =>
    (k.block b (Nat.lt_of_lt_of_le hb h.size) (fun h2 => by rcases hs b h2 with h3 | h3; exact hn h3; omega)).trans (h.block b hb hn)⟩
theorem Touch.then (h : Touch S w w1) (k : Touch (Ext S w w1) w1 w2) : Touch S w w2 := h.on k fun b hb => by
  rcases hb with h | h
  · exact .inl h
  · exact .inr h.1
theorem Touch.more (h : Touch S w w1) (k : Touch S w1 w2) : Touch S w w2 := h.on k fun b hb => .inl hb
theorem Touch.of_below (h : Below w.heap.size w w') : Touch S w w' := ⟨h.os, h.tape, h.output, h.size, fun k hk _ => h.block k hk⟩
theorem Touch.below {B : Nat} (h : Touch S w w') (hs : ∀ k, S k → B ≤ k) (hB : B ≤ w.heap.size) : Below B w w' :=
  ⟨h.os, h.tape, h.output, h.size, fun k hk => h.block k (by omega) fun h2 => by have := hs k h2; omega⟩
theorem Touch.weaken (h : Touch S w w') (hs : ∀ k, S k → S' k) : Touch S' w w' := ⟨h.os, h.tape, h.output, h.size, fun k hk hn => h.block k hk fun h2 => hn (hs k h2)⟩
theorem Touch.set {g : Nat} (hg : S g) (w : World) (k : Nat) (v : Value) : Touch S w (w.setCell ⟨g, k, none⟩ v) :=
  ⟨rfl, rfl, rfl, by simp [World.setCell], fun b hb hn => Below.heap_setCell w _ v b fun e => hn (by rw [show b = g from e]; exact hg)⟩
theorem Touch.grown {row : Option Nat} (h : w.grownBy w' row) (hs : ∀ g, row = some g → S g) : Touch S w w' :=
  ⟨h.os, h.tape, h.output, h.size, fun k hk hn => h.block k hk fun e => hn (hs k e.symm)⟩
theorem Touch.turned {b : Nat} (h : w.mapTurned w' b) (hs : S b) : Touch S w w' := Touch.grown h.grown fun g e => by cases e; exact hs
theorem Touch.alloc (S : Nat → Prop) (w : World) (o : Obj) : Touch S w (w.alloc o) := Touch.of_below ((Below.refl _ _).alloc (Nat.le_refl _) o)
theorem Touch.drewN (S : Nat → Prop) (w : World) (q : Nat) : Touch S w (w.drewN q) := ⟨rfl, rfl, rfl, Nat.le_refl _, fun _ _ _ => rfl⟩
theorem Ext.mono_left (h : ∀ k, S k → S' k) : ∀ k, Ext S w w' k → Ext S' w w' k := fun k hk => hk.imp (h k) id
theorem Ext.later (h : w1.heap.size ≤ w2.heap.size) : ∀ k, Ext S w w1 k → Ext S w w2 k := fun k hk => hk.imp id fun h2 => ⟨h2.1, Nat.lt_of_lt_of_le h2.2 h⟩
theorem Ext.two (h : w.heap.size ≤ w1.heap.size) (h2 : w1.heap.size ≤ w2.heap.size) : ∀ k, Ext (Ext S w w1) w1 w2 k → Ext S w w2 k := fun k hk => by
  rcases hk with (h3 | h3) | h3
  · exact .inl h3
  · exact .inr ⟨h3.1, by omega⟩
  · exact .inr ⟨by omega, h3.2⟩
end

/-! The map. -/
def keep (v : Value) : Option (DataW Value × List MemPlace) := some (.held v, [])
theorem law9 : Keyed Try.prog 9 := string_keyed Try.underlying9
theorem zero63 (w : World) : (zeroValue 63).run Try.prog w = .ok (.pointer none) w := by kernel_rfl

/-- A file in memory: the file, where its struct lies, its row. -/
structure Fr where
  f : Fl
  p : Nat
  A : Option Addr
  c : Nat
def Fr.name (r : Fr) : ByteArray := r.f.name
def at_ (p : Nat) : Value := .pointer (some ⟨p, 0, none⟩)
def ptrOf : Option Fr → Value
  | none => .pointer none
  | some r => at_ r.p
def key (s : ByteArray) : Lit := .string s.data.toList
theorem key_lit (s : ByteArray) : WideAt.IsKeyLit (key s) := trivial
theorem key_ne {s t : ByteArray} (h : s ≠ t) : key s ≠ key t := fun e => h (ba_ext (by simpa [key] using e))
theorem keyOf_key {s : ByteArray} (h : s.size ≤ maxLen) : keyOf Try.prog 9 (.string s) = some (key s) := WideMaps.keyOf_string_mk Try.underlying9 h
/-- The map holds just these files. -/
def MapRel (D : DataW Value) (L : List Fr) : Prop := ∀ s : ByteArray, D.atKey (key s) (.held (.pointer none)) = .held (ptrOf (fd Fr.name L s)) ∧ Maps.has D (key s) = (fd Fr.name L s).isSome
theorem MapRel.empty : MapRel (.map []) [] := fun s => ⟨rfl, rfl⟩
theorem MapRel.put {D : DataW Value} {L : List Fr} (h : MapRel D L) (hD : IsMap D) (r : Fr) : MapRel (D.put (key r.name) (.held (at_ r.p))) (wi Fr.name L r) := fun s => by
  rw [fd_wi]
  by_cases hs : s = r.name
  · subst hs
    rw [if_pos rfl, Maps.atKey_put_same hD (key_lit _), Maps.has_put_same hD (key_lit _)]
    exact ⟨rfl, rfl⟩
  · rw [if_neg hs, Maps.atKey_put_other (key_ne hs), Maps.has_put_other (key_ne hs)]
    exact h s
theorem MapRel.del {D : DataW Value} {L : List Fr} (h : MapRel D L) (n : ByteArray) : MapRel (D.del (key n)) (wo Fr.name L n) := fun s => by
  rw [fd_wo]
  by_cases hs : s = n
  · subst hs
    rw [if_pos rfl, Maps.atKey_del_same, Maps.has_del_same]
    exact ⟨rfl, rfl⟩
  · rw [if_neg hs, Maps.atKey_del_other (key_ne hs), Maps.has_del_other (key_ne hs)]
    exact h s
/-- A change of a file where it lies. -/
theorem MapRel.same {D : DataW Value} {L : List Fr} (h : MapRel D L) (r r' : Fr) (hf : fd Fr.name L r.name = some r) (hn : r'.name = r.name) (hp : r'.p = r.p) : MapRel D (wi Fr.name L r') := fun s => by
  rw [fd_wi, hn]
  by_cases hs : s = r.name
  · subst hs
    rw [if_pos rfl]
    have := h r.name
    rw [hf] at this
    have e : ptrOf (some r') = ptrOf (some r) := by simp [ptrOf, hp]
    rw [e]
    exact this
  · rw [if_neg hs]; exact h s

def names (L : List Fr) : List (List UInt8) := L.map fun r => r.name.data.toList
theorem names_nodup {L : List Fr} (h : Srt Fr.name L) : (names L).Nodup := by
  unfold names
  exact List.pairwise_map.2 (h.imp fun {a b} hab e => nlt_ne hab (ba_ext e))
theorem MapRel.keys {w : World} {b n : Nat} {D : DataW Value} {L : List Fr} (h : MapRel D L) (hown : w.ownsMap Try.prog 9 keep b n D) (hs : Srt Fr.name L) : (names L).Perm (strKeys D) := by
  have hC : Collected D (fun _ => false) (names L) := by
    refine ⟨names_nodup hs, fun x => ?_⟩
    have h2 := (h ⟨x.toArray⟩).2
    unfold key at h2
    rw [show (ByteArray.mk x.toArray).data.toList = x by simp] at h2
    rw [h2]
    constructor
    · intro hx
      obtain ⟨r, hr, e⟩ := List.mem_map.1 hx
      have : fd Fr.name L ⟨x.toArray⟩ = some r := by
        rw [← fd_mem hs hr]
        congr 1
        exact ba_ext (by simp [e])
      rw [this]; simp
    · rintro ⟨hx, _⟩
      obtain ⟨r, hr⟩ := Option.isSome_iff_exists.1 hx
      obtain ⟨h3, h4⟩ := fd_some hr
      exact List.mem_map.2 ⟨r, h3, by rw [h4]⟩
  exact hC.perm hown law9 Try.underlying9 fun _ => rfl
theorem MapRel.size {w : World} {b n : Nat} {D : DataW Value} {L : List Fr} (h : MapRel D L) (hown : w.ownsMap Try.prog 9 keep b n D) (hs : Srt Fr.name L) : Maps.size D = L.length := by
  have h1 := (h.keys hown hs).length_eq
  obtain ⟨es, rfl⟩ := hown.isMap
  simp [names, strKeys] at h1
  rw [h1]; rfl
theorem ownsMap_tight {w : World} {b n : Nat} {D : DataW Value} (h : w.ownsMap Try.prog 9 keep b n D) : w.ownsMap Try.prog 9 keep b (Maps.size D) D := by
  obtain ⟨es, clock, hb, F, _, rfl⟩ := h
  exact ⟨es, clock, hb, F, by simp [Maps.size, length_sorted], rfl⟩

/-! A file, a disk. -/
def fcells (r : Fr) : Array Value := #[.slice r.A r.f.b.length r.c, .int .i64 r.f.syn, .bool r.f.ever]
structure FileAt (S : Nat → Prop) (w : World) (r : Fr) : Prop where
  blk : Blk w r.p (fcells r) 66
  inS : S r.p
  own : OwnS 0 w r.A r.c r.f.b
  rowS : ∀ a, r.A = some a → S a.block
def Apart (r s : Fr) : Prop := r.p ≠ s.p ∧ ∀ a b, r.A = some a → s.A = some b → a.block ≠ b.block
def Sep (L : List Fr) : Prop := ∀ r ∈ L, ∀ s ∈ L, r.name ≠ s.name → Apart r s
def dcells (bm : Nat) (d : St) : Array Value := #[.map (some bm), .int .i64 (d.cap - total d.fs), .int .i64 d.left, .bool d.dead]
/-- The disk, laid open. -/
structure Open (S : Nat → Prop) (w : World) (sb bm : Nat) (L : List Fr) (D : DataW Value) (d : St) : Prop where
  blk : Blk w sb (dcells bm d) 62
  inS : S sb
  mapS : S bm
  lt : ∀ k, S k → k < w.heap.size
  own : w.ownsMap Try.prog 9 keep bm (Maps.size D) D
  rel : MapRel D L
  files : ∀ r ∈ L, FileAt S w r
  sep : Sep L
  fs : L.map Fr.f = d.fs
  ok : Ok d
def DiskAt (S : Nat → Prop) (w : World) (sb : Nat) (d : St) : Prop := ∃ bm L D, Open S w sb bm L D d

section
variable {S S' : Nat → Prop} {w w' : World} {r : Fr}
theorem OwnS.blocks {B : Nat} {A : Option Addr} {c : Nat} {l : List Int} (h : OwnS B w A c l) (hk : ∀ a, A = some a → w'.heap[a.block]? = w.heap[a.block]?) : OwnS B w' A c l := by
  refine ⟨h.1, ?_⟩
  rcases h.2 with h2 | ⟨g, cap, cur, hv, hg, hh, r⟩
  · exact .inl h2
  · refine .inr ⟨g, cap, cur, hv, hg, ?_, r⟩
    have : A = some ⟨g, 0, none⟩ := by injection hv
    rw [hk _ this]; exact hh
theorem FileAt.kept (h : FileAt S w r) (h1 : w'.heap[r.p]? = w.heap[r.p]?) (h2 : ∀ a, r.A = some a → w'.heap[a.block]? = w.heap[a.block]?) (hs : ∀ k, S k → S' k) : FileAt S' w' r :=
  ⟨h1.trans h.blk, hs _ h.inS, h.own.blocks h2, fun a ha => hs _ (h.rowS a ha)⟩
theorem FileAt.row (h : FileAt S w r) {a : Addr} (ha : r.A = some a) : ∃ cur q, w.heap[a.block]? = some (.cells cur 5 q) := by
  refine h.own.row a.block ?_
  rw [ha]; rfl
theorem FileAt.lt (h : FileAt S w r) : r.p < w.heap.size := h.blk.lt
theorem Sep.wi {L : List Fr} (h : Sep L) (x : Fr) (hx : ∀ s ∈ L, s.name ≠ x.name → Apart x s) : Sep (wi Fr.name L x) := fun a ha b hb hne => by
  rcases mem_wi.1 ha with rfl | ⟨ha1, ha2⟩ <;> rcases mem_wi.1 hb with rfl | ⟨hb1, hb2⟩
  · exact absurd rfl hne
  · exact hx b hb1 hb2
  · have := hx a ha1 ha2
    exact ⟨this.1.symm, fun p q h1 h2 e => this.2 q p h2 h1 e.symm⟩
  · exact h a ha1 b hb1 hne
theorem Sep.wo {L : List Fr} (h : Sep L) (n : ByteArray) : Sep (wo Fr.name L n) := fun a ha b hb hne => h a (mem_wo.1 ha).1 b (mem_wo.1 hb).1 hne
end
section
variable {S S' : Nat → Prop} {w w' : World} {sb bm : Nat} {L : List Fr} {D : DataW Value} {d : St}
theorem Open.srt (h : Open S w sb bm L D d) : Srt Fr.name L := (Srt.map (nn := Fl.name) (g := Fr.f) fun _ => rfl).1 (by rw [h.fs]; exact h.ok.srt)
theorem Open.finds (h : Open S w sb bm L D d) (s : ByteArray) : Go.Proofs.Ytpnlgmnlanoncaa.fd Fl.name d.fs s = (Go.Proofs.Ytpnlgmnlanoncaa.fd Fr.name L s).map Fr.f := by
  rw [← h.fs]; exact fd_map (fun _ => rfl) L s
theorem Open.len (h : Open S w sb bm L D d) : L.length = d.fs.length := by rw [← h.fs, List.length_map]
theorem Open.size (h : Open S w sb bm L D d) : Maps.size D = d.fs.length := by rw [h.rel.size h.own h.srt, h.len]
theorem Open.bm_ne (h : Open S w sb bm L D d) : bm ≠ sb := fun e => by
  obtain ⟨es, cl, hb, _⟩ := h.own
  have := h.blk
  unfold Blk at this
  rw [← e, hb] at this
  cases this
theorem Open.file_ne (h : Open S w sb bm L D d) {r : Fr} (hr : r ∈ L) : r.p ≠ sb ∧ r.p ≠ bm ∧ ∀ a, r.A = some a → a.block ≠ sb ∧ a.block ≠ bm ∧ ∀ s ∈ L, a.block ≠ s.p := by
  have hf := h.files r hr
  have hb := h.blk
  obtain ⟨es, cl, hm, _⟩ := h.own
  unfold Blk at hb
  refine ⟨fun e => ?_, fun e => ?_, fun a ha => ⟨fun e => ?_, fun e => ?_, fun s hs e => ?_⟩⟩
  · have := hf.blk; unfold Blk at this; rw [e, hb] at this; injection this with this; injection this with _ h2; cases h2
  · have := hf.blk; unfold Blk at this; rw [e, hm] at this; cases this
  · obtain ⟨cur, q, h2⟩ := hf.row ha; rw [e, hb] at h2; injection h2 with h2; injection h2 with _ h3; cases h3
  · obtain ⟨cur, q, h2⟩ := hf.row ha; rw [e, hm] at h2; cases h2
  · obtain ⟨cur, q, h2⟩ := hf.row ha
    have h4 := (h.files s hs).blk
    unfold Blk at h4
    rw [e, h4] at h2; injection h2 with h2; injection h2 with _ h3; cases h3
/-- The disk stays where none of its blocks has turned. -/
theorem Open.kept (h : Open S w sb bm L D d) (hk : ∀ k, S k → w'.heap[k]? = w.heap[k]?) (hs : ∀ k, S k → S' k) (hl : ∀ k, S' k → k < w'.heap.size) : Open S' w' sb bm L D d where
  blk := (hk _ h.inS).trans h.blk
  inS := hs _ h.inS
  mapS := hs _ h.mapS
  lt := hl
  own := by
    obtain ⟨es, cl, hb, r⟩ := h.own
    exact ⟨es, cl, (hk _ h.mapS).trans hb, r⟩
  rel := h.rel
  files := fun r hr => (h.files r hr).kept (hk _ (h.files r hr).inS) (fun a ha => hk _ ((h.files r hr).rowS a ha)) hs
  sep := h.sep
  fs := h.fs
  ok := h.ok
theorem Open.look (h : Open S w sb bm L D d) (s : ByteArray) (hs : s.size ≤ maxLen) : (Instr.lookup 60 (.map (some bm)) (.string s) false).run Try.prog w = .ok (ptrOf (Go.Proofs.Ytpnlgmnlanoncaa.fd Fr.name L s)) w := by
  obtain ⟨v, ps, h1, h2⟩ := h.own.lookup law9 Try.underlying60 (zero63 w) (zd := .held (.pointer none)) (zp := []) rfl (keyOf_key hs)
  rw [(h.rel s).1] at h2
  unfold keep at h2
  simp only [Option.some.injEq, Prod.mk.injEq, DataW.held.injEq] at h2
  rw [h1, h2.1]
theorem Open.disk (h : Open S w sb bm L D d) : DiskAt S w sb d := ⟨bm, L, D, h⟩
theorem DiskAt.ok (h : DiskAt S w sb d) : Ok d := by obtain ⟨_, _, _, h⟩ := h; exact h.ok
theorem DiskAt.kept (h : DiskAt S w sb d) (hk : ∀ k, S k → w'.heap[k]? = w.heap[k]?) (hs : ∀ k, S k → S' k) (hl : ∀ k, S' k → k < w'.heap.size) : DiskAt S' w' sb d := by
  obtain ⟨bm, L, D, h⟩ := h
  exact ⟨bm, L, D, h.kept hk hs hl⟩
theorem DiskAt.lt (h : DiskAt S w sb d) : ∀ k, S k → k < w.heap.size := by obtain ⟨_, _, _, h⟩ := h; exact h.lt
theorem DiskAt.wider (h : DiskAt S w sb d) (hs : ∀ k, S k → S' k) (hl : ∀ k, S' k → k < w.heap.size) : DiskAt S' w sb d := h.kept (fun _ _ => rfl) hs hl
theorem DiskAt.below (h : DiskAt S w sb d) (hb : Below w.heap.size w w') : DiskAt S w' sb d := h.kept (fun k hk => hb.block k (h.lt k hk)) (fun _ hk => hk) (fun k hk => Nat.lt_of_lt_of_le (h.lt k hk) hb.size)
end
end Go.Proofs.Ytpnlgmnlanoncaa
