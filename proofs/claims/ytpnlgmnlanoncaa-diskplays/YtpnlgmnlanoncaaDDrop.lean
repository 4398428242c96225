/-
  Contracts of drop, shorten: a file is removed, or cut short. Conditions: the disk is laid open, the file is among its files.
-/
import Derived.Test.YtpnlgmnlanoncaaDBegin
import Derived.StillTailTactics
namespace Go.Proofs.Ytpnlgmnlanoncaa
open Go.ChangeShapes Go.WideShapes Go.ChangeAt Go.RowKit
set_option linter.unusedVariables false

theorem FileAt.cells {S : Nat → Prop} {w : World} {r : Fr} (h : FileAt S w r) : w.cell? ⟨r.p, 0, none⟩ = some (.slice r.A r.f.b.length r.c) ∧ w.cell? ⟨r.p, 1, none⟩ = some (.int .i64 r.f.syn) ∧ w.cell? ⟨r.p, 2, none⟩ = some (.bool r.f.ever) :=
  ⟨h.blk.cell 0, h.blk.cell 1, h.blk.cell 2⟩
theorem Open.small {S : Nat → Prop} {w : World} {sb bm : Nat} {L : List Fr} {D : DataW Value} {d : St} (h : Open S w sb bm L D d) {r : Fr} (hr : r ∈ L) : r.f.b.length ≤ 1048576 ∧ r.f.b.length ≤ total d.fs ∧ r.f.syn ≤ r.f.b.length ∧ r.f.name.size ≤ 64 ∧ IsB r.f.b := by
  have hm : r.f ∈ d.fs := by rw [← h.fs]; exact List.mem_map.2 ⟨r, hr, rfl⟩
  have h1 := total_mem hm
  have h2 := h.ok.fits
  have h3 := h.ok.hi
  have h4 := h.ok.files _ hm
  have h5 := h4.2.2
  refine ⟨by omega, h1, h4.1, ?_, h4.2.1⟩
  simp [bad] at h5
  omega
theorem Ok.without {d : St} (h : Ok d) (n : ByteArray) : Ok { d with fs := wo Fl.name d.fs n } where
  srt := h.srt.wo n
  lo := h.lo
  hi := h.hi
  fits := by have := total_wo_le d.fs n; have := h.fits; show ((total (wo Fl.name d.fs n) : Nat) : Int) ≤ d.cap; omega
  many := Nat.le_trans (wo_length_le _ _) h.many
  dead := h.dead
  small := h.small
  files := fun f hf => h.files f (mem_wo.1 hf).1

theorem turned_size {w w' : World} {b : Nat} (h : w.mapTurned w' b) : w'.heap.size = w.heap.size := by
  obtain ⟨es, cl, es', cl', hb, rfl⟩ := h
  simp [ChangeMaps.setBlock]

/-- A file is taken out of the map, and its bytes are given back. -/
theorem Open.dropped {S : Nat → Prop} {w w1 w' : World} {sb bm : Nat} {L : List Fr} {D : DataW Value} {d : St} (h : Open S w sb bm L D d) {n : ByteArray} {r : Fr} (hf : fd Fr.name L n = some r) {x : Int}
    (hx : x = d.cap - total d.fs + r.f.b.length) (hw1 : w1 = w.setCell ⟨sb, 1, none⟩ (.int .i64 x)) (hown : w'.ownsMap Try.prog 9 keep bm (Maps.size D) (D.del (key n))) (ht : w1.mapTurned w' bm) :
    Open S w' sb bm (wo Fr.name L n) (D.del (key n)) { d with fs := wo Fl.name d.fs n } ∧ Touch S w w' ∧ w'.heap.size = w.heap.size := by
  have hl1 : w1.heap.size = w.heap.size := by rw [hw1]; exact setCell_size _ _ _
  have hl : w'.heap.size = w.heap.size := by rw [turned_size ht, hl1]
  have hfl : fd Fl.name d.fs n = some r.f := by rw [h.finds, hf]; rfl
  have htot := total_wo_some h.ok.srt hfl
  have hk : ∀ k, k ≠ sb → k ≠ bm → w'.heap[k]? = w.heap[k]? := fun k h1 h2 => by
    rcases Nat.lt_or_ge k w1.heap.size with h3 | h3
    · rw [ht.grown.block k h3 (by simpa using h2), hw1]; exact Below.heap_setCell _ _ _ k h1
    · rw [Array.getElem?_eq_none (by omega), Array.getElem?_eq_none (by omega)]
  have hb1 : Blk w1 sb (dcells bm { d with fs := wo Fl.name d.fs n }) 62 := by
    rw [hw1]
    have := h.blk.set 1 (.int .i64 x)
    have e : (dcells bm d).setIfInBounds 1 (.int .i64 x) = dcells bm { d with fs := wo Fl.name d.fs n } := by
      simp only [dcells]
      rw [show x = d.cap - ((total (wo Fl.name d.fs n) : Nat) : Int) by omega]
      rfl
    rw [e] at this
    exact this
  refine ⟨⟨?_, h.inS, h.mapS, fun k hk' => by rw [hl]; exact h.lt k hk', ownsMap_tight hown, h.rel.del n, fun s hs => ?_, h.sep.wo n, ?_, h.ok.without n⟩, ?_, hl⟩
  · exact (ht.grown.block sb (by rw [hl1]; exact h.blk.lt) (by simpa using h.bm_ne.symm)).trans hb1
  · have hs' := (mem_wo.1 hs).1
    have hn := h.file_ne hs'
    exact (h.files s hs').kept (hk _ hn.1 hn.2.1) (fun a ha => hk _ (hn.2.2 a ha).1 (hn.2.2 a ha).2.1) (fun _ h => h)
  · exact (map_wo (nm := Fr.name) (nn := Fl.name) (g := Fr.f) (fun _ => rfl) L n).trans (by rw [h.fs])
  · exact (hw1 ▸ Touch.set h.inS w 1 _).more (Touch.turned ht h.mapS)

set_option maxRecDepth 20000 in
set_option maxHeartbeats 1000000 in
theorem drop_calls {S : Nat → Prop} {w : World} {sb bm : Nat} {L : List Fr} {D : DataW Value} {d : St} (h : Open S w sb bm L D d) (n : ByteArray) (r : Fr) (hf : fd Fr.name L n = some r) :
    Calls Try.prog 29 #[at_ sb, .string n] w fun e w' => e = .returned (.tuple #[]) ∧ Open S w' sb bm (wo Fr.name L n) (D.del (key n)) { d with fs := wo Fl.name d.fs n } ∧ Touch S w w' ∧ w'.heap.size = w.heap.size := by
  obtain ⟨hr, hn⟩ := fd_some hf
  have hsm := h.small hr
  have hnl : n.size ≤ maxLen := by rw [← hn]; unfold maxLen; have := hsm.2.2.2.1; show r.f.name.size ≤ _; omega
  have hlook := h.look n hnl
  rw [hf] at hlook
  simp only [ptrOf, at_] at hlook
  obtain ⟨c0, c1, c2, c3⟩ := h.cells
  obtain ⟨e0, e1, e2⟩ := (h.files r hr).cells
  have f1 := h.blk.free 1
  have hfit := h.ok.fits
  have hhi := h.ok.hi
  obtain ⟨m, hm⟩ : ∃ m : Int, m = d.cap - total d.fs := ⟨_, rfl⟩
  obtain ⟨k, hk⟩ : ∃ k, k = r.f.b.length := ⟨_, rfl⟩
  have hk1 := hsm.1
  have hk2 := hsm.2.1
  rw [← hm] at c1
  rw [← hk] at e0 hk1 hk2
  have hw : wrap64 (m + (k : Int)) = m + (k : Int) := by unfold wrap64; omega
  have HX := Lib.hid (show m + (k : Int) = d.cap - total d.fs + r.f.b.length by rw [hm, hk])
  have HO := Lib.hid h
  have HF := Lib.hid hf
  have HK := Lib.hid (keyOf_key hnl)
  clear hm hk hf h hfit hhi hsm hnl hn hr
  unfold at_
  go_enter Try.func29, Try.ntmps29
  go_wp2_with fail
  go_still_tail 12, (by kernel_rfl)
  change wpList _ _ _ _ _ w.drew
  have HO2 : Open S w.drew sb bm L D d := HO.out.kept (fun _ _ => rfl) (fun _ h => h) HO.out.lt
  have c0' : (w.drew.setCell ⟨sb, 1, none⟩ (.int .i64 (m + (k : Int)))).cell? ⟨sb, 0, none⟩ = some (.map (some bm)) := (HO2.blk.set 1 _).cell 0
  have hown2 : (w.drew.setCell ⟨sb, 1, none⟩ (.int .i64 (m + (k : Int)))).ownsMap Try.prog 9 keep bm (Maps.size D) D := HO2.own.setCell HO2.bm_ne _
  go_wp2_with (at_delete; refine wpList_delete_own _ rfl _ _ 60 9 rfl 63 law9 Try.underlying60 _ bm _ D rfl hown2 _ _ rfl HK.out ?_; intro w1 hown1 hturn1)
  try simp only [Exit.inBlock, Exit.then]
  refine bodyPost_end (results_none rfl _ _ _) rfl ?_
  have := HO2.dropped HF.out HX.out rfl hown1 hturn1
  exact ⟨rfl, this.1, ⟨this.2.1.os, this.2.1.tape, this.2.1.output, this.2.1.size, this.2.1.block⟩, this.2.2⟩

/-- One file is written, and the room. -/
theorem Open.refile {S S' : Nat → Prop} {w w' : World} {sb bm : Nat} {L : List Fr} {D : DataW Value} {d : St} (h : Open S w sb bm L D d) {r r' : Fr} (hr : r ∈ L) (hn : r'.name = r.name) (hp : r'.p = r.p)
    (hs : ∀ k, S k → S' k) (hl : ∀ k, S' k → k < w'.heap.size)
    (hk : ∀ k, S k → k ≠ sb → k ≠ r.p → (∀ a, r.A = some a → k ≠ a.block) → w'.heap[k]? = w.heap[k]?)
    (hfile : FileAt S' w' r') (hat : ∀ a', r'.A = some a' → (∃ a, r.A = some a ∧ a'.block = a.block) ∨ w.heap.size ≤ a'.block)
    (hblk : Blk w' sb (dcells bm { d with fs := wi Fl.name d.fs r'.f }) 62) (hok : Ok { d with fs := wi Fl.name d.fs r'.f }) : Open S' w' sb bm (wi Fr.name L r') D { d with fs := wi Fl.name d.fs r'.f } where
  blk := hblk
  inS := hs _ h.inS
  mapS := hs _ h.mapS
  lt := hl
  own := by
    obtain ⟨es, cl, hb, x⟩ := h.own
    have hne := h.file_ne hr
    exact ⟨es, cl, (hk _ h.mapS h.bm_ne hne.2.1.symm fun a ha => ((hne.2.2 a ha).2.1).symm).trans hb, x⟩
  rel := h.rel.same r r' (fd_mem h.srt hr) hn hp
  files := fun s hs' => by
    rcases mem_wi.1 hs' with rfl | ⟨hs1, hs2⟩
    · exact hfile
    · have hf := h.files s hs1
      have hns := h.file_ne hs1
      have hap := h.sep s hs1 r hr (by rw [← hn]; exact hs2)
      refine hf.kept (hk _ hf.inS hns.1 hap.1 fun a ha e => ((h.file_ne hr).2.2 a ha).2.2 s hs1 e.symm) (fun a ha => hk _ (hf.rowS a ha) (hns.2.2 a ha).1 ((hns.2.2 a ha).2.2 r hr) fun b hb e => hap.2 a b ha hb e) hs
  sep := h.sep.wi r' fun s hs1 hs2 => by
    have hap := h.sep r hr s hs1 (by rw [← hn]; exact fun e => hs2 e.symm)
    refine ⟨by rw [hp]; exact hap.1, fun a b ha hb e => ?_⟩
    rcases hat a ha with ⟨a0, h1, h2⟩ | h1
    · exact hap.2 a0 b h1 hb (h2.symm.trans e)
    · obtain ⟨cur, q, h3⟩ := (h.files s hs1).row hb
      have := (Array.getElem?_eq_some_iff.1 h3).1
      omega
  fs := (map_wi (nm := Fr.name) (nn := Fl.name) (g := Fr.f) (fun _ => rfl) L r').trans (by rw [h.fs])
  ok := hok

theorem Ok.with_ {d : St} (h : Ok d) {f f' : Fl} (hf : f ∈ d.fs) (hn : f'.name = f.name) (hl : total d.fs + f'.b.length ≤ d.cap + f.b.length) (hs : f'.syn ≤ f'.b.length) (hb : IsB f'.b) : Ok { d with fs := wi Fl.name d.fs f' } := by
  have hfd : fd Fl.name d.fs f'.name = some f := by rw [hn]; exact fd_mem h.srt hf
  have ht := total_wo_some h.srt hfd
  have hln := wo_length_some h.srt hfd
  refine ⟨h.srt.wi f', h.lo, h.hi, ?_, ?_, h.dead, h.small, fun g hg => ?_⟩
  · show ((total (wi Fl.name d.fs f') : Nat) : Int) ≤ d.cap
    unfold wi
    rw [total_ins]
    omega
  · show (wi Fl.name d.fs f').length ≤ 65536
    unfold wi
    rw [ins_length, hln]
    exact h.many
  · rcases mem_wi.1 hg with rfl | ⟨hg1, _⟩
    · exact ⟨hs, hb, by rw [hn]; exact (h.files f hf).2.2⟩
    · exact h.files g hg1
theorem total_with {d : St} (h : Ok d) {f f' : Fl} (hf : f ∈ d.fs) (hn : f'.name = f.name) : ((total (wi Fl.name d.fs f') : Nat) : Int) = total d.fs - f.b.length + f'.b.length := by
  have hfd : fd Fl.name d.fs f'.name = some f := by rw [hn]; exact fd_mem h.srt hf
  have ht := total_wo_some h.srt hfd
  unfold wi
  rw [total_ins]
  omega
theorem Open.mem {S : Nat → Prop} {w : World} {sb bm : Nat} {L : List Fr} {D : DataW Value} {d : St} (h : Open S w sb bm L D d) {r : Fr} (hr : r ∈ L) : r.f ∈ d.fs := by rw [← h.fs]; exact List.mem_map.2 ⟨r, hr, rfl⟩
end Go.Proofs.Ytpnlgmnlanoncaa
