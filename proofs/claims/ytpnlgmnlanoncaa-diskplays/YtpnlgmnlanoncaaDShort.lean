/-
  Contract of shorten: the file keeps its first n bytes. Conditions: the disk is laid open, the file is among its files, n is at most its length.
-/
import Derived.Test.YtpnlgmnlanoncaaDDrop
namespace Go.Proofs.Ytpnlgmnlanoncaa
open Go.ChangeShapes Go.WideShapes Go.ChangeAt Go.RowKit
set_option linter.unusedVariables false

theorem run_short (A : Option Addr) (len c n : Nat) (hn : n ≤ c) (W : World) : (Instr.slice 33 (.slice A len c) none (some (.int .i64 (n : Int))) none).run Try.prog W = .ok (.slice A n c) W := by
  rw [run_slice_h W 33 _ _ _ under22 .i64 _ (by omega) (by omega), elem22, size5]
  simp only [Result.andThen, Go.sliced]
  rw [Int.toNat_natCast, Nat.sub_zero, Nat.sub_zero]
  have : (if c = 0 then A else Option.map (fun x => x.add (0 * 1)) A) = A := by
    split
    · rfl
    · cases A with
      | none => rfl
      | some a => simp [Addr.add]
  rw [this]
/-- A cut of what the call owns, from the start. -/
theorem OwnS.short {B : Nat} {w : World} {A : Option Addr} {c : Nat} {l : List Int} (h : OwnS B w A c l) (n : Nat) (hn : n ≤ l.length) : OwnS B w A c (l.take n) := by
  have e : (l.take n).length = n := by rw [List.length_take]; omega
  have hlen : (cellsOf (l.take n)).length = n := by rw [cellsOf_length, e]
  unfold OwnS at *
  rw [e]
  rcases h.2 with ⟨hv, h0⟩ | ⟨g, cap, cur, hv, hg, hh, h1, h2, h3, h4⟩
  · obtain rfl : n = 0 := by omega
    injection hv with ha hb hc
    subst ha hc
    exact World.ownsRow_nil w B 5 1
  · injection hv with ha hb hc
    subst ha hc
    refine ⟨by rw [hlen]; omega, .inr ⟨g, c, cur, rfl, hg, hh, by omega, h2, h3, ?_⟩⟩
    rw [show cellsOf (l.take n) = (cellsOf l).take n by simp [cellsOf, List.map_take], ← h4, List.take_take]
    congr 1
    omega

theorem shorten_end {S : Nat → Prop} {w : World} {sb bm : Nat} {L : List Fr} {D : DataW Value} {d : St} (h : Open S w sb bm L D d) {r : Fr} (hr : r ∈ L) (n : Nat) (hn : n ≤ r.f.b.length) (z : Value) {w' : World}
    (hw' : w' = (((w.setCell ⟨sb, 1, none⟩ (.int .i64 ((d.cap - total d.fs) + ((r.f.b.length : Int) - (n : Int))))).setCell ⟨r.p, 0, none⟩ (.slice r.A n r.c)).setCell ⟨r.p, 1, none⟩ z).drew) (hz : z = .int .i64 ((min r.f.syn n : Nat) : Int)) :
    Open S w' sb bm (wi Fr.name L { r with f := short r.f n }) D { d with fs := wi Fl.name d.fs (short r.f n) } ∧ Touch S w w' ∧ w'.heap.size = w.heap.size := by
  have hsm := h.small hr
  have hfile := h.files r hr
  have hne := h.file_ne hr
  have hm := h.mem hr
  have hle : (r.f.b.take n).length = n := by rw [List.length_take]; omega
  have hsz : w'.heap.size = w.heap.size := by subst hw'; show ((World.setCell _ _ _).heap).size = _; rw [setCell_size, setCell_size, setCell_size]
  have hok : Ok { d with fs := wi Fl.name d.fs (short r.f n) } := by
    have := h.ok.fits
    refine h.ok.with_ hm rfl ?_ ?_ ?_
    · show ((total d.fs : Nat) : Int) + ((r.f.b.take n).length : Nat) ≤ _; rw [hle]; omega
    · show min r.f.syn n ≤ (r.f.b.take n).length; rw [hle]; omega
    · exact hsm.2.2.2.2.take n
  have hk : ∀ k, k ≠ sb → k ≠ r.p → w'.heap[k]? = w.heap[k]? := fun k h1 h2 => by
    subst hw'
    show (World.setCell _ _ _).heap[k]? = _
    rw [Below.heap_setCell _ _ _ k h2, Below.heap_setCell _ _ _ k h2, Below.heap_setCell _ _ _ k h1]
  have hb : Blk w' sb (dcells bm { d with fs := wi Fl.name d.fs (short r.f n) }) 62 := by
    have h1 := ((h.blk.set 1 (.int .i64 ((d.cap - total d.fs) + ((r.f.b.length : Int) - (n : Int))))).other (a := ⟨r.p, 0, none⟩) hne.1.symm (.slice r.A n r.c)).other (a := ⟨r.p, 1, none⟩) hne.1.symm z
    have e : (dcells bm d).setIfInBounds 1 (.int .i64 ((d.cap - total d.fs) + ((r.f.b.length : Int) - (n : Int)))) = dcells bm { d with fs := wi Fl.name d.fs (short r.f n) } := by
      have := total_with h.ok hm (f' := short r.f n) rfl
      simp only [dcells]
      rw [this]
      simp only [short]
      rw [hle, show d.cap - (total d.fs : Int) + ((r.f.b.length : Int) - (n : Int)) = d.cap - ((total d.fs : Int) - (r.f.b.length : Int) + (n : Int)) by omega]
      rfl
    rw [e] at h1
    subst hw'
    exact h1
  have hp : Blk w' r.p (fcells { r with f := short r.f n }) 66 := by
    have h1 := ((hfile.blk.other (a := ⟨sb, 1, none⟩) hne.1 (.int .i64 ((d.cap - total d.fs) + ((r.f.b.length : Int) - (n : Int))))).set 0 (.slice r.A n r.c)).set 1 z
    have e : ((fcells r).setIfInBounds 0 (.slice r.A n r.c)).setIfInBounds 1 z = fcells { r with f := short r.f n } := by
      simp only [fcells, short]
      rw [hle, hz]
      rfl
    rw [e] at h1
    subst hw'
    exact h1
  have hrow : ∀ a, r.A = some a → w'.heap[a.block]? = w.heap[a.block]? := fun a ha => hk _ (hne.2.2 a ha).1 ((hne.2.2 a ha).2.2 r hr)
  refine ⟨h.refile (r' := { r with f := short r.f n }) hr rfl rfl (fun _ h => h) (fun k hk => by rw [hsz]; exact h.lt k hk) (fun k _ h1 h2 _ => hk k h1 h2) ⟨hp, hfile.inS, (hfile.own.short n hn).blocks hrow, hfile.rowS⟩ (fun a ha => .inl ⟨a, ha, rfl⟩) hb hok, ?_, hsz⟩
  have t1 : Touch S w (((w.setCell ⟨sb, 1, none⟩ (.int .i64 ((d.cap - total d.fs) + ((r.f.b.length : Int) - (n : Int))))).setCell ⟨r.p, 0, none⟩ (.slice r.A n r.c)).setCell ⟨r.p, 1, none⟩ z) := ((Touch.set h.inS w 1 _).more (Touch.set hfile.inS _ 0 _)).more (Touch.set hfile.inS _ 1 _)
  subst hw'
  exact ⟨t1.os, t1.tape, t1.output, t1.size, t1.block⟩

set_option maxRecDepth 20000 in
set_option maxHeartbeats 2000000 in
theorem shorten_calls {S : Nat → Prop} {w : World} {sb bm : Nat} {L : List Fr} {D : DataW Value} {d : St} (h : Open S w sb bm L D d) (r : Fr) (hr : r ∈ L) (n : Nat) (hn : n ≤ r.f.b.length) :
    Calls Try.prog 41 #[at_ sb, at_ r.p, .int .i64 (n : Int)] w fun e w' => e = .returned (.tuple #[]) ∧ Open S w' sb bm (wi Fr.name L { r with f := short r.f n }) D { d with fs := wi Fl.name d.fs (short r.f n) } ∧ Touch S w w' ∧ w'.heap.size = w.heap.size := by
  have hsm := h.small hr
  have hfile := h.files r hr
  have hcap := hfile.own.cap
  have hfit := h.ok.fits
  have hhi := h.ok.hi
  have hlo := h.ok.lo
  have hne := h.file_ne hr
  obtain ⟨m, hm⟩ : ∃ m : Int, m = d.cap - total d.fs := ⟨_, rfl⟩
  obtain ⟨k, hk⟩ : ∃ k, k = r.f.b.length := ⟨_, rfl⟩
  obtain ⟨y, hy⟩ : ∃ y, y = r.f.syn := ⟨_, rfl⟩
  have hk1 := hsm.1
  have hk2 := hsm.2.1
  have hk3 := hsm.2.2.1
  have b0 : Blk w sb #[.map (some bm), .int .i64 m, .int .i64 d.left, .bool d.dead] 62 := by rw [hm]; exact h.blk
  have p0 : Blk w r.p #[.slice r.A k r.c, .int .i64 y, .bool r.f.ever] 66 := by rw [hk, hy]; exact hfile.blk
  rw [← hk] at hk1 hk2 hk3 hcap hn
  rw [← hy] at hk3
  have hw1 : wrap64 ((k : Int) - (n : Int)) = (k : Int) - (n : Int) := by unfold wrap64; omega
  have hw2 : wrap64 (m + ((k : Int) - (n : Int))) = m + ((k : Int) - (n : Int)) := by unfold wrap64; omega
  have hpd : r.p ≠ sb := hne.1
  have HO := Lib.hid h
  have HR := Lib.hid hr
  have HM := Lib.hid hm
  have HK := Lib.hid hk
  have HY := Lib.hid hy
  have hrun := run_short r.A k r.c n (by omega)
  clear hm hk hy h hfit hhi hsm hr hfile hne
  obtain ⟨p, hp⟩ : ∃ p, p = r.p := ⟨_, rfl⟩
  obtain ⟨A, hA⟩ : ∃ A, A = r.A := ⟨_, rfl⟩
  obtain ⟨c, hc⟩ : ∃ c, c = r.c := ⟨_, rfl⟩
  obtain ⟨ev, hev⟩ : ∃ ev, ev = r.f.ever := ⟨_, rfl⟩
  rw [← hp] at p0 hpd ⊢
  rw [← hA, ← hc] at p0 hrun
  rw [← hev] at p0
  have HP := Lib.hid hp
  have HA := Lib.hid hA
  have HC := Lib.hid hc
  have HE := Lib.hid hev
  clear hp hA hc hev
  -- the worlds
  obtain ⟨w1, hw1'⟩ : ∃ w1, w1 = w.setCell ⟨sb, 1, none⟩ (.int .i64 (m + ((k : Int) - (n : Int)))) := ⟨_, rfl⟩
  have c0 := b0.cell 1
  have c1 := p0.cell 0
  have f0 := b0.free 1
  have b1 : Blk w1 sb #[.map (some bm), .int .i64 (m + ((k : Int) - (n : Int))), .int .i64 d.left, .bool d.dead] 62 := by rw [hw1']; exact b0.set 1 _
  have p1 : Blk w1 p #[.slice A k c, .int .i64 y, .bool ev] 66 := by rw [hw1']; exact p0.other hpd _
  have c2 := p1.cell 0
  have f2 := p1.free 0
  have p2 := p1.set 0 (.slice A n c)
  have c3 := p2.cell 1
  have f3 := p2.free 1
  unfold at_
  go_enter Try.func41, Try.ntmps41
  go_wp2_with fail
  go_still_tail 14, (by kernel_rfl)
  change wpList _ _ _ _ _ w.drew
  subst hw1'
  go_wp2
  all_goals
    refine bodyPost_end (results_none rfl _ _ _) rfl ?_
    refine ⟨rfl, ?_⟩
    obtain rfl := HP.out
    obtain rfl := HA.out
    obtain rfl := HC.out
    obtain rfl := HE.out
    obtain rfl := HK.out
    obtain rfl := HM.out
    refine shorten_end HO.out HR.out n (by have := HY.out; omega) _ rfl ?_
    rw [← HY.out]
    try simp only [Int.ofNat_inj, Value.int.injEq, true_and]
    try omega
end Go.Proofs.Ytpnlgmnlanoncaa
