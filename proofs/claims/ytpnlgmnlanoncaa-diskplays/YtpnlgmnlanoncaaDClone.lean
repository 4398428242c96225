/-
  Contract of Clone: a disk of its own with the same files; the old one is as it was. Conditions: as in the premises.
-/
import Derived.Test.YtpnlgmnlanoncaaRRef
import Derived.Maps.RangeWalk
import Derived.Sort.MapsRangeIn
import Derived.BigRegion
import Derived.Deep.RegionHeld3
import Derived.Deep.CutRange
namespace Go.Proofs.Ytpnlgmnlanoncaa
open Go.ChangeShapes Go.WideShapes Go.ChangeAt Go.RowKit
set_option linter.unusedVariables false

theorem eq_of_fd : ∀ {A B : List Fl}, Srt Fl.name A → Srt Fl.name B → (∀ s, fd Fl.name A s = fd Fl.name B s) → A = B
  | [], [], _, _, _ => rfl
  | [], b :: B, _, _, h => by
    have := h b.name
    rw [fd_cons, if_pos rfl, fd_nil] at this
    cases this
  | a :: A, [], _, _, h => by
    have := h a.name
    rw [fd_cons, if_pos rfl, fd_nil] at this
    cases this
  | a :: A, b :: B, ha, hb, h => by
    obtain ⟨a1, a2⟩ := List.pairwise_cons.1 ha
    obtain ⟨b1, b2⟩ := List.pairwise_cons.1 hb
    have hab : a = b := by
      have h1 := h a.name
      rw [fd_cons, if_pos rfl] at h1
      have h2 := h b.name
      rw [fd_cons (x := b), if_pos rfl] at h2
      rcases List.mem_cons.1 (fd_some h1.symm).1 with e | h3
      · exact e
      · rcases List.mem_cons.1 (fd_some h2).1 with e | h4
        · exact e.symm
        · have := nlt_asymm (b1 a h3)
          rw [a1 b h4] at this
          cases this
    subst hab
    congr 1
    refine eq_of_fd a2 b2 fun s => ?_
    have h1 := h s
    rw [fd_cons, fd_cons] at h1
    by_cases hs : a.name = s
    · rw [fd_none_of fun r hr e => nlt_ne (a1 r hr) (hs.trans e.symm), fd_none_of fun r hr e => nlt_ne (b1 r hr) (hs.trans e.symm)]
    · rwa [if_neg hs, if_neg hs] at h1

theorem mk_map (w : World) (n : Int) : (Instr.makeMap 60 (some (.int .i64 n))).run Try.prog w = .ok (.map (some w.heap.size)) (w.alloc (.map #[] 0)) := by
  simp [Instr.makeMap, run_underlying Try.underlying60, asInt, asIntOf, Result.andThen]

/-- What holds in each round: N blocks lay there ahead of the call. -/
structure Cl (N : Nat) (w : World) (bm : Nat) (L : List Fr) (D : DataW Value) (dc : Array Value) (left : Lit → Bool) (cnt : Nat) (Dout : DataW Value) (L' : List Fr) (W : World) : Prop where
  rg : W.ranges Try.prog 9 keep bm (N + 2) (Maps.size D) D left cnt
  le : cnt ≤ Maps.size D
  own : W.ownsMap Try.prog 9 keep (N + 1) (Maps.size D - cnt) Dout
  rel : MapRel Dout L'
  srt : Srt Fr.name L'
  files : ∀ r ∈ L', FileAt (fun k => N + 3 ≤ k ∧ k < W.heap.size) W r
  sep : Sep L'
  agree : ∀ s, (fd Fr.name L' s).map Fr.f = if left (key s) then none else (fd Fr.name L s).map Fr.f
  has : ∀ s, left (key s) = true → Maps.has D (key s) = true
  blk : Blk W N dc 62
  size : N + 3 ≤ W.heap.size
  below : Below N w W
def RelCl (N : Nat) (w : World) (bm : Nat) (L : List Fr) (D : DataW Value) (dc : Array Value) (W : World) : Prop := ∃ left cnt Dout L', Cl N w bm L D dc left cnt Dout L' W

/-- One file more. -/
theorem Cl.step {N : Nat} {w : World} {bm : Nat} {L : List Fr} {D : DataW Value} {dc : Array Value} {left : Lit → Bool} {cnt cnt1 : Nat} {Dout : DataW Value} {L' : List Fr} {wr w1 w5 w7 : World} {r : Fr} {A5 : Option Addr} {c5 : Nat}
    (C : Cl N w bm L D dc left cnt Dout L' wr) (hL : Srt Fr.name L) (hr : r ∈ L) (hbm : bm < N) (hrg1 : w1.ranges Try.prog 9 keep bm (N + 2) (Maps.size D) D (fun z => left z && !z.sameKey (key r.name)) cnt1) (hlt : cnt1 < cnt)
    (hg1 : wr.grownBy w1 (some (N + 2))) (hs1 : w1.heap.size = wr.heap.size) (hb5 : Below w1.heap.size w1 w5) (ho5 : OwnS w1.heap.size w5 A5 c5 r.f.b)
    (hm : w7.ownsMap Try.prog 9 keep (N + 1) (Maps.size D - cnt + 1) (Dout.put (key r.name) (.held (at_ w5.heap.size))))
    (ht : (w5.alloc (.cells #[.slice A5 r.f.b.length c5, .int .i64 r.f.syn, .bool r.f.ever] 66)).mapTurned w7 (N + 1)) :
    Cl N w bm L D dc (fun z => left z && !z.sameKey (key r.name)) cnt1 (Dout.put (key r.name) (.held (at_ w5.heap.size))) (wi Fr.name L' ⟨r.f, w5.heap.size, A5, c5⟩) w7 := by
  have hsz := C.size
  have h15 := hb5.size
  have h67 := ht.grown.size
  have h66 : (w5.alloc (.cells #[.slice A5 r.f.b.length c5, .int .i64 r.f.syn, .bool r.f.ever] 66)).heap.size = w5.heap.size + 1 := by simp
  rw [h66] at h67
  have blk1 : ∀ k, k < wr.heap.size → k ≠ N + 2 → w1.heap[k]? = wr.heap[k]? := fun k hk hne => hg1.block k hk (by simpa using hne)
  have blk6 : ∀ k, k < w5.heap.size + 1 → k ≠ N + 1 → w7.heap[k]? = (w5.alloc (.cells #[.slice A5 r.f.b.length c5, .int .i64 r.f.syn, .bool r.f.ever] 66)).heap[k]? := fun k hk hne => ht.grown.block k (by simpa using hk) (by simpa using hne)
  have blk5 : ∀ k, k < w5.heap.size → k ≠ N + 1 → w7.heap[k]? = w5.heap[k]? := fun k hk hne => (blk6 k (by omega) hne).trans (Below.heap_alloc w5 _ k hk)
  have blk7 : ∀ k, k < w1.heap.size → k ≠ N + 1 → w7.heap[k]? = w1.heap[k]? := fun k hk hne => (blk5 k (by omega) hne).trans (hb5.block k hk)
  have G : w1.grownBy w7 (some (N + 1)) := ⟨ht.grown.os.trans hb5.os, ht.grown.tape.trans hb5.tape, ht.grown.output.trans hb5.output, by omega, fun k hk hne => blk7 k hk (by simpa using hne)⟩
  have hrow : ∀ a, A5 = some a → w1.heap.size ≤ a.block ∧ a.block < w5.heap.size := fun a ha => by
    have h1 := (World.ownsRow.lt ho5 a.block (by rw [ha]; rfl)).1
    obtain ⟨cur, q, h2⟩ := ho5.row a.block (by rw [ha]; rfl)
    refine ⟨h1, ?_⟩
    rcases Nat.lt_or_ge a.block w5.heap.size with h3 | h3
    · exact h3
    · rw [Array.getElem?_eq_none h3] at h2; cases h2
  refine ⟨hrg1.kept G (fun e => by have := Option.some.inj e; omega) (fun e => by have := Option.some.inj e; omega), by have := C.le; omega, hm.mono (by have := C.le; omega), C.rel.put C.own.isMap ⟨r.f, w5.heap.size, A5, c5⟩, C.srt.wi _, fun s hs => ?_, ?_, fun s => ?_, fun s hs => ?_, ?_, by omega, ?_⟩
  · rcases mem_wi.1 hs with rfl | ⟨hs1', _⟩
    · refine ⟨(blk6 w5.heap.size (by omega) (by omega)).trans (Blk.new w5 _ 66), ⟨by show N + 3 ≤ w5.heap.size; omega, by show w5.heap.size < w7.heap.size; omega⟩, ?_, fun a ha => ?_⟩
      · exact (ho5.mono (Nat.zero_le _)).blocks fun a ha => blk5 _ (hrow a ha).2 (by have := (hrow a ha).1; omega)
      · have := hrow a ha
        exact ⟨by omega, by omega⟩
    · have hf := C.files s hs1'
      refine hf.kept ?_ (fun a ha => ?_) fun k hk => ⟨hk.1, by omega⟩
      · have := hf.inS
        exact (blk7 _ (by omega) (by omega)).trans (blk1 _ this.2 (by omega))
      · have := hf.rowS a ha
        exact (blk7 _ (by omega) (by omega)).trans (blk1 _ this.2 (by omega))
  · refine C.sep.wi _ fun s hs hne => ⟨?_, fun a b ha hb => ?_⟩
    · have := (C.files s hs).inS
      show w5.heap.size ≠ s.p
      omega
    · have h1 := hrow a ha
      have h2 := (C.files s hs).rowS b hb
      omega
  · rw [fd_wi]
    by_cases hs : s = r.name
    · subst hs
      rw [if_pos (show r.name = Fr.name ⟨r.f, w5.heap.size, A5, c5⟩ from rfl), fd_mem hL hr]
      simp [WideAt.sameKey_self (key_lit _)]
    · rw [if_neg (show ¬ s = (Fr.name ⟨r.f, w5.heap.size, A5, c5⟩) from hs), C.agree s]
      have : (key s).sameKey (key r.name) = false := by
        cases h : (key s).sameKey (key r.name) with
        | false => rfl
        | true => exact absurd (WideAt.sameKey_eq h) (key_ne hs)
      simp [this]
  · simp only [Bool.and_eq_true] at hs
    exact C.has s hs.1
  · exact (blk7 N (by omega) (by omega)).trans ((blk1 N (by omega) (by omega)).trans C.blk)
  · exact (C.below.grown hg1 (by omega) (fun j hj => by cases hj; omega)).grown G (by omega) (fun j hj => by cases hj; omega)

set_option maxRecDepth 20000 in
set_option maxHeartbeats 4000000 in
theorem clone_disk {S : Nat → Prop} {w : World} {sb : Nat} {d : St} (h : DiskAt S w sb d) : Calls Try.prog 11 #[at_ sb] w fun e w' => ∃ sb', e = .returned (at_ sb') ∧ DiskAt (fun k => w.heap.size ≤ k ∧ k < w'.heap.size) w' sb' d ∧ Below w.heap.size w w' := by
  obtain ⟨bm, L, D, h⟩ := h
  obtain ⟨c0, c1, c2, c3⟩ := h.cells
  have hmm := mk_map
  have hsb := h.lt sb h.inS
  obtain ⟨room, hroom⟩ : ∃ x : Int, x = d.cap - total d.fs := ⟨_, rfl⟩
  rw [← hroom] at c1
  obtain ⟨W1, hW1⟩ : ∃ W1, W1 = (w.alloc (.cells #[.map (some (w.heap.size + 1)), .int .i64 room, .int .i64 d.left, .bool d.dead] 62)).alloc (.map #[] 0) := ⟨_, rfl⟩
  have hown1 := (h.own.alloc (.cells #[.map (some bm), .int .i64 room, .int .i64 d.left, .bool d.dead] 62))
  have hln := fun ty => hown1.len Try.underlying60 ty
  have HO := Lib.hid h
  have HROOM := Lib.hid hroom
  obtain ⟨dl, hdl⟩ : ∃ x : Int, x = d.left := ⟨_, rfl⟩
  obtain ⟨dd, hdd⟩ : ∃ x : Bool, x = d.dead := ⟨_, rfl⟩
  have HDL := Lib.hid hdl
  have HDD := Lib.hid hdd
  rw [← hdl] at c2 hW1 hln
  rw [← hdd] at c3 hW1 hln
  have b1 : Blk W1 w.heap.size #[.map (some (w.heap.size + 1)), .int .i64 room, .int .i64 dl, .bool dd] 62 := by
    rw [hW1]; exact (Blk.new w _ 62).alloc _
  have hs1 : W1.heap.size = w.heap.size + 2 := by rw [hW1]; simp
  have hbl1 : Below w.heap.size w W1 := by
    rw [hW1]; exact below_two _ _ _
  have hmp1 : W1.ownsMap Try.prog 9 keep bm (Maps.size D) D := by
    obtain ⟨es, cl, hb, r⟩ := HO.out.own
    exact ⟨es, cl, (hbl1.block bm (HO.out.lt bm HO.out.mapS)).trans hb, r⟩
  have hnew1 : W1.ownsMap Try.prog 9 keep (w.heap.size + 1) 0 (.map [] : DataW Value) := by
    have := World.ownsMap_made (H := Value) (w.alloc (.cells #[.map (some (w.heap.size + 1)), .int .i64 room, .int .i64 dl, .bool dd] 62)) Try.prog 9 keep
    rw [hW1]
    simpa using this
  have g0 : W1.cell? ⟨sb, 0, none⟩ = some (.map (some bm)) := (hbl1.cell (p := ⟨sb, 0, none⟩) hsb).trans c0
  have HB1 := Lib.hid b1
  have HS1 := Lib.hid hs1
  have HBL1 := Lib.hid hbl1
  have HMP1 := Lib.hid hmp1
  have HNEW1 := Lib.hid hnew1
  clear h hroom hdl hdd b1 hs1 hbl1 hmp1 hnew1 hown1
  unfold at_
  go_enter Try.func11, Try.ntmps11
  go_upto_region 5 with fail
  rw [← hW1]
  clear hW1 hln c0 c1 c2 c3
  go_wp2_with (at_range; refine wpList_range_own _ rfl _ 60 rfl 9 63 law9 Try.underlying60 keep bm (Maps.size D) D rfl HMP1.out ?_; intro w0 hrg0 hg0 hs0)
  go_frame
  rw [HS1.out] at hrg0 hs0 ⊢
  go_loopw [4] (fun _ wr => RelCl w.heap.size w bm L D #[.map (some (w.heap.size + 1)), .int .i64 room, .int .i64 dl, .bool dd] wr) (fun _ wr => wr.rangeLeft bm (w.heap.size + 2))
  case atStart =>
    refine ⟨_, _, .map [], [], hrg0, Nat.le_refl _, ?_, MapRel.empty, List.Pairwise.nil, (fun r hr => by cases hr), (fun r hr => by cases hr), fun s => ?_, fun s hs => hs, ?_, by omega, ?_⟩
    · exact (HNEW1.out.kept hg0 (by simp)).mono (Nat.zero_le _)
    · have h2 := (HO.out.rel s).2
      rw [fd_nil, h2]
      cases fd Fr.name L s <;> rfl
    · exact (hg0.block _ (by rw [HS1.out]; omega) (by simp)).trans HB1.out
    · exact HBL1.out.grown hg0 (by rw [HS1.out]; omega) (fun j hj => by cases hj)
  case round =>
    obtain ⟨left, cnt, Dout, L', C⟩ := hrel
    have HC := Lib.hid C
    go_wp2_with (at_next; refine wpList_next_ranges _ rfl _ rfl 9 law9 keep Value.string (id : Value → Value) (fun key kl hk => Maps.keyOf_string_inv Try.underlying9 hk) (fun v y hv => ⟨v, rfl⟩) bm (w.heap.size + 2) _ _ _ _ rfl HC.out.rg ?_ ?_)
    · intro hc0 hl0
      have C := HC.out
      clear HC
      go_wp2
      go_ret
      have hfs : L'.map Fr.f = d.fs := by
        refine eq_of_fd ((Srt.map (nn := Fl.name) (g := Fr.f) fun _ => rfl).2 C.srt) HO.out.ok.srt fun s => ?_
        rw [fd_map (nm := Fr.name) (nn := Fl.name) (g := Fr.f) (fun _ => rfl), C.agree s, hl0, HO.out.finds s]
        rfl
      refine ⟨w.heap.size, rfl, ⟨w.heap.size + 1, L', Dout, ?_, ⟨by omega, by have := C.size; omega⟩, ⟨by omega, by have := C.size; omega⟩, fun k hk => hk.2, ownsMap_tight C.own, C.rel, fun r hr => ?_, C.sep, hfs, HO.out.ok⟩, C.below⟩
      · have := C.blk
        rw [HROOM.out, HDL.out, HDD.out] at this
        exact this
      · have hf := C.files r hr
        exact hf.kept rfl (fun _ _ => rfl) fun k hk => ⟨by omega, hk.2⟩
    · intro x c kl y ps w1 cnt1 hkey hlk hv hat hrg1 hlt hg1 hs1 hen
      obtain ⟨x2, e2, rfl, hxs⟩ := WideMaps.string_of_keyOf Try.underlying9 hkey
      obtain rfl : x = x2 := by injection e2
      have hc : c = ptrOf (fd Fr.name L x) := by
        have h1 := (HO.out.rel x).1
        have h2 := hat (.held (.pointer none))
        unfold keep at hv
        simp only [Option.some.injEq, Prod.mk.injEq] at hv
        rw [← hv.1] at h2
        have h3 := h1.symm.trans h2
        injection h3 with h3
        exact h3.symm
      have hsome : (fd Fr.name L x).isSome = true := by
        rw [← (HO.out.rel x).2]
        exact HC.out.has x hlk
      obtain ⟨r, hr⟩ := Option.isSome_iff_exists.1 hsome
      rw [hr] at hc
      subst hc
      obtain ⟨hrL, rfl⟩ := fd_some hr
      have hb1 : Below w.heap.size w w1 := HC.out.below.grown hg1 (by have := HC.out.size; omega) (fun j hj => by cases hj; omega)
      have hf := HO.out.files r hrL
      have hblk1 : Blk w1 r.p #[.slice r.A r.f.b.length r.c, .int .i64 r.f.syn, .bool r.f.ever] 66 := hf.blk.below hb1 hf.lt
      have hown1 : OwnS 0 w1 r.A r.c r.f.b := hf.own.below hb1
      have HLW := Lib.hid (show ∀ W : World, W.heap = w1.heap → Lies W r.A r.c r.f.b from fun W hW => (hown1.blocks fun a ha => by rw [hW]).lies)
      have hbl : r.f.b.length ≤ 2000000 := by
        have h1 := total_mem (L := d.fs) (f := r.f) (by rw [← HO.out.fs]; exact List.mem_map.2 ⟨r, hrL, rfl⟩)
        have h2 := HO.out.ok.fits
        have h3 := HO.out.ok.hi
        omega
      have HBL := Lib.hid hbl
      have hmap1 : w1.ownsMap Try.prog 9 keep (w.heap.size + 1) (Maps.size D - cnt) Dout := HC.out.own.kept hg1 (by simp)
      have hnm : Maps.size D - cnt < maxLen := by
        have h1 := HO.out.size
        have h2 := HO.out.ok.many
        unfold maxLen
        omega
      have hput := fun p => put_runs hmap1 hnm r.name hxs (at_ p)
      obtain ⟨F, hF⟩ : ∃ F : Nat → World → World, ∀ p W, Below w1.heap.size w1 W → (Instr.mapUpdate 60 (.map (some (w.heap.size + 1))) (.string r.name) (at_ p)).run Try.prog W = .ok () (F p W) ∧ (F p W).ownsMap Try.prog 9 keep (w.heap.size + 1) (Maps.size D - cnt + 1) (Dout.put (key r.name) (.held (at_ p))) ∧ W.mapTurned (F p W) (w.heap.size + 1) := ⟨fun p => (hput p).choose, fun p => (hput p).choose_spec⟩
      have HF := Lib.hid hF
      have HRUN := Lib.hid (show ∀ p W, Below w1.heap.size w1 W → (Instr.mapUpdate 60 (.map (some (w.heap.size + 1))) (.string r.name) (.pointer (some ⟨p, 0, none⟩))).run Try.prog W = .ok () (F p W) from fun p W hW => (hF p W hW).1)
      have hblk0 : Blk w1 w.heap.size #[.map (some (w.heap.size + 1)), .int .i64 room, .int .i64 dl, .bool dd] 62 := (hg1.block _ (by have := HC.out.size; omega) (by simp)).trans HC.out.blk
      have HBK0 := Lib.hid hblk0
      have HBK1 := Lib.hid hblk1
      have k0 := hblk0.cell 0
      have k1 := hblk1.cell 0
      have k2 := hblk1.cell 1
      have k3 := hblk1.cell 2
      have HBT0 := Lib.hid (show ∀ W W' : World, W.mapTurned W' (w.heap.size + 1) → Blk W w.heap.size #[.map (some (w.heap.size + 1)), .int .i64 room, .int .i64 dl, .bool dd] 62 → Blk W' w.heap.size #[.map (some (w.heap.size + 1)), .int .i64 room, .int .i64 dl, .bool dd] 62 from fun W W' ht hb => (ht.grown.block _ hb.lt (by simp)).trans hb)
      have HBT1 := Lib.hid (show ∀ W W' : World, W.mapTurned W' (w.heap.size + 1) → Blk W r.p #[.slice r.A r.f.b.length r.c, .int .i64 r.f.syn, .bool r.f.ever] 66 → Blk W' r.p #[.slice r.A r.f.b.length r.c, .int .i64 r.f.syn, .bool r.f.ever] 66 from fun W W' ht hb => (ht.grown.block _ hb.lt (by have := hf.lt; intro e; have := Option.some.inj e; omega)).trans hb)
      have HRG := Lib.hid hrg1
      have HLT := Lib.hid hlt
      have HG1 := Lib.hid hg1
      have HS1' := Lib.hid hs1
      have HRL := Lib.hid hrL
      obtain ⟨nm, hnm2⟩ : ∃ nm, nm = r.name := ⟨_, rfl⟩
      have HNM := Lib.hid hnm2
      rw [← hnm2] at HRUN
      clear hrg1 hlt hg1 hs1 hrL hblk0 hblk1 hmap1 hnm hput hF hbl hown1 hf hb1 hr hsome hat hv hkey hlk hxs C e2
      rw [← hnm2] at hen
      rw [← hnm2]
      clear hnm2
      unfold ptrOf at_ at hen
      unfold ptrOf at_
      go_wp2_with fail
      go_region_held3 (fun W => W.cell? ⟨w.heap.size, 0, none⟩ = some (.map (some (w.heap.size + 1))) ∧ W.cell? ⟨r.p, 0, none⟩ = some (.slice r.A r.f.b.length r.c) ∧ W.cell? ⟨r.p, 1, none⟩ = some (.int .i64 (r.f.syn : Int)) ∧ W.cell? ⟨r.p, 2, none⟩ = some (.bool r.f.ever)) (first | exact ⟨k0, k1, k2, k3⟩ | exact ⟨e0, e3, e1, e2⟩ | exact ⟨a0, a1, a2, a3⟩ | exact ⟨m0, m1, m2, m3⟩) (first | (go_at_call 27; refine (clone_calls r.A r.c r.f.b w1.drew (HLW.out w1.drew rfl) HBL.out).mono ?_; rintro e w5 ⟨A5, c5, rfl, ho5, hb5⟩; have hb5' : Below w1.heap.size w1 w5 := ⟨hb5.os, hb5.tape, hb5.output, hb5.size, hb5.block⟩; have b0 := HBK0.out.belowAll hb5'; have b1 := HBK1.out.belowAll hb5'; have e0 := b0.cell 0; have e1 := b1.cell 1; have e2 := b1.cell 2; have e3 := b1.cell 0; have b2 := b0.alloc (.cells #[.slice A5 r.f.b.length c5, .int .i64 r.f.syn, .bool r.f.ever] 66); have b3 := b1.alloc (.cells #[.slice A5 r.f.b.length c5, .int .i64 r.f.syn, .bool r.f.ever] 66); have a0 := b2.cell 0; have a1 := b3.cell 0; have a2 := b3.cell 1; have a3 := b3.cell 2; have hrun := HRUN.out w5.heap.size _ (hb5'.alloc hb5'.size (.cells #[.slice A5 r.f.b.length c5, .int .i64 r.f.syn, .bool r.f.ever] 66)); have hTT := (HF.out w5.heap.size _ (hb5'.alloc hb5'.size (.cells #[.slice A5 r.f.b.length c5, .int .i64 r.f.syn, .bool r.f.ever] 66))).2.2; have m0 := (HBT0.out _ _ hTT b2).cell 0; have m1 := (HBT1.out _ _ hTT b3).cell 0; have m2 := (HBT1.out _ _ hTT b3).cell 1; have m3 := (HBT1.out _ _ hTT b3).cell 2; clear b0 b1 b2 b3 hTT))
      have hp := HF.out w5.heap.size _ (hb5'.alloc hb5'.size (.cells #[.slice A5 r.f.b.length c5, .int .i64 r.f.syn, .bool r.f.ever] 66))
      have ST := Lib.hid (HC.out.step HO.out.srt HRL.out (HO.out.lt bm HO.out.mapS) HRG.out HLT.out HG1.out HS1'.out hb5' ho5 hp.2.1 hp.2.2)
      clear hp
      go_wp2
      go_roundw
      case rel => exact ⟨_, _, _, _, ST.out⟩
      case measure =>
        rw [ST.out.rg.left_eq, HC.out.rg.left_eq]
        exact HLT.out
end Go.Proofs.Ytpnlgmnlanoncaa
