/-
  Contract of Rename. Conditions: names of at most maxLen bytes.
-/
import Derived.Test.YtpnlgmnlanoncaaDApp
import Derived.Test.YtpnlgmnlanoncaaDOps
import Derived.Test.YtpnlgmnlanoncaaDPut
namespace Go.Proofs.Ytpnlgmnlanoncaa
open Go.ChangeShapes Go.WideShapes Go.ChangeAt Go.RowKit
set_option linter.unusedVariables false

theorem start_good2 {d : St} {ss : List ByteArray} (h : (beginS d ss).2 = 0) : ss.any bad = false := by
  unfold beginS startS at h
  by_cases hb : ss.any bad = true
  · simp [hb] at h
  · simpa using hb
theorem wo_comm {α : Type} {nm : α → ByteArray} (L : List α) (s t : ByteArray) : wo nm (wo nm L s) t = wo nm (wo nm L t) s := by
  unfold wo
  rw [List.filter_filter, List.filter_filter]
  congr 1
  funext x
  exact Bool.and_comm _ _
/-- Two strings, laid by a literal. -/
theorem cells_two (w : World) (s t : ByteArray) : CellsG enS (w.alloc (.cells #[.string s, .string t] 9)) (some ⟨w.heap.size, 0, none⟩) 2 [s, t] := by
  have hb := Blk.new w #[.string s, .string t] 9
  refine .inr ⟨_, rfl, fun j u hu => ?_⟩
  have e : (⟨w.heap.size, 0, none⟩ : Addr).add j = ⟨w.heap.size, j, none⟩ := by
    unfold Addr.add
    split
    · rename_i hz; rw [hz]
    · simp
  rw [e, hb.cell j]
  simp only [cellsG, List.flatMap_cons, List.flatMap_nil, enS, List.append_nil, List.cons_append, List.nil_append] at hu
  simpa using hu
theorem begin_two {S : Nat → Prop} {w : World} {sb bm : Nat} {L : List Fr} {D : DataW Value} {d : St} (h : Open S w sb bm L D d) (s t : ByteArray) (hs : s.size ≤ maxLen) (ht : t.size ≤ maxLen) : Calls Try.prog 28 #[.pointer (some ⟨sb, 0, none⟩), .slice (some ⟨w.heap.size, 0, none⟩) 2 2] (w.alloc (.cells #[.string s, .string t] 9)) fun e w' =>
    e = .returned (.int .i64 (beginS d [s, t]).2) ∧ Open S w' sb bm L D (beginS d [s, t]).1 ∧ Touch S w w' ∧ w'.heap.size = w.heap.size + 1 := by
  have := begin_calls (h.alloc (.cells #[.string s, .string t] 9)) (some ⟨w.heap.size, 0, none⟩) 2 [s, t] (cells_two w s t) (by intro x hx; simp at hx; rcases hx with rfl | rfl; exact hs; exact ht) (by unfold maxLen; simp)
  refine this.mono ?_
  rintro e w' ⟨h1, h2, h3, h4⟩
  exact ⟨h1, h2, (Touch.alloc S w _).more h3, by rw [h4]; simp⟩

set_option maxRecDepth 20000 in
theorem drop_none {S : Nat → Prop} {w : World} {sb bm : Nat} {L : List Fr} {D : DataW Value} {d : St} (h : Open S w sb bm L D d) (n : ByteArray) (hn : n.size ≤ maxLen) (hf : fd Fr.name L n = none) :
    Calls Try.prog 29 #[at_ sb, .string n] w fun e w' => e = .returned (.tuple #[]) ∧ w = w' := by
  have hlook := h.look n hn
  rw [hf] at hlook
  simp only [ptrOf] at hlook
  obtain ⟨c0, c1, c2, c3⟩ := h.cells
  clear h hf
  unfold at_
  go_enter Try.func29, Try.ntmps29
  go_wp2
  refine bodyPost_end (results_none rfl _ _ _) rfl ?_
  exact ⟨rfl, rfl⟩
/-- drop, whether there is such a file or not. -/
theorem drop_any {S : Nat → Prop} {w : World} {sb bm : Nat} {L : List Fr} {D : DataW Value} {d : St} (h : Open S w sb bm L D d) (n : ByteArray) (hn : n.size ≤ maxLen) :
    Calls Try.prog 29 #[.pointer (some ⟨sb, 0, none⟩), .string n] w fun e w' => e = .returned (.tuple #[]) ∧ (∃ D', Open S w' sb bm (wo Fr.name L n) D' { d with fs := wo Fl.name d.fs n }) ∧ Touch S w w' ∧ w'.heap.size = w.heap.size := by
  cases hf : fd Fr.name L n with
  | none =>
    refine (drop_none h n hn hf).mono ?_
    rintro e w' ⟨rfl, rfl⟩
    have hfl : fd Fl.name d.fs n = none := by rw [h.finds, hf]; rfl
    refine ⟨rfl, ⟨D, ?_⟩, Touch.refl _ _, rfl⟩
    rw [wo_all (fd_none hf), wo_all (fd_none hfl)]
    exact h
  | some r =>
    refine (drop_calls h n r hf).mono ?_
    rintro e w' ⟨h1, h2, h3⟩
    exact ⟨h1, ⟨_, h2⟩, h3⟩

def named (x : Fr) (to : ByteArray) : Fr := ⟨⟨to, x.f.b, x.f.syn, x.f.ever⟩, x.p, x.A, x.c⟩
theorem renamed {S : Nat → Prop} {w w' : World} {sb bm n : Nat} {L : List Fr} {D : DataW Value} {d : St} (h : Open S w sb bm L D d) {frm to : ByteArray} {x : Fr} (hf : fd Fr.name L frm = some x) (hto : fd Fr.name L to = none) (hbad : bad to = false)
    (hown : w'.ownsMap Try.prog 9 keep bm n ((D.del (key frm)).put (key to) (.held (at_ x.p)))) (ht : Touch (fun k => k = bm) w w') :
    Open S w' sb bm (wi Fr.name (wo Fr.name L frm) (named x to)) ((D.del (key frm)).put (key to) (.held (at_ x.p))) { d with fs := wi Fl.name (wo Fl.name d.fs frm) (named x to).f } := by
  obtain ⟨hx, hxn⟩ := fd_some hf
  have hfile := h.files x hx
  have hne := h.file_ne hx
  have hfl : fd Fl.name d.fs frm = some x.f := by rw [h.finds, hf]; rfl
  have htl : fd Fl.name d.fs to = none := by rw [h.finds, hto]; rfl
  have htw : wo Fl.name (wo Fl.name d.fs frm) to = wo Fl.name d.fs frm := wo_all fun y hy => fd_none htl y (mem_wo.1 hy).1
  have htot : total (wi Fl.name (wo Fl.name d.fs frm) (named x to).f) = total d.fs := by
    unfold wi
    rw [show (named x to).f.name = to from rfl, htw, total_ins]
    have := total_wo_some h.ok.srt hfl
    show x.f.b.length + _ = _
    omega
  have hlen : (wi Fl.name (wo Fl.name d.fs frm) (named x to).f).length = d.fs.length := by
    unfold wi
    rw [show (named x to).f.name = to from rfl, htw, ins_length]
    exact wo_length_some h.ok.srt hfl
  have hk : ∀ k, S k → k ≠ bm → w'.heap[k]? = w.heap[k]? := fun k h1 h2 => ht.block k (h.lt k h1) h2
  have hkeep : ∀ s ∈ L, FileAt S w' s := fun s hs => by
    have hf := h.files s hs
    have hns := h.file_ne hs
    exact hf.kept (hk _ hf.inS hns.2.1) (fun a ha => hk _ (hf.rowS a ha) (hns.2.2 a ha).2.1) (fun _ h => h)
  have hok : Ok { d with fs := wi Fl.name (wo Fl.name d.fs frm) (named x to).f } := by
    refine ⟨(h.ok.srt.wo _).wi _, h.ok.lo, h.ok.hi, ?_, ?_, h.ok.dead, h.ok.small, fun g hg => ?_⟩
    · show ((total (wi Fl.name (wo Fl.name d.fs frm) (named x to).f) : Nat) : Int) ≤ _
      rw [htot]; exact h.ok.fits
    · show (wi Fl.name (wo Fl.name d.fs frm) (named x to).f).length ≤ _
      rw [hlen]; exact h.ok.many
    · rcases mem_wi.1 hg with rfl | ⟨hg1, _⟩
      · have := h.ok.files _ (h.mem hx)
        exact ⟨this.1, this.2.1, hbad⟩
      · exact h.ok.files g (mem_wo.1 hg1).1
  refine ⟨?_, h.inS, h.mapS, fun k hk => Nat.lt_of_lt_of_le (h.lt k hk) ht.size, ownsMap_tight hown, (h.rel.del frm).put (Maps.IsMap.del h.own.isMap _) (named x to), fun s hs => ?_, ?_, ?_, hok⟩
  · have h1 := (hk sb h.inS h.bm_ne.symm).trans h.blk
    have e : dcells bm { d with fs := wi Fl.name (wo Fl.name d.fs frm) (named x to).f } = dcells bm d := by
      simp only [dcells]; rw [htot]
    rw [e]; exact h1
  · rcases mem_wi.1 hs with rfl | ⟨hs1, _⟩
    · have := hkeep x hx
      exact ⟨this.blk, this.inS, this.own, this.rowS⟩
    · exact hkeep s (mem_wo.1 hs1).1
  · refine (h.sep.wo frm).wi (named x to) fun s hs1 hs2 => ?_
    have := h.sep x hx s (mem_wo.1 hs1).1 (by rw [hxn]; exact fun e => (mem_wo.1 hs1).2 e.symm)
    exact this
  · rw [map_wi (nm := Fr.name) (nn := Fl.name) (g := Fr.f) (fun _ => rfl), map_wo (nm := Fr.name) (nn := Fl.name) (g := Fr.f) (fun _ => rfl), h.fs]

set_option maxRecDepth 20000 in
set_option maxHeartbeats 2000000 in
theorem rename_calls {S : Nat → Prop} {w : World} {sb : Nat} {d : St} (h : DiskAt S w sb d) (s t : ByteArray) (hs : s.size ≤ maxLen) (hts : t.size ≤ maxLen) : Calls Try.prog 20 #[at_ sb, .string s, .string t] w (Done S w sb (renameS d s t)) := by
  obtain ⟨bm, L, D, h⟩ := h
  have HB := Lib.hid (begin_two h s t hs hts)
  have hlt := h.lt
  by_cases hx : (beginS d [s, t]).2 = 0
  · obtain ⟨he, hk⟩ := start_ok hx
    have hbad := start_good2 hx
    simp only [List.any_cons, List.any_nil, Bool.or_false, Bool.or_eq_false_iff] at hbad
    have ht64 : t.size ≤ 64 := by have := hbad.2; unfold bad at this; simp at this; omega
    rw [hx, he] at HB
    obtain ⟨r, hr⟩ : ∃ r, r = renameS d s t := ⟨_, rfl⟩
    rw [← hr]
    unfold renameS at hr
    rw [hk] at hr
    unfold onS at hr
    have HR := Lib.hid hr
    have HBad := Lib.hid hbad.2
    clear hr hk he hx h hbad
    unfold at_
    go_enter Try.func20, Try.ntmps20
    go_wp2_with fail
    refine (HB.out).mono ?_
    rintro e w1 ⟨rfl, hO, ht, hsz⟩
    dsimp only
    have hlook := hO.look s hs
    obtain ⟨c0, c1, c2, c3⟩ := hO.cells
    have hfd := hO.finds s
    have HSZ := Lib.hid hsz
    have HO := Lib.hid hO
    cases hf : fd Fr.name L s with
    | none =>
      rw [hf] at hlook hfd
      simp only [ptrOf] at hlook
      have HRR := Lib.hid (show r = (burn d, 6) by rw [HR.out, hfd]; rfl)
      clear hO hfd hf c1 c2 c3 hsz
      go_wp2
      go_ret
      rw [HRR.out]
      exact ⟨rfl, HO.out.done hlt (by have := HSZ.out; omega), ht⟩
    | some x =>
      rw [hf] at hlook hfd
      simp only [ptrOf, at_] at hlook
      have HRR := Lib.hid (show r = ({ burn d with fs := wi Fl.name (wo Fl.name (burn d).fs s) (named x t).f }, 0) by rw [HR.out, hfd]; rfl)
      have HF := Lib.hid hf
      by_cases heq : s = t
      · subst heq
        have HS := Lib.hid (show wi Fl.name (wo Fl.name (burn d).fs s) (named x s).f = (burn d).fs by
          have hxn := (fd_some HF.out).2
          have e1 : (named x s).f = x.f := by
            have : x.f.name = s := hxn
            unfold named
            rw [← this]
          rw [e1]
          have e2 : x.f.name = s := hxn
          rw [← e2, wo_wi]
          exact wi_same HO.out.ok.srt (HO.out.mem (fd_some HF.out).1))
        have he : (s.toList == s.toList) = true := by simp
        clear hO hfd hf c1 c2 c3 hsz
        go_wp2
        go_ret
        rw [HRR.out]
        refine ⟨rfl, ?_, ht⟩
        simp only [HS.out]
        exact HO.out.done hlt (by have := HSZ.out; omega)
      · have hne := toList_beq_false heq
        have HD := Lib.hid (drop_any hO t hts)
        have HNE := Lib.hid heq
        clear hO hfd hf c1 c2 c3 hsz heq
        go_wp2_with fail
        refine HD.out.mono ?_
        rintro e w2 ⟨rfl, ⟨D2, hO2⟩, ht2, hs2⟩
        dsimp only
        obtain ⟨g0, g1, g2, g3⟩ := hO2.cells
        have hown2 := hO2.own
        have HK := Lib.hid (keyOf_key hs)
        have HO2 := Lib.hid hO2
        have HS2 := Lib.hid hs2
        clear hO2 g1 g2 g3 hs2 hlook hne c0
        go_wp2_with (at_delete; refine wpList_delete_own _ rfl _ _ 60 9 rfl 63 law9 Try.underlying60 _ bm _ D2 rfl hown2 _ _ rfl HK.out ?_; intro w3 hown3 hturn3; clear hown2 g0)
        have g3 : w3.cell? ⟨sb, 0, none⟩ = some (.map (some bm)) := by
          have h1 : Blk w3 sb _ 62 := (hturn3.grown.block sb HO2.out.blk.lt (by simpa using HO2.out.bm_ne.symm)).trans HO2.out.blk
          exact h1.cell 0
        refine (put_calls g3 hown3 (by have h1 := HO2.out.size; have h2 := HO2.out.ok.many; rw [h1]; unfold maxLen; omega) t ht64 x.p).mono ?_
        rintro e w4 ⟨rfl, hown4, ht4⟩
        dsimp only
        go_wp2
        go_ret
        rw [HRR.out]
        have hft : fd Fr.name (wo Fr.name L t) s = some x := by rw [fd_wo, if_neg HNE.out]; exact HF.out
        have htt : fd Fr.name (wo Fr.name L t) t = none := by rw [fd_wo, if_pos rfl]
        have ht24 : Touch (fun k => k = bm) w2 w4 := (Touch.turned (S := fun k => k = bm) hturn3 rfl).more ht4
        have hfin := renamed HO2.out hft htt HBad.out hown4 ht24
        have e1 : wi Fl.name (wo Fl.name (wo Fl.name (burn d).fs t) s) (named x t).f = wi Fl.name (wo Fl.name (burn d).fs s) (named x t).f := by
          rw [wo_comm]
          exact wo_wi (nm := Fl.name) (L := wo Fl.name (burn d).fs s) (named x t).f
        simp only [e1] at hfin
        have hl4 := ht24.size
        refine ⟨rfl, hfin.done hlt (by have := HSZ.out; have := HS2.out; omega), (ht.more ht2).more (ht24.weaken fun k hk => ?_)⟩
        rw [hk]; exact HO2.out.mapS
  · have hk := start_err hx (fun d => onS d s fun f => ({ d with fs := wi Fl.name (wo Fl.name d.fs s) { f with name := t } }, 0))
    have HR := Lib.hid (show renameS d s t = beginS d [s, t] from hk)
    obtain ⟨x, hx'⟩ : ∃ x, x = (beginS d [s, t]).2 := ⟨_, rfl⟩
    rw [← hx'] at HB hx
    have HX := Lib.hid hx'
    have e1 : (x != 0) = true := by simpa using hx
    clear hk hx' h
    unfold at_
    go_enter Try.func20, Try.ntmps20
    go_wp2_with (go_at_call 28; refine (HB.out).mono ?_; rintro e w1 ⟨rfl, hO, ht, hsz⟩)
    go_ret
    rw [HR.out]
    exact ⟨by rw [← HX.out]; rfl, hO.done hlt (by omega), ht⟩
end Go.Proofs.Ytpnlgmnlanoncaa
