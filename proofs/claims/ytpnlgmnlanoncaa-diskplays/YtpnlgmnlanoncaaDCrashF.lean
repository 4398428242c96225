/-
  Contract of crashFile: what a crash leaves of one file. Conditions: the disk is laid open, the file is among its files; the number is an int.
-/
import Derived.Test.YtpnlgmnlanoncaaDShort
import Derived.Deep.QuietTactic
import Derived.BigQuiet
namespace Go.Proofs.Ytpnlgmnlanoncaa
open Go.ChangeShapes Go.WideShapes Go.ChangeAt Go.RowKit
set_option linter.unusedVariables false

section
variable {α : Type} {nm : α → ByteArray}
theorem wo_ins (x : α) (L : List α) : wo nm (ins nm x L) (nm x) = wo nm L (nm x) := by
  induction L with
  | nil => unfold ins; rw [wo_cons, if_pos rfl]
  | cons y L ih =>
    unfold ins
    split
    · rw [wo_cons, if_pos rfl]
    · rw [wo_cons, wo_cons, ih]
theorem wo_wo (L : List α) (s : ByteArray) : wo nm (wo nm L s) s = wo nm L s := wo_all fun y hy => (mem_wo.1 hy).2
theorem wi_wi {L : List α} {x y : α} (h : nm y = nm x) : wi nm (wi nm L x) y = wi nm L y := by
  unfold wi
  rw [h, wo_ins, wo_wo]
theorem wo_wi_same {L : List α} {x : α} {s : ByteArray} (h : nm x = s) : wo nm (wi nm L x) s = wo nm L s := by
  subst h
  unfold wi
  rw [wo_ins, wo_wo]
end
section
variable {S : Nat → Prop} {w : World} {sb bm : Nat} {L : List Fr} {D : DataW Value} {d : St} {r : Fr}
/-- A cell of a file's struct is written. -/
theorem Open.setFile (h : Open S w sb bm L D d) (hr : r ∈ L) (k : Nat) (v : Value) (r' : Fr) (hn : r'.name = r.name) (hp : r'.p = r.p) (hA : r'.A = r.A) (hc : r'.c = r.c) (hb : r'.f.b = r.f.b) (hs : r'.f.syn ≤ r'.f.b.length) (hcells : (fcells r).setIfInBounds k v = fcells r') :
    Open S (w.setCell ⟨r.p, k, none⟩ v) sb bm (wi Fr.name L r') D { d with fs := wi Fl.name d.fs r'.f } := by
  have hsm := h.small hr
  have hfile := h.files r hr
  have hne := h.file_ne hr
  have hm := h.mem hr
  have hk : ∀ k', k' ≠ r.p → (w.setCell ⟨r.p, k, none⟩ v).heap[k']? = w.heap[k']? := fun k' h2 => Below.heap_setCell _ _ _ k' h2
  refine h.refile hr hn hp (fun _ h => h) (fun k' hk' => by rw [setCell_size]; exact h.lt k' hk') (fun k' _ _ h2 _ => hk k' h2) ⟨?_, by rw [hp]; exact hfile.inS, ?_, fun a ha => hfile.rowS a (hA ▸ ha)⟩ (fun a ha => .inl ⟨a, hA ▸ ha, rfl⟩) ?_ ?_
  · rw [hp, ← hcells]; exact hfile.blk.set k v
  · rw [hA, hc, hb]; exact hfile.own.blocks fun a ha => hk _ ((hne.2.2 a ha).2.2 r hr)
  · have e : dcells bm { d with fs := wi Fl.name d.fs r'.f } = dcells bm d := by
      have := total_with h.ok hm (f' := r'.f) hn
      simp only [dcells]
      rw [this, hb]
      rw [show (total d.fs : Int) - (r.f.b.length : Int) + (r.f.b.length : Int) = total d.fs by omega]
    rw [e]
    exact h.blk.other hne.1.symm v
  · refine h.ok.with_ hm hn ?_ hs (by rw [hb]; exact hsm.2.2.2.2)
    have := h.ok.fits
    rw [hb]; omega
theorem Open.setFile2 (h : Open S w sb bm (wi Fr.name L r) D { d with fs := wi Fl.name d.fs r.f }) (k : Nat) (v : Value) (r' : Fr) (hn : r'.name = r.name) (hp : r'.p = r.p) (hA : r'.A = r.A) (hc : r'.c = r.c) (hb : r'.f.b = r.f.b) (hs : r'.f.syn ≤ r'.f.b.length) (hcells : (fcells r).setIfInBounds k v = fcells r') :
    Open S (w.setCell ⟨r.p, k, none⟩ v) sb bm (wi Fr.name L r') D { d with fs := wi Fl.name d.fs r'.f } := by
  have h1 := h.setFile (mem_wi.2 (.inl rfl)) k v r' hn hp hA hc hb hs hcells
  have e1 : wi Fr.name (wi Fr.name L r) r' = wi Fr.name L r' := wi_wi hn
  have e2 : wi Fl.name (wi Fl.name d.fs r.f) r'.f = wi Fl.name d.fs r'.f := wi_wi hn
  rw [e1] at h1
  simpa only [e2] using h1
def fsyn (f : Fl) (n : Nat) : Fl := ⟨f.name, f.b, n, f.ever⟩
theorem Open.drew (h : Open S w sb bm L D d) : Open S w.drew sb bm L D d := h.kept (fun _ _ => rfl) (fun _ h => h) h.lt
theorem Open.undrew (h : Open S w.drew sb bm L D d) : Open S w sb bm L D d := h.kept (fun _ _ => rfl) (fun _ h => h) h.lt
end
/-- What becomes of the list. -/
def crashL (L : List Fr) (r : Fr) (k : Int) : List Fr := if (crash1 r.f k).ever then wi Fr.name L { r with f := crash1 r.f k } else wo Fr.name L r.name
def crashD (D : DataW Value) (r : Fr) (k : Int) : DataW Value := if (crash1 r.f k).ever then D else D.del (key r.name)
def crashFs (fs : List Fl) (f : Fl) (k : Int) : List Fl := if (crash1 f k).ever then wi Fl.name fs (crash1 f k) else wo Fl.name fs f.name

theorem keptN_le (f : Fl) (x : Int) (h : f.syn ≤ f.b.length) : keptN f x ≤ f.b.length ∧ f.syn ≤ keptN f x := by unfold keptN; omega
theorem shorten_any {S : Nat → Prop} {w : World} {sb bm : Nat} {L : List Fr} {D : DataW Value} {d : St} (h : Open S w sb bm L D d) (q : Nat) (r : Fr) (hr : r ∈ L) (n : Nat) (z : Int) (hz : z = n) (hn : n ≤ r.f.b.length) :
    Calls Try.prog 41 #[.pointer (some ⟨sb, 0, none⟩), .pointer (some ⟨r.p, 0, none⟩), .int .i64 z] (w.drewN q) fun e w' => e = .returned (.tuple #[]) ∧ Open S w' sb bm (wi Fr.name L { r with f := short r.f n }) D { d with fs := wi Fl.name d.fs (short r.f n) } ∧ Touch S w w' ∧ w'.heap.size = w.heap.size := by
  subst hz
  have h2 : Open S (w.drewN q) sb bm L D d := h.kept (fun _ _ => rfl) (fun _ h => h) h.lt
  refine (shorten_calls h2 r hr n hn).mono ?_
  rintro e w' ⟨h1, h2, h3, h4⟩
  exact ⟨h1, h2, ⟨h3.os, h3.tape, h3.output, h3.size, h3.block⟩, h4⟩

/-- The rest of crashFile, behind shorten: what is written last. -/
theorem crash_end {S : Nat → Prop} {w : World} {sb bm : Nat} {L : List Fr} {D : DataW Value} {d : St} {r : Fr} {x : Int} {q : Nat} (hq : q = keptN r.f x) (hle : q ≤ r.f.b.length) {ev : Bool} (hev : ev = (crash1 r.f x).ever)
    (h : Open S w sb bm (wi Fr.name L { r with f := short r.f q }) D { d with fs := wi Fl.name d.fs (short r.f q) }) :
    Open S ((w.setCell ⟨r.p, 1, none⟩ (.int .i64 (q : Int))).setCell ⟨r.p, 2, none⟩ (.bool ev)) sb bm (wi Fr.name L { r with f := crash1 r.f x }) D { d with fs := wi Fl.name d.fs (crash1 r.f x) } := by
  have hlen : (r.f.b.take q).length = q := by rw [List.length_take]; omega
  have h1 := h.setFile2 1 (.int .i64 (q : Int)) ⟨fsyn (short r.f q) q, r.p, r.A, r.c⟩ rfl rfl rfl rfl rfl (by show q ≤ (r.f.b.take q).length; omega) (by simp only [fcells, fsyn]; rfl)
  exact h1.setFile2 2 (.bool ev) ⟨crash1 r.f x, r.p, r.A, r.c⟩ rfl rfl rfl rfl (by show r.f.b.take (keptN r.f x) = r.f.b.take q; rw [hq]) (by show keptN r.f x ≤ (r.f.b.take (keptN r.f x)).length; rw [← hq]; omega) (by
    rw [hev]
    simp only [fcells, crash1, short, fsyn]
    rw [← hq]
    rfl)

set_option maxRecDepth 20000 in
set_option maxHeartbeats 2000000 in
theorem crashFile_calls {S : Nat → Prop} {w : World} {sb bm : Nat} {L : List Fr} {D : DataW Value} {d : St} (h : Open S w sb bm L D d) (n : ByteArray) (r : Fr) (hf : fd Fr.name L n = some r) (x : Int) (hx0 : -9223372036854775808 ≤ x) (hx1 : x ≤ 9223372036854775807) :
    Calls Try.prog 38 #[at_ sb, .string n, .int .i64 x] w fun e w' => e = .returned (.tuple #[]) ∧ Open S w' sb bm (crashL L r x) (crashD D r x) { d with fs := crashFs d.fs r.f x } ∧ Touch S w w' ∧ w'.heap.size = w.heap.size := by
  obtain ⟨hr, hn⟩ := fd_some hf
  have hsm := h.small hr
  have hfile := h.files r hr
  have hnl : n.size ≤ maxLen := by rw [← hn]; unfold maxLen; have := hsm.2.2.2.1; show r.f.name.size ≤ _; omega
  have hlook := h.look n hnl
  rw [hf] at hlook
  simp only [ptrOf, at_] at hlook
  obtain ⟨c0, c1, c2, c3⟩ := h.cells
  obtain ⟨e0, e1, e2⟩ := hfile.cells
  obtain ⟨k, hk⟩ : ∃ k, k = r.f.b.length := ⟨_, rfl⟩
  obtain ⟨y, hy⟩ : ∃ y, y = r.f.syn := ⟨_, rfl⟩
  have hk1 := hsm.1
  have hk3 := hsm.2.2.1
  rw [← hk] at e0 hk1 hk3
  rw [← hy] at e1 hk3
  have hw1 : wrap64 ((k : Int) - (y : Int)) = (k : Int) - (y : Int) := by unfold wrap64; omega
  have HK := Lib.hid hk
  have HY := Lib.hid hy
  have HO := Lib.hid h
  have HF := Lib.hid hf
  have HR := Lib.hid hr
  have HN := Lib.hid hn
  clear hk hy h hf hr hn hsm hnl hfile
  unfold at_
  go_enter Try.func38, Try.ntmps38
  go_wp2_with fail
  go_quiet (fail)
  go_wp2_with fail
  all_goals
    obtain ⟨q, hq⟩ : ∃ q, q = keptN r.f x := ⟨_, rfl⟩
    have hql := keptN_le r.f x (by rw [← HK.out, ← HY.out]; exact hk3)
    refine (shorten_any HO.out nq r HR.out q _ (by rw [hq]; unfold keptN; rw [← HK.out, ← HY.out]; omega) (by rw [hq]; exact hql.1)).mono ?_
    rintro e w1 ⟨rfl, hO1, ht1, hs1⟩
    dsimp only
    have hqk : q ≤ r.f.b.length := by rw [hq]; exact hql.1
    have hlen : (r.f.b.take q).length = q := by rw [List.length_take]; omega
    have hf1 := hO1.files _ (mem_wi.2 (.inl rfl))
    obtain ⟨z, hz⟩ : ∃ z : Int, z = ((min r.f.syn q : Nat) : Int) := ⟨_, rfl⟩
    obtain ⟨ev, hev⟩ : ∃ ev, ev = r.f.ever := ⟨_, rfl⟩
    have k0 : Blk w1 r.p #[.slice r.A q r.c, .int .i64 z, .bool ev] 66 := by
      have := hf1.blk
      simp only [fcells, short, hlen] at this
      rw [hz, hev]
      exact this
    have HQ := Lib.hid hq
    have HE := Lib.hid hev
    have H1 := Lib.hid hO1
    have hin := hf1.inS
    clear hq hql hf1 hz hO1 hev c0 c1 c2 c3 e0 e1 e2 hlook hlen hw1
    have hqi : q ≤ 1048576 := by rw [← HK.out] at hqk; omega
    have m1 := k0.cell 0
    have m2 := k0.free 1
    have m1b := k0.cell 1
    have k1 := k0.set 1 (.int .i64 (q : Int))
    have m3 := k1.cell 0
    have m4 := k1.cell 2
    have m5 := k1.free 2
    have HT := fun v v' => Lib.hid (ht1.more ((Touch.set hin w1 1 v).more (Touch.set hin _ 2 v')))
    by_cases he : ev = true
    · have HC := Lib.hid (show true = (crash1 r.f x).ever by simp [crash1, ← HE.out, he])
      subst he
      have k2 := k1.set 2 (.bool true)
      have m6 := k2.cell 2
      go_wp2
      refine bodyPost_end (results_none rfl _ _ _) rfl ?_
      unfold crashL crashD crashFs
      rw [if_pos HC.out.symm, if_pos HC.out.symm, if_pos HC.out.symm]
      exact ⟨rfl, crash_end HQ.out hqk HC.out H1.out, (HT _ _).out, by rw [setCell_size, setCell_size]; exact hs1⟩
    · have he' : ev = false := by simpa using he
      subst he'
      by_cases h0 : 0 < q
      · have HC := Lib.hid (show true = (crash1 r.f x).ever by simp [crash1, ← HE.out, ← HQ.out, h0])
        have h0i : (0 : Int) < (q : Int) := by omega
        have k2 := k1.set 2 (.bool true)
        have m6 := k2.cell 2
        go_wp2
        refine bodyPost_end (results_none rfl _ _ _) rfl ?_
        unfold crashL crashD crashFs
        rw [if_pos HC.out.symm, if_pos HC.out.symm, if_pos HC.out.symm]
        exact ⟨rfl, crash_end HQ.out hqk HC.out H1.out, (HT _ _).out, by rw [setCell_size, setCell_size]; exact hs1⟩
      · have HC := Lib.hid (show false = (crash1 r.f x).ever by simp [crash1, ← HE.out, ← HQ.out, h0])
        have h0i : decide ((0 : Int) < (q : Int)) = false := by simp; omega
        have k2 := k1.set 2 (.bool false)
        have m6 := k2.cell 2
        have HE2 := Lib.hid (crash_end HQ.out hqk HC.out H1.out)
        have hfd : fd Fr.name (wi Fr.name L { r with f := crash1 r.f x }) n = some { r with f := crash1 r.f x } := by rw [fd_wi]; exact if_pos HN.out.symm
        have HD := Lib.hid (drop_calls HE2.out n _ hfd)
        clear hfd
        unfold at_ at HD
        go_wp2_with fail
        refine HD.out.mono ?_
        rintro e w2 ⟨rfl, hO2, ht2, hs2⟩
        dsimp only
        go_wp2
        refine bodyPost_end (results_none rfl _ _ _) rfl ?_
        unfold crashL crashD crashFs
        rw [if_neg (by rw [← HC.out]; simp), if_neg (by rw [← HC.out]; simp), if_neg (by rw [← HC.out]; simp)]
        have e1 : wo Fr.name (wi Fr.name L { r with f := crash1 r.f x }) n = wo Fr.name L r.name := by rw [HN.out]; exact wo_wi_same HN.out
        have e2 : wo Fl.name (wi Fl.name d.fs (crash1 r.f x)) n = wo Fl.name d.fs r.f.name := by
          have : r.f.name = n := HN.out
          rw [this]; exact wo_wi_same HN.out
        rw [e1] at hO2
        simp only [e2] at hO2
        refine ⟨rfl, by rw [HN.out] at hO2 ⊢; exact hO2, (HT _ _).out.more ht2, by rw [hs2, setCell_size, setCell_size]; exact hs1⟩
end Go.Proofs.Ytpnlgmnlanoncaa
