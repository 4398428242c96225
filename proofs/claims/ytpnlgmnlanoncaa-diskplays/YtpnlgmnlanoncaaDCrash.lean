/-
  Contracts of New and Crash. Conditions: the numbers are ints; the kept numbers lie in memory outside the disk.
-/
import Derived.Test.YtpnlgmnlanoncaaDList
import Derived.Test.YtpnlgmnlanoncaaDQuery
import Derived.Test.YtpnlgmnlanoncaaDOps
import Derived.Test.YtpnlgmnlanoncaaII
namespace Go.Proofs.Ytpnlgmnlanoncaa
open Go.ChangeShapes Go.WideShapes Go.ChangeAt Go.RowKit
set_option linter.unusedVariables false

def newS (room : Int) : St := ⟨room, [], -1, false⟩
theorem new_bad (room : Int) (h : room < 1 ∨ 1048576 < room) (w : World) : Calls Try.prog 9 #[.int .i64 room] w fun e w' => e = .returned (.tuple #[.pointer none, .int .i64 1]) ∧ w = w' := by
  rcases h with h | h
  · have hd : decide (room < 1) = true := by simpa using h
    go_enter Try.func9, Try.ntmps9
    go_wp2
    go_ret2
    exact ⟨rfl, rfl⟩
  · have hd : decide (room < 1) = false := by simp; omega
    have hd2 : decide (1048576 < room) = true := by simpa using h
    go_enter Try.func9, Try.ntmps9
    go_wp2
    go_ret2
    exact ⟨rfl, rfl⟩
theorem new_good (room : Int) (h0 : 1 ≤ room) (h1 : room ≤ 1048576) (w : World) : Calls Try.prog 9 #[.int .i64 room] w fun e w' => ∃ sb, e = .returned (.tuple #[at_ sb, .int .i64 0]) ∧ DiskAt (fun k => w.heap.size ≤ k ∧ k < w'.heap.size) w' sb (newS room) ∧ Below w.heap.size w w' := by
  have hd : decide (room < 1) = false := by simp; omega
  have hd2 : decide (1048576 < room) = false := by simp; omega
  have hmm := @run_makeMap Try.prog
  have H0 := Lib.hid h0
  have H1 := Lib.hid h1
  clear h0 h1
  go_enter Try.func9, Try.ntmps9
  go_wp2
  go_ret2
  refine ⟨w.heap.size + 1, rfl, ?_, ((Below.refl _ _).alloc (Nat.le_refl _) _).alloc (by simp) _⟩
  have hb : Blk ((w.alloc (.map #[] 0)).alloc (.cells #[.map (some w.heap.size), .int .i64 room, .int .i64 (-1), .bool false] 62)) (w.heap.size + 1) (dcells w.heap.size (newS room)) 62 := by
    have := Blk.newAt (w.alloc (.map #[] 0)) #[.map (some w.heap.size), .int .i64 room, .int .i64 (-1), .bool false] 62 (g := w.heap.size + 1) (by simp)
    simpa [dcells, newS, total] using this
  refine ⟨w.heap.size, [], .map [], hb, ⟨by omega, by simp⟩, ⟨by omega, by simp; omega⟩, fun k hk => hk.2, ?_, MapRel.empty, (fun r hr => by cases hr), (fun r hr => by cases hr), rfl, ?_⟩
  · exact (World.ownsMap_made w Try.prog 9 keep).alloc _
  · exact ⟨List.Pairwise.nil, H0.out, H1.out, by show ((0 : Nat) : Int) ≤ room; have := H0.out; omega, by simp [newS], (fun h => by cases h), by simp [newS], (fun f hf => by cases hf)⟩

def enI (n : Int) : List Value := [.int .i64 n]
theorem elI : El 3 1 8 (.int .i64 0) enI := ⟨by kernel_rfl, rfl, by decide, fun _ => rfl, fun x u hu => by simp [enI] at hu; subst hu; rfl⟩
/-- The files behind the first k have been crashed. -/
def midS (d : St) (keep : List Int) (k : Nat) : St := { armS d (-1) with fs := crashN d.fs keep k ++ d.fs.drop k }
theorem mid_step {d : St} {keep : List Int} {k : Nat} {f : Fl} (hf : d.fs[k]? = some f) (hs : Srt Fl.name (midS d keep k).fs) : { midS d keep k with fs := crashFs (midS d keep k).fs f (keep.getD k 0) } = midS d keep (k + 1) := by
  have hd : d.fs.drop k = f :: d.fs.drop (k + 1) := by
    obtain ⟨hk, rfl⟩ := List.getElem?_eq_some_iff.1 hf
    exact List.drop_eq_getElem_cons hk
  have hs' : Srt Fl.name (crashN d.fs keep k ++ f :: d.fs.drop (k + 1)) := by rw [← hd]; exact hs
  have e : crashFs (midS d keep k).fs f (keep.getD k 0) = crashN d.fs keep (k + 1) ++ d.fs.drop (k + 1) := by
    show crashFs (crashN d.fs keep k ++ d.fs.drop k) f (keep.getD k 0) = _
    rw [hd]
    unfold crashFs
    show _ = (crashN d.fs keep k ++ (match d.fs[k]? with | some f => crashO f (keep.getD k 0) | none => [])) ++ _
    rw [hf]
    show _ = (crashN d.fs keep k ++ crashO f (keep.getD k 0)) ++ _
    unfold crashO
    split
    · rw [wi_mid (x := crash1 f (keep.getD k 0)) hs' rfl]; simp
    · rw [wo_mid hs']; simp
  show ({ midS d keep k with fs := _ } : St) = _
  rw [e]
  rfl
theorem mid_find {S : Nat → Prop} {w : World} {sb bm : Nat} {L : List Fr} {D : DataW Value} {d : St} {keep : List Int} {k : Nat} {f : Fl} (h : Open S w sb bm L D (midS d keep k)) (hf : d.fs[k]? = some f) : ∃ r, fd Fr.name L f.name = some r ∧ r.f = f := by
  have hm : f ∈ (midS d keep k).fs := by
    show f ∈ crashN d.fs keep k ++ d.fs.drop k
    refine List.mem_append.2 (.inr ?_)
    obtain ⟨hk, rfl⟩ := List.getElem?_eq_some_iff.1 hf
    rw [List.drop_eq_getElem_cons hk]
    exact List.mem_cons_self
  have h1 := fd_mem h.ok.srt hm
  rw [h.finds] at h1
  cases hr : fd Fr.name L f.name with
  | none => rw [hr] at h1; cases h1
  | some r => rw [hr] at h1; exact ⟨r, rfl, by simpa using h1⟩
def RelC (S : Nat → Prop) (sb bm : Nat) (d : St) (keep : List Int) (n : Nat) (w2 : World) (i : Value) (wr : World) : Prop :=
  ∃ k : Nat, i = .int .i64 k ∧ k ≤ n ∧ (∃ L D, Open S wr sb bm L D (midS d keep k)) ∧ Touch S w2 wr ∧ wr.heap.size = w2.heap.size
theorem CellsG.blocks {α : Type} {en : α → List Value} {w w' : World} {A : Option Addr} {c : Nat} {xs : List α} (h : CellsG en w A c xs) (hk : ∀ a, A = some a → w'.heap[a.block]? = w.heap[a.block]?) : CellsG en w' A c xs := by
  rcases h with h | ⟨a, rfl, h⟩
  · exact .inl h
  · refine .inr ⟨a, rfl, fun j u hu => ?_⟩
    have e2 : (a.add j).block = a.block := by unfold Addr.add; split <;> rfl
    have e3 : w'.heap[(a.add j).block]? = w.heap[(a.add j).block]? := by rw [e2]; exact hk a rfl
    exact (World.cell?_of_block e3).trans (h j u hu)

set_option maxRecDepth 20000 in
set_option maxHeartbeats 2000000 in
theorem crash_calls {S : Nat → Prop} {w : World} {sb : Nat} {d : St} (h : DiskAt S w sb d) (A : Option Addr) (c : Nat) (keep : List Int) (hk : CellsG enI w A c keep) (hA : keep ≠ [] → ∀ a, A = some a → ¬ S a.block) (hr : ∀ x ∈ keep, -9223372036854775808 ≤ x ∧ x ≤ 9223372036854775807) (hl : keep.length ≤ maxLen) :
    Calls Try.prog 19 #[at_ sb, .slice A keep.length c] w fun e w' => e = .returned (.tuple #[]) ∧ DiskAt (Ext S w w') w' sb (crashS d keep) ∧ Touch S w w' := by
  obtain ⟨bm, L, D, h⟩ := h
  have HA1 := Lib.hid (arm_open h (-1) (by omega) (by omega))
  have hlt := h.lt
  have HL := Lib.hid h.fs
  have HKC := Lib.hid hk
  have HA := Lib.hid hA
  have HRG := Lib.hid hr
  have hmany := h.ok.many
  have hlen : L.length = d.fs.length := h.len
  unfold maxLen at hl
  have HOK := Lib.hid h.ok
  have hu55 := run_underlying (P := Try.prog) Try.underlying55
  have hu34 := run_underlying (P := Try.prog) Try.underlying34
  clear h hk hA hr
  unfold at_ at HA1 ⊢
  go_enter Try.func19, Try.ntmps19
  go_wp2_with fail
  refine HA1.out.mono ?_
  rintro e w1 ⟨rfl, hO1, ht1, hs1⟩
  dsimp only
  have HO1 := Lib.hid hO1
  have HT1 := Lib.hid ht1
  have HS1 := Lib.hid hs1
  clear hO1 ht1 hs1
  go_wp2_with fail
  refine (list_open HO1.out).mono ?_
  rintro e w2 ⟨A2, c2, rfl, hown2, hb2⟩
  dsimp only
  obtain ⟨n, hn⟩ : ∃ n, n = (L.map Fr.name).length := ⟨_, rfl⟩
  rw [← hn]
  have hn2 : n = d.fs.length := by rw [hn, List.length_map, hlen]
  have hn3 : n ≤ 65536 := by omega
  have HN := Lib.hid hn
  have HN2 := Lib.hid hn2
  have HOW := Lib.hid hown2
  have HB2 := Lib.hid hb2
  have HO2 := Lib.hid (show Open S w2 sb bm L D (midS d keep 0) by
    have := HO1.out.kept (w' := w2) (S' := S) (fun k hk => hb2.block k (HO1.out.lt k hk)) (fun _ h => h) (fun k hk => Nat.lt_of_lt_of_le (HO1.out.lt k hk) hb2.size)
    exact this)
  clear hn hn2 hown2 hb2 hmany hlen
  go_wp2
  go_loopw [14] (RelC S sb bm d keep n w2) (fun i _ => n - (intOf i).toNat)
  case atStart => exact ⟨0, rfl, by omega, ⟨L, D, HO2.out⟩, Touch.refl _ _, rfl⟩
  case round =>
    obtain ⟨k, rfl, hkn, ⟨L', D', hO'⟩, ht', hs'⟩ := hrel
    have HO' := Lib.hid hO'
    have HT' := Lib.hid ht'
    have HS' := Lib.hid hs'
    clear hO' ht' hs'
    by_cases hlt2 : k < n
    · have hki : (k : Int) < (n : Int) := by omega
      obtain ⟨f, hf⟩ : ∃ f, d.fs[k]? = some f := ⟨d.fs[k]'(by have := HN2.out; omega), by simp⟩
      have hnm : (L.map Fr.name)[k]? = some f.name := by
        have e : L.map Fr.name = d.fs.map Fl.name := by rw [← HL.out, List.map_map]; rfl
        rw [e, List.getElem?_map, hf]; rfl
      have hfm : f ∈ d.fs := List.mem_of_getElem? hf
      obtain ⟨g, hA2, hg1, hg2, hcell⟩ := HOW.out.at0 elS (by rw [← HN.out]; omega)
      subst hA2
      have hgS : ¬ S g := fun hS => by have := hlt g hS; have := HS1.out; omega
      have hck : wr.cell? ⟨g, k, none⟩ = some (.string f.name) := by
        have h1 := hcell k 0 f.name hnm (by omega)
        rw [Nat.mul_one, Nat.add_zero] at h1
        simp only [enS, List.getElem?_cons_zero] at h1
        exact (World.cell?_of_block (HT'.out.block g hg2 hgS)).trans h1
      obtain ⟨r, hfd, hrf⟩ := mid_find HO'.out hf
      have HFD := Lib.hid hfd
      have HRF := Lib.hid hrf
      have HF := Lib.hid hf
      clear hcell hnm hf hfd hrf hfm hgS hg1 hg2
      by_cases hkk : k < keep.length
      · have hkki : (k : Int) < (keep.length : Int) := by omega
        obtain ⟨x, hx⟩ : ∃ x, keep[k]? = some x := ⟨keep[k], by simp [hkk]⟩
        have hxr := HRG.out x (List.mem_of_getElem? hx)
        have HX := Lib.hid (show keep.getD k 0 = x by simp [List.getD, hx])
        obtain ⟨b, o, hA, hbs, hcell⟩ := HKC.out.at_ elI (by omega)
        have hbS := HA.out (by rintro rfl; simp at hkk) _ hA
        have hck2 : wr.cell? ⟨b, o + k, none⟩ = some (.int .i64 x) := by
          have h1 := hcell k 0 x hx (by omega)
          rw [Nat.mul_one, Nat.add_zero] at h1
          simp only [enI, List.getElem?_cons_zero] at h1
          refine Eq.trans (World.cell?_of_block (a := ⟨b, o + k, none⟩) ?_) h1
          rw [HT'.out.block b (by have := HS1.out; have := HB2.out.size; show b < _; omega) hbS, HB2.out.block b (by have := HS1.out; omega)]
          exact HT1.out.block b hbs hbS
        subst hA
        have HC := Lib.hid (crashFile_calls HO'.out f.name r HFD.out x hxr.1 hxr.2)
        unfold at_ at HC
        clear hcell hx hxr hbS
        go_wp2_with (go_at_call 38; refine (HC.out).mono ?_; rintro e w3 ⟨rfl, hO3, ht3, hs3⟩)
        go_roundw
        case rel =>
          have e := mid_step HF.out HO'.out.ok.srt
          rw [HX.out] at e
          rw [HRF.out] at hO3
          exact ⟨k + 1, by go_num, by omega, ⟨_, _, e ▸ hO3⟩, HT'.out.more ht3, by rw [hs3]; exact HS'.out⟩
        case measure => simp [intOf]; omega
      · have hkki : decide ((k : Int) < (keep.length : Int)) = false := by simp; omega
        have HX := Lib.hid (show keep.getD k 0 = 0 by simp [List.getD, List.getElem?_eq_none (show keep.length ≤ k by omega)])
        have HC := Lib.hid (crashFile_calls HO'.out f.name r HFD.out 0 (by omega) (by omega))
        unfold at_ at HC
        go_wp2_with (go_at_call 38; refine (HC.out).mono ?_; rintro e w3 ⟨rfl, hO3, ht3, hs3⟩)
        go_roundw
        case rel =>
          have e := mid_step HF.out HO'.out.ok.srt
          rw [HX.out] at e
          rw [HRF.out] at hO3
          exact ⟨k + 1, by go_num, by omega, ⟨_, _, e ▸ hO3⟩, HT'.out.more ht3, by rw [hs3]; exact HS'.out⟩
        case measure => simp [intOf]; omega
    · have hd : decide ((k : Int) < (n : Int)) = false := by simp; omega
      go_wp2
      refine bodyPost_end (results_none rfl _ _ _) rfl ?_
      obtain rfl : k = d.fs.length := by have := HN2.out; omega
      have e : midS d keep d.fs.length = crashS d keep := by
        unfold midS crashS
        rw [List.drop_length, List.append_nil]
      have h4 := HO'.out
      rw [e] at h4
      refine ⟨rfl, h4.done hlt (by have := HS'.out; have := HB2.out.size; have := HS1.out; omega), (HT1.out.more (Touch.of_below HB2.out)).more HT'.out⟩
end Go.Proofs.Ytpnlgmnlanoncaa
