/-
  Contract of Append. Conditions: the name has at most maxLen bytes; the bytes lie in memory outside the disk, at most 2^40 of them, each from 0 to 255.
-/
import Derived.Test.YtpnlgmnlanoncaaDApp
import Derived.Test.YtpnlgmnlanoncaaDOps
import Derived.Test.YtpnlgmnlanoncaaDPut
namespace Go.Proofs.Ytpnlgmnlanoncaa
open Go.ChangeShapes Go.WideShapes Go.ChangeAt Go.RowKit
set_option linter.unusedVariables false

theorem start_good {d : St} {ss : List ByteArray} (h : (beginS d ss).2 = 0) : ss.any bad = false := by
  unfold beginS startS at h
  by_cases hb : ss.any bad = true
  · simp [hb] at h
  · simpa using hb
theorem burn_len (d : St) : (burn d).cap - total (burn d).fs = d.cap - total d.fs := by rw [(burn_fs d).1, (burn_fs d).2]

/-- An old file grows. -/
theorem append_old {S : Nat → Prop} {w w1 w2 : World} {sb bm : Nat} {L : List Fr} {D : DataW Value} {d : St} (h : Open S w1 sb bm L D d) (hlt : ∀ k, S k → k < w.heap.size) (hl1 : w.heap.size ≤ w1.heap.size) (ht : Touch S w w1) {x : Fr} (hx : x ∈ L) {b : List Int} (hb : IsB b) (hfit : (b.length : Int) ≤ d.cap - total d.fs)
    {A2 : Option Addr} {c2 : Nat} (hown : OwnS 0 w2 A2 c2 (x.f.b ++ b)) (hg : w1.grownBy w2 (Value.slice x.A x.f.b.length x.c).ownBlock) (hloc : AtOrNew w1 x.A A2) {w' : World} {m : Int} (hm : m = d.cap - total d.fs - b.length)
    (hw' : w' = (w2.setCell ⟨x.p, 0, none⟩ (.slice A2 (x.f.b ++ b).length c2)).setCell ⟨sb, 1, none⟩ (.int .i64 m)) :
    DiskAt (Ext S w w') w' sb { d with fs := wi Fl.name d.fs { x.f with b := x.f.b ++ b } } ∧ Touch S w w' := by
  have hfile := h.files x hx
  have hne := h.file_ne hx
  have hm' := h.mem hx
  have hsm := h.small hx
  have hrow : ∀ g, (Value.slice x.A x.f.b.length x.c).ownBlock = some g → ∃ a, x.A = some a ∧ g = a.block := fun g hg' => by
    cases hA : x.A with
    | none => rw [hA] at hg'; simp [Value.ownBlock] at hg'
    | some a => rw [hA] at hg'; simp [Value.ownBlock] at hg'; exact ⟨a, rfl, hg'.symm⟩
  have hrS : ∀ g, (Value.slice x.A x.f.b.length x.c).ownBlock = some g → S g := fun g hg' => by
    obtain ⟨a, h1, h2⟩ := hrow g hg'
    rw [h2]; exact hfile.rowS a h1
  have hsz : w'.heap.size = w2.heap.size := by rw [hw', setCell_size, setCell_size]
  have hk2 : ∀ k, k < w1.heap.size → (∀ a, x.A = some a → k ≠ a.block) → w2.heap[k]? = w1.heap[k]? := fun k h1 h2 => hg.block k h1 fun e => by
    obtain ⟨a, h3, h4⟩ := hrow k e.symm
    exact h2 a h3 h4
  have hk : ∀ k, k < w1.heap.size → k ≠ sb → k ≠ x.p → (∀ a, x.A = some a → k ≠ a.block) → w'.heap[k]? = w1.heap[k]? := fun k h0 h1 h2 h3 => by
    rw [hw', Below.heap_setCell _ _ _ k h1, Below.heap_setCell _ _ _ k h2]
    exact hk2 k h0 h3
  have bp : Blk w2 x.p (fcells x) 66 := (hk2 x.p hfile.lt fun a ha => ((hne.2.2 a ha).2.2 x hx).symm).trans hfile.blk
  have bs : Blk w2 sb (dcells bm d) 62 := (hk2 sb h.blk.lt fun a ha => ((hne.2.2 a ha).1).symm).trans h.blk
  have hA2 : ∀ a, A2 = some a → a.block ≠ sb ∧ a.block ≠ x.p := fun a ha => by
    rcases hloc a ha with ⟨a0, h1, h2⟩ | h1
    · rw [h2]; exact ⟨(hne.2.2 a0 h1).1, (hne.2.2 a0 h1).2.2 x hx⟩
    · have h2 := h.blk.lt; have h3 := hfile.lt
      exact ⟨by omega, by omega⟩
  have hA2lt : ∀ a, A2 = some a → a.block < w2.heap.size := fun a ha => by
    have : (Value.slice A2 (x.f.b ++ b).length c2).ownBlock = some a.block := by rw [ha]; rfl
    obtain ⟨cur, q, h1⟩ := hown.row _ this
    exact (Array.getElem?_eq_some_iff.1 h1).1
  have htot := total_with h.ok hm' (f' := { x.f with b := x.f.b ++ b }) rfl
  have hlen : ({ x.f with b := x.f.b ++ b } : Fl).b.length = x.f.b.length + b.length := by simp
  refine ⟨⟨bm, _, D, h.refile (r' := ⟨{ x.f with b := x.f.b ++ b }, x.p, A2, c2⟩) (S' := Ext S w w') hx rfl rfl (fun _ h => .inl h) (fun k hk' => ?_) (fun k hkS h1 h2 h3 => hk k (h.lt k hkS) h1 h2 h3) ⟨?_, .inl hfile.inS, ?_, fun a ha => ?_⟩ hloc ?_ ?_⟩, ?_⟩
  · rcases hk' with h1 | h1
    · have := h.lt k h1; have := hg.size; omega
    · exact h1.2
  · have h1 := ((bp.set 0 (.slice A2 (x.f.b ++ b).length c2)).other (a := ⟨sb, 1, none⟩) hne.1 (.int .i64 m))
    rw [hw']
    exact h1
  · refine hown.blocks fun a ha => ?_
    rw [hw', Below.heap_setCell _ _ _ _ (hA2 a ha).1, Below.heap_setCell _ _ _ _ (hA2 a ha).2]
  · rcases hloc a ha with ⟨a0, h1, h2⟩ | h1
    · rw [h2]; exact .inl (hfile.rowS a0 h1)
    · have := hA2lt a ha
      exact .inr ⟨by omega, by omega⟩
  · have h1 := ((bs.other (a := ⟨x.p, 0, none⟩) hne.1.symm (.slice A2 (x.f.b ++ b).length c2)).set 1 (.int .i64 m))
    have e : (dcells bm d).setIfInBounds 1 (.int .i64 m) = dcells bm { d with fs := wi Fl.name d.fs { x.f with b := x.f.b ++ b } } := by
      simp only [dcells]
      rw [htot, hlen, hm, show d.cap - (total d.fs : Int) - (b.length : Int) = d.cap - ((total d.fs : Int) - (x.f.b.length : Int) + ((x.f.b.length + b.length : Nat) : Int)) by omega]
      rfl
    rw [e] at h1
    rw [hw']
    exact h1
  · refine h.ok.with_ hm' rfl ?_ ?_ (hsm.2.2.2.2.append hb)
    · rw [hlen]; omega
    · have := hsm.2.2.1; rw [hlen]; show x.f.syn ≤ _; omega
  · have t1 := (ht.more (Touch.grown hg hrS)).more ((Touch.set hfile.inS w2 0 (.slice A2 (x.f.b ++ b).length c2)).more (Touch.set h.inS _ 1 (.int .i64 m)))
    rw [hw']
    exact t1

/-- A new file. -/
theorem append_new {S : Nat → Prop} {w w1 w2 w3 : World} {sb bm n : Nat} {L : List Fr} {D : DataW Value} {d : St} (h : Open S w1 sb bm L D d) (hlt : ∀ k, S k → k < w.heap.size) (hl1 : w.heap.size ≤ w1.heap.size) (ht : Touch S w w1) {s : ByteArray} (hf : fd Fr.name L s = none) (hbad : bad s = false) {b : List Int} (hb : IsB b) (hfit : (b.length : Int) ≤ d.cap - total d.fs) (hmany : d.fs.length < 65536)
    (hown2 : w2.ownsMap Try.prog 9 keep bm n (D.put (key s) (.held (at_ w1.heap.size)))) (ht2 : Touch (fun k => k = bm) (w1.alloc (.cells #[.slice none 0 0, .int .i64 0, .bool false] 66)) w2)
    {A2 : Option Addr} {c2 : Nat} (hown : OwnS 0 w3 A2 c2 b) (hg : w2.grownBy w3 none) (hloc : AtOrNew w2 none A2) {w' : World} {m : Int} (hm : m = d.cap - total d.fs - b.length)
    (hw' : w' = (w3.setCell ⟨w1.heap.size, 0, none⟩ (.slice A2 b.length c2)).setCell ⟨sb, 1, none⟩ (.int .i64 m)) :
    DiskAt (Ext S w w') w' sb { d with fs := wi Fl.name d.fs ⟨s, b, 0, false⟩ } ∧ Touch S w w' := by
  have hs2 : w1.heap.size + 1 ≤ w2.heap.size := by have := ht2.size; simpa using this
  have hs3 := hg.size
  have hsz : w'.heap.size = w3.heap.size := by rw [hw', setCell_size, setCell_size]
  have hsb := h.blk.lt
  have hbm := h.own.lt
  have hbs := h.bm_ne
  have hfl : fd Fl.name d.fs s = none := by rw [h.finds, hf]; rfl
  have hnew : ∀ a, A2 = some a → w2.heap.size ≤ a.block := fun a ha => by
    rcases hloc a ha with ⟨a0, h1, _⟩ | h1
    · cases h1
    · exact h1
  have hA2lt : ∀ a, A2 = some a → a.block < w3.heap.size := fun a ha => by
    have : (Value.slice A2 b.length c2).ownBlock = some a.block := by rw [ha]; rfl
    obtain ⟨cur, q, h1⟩ := hown.row _ this
    exact (Array.getElem?_eq_some_iff.1 h1).1
  have hk3 : ∀ k, k < w1.heap.size → k ≠ bm → w3.heap[k]? = w1.heap[k]? := fun k h1 h2 => by
    rw [hg.block k (by omega) (by simp), ht2.block k (by simp; omega) h2]
    exact Below.heap_alloc w1 _ k h1
  have bp : Blk w3 w1.heap.size #[.slice none 0 0, .int .i64 0, .bool false] 66 := by
    have h1 := Blk.new w1 #[.slice none 0 0, .int .i64 0, .bool false] 66
    unfold Blk at h1 ⊢
    rw [hg.block _ (by omega) (by simp), ht2.block _ (by simp) (by omega)]
    exact h1
  have bs : Blk w3 sb (dcells bm d) 62 := (hk3 sb hsb hbs.symm).trans h.blk
  have htot := total_new (d := d) (f := ⟨s, b, 0, false⟩) hfl
  refine ⟨⟨bm, _, _, h.newfile (n := n) (S' := Ext S w w') (w' := w') ⟨⟨s, b, 0, false⟩, w1.heap.size, A2, c2⟩ hf (Nat.le_refl _) (fun a ha => by have := hnew a ha; omega) (fun _ h => .inl h) (fun k hk' => ?_) (fun k hkS h1 h2 => ?_) ⟨?_, .inr ⟨hl1, by show w1.heap.size < w'.heap.size; omega⟩, ?_, fun a ha => ?_⟩ ?_ ?_ (h.ok.new hfl hfit hmany (Nat.zero_le _) hb hbad)⟩, ?_⟩
  · rcases hk' with h1 | h1
    · have := h.lt k h1; omega
    · exact h1.2
  · have := h.lt k hkS
    rw [hw', Below.heap_setCell _ _ _ k h1, Below.heap_setCell _ _ _ k (show k ≠ w1.heap.size by omega)]
    exact hk3 k this h2
  · have h1 := ((bp.set 0 (.slice A2 b.length c2)).other (a := ⟨sb, 1, none⟩) (show w1.heap.size ≠ sb by omega) (.int .i64 m))
    rw [hw']
    exact h1
  · refine hown.blocks fun a ha => ?_
    have := hnew a ha
    rw [hw', Below.heap_setCell _ _ _ _ (show a.block ≠ sb by omega), Below.heap_setCell _ _ _ _ (show a.block ≠ w1.heap.size by omega)]
  · have := hnew a ha
    have := hA2lt a ha
    exact .inr ⟨by omega, by omega⟩
  · rw [hw']
    exact ((hown2.kept hg (by simp)).setCell (show bm ≠ w1.heap.size by omega) _).setCell hbs _
  · have h1 := ((bs.other (a := ⟨w1.heap.size, 0, none⟩) (show sb ≠ w1.heap.size by omega) (.slice A2 b.length c2)).set 1 (.int .i64 m))
    have e : (dcells bm d).setIfInBounds 1 (.int .i64 m) = dcells bm { d with fs := wi Fl.name d.fs ⟨s, b, 0, false⟩ } := by
      simp only [dcells]
      rw [htot, hm, show d.cap - (total d.fs : Int) - (b.length : Int) = d.cap - ((total d.fs : Int) + (b.length : Int)) by omega]
      rfl
    rw [e] at h1
    rw [hw']
    exact h1
  · have t1 : Touch S w1 w' := by
      refine ⟨?_, ?_, ?_, by omega, fun k h1 h2 => ?_⟩
      · rw [hw']; exact hg.os.trans ht2.os
      · rw [hw']; exact hg.tape.trans ht2.tape
      · rw [hw']; exact hg.output.trans ht2.output
      · have e1 : k ≠ sb := fun e => h2 (e ▸ h.inS)
        have e2 : k ≠ bm := fun e => h2 (e ▸ h.mapS)
        rw [hw', Below.heap_setCell _ _ _ k e1, Below.heap_setCell _ _ _ k (show k ≠ w1.heap.size by omega)]
        exact hk3 k h1 e2
    exact ht.more t1

set_option maxRecDepth 20000 in
set_option maxHeartbeats 4000000 in
theorem append_calls {S : Nat → Prop} {w : World} {sb : Nat} {d : St} (h : DiskAt S w sb d) (s : ByteArray) (hs : s.size ≤ maxLen) (A : Option Addr) (c : Nat) (b : List Int) (hb : Lies w A c b) (hA : b ≠ [] → ∀ a, A = some a → ¬ S a.block) (hAl : b ≠ [] → ∀ a, A = some a → a.block < w.heap.size) (hB : IsB b) (hbl : b.length ≤ maxLen) :
    Calls Try.prog 13 #[at_ sb, .string s, .slice A b.length c] w (Done S w sb (appendS d s b)) := by
  obtain ⟨bm, L, D, h⟩ := h
  have HB := Lib.hid (begin_one h s hs)
  have hlt := h.lt
  have hfits := h.ok.fits
  have hhi := h.ok.hi
  by_cases hx : (beginS d [s]).2 = 0
  · obtain ⟨he, hk⟩ := start_ok hx
    have hbad := start_good hx
    simp only [List.any_cons, List.any_nil, Bool.or_false] at hbad
    have hs64 : s.size ≤ 64 := by unfold bad at hbad; simp at hbad; omega
    rw [hx, he] at HB
    obtain ⟨r, hr⟩ : ∃ r, r = appendS d s b := ⟨_, rfl⟩
    rw [← hr]
    unfold appendS at hr
    rw [hk] at hr
    unfold appS at hr
    rw [burn_len] at hr
    have HR := Lib.hid hr
    have HL := Lib.hid hb
    have HA := Lib.hid hA
    have HAl := Lib.hid hAl
    have HIB := Lib.hid hB
    obtain ⟨m, hm⟩ : ∃ m : Int, m = d.cap - total d.fs := ⟨_, rfl⟩
    obtain ⟨k, hk'⟩ : ∃ k, k = b.length := ⟨_, rfl⟩
    have HK := Lib.hid hk'
    have HM := Lib.hid hm
    have hm0 : 0 ≤ m := by omega
    have hm1 : m ≤ 1048576 := by omega
    rw [← hk'] at hbl ⊢
    unfold maxLen at hbl
    clear hr hk he hx h hb hA hAl hB hk' hm hfits hhi
    unfold at_
    go_enter Try.func13, Try.ntmps13
    go_wp2_with fail
    refine (HB.out).mono ?_
    rintro e w1 ⟨rfl, hO, ht, hsz⟩
    dsimp only
    have hlook := hO.look s hs
    obtain ⟨c0, c1, c2, c3⟩ := hO.cells
    rw [burn_len, ← HM.out] at c1
    have hfd := hO.finds s
    have HLie := Lib.hid (HL.out.blocks fun hne a ha => ht.block _ (HAl.out hne a ha) (HA.out hne a ha))
    have HO := Lib.hid hO
    by_cases hfull : m < (k : Int)
    · have HRR := Lib.hid (show r = (burn d, 60) by rw [HR.out, ← HM.out, ← HK.out]; exact if_pos hfull)
      have hd : decide (m < (k : Int)) = true := by simpa using hfull
      cases hf : fd Fr.name L s with
      | none =>
        rw [hf] at hlook
        simp only [ptrOf] at hlook
        clear hO hfd hf c2 c3
        go_wp2
        go_ret
        rw [HRR.out]
        exact ⟨rfl, HO.out.done hlt (by omega), ht⟩
      | some x =>
        rw [hf] at hlook
        simp only [ptrOf, at_] at hlook
        clear hO hfd hf c2 c3
        go_wp2
        go_ret
        rw [HRR.out]
        exact ⟨rfl, HO.out.done hlt (by omega), ht⟩
    · have hd : decide (m < (k : Int)) = false := by simpa using hfull
      have hw : wrap64 (m - (k : Int)) = m - (k : Int) := by unfold wrap64; omega
      have HFit := Lib.hid (show ((b.length : Nat) : Int) ≤ (burn d).cap - total (burn d).fs by rw [burn_len, ← HM.out, ← HK.out]; omega)
      have HMM := Lib.hid (show m - (k : Int) = (burn d).cap - total (burn d).fs - b.length by rw [burn_len, ← HM.out, ← HK.out])
      cases hf : fd Fr.name L s with
      | none =>
        rw [hf] at hlook hfd
        simp only [ptrOf] at hlook
        have hlen : Maps.size D = (burn d).fs.length := hO.size
        obtain ⟨Q, hQ⟩ : ∃ Q : Int, Q = ((Maps.size D : Nat) : Int) := ⟨_, rfl⟩
        have hown := hO.own
        have hlen2 := hown.len (t := 60) (e := 63) Try.underlying60
        rw [← hQ] at hlen2
        by_cases hfull2 : 65536 ≤ Q
        · have HRR := Lib.hid (show r = (burn d, 9) by
            rw [HR.out, ← HM.out, ← HK.out, if_neg hfull, hfd]
            exact if_pos (by rw [← hlen]; omega))
          have hd3 : decide ((65536 : Int) ≤ Q) = true := by simpa using hfull2
          clear hO hfd hf c2 c3 hlen hQ hown hm1
          go_wp2
          go_ret
          rw [HRR.out]
          exact ⟨rfl, HO.out.done hlt (by omega), ht⟩
        · have HRR := Lib.hid (show r = ({ burn d with fs := wi Fl.name (burn d).fs ⟨s, b, 0, false⟩ }, 0) by
            rw [HR.out, ← HM.out, ← HK.out, if_neg hfull, hfd]
            exact if_neg (by rw [← hlen]; omega))
          have HMany := Lib.hid (show (burn d).fs.length < 65536 by rw [← hlen]; omega)
          have hd3 : decide ((65536 : Int) ≤ Q) = false := by simpa using hfull2
          have hcc : (w1.alloc (.cells #[.slice none 0 0, .int .i64 0, .bool false] 66)).cell? ⟨sb, 0, none⟩ = some (.map (some bm)) := ((hO.alloc _).cells).1
          have HP := Lib.hid (put_calls hcc (hown.alloc _) (by unfold maxLen; omega) s hs64 w1.heap.size)
          have HF := Lib.hid hf
          have HD := Lib.hid hbad
          have HKB := Lib.hid (show k ≤ 1048576 by omega)
          clear hO hfd hf c2 c3 hlen hcc hQ hown hfull hfull2 hbad hm0 hm1 hs hs64
          unfold at_ at HP
          have HSZ := Lib.hid hsz
          clear hsz
          go_wp2_with fail
          refine HP.out.mono ?_
          rintro e w2 ⟨rfl, hown2, ht2⟩
          dsimp only
          have hsb := HO.out.blk.lt
          have hbm := HO.out.own.lt
          have hbs := HO.out.bm_ne
          have hs2 : w1.heap.size + 1 ≤ w2.heap.size := by have := ht2.size; simpa using this
          have bp2 : Blk w2 w1.heap.size #[.slice none 0 0, .int .i64 0, .bool false] 66 := (ht2.block _ (by simp) (by omega)).trans (Blk.new w1 _ 66)
          have bs2 : Blk w2 sb (dcells bm (burn d)) 62 := ((ht2.block sb (by simp; omega) hbs.symm).trans (Below.heap_alloc w1 _ sb hsb)).trans HO.out.blk
          have HL2 := Lib.hid (HLie.out.blocks (w' := w2) fun hne a ha => by
            have h1 := HAl.out hne a ha
            have h2 : a.block ≠ bm := fun e => HA.out hne a ha (by rw [e]; exact HO.out.mapS)
            exact (ht2.block _ (by have := HSZ.out; simp; omega) h2).trans (Below.heap_alloc w1 _ _ (by have := HSZ.out; omega)))
          have HBS := Lib.hid hbs
          have HSB := Lib.hid hsb
          have HS2 := Lib.hid hs2
          have HBP := Lib.hid bp2
          have HBB := Lib.hid bs2
          have HT2 := Lib.hid ht2
          have HOW := Lib.hid hown2
          have e2 := bp2.cell 0
          clear hsb hbm hbs hs2 bp2 bs2 ht2 hown2 c0 c1 hlook hlen2 hd3 hd
          go_wp2_with (at_builtin; refine wpList_append_bytes_at rfl _ _ rfl 0 none 0 [] rfl (OwnS.nil 0 w2) A c b (by show _ = _; rw [← HK.out]; rfl) HL2.out (by rw [← HK.out]; have := HKB.out; simp; omega) (Nat.zero_le _) ?_; intro A2 c2 w3 L2 hL2 hown3 hgrow3 hloc3; clear e2; have bp3 : Blk w3 w1.heap.size #[.slice none 0 0, .int .i64 0, .bool false] 66 := (hgrow3.block _ (by have := HS2.out; omega) (by simp [Value.ownBlock])).trans HBP.out; have e3 := bp3.cell 0; have f3 := bp3.free 0; have bs3 : Blk w3 sb (dcells bm (burn d)) 62 := (hgrow3.block _ (by have := HS2.out; have := HSB.out; omega) (by simp [Value.ownBlock])).trans HBB.out; have bs4 := bs3.other (a := ⟨w1.heap.size, 0, none⟩) (show sb ≠ w1.heap.size by have := HSB.out; omega) (.slice A2 L2.length c2); have g1 := bs4.cell 1; have g2 := bs4.free 1; unfold dcells at g1; rw [burn_len, ← HM.out] at g1; clear bp3 bs3 bs4)
          go_ret
          rw [HRR.out]
          have e : L2 = b := hL2.out
          subst e
          have := append_new HO.out hlt (by have := HSZ.out; omega) ht HF.out HD.out HIB.out HFit.out HMany.out HOW.out HT2.out hown3 hgrow3 hloc3 HMM.out rfl
          exact ⟨rfl, this.1, this.2⟩
      | some x =>
        rw [hf] at hlook hfd
        simp only [ptrOf, at_] at hlook
        have hx := (fd_some hf).1
        have hfile := hO.files x hx
        have hne := hO.file_ne hx
        have hsm := (hO.small hx).1
        have HRR := Lib.hid (show r = ({ burn d with fs := wi Fl.name (burn d).fs { x.f with b := x.f.b ++ b } }, 0) by
          rw [HR.out, ← HM.out, ← HK.out, if_neg hfull, hfd]; rfl)
        have k0 := hfile.blk
        unfold fcells at k0
        have e0 := k0.cell 0
        have HKB := Lib.hid (show k ≤ 1048576 by omega)
        have HSM := Lib.hid hsm
        have HX := Lib.hid hx
        have HNE := Lib.hid hne
        have HFI := Lib.hid hfile
        have HSZ := Lib.hid hsz
        have hrow : ∀ g, (Value.slice x.A x.f.b.length x.c).ownBlock = some g → g ≠ sb ∧ g ≠ x.p := fun g hg' => by
          cases hA : x.A with
          | none => rw [hA] at hg'; simp [Value.ownBlock] at hg'
          | some a =>
            rw [hA] at hg'
            simp [Value.ownBlock] at hg'
            subst hg'
            exact ⟨(hne.2.2 a hA).1, (hne.2.2 a hA).2.2 x hx⟩
        have HROW := Lib.hid hrow
        clear hO hfd hf c2 c3 hsz hm0 hm1 hs hs64 hbad hfull hsm hx hne hfile k0 hrow
        go_wp2_with (at_builtin; go_must (refine wpList_append_bytes_at rfl _ _ rfl 0 x.A x.c x.f.b rfl HFI.out.own A c b (by show _ = _; rw [← HK.out]; rfl) HLie.out (by rw [← HK.out]; have := HKB.out; have := HSM.out; omega) (Nat.zero_le _) ?_); intro A2 c2 w3 L2 hL2 hown3 hgrow3 hloc3; clear e0; have bp3 : Blk w3 x.p (fcells x) 66 := (hgrow3.block _ HFI.out.lt (fun e => (HROW.out _ e.symm).2 rfl)).trans HFI.out.blk; have e3 := bp3.cell 0; have f3 := bp3.free 0; unfold fcells at e3; have bs3 : Blk w3 sb (dcells bm (burn d)) 62 := (hgrow3.block _ HO.out.blk.lt (fun e => (HROW.out _ e.symm).1 rfl)).trans HO.out.blk; have bs4 := bs3.other (a := ⟨x.p, 0, none⟩) HNE.out.1.symm (.slice A2 L2.length c2); have g1 := bs4.cell 1; have g2 := bs4.free 1; unfold dcells at g1; rw [burn_len, ← HM.out] at g1; clear bp3 bs3 bs4)
        go_ret
        rw [HRR.out]
        have e := hL2.out
        subst e
        have := append_old HO.out hlt (by have := HSZ.out; omega) ht HX.out HIB.out HFit.out hown3 hgrow3 hloc3 HMM.out rfl
        exact ⟨rfl, this.1, this.2⟩
  · have hk := start_err hx (fun d => appS d s b)
    have HR := Lib.hid (show appendS d s b = beginS d [s] from hk)
    obtain ⟨x, hx'⟩ : ∃ x, x = (beginS d [s]).2 := ⟨_, rfl⟩
    rw [← hx'] at HB hx
    have HX := Lib.hid hx'
    have e1 : (x != 0) = true := by simpa using hx
    clear hk hx' h
    unfold at_
    go_enter Try.func13, Try.ntmps13
    go_wp2_with (go_at_call 28; refine (HB.out).mono ?_; rintro e w1 ⟨rfl, hO, ht, hsz⟩)
    go_ret
    rw [HR.out]
    exact ⟨by rw [← HX.out]; rfl, hO.done hlt (by omega), ht⟩
end Go.Proofs.Ytpnlgmnlanoncaa
