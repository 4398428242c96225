/-
  Contracts of the document's Place, Left and without: loops over its files. Conditions: the files lie in memory, at most 100000 of them, names of at most reachBytes; sums fit.
-/
import Derived.Test.YtpnlgmnlanoncaaRRef
namespace Go.Proofs.Ytpnlgmnlanoncaa
open Go.ChangeShapes Go.WideShapes Go.ChangeAt Go.RowKit
set_option linter.unusedVariables false

/-- The cells of file i, in the world and later. -/
theorem Ref.cellAt {T : Nat → Prop} {w w' : World} {A : Option Addr} {c : Nat} {rs : List Rf} (h : Ref T w A c rs) (hb : Below w.heap.size w w') {i : Nat} {r : Rf} (hr : rs[i]? = some r) :
    ∃ b o, A = some ⟨b, o, none⟩ ∧ b < w.heap.size ∧ w'.cell? ⟨b, o + i * 4, none⟩ = some (.string r.f.name) ∧ w'.cell? ⟨b, o + i * 4 + 1, none⟩ = some (.slice r.A r.f.b.length r.c) ∧ w'.cell? ⟨b, o + i * 4 + 2, none⟩ = some (.int .i64 r.f.syn) ∧ w'.cell? ⟨b, o + i * 4 + 3, none⟩ = some (.bool r.f.ever) := by
  have hi : i < rs.length := (List.getElem?_eq_some_iff.1 hr).1
  obtain ⟨b, o, hA, hbs, hc⟩ := h.1.at_ elF (by omega)
  have g := fun j hj => (hb.cell (p := ⟨b, o + (i * 4 + j), none⟩) hbs).trans (hc i j r hr hj)
  refine ⟨b, o, hA, hbs, ?_, ?_, ?_, ?_⟩
  · have := g 0 (by omega); simpa [enF] using this
  · have := g 1 (by omega); rw [← Nat.add_assoc] at this; simpa [enF] using this
  · have := g 2 (by omega); rw [← Nat.add_assoc] at this; simpa [enF] using this
  · have := g 3 (by omega); rw [← Nat.add_assoc] at this; simpa [enF] using this

def RelPl (rs : List Rf) (s : ByteArray) (w : World) (i : Value) (wr : World) : Prop := ∃ k : Nat, i = .int .i64 k ∧ k ≤ rs.length ∧ (∀ r ∈ rs.take k, r.f.name ≠ s) ∧ wr = w
theorem fd_at {fs : List Fl} (hs : Srt Fl.name fs) {i : Nat} {f : Fl} (h : fs[i]? = some f) : fd Fl.name fs f.name = some f := fd_mem hs (List.mem_of_getElem? h)

set_option maxRecDepth 20000 in
set_option maxHeartbeats 1000000 in
theorem rplace_calls {T : Nat → Prop} (cap : Int) (A : Option Addr) (c : Nat) (ar : Bool) (fu : Int) (rs : List Rf) (s : ByteArray) (w : World) (h : Ref T w A c rs) (hl : rs.length ≤ 100000) :
    Calls Try.prog 16 #[dval cap A rs.length c ar fu, .string s] w fun e w' => (∃ x : Int, e = .returned (.int .i64 x) ∧ ((x = -1 ∧ ∀ r ∈ rs, r.f.name ≠ s) ∨ ∃ (i : Nat) (r : Rf), x = i ∧ rs[i]? = some r ∧ r.f.name = s)) ∧ Below w.heap.size w w' := by
  have HR := Lib.hid h
  have hu30 := run_underlying (P := Try.prog) Try.underlying30
  clear h
  unfold dval
  have b0 := Blk.new w #[.int .i64 cap, .slice A rs.length c, .bool ar, .int .i64 fu] 32
  have c1 := b0.cell 1
  have HB := Lib.hid (below_one w (.cells #[.int .i64 cap, .slice A rs.length c, .bool ar, .int .i64 fu] 32))
  clear b0
  obtain ⟨W, hW⟩ : ∃ W, W = w.alloc (.cells #[.int .i64 cap, .slice A rs.length c, .bool ar, .int .i64 fu] 32) := ⟨_, rfl⟩
  go_enter Try.func16, Try.ntmps16
  go_wp2
  rw [← hW] at c1 HB ⊢
  clear hW
  go_loopw [5] (RelPl rs s W) (fun i _ => rs.length - (intOf i).toNat)
  case atStart => exact ⟨0, rfl, by omega, by simp, rfl⟩
  case round =>
    obtain ⟨k, rfl, hk, hno, rfl⟩ := hrel
    by_cases hlt : k < rs.length
    · have hlti : (k : Int) < (rs.length : Int) := by omega
      obtain ⟨r, hr⟩ : ∃ r, rs[k]? = some r := ⟨rs[k], by simp [hlt]⟩
      obtain ⟨b, o, hA, hbs, g0, g1, g2, g3⟩ := HR.out.cellAt HB.out hr
      subst hA
      have HRR := Lib.hid hr
      have HNO := Lib.hid hno
      clear hr hno g1 g2 g3
      by_cases he : r.f.name = s
      · have hbe : (r.f.name.toList == s.toList) = true := by simp [he]
        have HE := Lib.hid he
        clear he
        go_wp2
        go_ret
        exact ⟨⟨k, rfl, .inr ⟨k, r, rfl, HRR.out, HE.out⟩⟩, HB.out⟩
      · have hbe := toList_beq_false he
        have HE := Lib.hid he
        clear he
        go_wp2
        go_roundw
        case rel =>
          refine ⟨k + 1, by go_num, by omega, fun x hx => ?_, rfl⟩
          rw [List.take_add_one, HRR.out] at hx
          rcases List.mem_append.1 hx with hx | hx
          · exact HNO.out x hx
          · simp at hx; subst hx; exact HE.out
        case measure => simp [intOf]; omega
    · have hd : decide ((k : Int) < (rs.length : Int)) = false := by simp; omega
      rw [List.take_of_length_le (by omega)] at hno
      have HNO := Lib.hid hno
      clear hno
      go_wp2
      go_ret
      exact ⟨⟨-1, rfl, .inl ⟨rfl, HNO.out⟩⟩, HB.out⟩

def totR (rs : List Rf) : Nat := total (rs.map Rf.f)
theorem totR_step {rs : List Rf} {k : Nat} {r : Rf} (h : rs[k]? = some r) : totR (rs.take (k + 1)) = totR (rs.take k) + r.f.b.length := by
  unfold totR
  rw [List.take_add_one, h]
  simp [total_append, total]
theorem totR_le (rs : List Rf) (k : Nat) : totR (rs.take k) ≤ totR rs := by
  have h : totR rs = totR (rs.take k) + totR (rs.drop k) := by
    unfold totR
    rw [← total_append, ← List.map_append, List.take_append_drop]
  omega
def RelL (cap : Int) (rs : List Rf) (w : World) (n i : Value) (wr : World) : Prop := ∃ k : Nat, n = .int .i64 (cap - (totR (rs.take k) : Int)) ∧ i = .int .i64 k ∧ k ≤ rs.length ∧ wr = w
set_option maxRecDepth 20000 in
set_option maxHeartbeats 1000000 in
theorem rleft_calls {T : Nat → Prop} (cap : Int) (A : Option Addr) (c : Nat) (ar : Bool) (fu : Int) (rs : List Rf) (w : World) (h : Ref T w A c rs) (hl : rs.length ≤ 100000) (h0 : 0 ≤ cap) (h1 : cap ≤ 1048576) (ht : totR rs ≤ 1048576) :
    Calls Try.prog 37 #[dval cap A rs.length c ar fu] w fun e w' => e = .returned (.int .i64 (cap - (totR rs : Int))) ∧ Below w.heap.size w w' := by
  have HR := Lib.hid h
  have hu30 := run_underlying (P := Try.prog) Try.underlying30
  clear h
  unfold dval
  have b0 := Blk.new w #[.int .i64 cap, .slice A rs.length c, .bool ar, .int .i64 fu] 32
  have c0 := b0.cell 0
  have c1 := b0.cell 1
  have HB := Lib.hid (below_one w (.cells #[.int .i64 cap, .slice A rs.length c, .bool ar, .int .i64 fu] 32))
  clear b0
  obtain ⟨W, hW⟩ : ∃ W, W = w.alloc (.cells #[.int .i64 cap, .slice A rs.length c, .bool ar, .int .i64 fu] 32) := ⟨_, rfl⟩
  obtain ⟨tt, htt⟩ : ∃ tt, tt = totR rs := ⟨_, rfl⟩
  have HTT := Lib.hid htt
  rw [← htt] at ht
  have hcap : cap - ((totR (rs.take 0) : Nat) : Int) = cap := by simp [totR, total]
  have HCAP := Lib.hid hcap
  clear htt hcap
  go_enter Try.func37, Try.ntmps37
  go_wp2
  rw [← hW] at c0 c1 HB ⊢
  clear hW
  go_loopw [3, 4] (RelL cap rs W) (fun _ i _ => rs.length - (intOf i).toNat)
  case atStart => exact ⟨0, by rw [HCAP.out], rfl, by omega, rfl⟩
  case round =>
    obtain ⟨k, rfl, rfl, hk, rfl⟩ := hrel
    obtain ⟨q, hq⟩ : ∃ q, q = totR (rs.take k) := ⟨_, rfl⟩
    rw [← hq]
    have HQ := Lib.hid hq
    have hqt : q ≤ tt := by rw [hq, HTT.out]; exact totR_le rs k
    clear hq
    by_cases hlt : k < rs.length
    · have hlti : (k : Int) < (rs.length : Int) := by omega
      obtain ⟨r, hr⟩ : ∃ r, rs[k]? = some r := ⟨rs[k], by simp [hlt]⟩
      obtain ⟨b, o, hA, hbs, g0, g1, g2, g3⟩ := HR.out.cellAt HB.out hr
      subst hA
      have hst := totR_step hr
      have hle := totR_le rs (k + 1)
      rw [← HQ.out] at hst
      rw [← HTT.out, hst] at hle
      have HST := Lib.hid hst
      obtain ⟨x, hx⟩ : ∃ x, x = r.f.b.length := ⟨_, rfl⟩
      rw [← hx] at g1 hle HST
      have hw : wrap64 (cap - (q : Int) - (x : Int)) = cap - (q : Int) - (x : Int) := by unfold wrap64; omega
      clear hr hst g0 g2 g3 hx
      go_wp2
      go_roundw
      case rel => exact ⟨k + 1, by rw [HST.out]; congr 1; omega, by go_num, by omega, rfl⟩
      case measure => simp [intOf]; omega
    · have hd : decide ((k : Int) < (rs.length : Int)) = false := by simp; omega
      have HE := Lib.hid (show q = totR rs by rw [HQ.out, List.take_of_length_le (by omega)])
      go_wp2
      go_ret
      exact ⟨by rw [← HE.out]; rfl, HB.out⟩

def Rf.name (r : Rf) : ByteArray := r.f.name
def RelW (rs : List Rf) (s : ByteArray) (B : Nat) (w : World) (l i : Value) (wr : World) : Prop :=
  ∃ (k : Nat) (A : Option Addr) (c : Nat), l = .slice A (wo Rf.name (rs.take k) s).length c ∧ i = .int .i64 k ∧ k ≤ rs.length ∧ OwnG 77 4 enF B wr A c (wo Rf.name (rs.take k) s) ∧ Below B w wr
theorem wo_step {rs : List Rf} {k : Nat} {r : Rf} {s : ByteArray} (h : rs[k]? = some r) : wo Rf.name (rs.take (k + 1)) s = wo Rf.name (rs.take k) s ++ (if r.f.name = s then [] else [r]) := by
  rw [List.take_add_one, h, wo_append]
  congr 1
  show wo Rf.name [r] s = _
  rw [wo_cons]
  rfl
/-- What a call of the document's hands back that makes files anew. -/
def RefOut (T : Nat → Prop) (w : World) (cap : Int) (ar : Bool) (fu : Int) (rs : List Rf) (e : Ending) (w' : World) : Prop :=
  ∃ A c, e = .returned (dval cap A rs.length c ar fu) ∧ Ref (fun k => T k ∨ w.heap.size ≤ k) w' A c rs ∧ Below w.heap.size w w'
theorem Ref.out {T : Nat → Prop} {w w' : World} {B : Nat} {A : Option Addr} {c : Nat} {rs rs0 : List Rf} {A0 : Option Addr} {c0 : Nat} (h0 : Ref T w A0 c0 rs0) (hsub : ∀ r ∈ rs, r ∈ rs0) (hB : w.heap.size ≤ B) (hown : OwnG 77 4 enF B w' A c rs) (hb : Below w.heap.size w w') : Ref (fun k => T k ∨ w.heap.size ≤ k) w' A c rs := by
  refine ⟨hown.cells, fun hne a ha => ?_, fun r hr => ?_⟩
  · have := (hown.row a.block (by rw [ha]; rfl)).1
    exact .inr (by omega)
  · have := h0.2.2 r (hsub r hr)
    exact ⟨this.1.below hb, this.2.1, fun hne a ha => .inl (this.2.2 hne a ha)⟩
/-- The end of a call that makes files anew: the struct's slice is set, then the whole is stored as the result. -/
theorem ref_end {w wr : World} {N B g g2 : Nat} {cs : Array Value} {a b c d x0 x1 x2 x3 v : Value} {A2 : Option Addr} {c2 : Nat} {X : List Rf} (b1 : Blk wr g cs 32) (b2 : Blk wr g2 #[a, b, c, d] 32) (hne : g2 ≠ g) (hown : OwnG 77 4 enF B wr A2 c2 X) (hb : Below N w wr) (h1 : N ≤ g) (h2 : N ≤ g2) :
    Blk (((((wr.setCell ⟨g, 1, none⟩ v).setCell ⟨g2, 0, none⟩ x0).setCell ⟨g2, 1, none⟩ x1).setCell ⟨g2, 2, none⟩ x2).setCell ⟨g2, 3, none⟩ x3) g2 #[x0, x1, x2, x3] 32 ∧
    OwnG 77 4 enF B (((((wr.setCell ⟨g, 1, none⟩ v).setCell ⟨g2, 0, none⟩ x0).setCell ⟨g2, 1, none⟩ x1).setCell ⟨g2, 2, none⟩ x2).setCell ⟨g2, 3, none⟩ x3) A2 c2 X ∧
    Below N w (((((wr.setCell ⟨g, 1, none⟩ v).setCell ⟨g2, 0, none⟩ x0).setCell ⟨g2, 1, none⟩ x1).setCell ⟨g2, 2, none⟩ x2).setCell ⟨g2, 3, none⟩ x3) := by
  have e1 := b2.other (a := ⟨g, 1, none⟩) hne v
  have e2 := e1.set 0 x0
  have e3 := e2.set 1 x1
  have e4 := e3.set 2 x2
  have e5 := e4.set 3 x3
  refine ⟨e5, ((((hown.other b1 (by decide) 1 v).other e1 (by decide) 0 x0).other e2 (by decide) 1 x1).other e3 (by decide) 2 x2).other e4 (by decide) 3 x3, ?_⟩
  exact ((((hb.setCell (p := ⟨g, 1, none⟩) h1 _).setCell (p := ⟨g2, 0, none⟩) h2 _).setCell (p := ⟨g2, 1, none⟩) h2 _).setCell (p := ⟨g2, 2, none⟩) h2 _).setCell (p := ⟨g2, 3, none⟩) h2 _
set_option maxRecDepth 20000 in
set_option maxHeartbeats 2000000 in
theorem rwithout_calls {T : Nat → Prop} (cap : Int) (A : Option Addr) (c : Nat) (ar : Bool) (fu : Int) (rs : List Rf) (s : ByteArray) (w : World) (h : Ref T w A c rs) (hl : rs.length ≤ 100000) :
    Calls Try.prog 45 #[dval cap A rs.length c ar fu, .string s] w (RefOut T w cap ar fu (wo Rf.name rs s)) := by
  have HR := Lib.hid h
  have hu30 := run_underlying (P := Try.prog) Try.underlying30
  clear h
  unfold dval
  obtain ⟨W, hW⟩ : ∃ W, W = (w.alloc (.cells #[.int .i64 cap, .slice A rs.length c, .bool ar, .int .i64 fu] 32)).alloc (.cells #[.int .i64 0, .slice none 0 0, .bool false, .int .i64 0] 32) := ⟨_, rfl⟩
  have b1 : Blk W w.heap.size #[.int .i64 cap, .slice A rs.length c, .bool ar, .int .i64 fu] 32 := by rw [hW]; exact (Blk.new w _ 32).alloc _
  have b2 : Blk W (w.heap.size + 1) #[.int .i64 0, .slice none 0 0, .bool false, .int .i64 0] 32 := by rw [hW]; exact Blk.newAt _ _ _ (by simp)
  have hsz : W.heap.size = w.heap.size + 2 := by rw [hW]; simp
  have hbW : Below w.heap.size w W := by rw [hW]; exact below_two _ _ _
  have HB1 := Lib.hid b1
  have HB2 := Lib.hid b2
  have HSZ := Lib.hid hsz
  have HBW := Lib.hid hbW
  clear b1 b2 hsz hbW
  go_enter Try.func45, Try.ntmps45
  go_wp2
  rw [← hW]
  clear hW
  go_loopw [5, 6] (RelW rs s (w.heap.size + 2) W) (fun _ i _ => rs.length - (intOf i).toNat)
  case atStart => exact ⟨0, none, 0, rfl, rfl, by omega, OwnG.nil _ _, Below.refl _ _⟩
  case round =>
    obtain ⟨k, A2, c2, rfl, rfl, hk, hown, hbl⟩ := hrel
    obtain ⟨X, hX⟩ : ∃ X, X = wo Rf.name (rs.take k) s := ⟨_, rfl⟩
    rw [← hX] at hown ⊢
    have hXl : X.length ≤ 100000 := by
      rw [hX]; have := wo_length_le (nm := Rf.name) (rs.take k) s; rw [List.length_take] at this; omega
    have HX := Lib.hid hX
    have HOW := Lib.hid hown
    have HBL := Lib.hid hbl
    have b1r := HB1.out.below hbl (by omega)
    have c1 := b1r.cell 1
    have hszr : w.heap.size + 2 ≤ wr.heap.size := by rw [← HSZ.out]; exact hbl.size
    have HZR := Lib.hid hszr
    clear hX hown hbl b1r hszr
    by_cases hlt : k < rs.length
    · have hlti : (k : Int) < (rs.length : Int) := by omega
      obtain ⟨r, hr⟩ : ∃ r, rs[k]? = some r := ⟨rs[k], by simp [hlt]⟩
      have hbl2 : Below w.heap.size w wr := HBW.out.trans (HBL.out.mono (by omega))
      obtain ⟨b, o, hA, hbs, g0, g1, g2, g3⟩ := HR.out.cellAt hbl2 hr
      subst hA
      have hstep := wo_step (s := s) hr
      rw [← HX.out] at hstep
      have HST := Lib.hid hstep
      clear hstep hbl2 hr
      by_cases he : r.f.name = s
      · have hbe : (r.f.name.toList == s.toList) = true := by simp [he]
        rw [if_pos he, List.append_nil] at HST
        clear he
        go_wp2
        go_roundw
        case rel => exact ⟨k + 1, A2, c2, by rw [HST.out], by go_num, by omega, by rw [HST.out]; exact HOW.out, HBL.out⟩
        case measure => simp [intOf]; omega
      · have hbe := toList_beq_false he
        rw [if_neg he] at HST
        clear he
        have hown2 := HOW.out.alloc (.cells #[.string r.f.name, .slice r.A r.f.b.length r.c, .int .i64 r.f.syn, .bool r.f.ever] 77)
        have hA1 : X.length + [r].length ≤ 1000000000 := by simp; omega
        have hA2 : w.heap.size + 2 ≤ (wr.alloc (.cells #[.string r.f.name, .slice r.A r.f.b.length r.c, .int .i64 r.f.syn, .bool r.f.ever] 77)).heap.size := by have := HZR.out; simp; omega
        have hA3 := cells_one_val elF wr r #[.string r.f.name, .slice r.A r.f.b.length r.c, .int .i64 r.f.syn, .bool r.f.ever] rfl
        have HA1 := Lib.hid hA1
        have HA2 := Lib.hid hA2
        have HA3 := Lib.hid hA3
        have HO2 := Lib.hid hown2
        clear hA1 hA2 hA3 hown2
        go_wp2_with (at_builtin; go_must (refine wpList_append_vals elF rfl _ _ 30 Try.underlying30 rfl (w.heap.size + 2) A2 c2 X rfl HO2.out (some ⟨wr.heap.size, 0, none⟩) 1 [r] rfl HA3.out HA1.out (by decide) HA2.out ?_); intro A7 c7 w7 R7 hR7 hown7 hgrow7)
        go_roundw
        case rel =>
          have e := hR7.out.trans HST.out.symm
          subst e
          exact ⟨k + 1, A7, c7, rfl, by go_num, by omega, hown7, OwnG.grow HO2.out (HBL.out.alloc HZR.out _) hgrow7 HA2.out⟩
        case measure => simp [intOf]; omega
    · have hd : decide ((k : Int) < (rs.length : Int)) = false := by simp; omega
      have HE := Lib.hid (show X = wo Rf.name rs s by rw [HX.out, List.take_of_length_le (by omega)])
      have b1r := HB1.out.below HBL.out (by omega)
      have b2r := HB2.out.below HBL.out (by omega)
      have f1 := b1r.free 1
      have b1s := b1r.set 1 (.slice A2 X.length c2)
      have e0 := b1s.cell 0
      have e1 := b1s.cell 1
      have e2 := b1s.cell 2
      have e3 := b1s.cell 3
      have b2s := b2r.other (a := ⟨w.heap.size, 1, none⟩) (show w.heap.size + 1 ≠ w.heap.size by omega) (.slice A2 X.length c2)
      have HB2S := Lib.hid b2s
      have k0 := b2s.cell 0
      have k1 := b2s.cell 1
      have k2 := b2s.cell 2
      have k3 := b2s.cell 3
      have l0 := b2s.free 0
      have l1 := b2s.free 1
      have l2 := b2s.free 2
      have l3 := b2s.free 3
      clear b1r b2r b1s b2s
      go_wp2
      have h5 := ref_end (v := .slice A2 X.length c2) (x0 := .int .i64 cap) (x1 := .slice A2 X.length c2) (x2 := .bool ar) (x3 := .int .i64 fu) (HB1.out.below HBL.out (by omega)) (HB2.out.below HBL.out (by omega)) (show w.heap.size + 1 ≠ w.heap.size by omega) HOW.out (HBW.out.trans (HBL.out.mono (by omega))) (Nat.le_refl _) (by omega)
      refine bodyPost_ret (results_cell1 rfl _ _ _ _ _ rfl (lv32 h5.1)) rfl ?_
      have e := HE.out
      subst e
      exact ⟨A2, c2, rfl, HR.out.out (fun r hr => (mem_wo.1 hr).1) (by omega) h5.2.1 h5.2.2, h5.2.2⟩
end Go.Proofs.Ytpnlgmnlanoncaa
