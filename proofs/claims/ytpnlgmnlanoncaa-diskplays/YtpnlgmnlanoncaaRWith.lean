/-
  Contract of the document's with: a file in its place, instead of one of its name. Conditions: the files lie in memory, at most 100000 of them, names of at most reachBytes.
-/
import Derived.Test.YtpnlgmnlanoncaaRLoop
namespace Go.Proofs.Ytpnlgmnlanoncaa
open Go.ChangeShapes Go.WideShapes Go.ChangeAt Go.RowKit
set_option linter.unusedVariables false

section
variable {α : Type} {nm : α → ByteArray}
theorem ins_some {x : α} {P : List α} (h : ∃ y ∈ P, nlt (nm x) (nm y) = true) (Q : List α) : ins nm x (P ++ Q) = ins nm x P ++ Q := by
  induction P with
  | nil => obtain ⟨y, hy, _⟩ := h; cases hy
  | cons z P ih =>
    simp only [List.cons_append]
    unfold ins
    split
    · rfl
    · rename_i hz
      obtain ⟨y, hy, hy2⟩ := h
      rcases List.mem_cons.1 hy with rfl | hy
      · exact absurd hy2 hz
      · rw [ih ⟨y, hy, hy2⟩]; rfl
theorem ins_none {x : α} {P : List α} (h : ∀ y ∈ P, nlt (nm x) (nm y) = false) (Q : List α) : ins nm x (P ++ Q) = P ++ ins nm x Q := by
  induction P with
  | nil => rfl
  | cons z P ih =>
    simp only [List.cons_append]
    conv => lhs; unfold ins
    rw [if_neg (by rw [h z (by simp)]; simp), ih fun y hy => h y (by simp [hy])]
/-- The list behind k rounds. -/
def insK (x : α) (L : List α) (k : Nat) (dn : Bool) : List α := if dn then ins nm x (L.take k) else L.take k
end
def hasK (x : Rf) (L : List Rf) (k : Nat) (dn : Bool) : Prop := (dn = true → ∃ y ∈ L.take k, nlt x.name y.name = true) ∧ (dn = false → ∀ y ∈ L.take k, nlt x.name y.name = false)
theorem insK_done {x r : Rf} {L : List Rf} {k : Nat} (hr : L[k]? = some r) (h : hasK x L k true) : insK (nm := Rf.name) x L (k + 1) true = insK (nm := Rf.name) x L k true ++ [r] ∧ hasK x L (k + 1) true := by
  obtain ⟨y, hy, hy2⟩ := h.1 rfl
  have e : L.take (k + 1) = L.take k ++ [r] := by rw [List.take_add_one, hr]; rfl
  refine ⟨?_, fun _ => ⟨y, by rw [e]; exact List.mem_append.2 (.inl hy), hy2⟩, fun h => by cases h⟩
  simp only [insK, if_true]
  rw [e]
  exact ins_some ⟨y, hy, hy2⟩ [r]
theorem insK_here {x r : Rf} {L : List Rf} {k : Nat} (hr : L[k]? = some r) (h : hasK x L k false) (hl : nlt x.name r.name = true) : insK (nm := Rf.name) x L (k + 1) true = (insK (nm := Rf.name) x L k false ++ [x]) ++ [r] ∧ hasK x L (k + 1) true := by
  have e : L.take (k + 1) = L.take k ++ [r] := by rw [List.take_add_one, hr]; rfl
  refine ⟨?_, fun _ => ⟨r, by rw [e]; simp, hl⟩, fun h => by cases h⟩
  simp only [insK, if_true]
  rw [e, ins_none (h.2 rfl)]
  have : ins Rf.name x [r] = [x, r] := by unfold ins; exact if_pos hl
  rw [this]
  simp
theorem insK_not {x r : Rf} {L : List Rf} {k : Nat} (hr : L[k]? = some r) (h : hasK x L k false) (hl : nlt x.name r.name = false) : insK (nm := Rf.name) x L (k + 1) false = insK (nm := Rf.name) x L k false ++ [r] ∧ hasK x L (k + 1) false := by
  have e : L.take (k + 1) = L.take k ++ [r] := by rw [List.take_add_one, hr]; rfl
  refine ⟨?_, (fun h => by cases h), fun _ y hy => ?_⟩
  · simp only [insK]
    simpa using e
  · rw [e] at hy
    rcases List.mem_append.1 hy with hy | hy
    · exact h.2 rfl y hy
    · simp at hy; subst hy; exact hl
theorem insK_end_done {x : Rf} {L : List Rf} : insK (nm := Rf.name) x L L.length true = ins Rf.name x L := by simp [insK]
theorem insK_end_not {x : Rf} {L : List Rf} (h : hasK x L L.length false) : insK (nm := Rf.name) x L L.length false ++ [x] = ins Rf.name x L := by
  have h2 : ∀ y ∈ L, nlt x.name y.name = false := fun y hy => h.2 rfl y (by simpa using hy)
  have := ins_none (nm := Rf.name) (x := x) h2 []
  simp only [List.append_nil] at this
  rw [this]
  simp [insK, ins]
theorem insK_len (x : Rf) (L : List Rf) (k : Nat) (dn : Bool) : (insK (nm := Rf.name) x L k dn).length ≤ L.length + 1 := by
  unfold insK
  split
  · rw [ins_length, List.length_take]; omega
  · rw [List.length_take]; omega
def RelI (x : Rf) (L : List Rf) (B : Nat) (w : World) (l dn i : Value) (wr : World) : Prop :=
  ∃ (k : Nat) (b : Bool) (A : Option Addr) (c : Nat), l = .slice A (insK (nm := Rf.name) x L k b).length c ∧ dn = .bool b ∧ i = .int .i64 k ∧ k ≤ L.length ∧ hasK x L k b ∧ OwnG 77 4 enF B wr A c (insK (nm := Rf.name) x L k b) ∧ Below B w wr
def fval (r : Rf) : Value := .agg #[.string r.f.name, .slice r.A r.f.b.length r.c, .int .i64 r.f.syn, .bool r.f.ever]
def fcs (r : Rf) : Array Value := #[.string r.f.name, .slice r.A r.f.b.length r.c, .int .i64 r.f.syn, .bool r.f.ever]

theorem Ref.bounded {T : Nat → Prop} {w : World} {A : Option Addr} {c : Nat} {rs : List Rf} (h : Ref T w A c rs) : Ref (fun k => T k ∧ k < w.heap.size) w A c rs := by
  refine ⟨h.1, fun hne a ha => ⟨h.2.1 hne a ha, ?_⟩, fun r hr => ⟨(h.2.2 r hr).1, (h.2.2 r hr).2.1, fun hne a ha => ⟨(h.2.2 r hr).2.2 hne a ha, ?_⟩⟩⟩
  · obtain ⟨b, o, h1, h2, _⟩ := h.1.at_ elF (List.length_pos_iff.2 hne)
    rw [h1] at ha
    injection ha with ha
    subst ha
    exact h2
  · obtain ⟨b, o, h1, h2, _⟩ := (h.2.2 r hr).1.at_ (List.length_pos_iff.2 hne)
    rw [h1] at ha
    injection ha with ha
    subst ha
    exact h2
/-- A whole struct of four cells is stored. -/
theorem set4 {w : World} {g : Nat} {cs : Array Value} {t : TypeId} (h : Blk w g cs t) (hc : cs.size = 4) (x0 x1 x2 x3 : Value) : Blk ((((w.setCell ⟨g, 0, none⟩ x0).setCell ⟨g, 1, none⟩ x1).setCell ⟨g, 2, none⟩ x2).setCell ⟨g, 3, none⟩ x3) g #[x0, x1, x2, x3] t := by
  have := (((h.set 0 x0).set 1 x1).set 2 x2).set 3 x3
  have e : ((((cs.setIfInBounds 0 x0).setIfInBounds 1 x1).setIfInBounds 2 x2).setIfInBounds 3 x3) = #[x0, x1, x2, x3] := by
    obtain ⟨l⟩ := cs
    match l, hc with
    | [a, b, c, d], _ => rfl
  rw [e] at this
  exact this
theorem set4_other {w : World} {g k : Nat} (hk : k ≠ g) (x0 x1 x2 x3 : Value) : ((((w.setCell ⟨g, 0, none⟩ x0).setCell ⟨g, 1, none⟩ x1).setCell ⟨g, 2, none⟩ x2).setCell ⟨g, 3, none⟩ x3).heap[k]? = w.heap[k]? := by
  rw [Below.heap_setCell _ _ _ k hk, Below.heap_setCell _ _ _ k hk, Below.heap_setCell _ _ _ k hk, Below.heap_setCell _ _ _ k hk]
theorem set4_size (w : World) (g : Nat) (x0 x1 x2 x3 : Value) : ((((w.setCell ⟨g, 0, none⟩ x0).setCell ⟨g, 1, none⟩ x1).setCell ⟨g, 2, none⟩ x2).setCell ⟨g, 3, none⟩ x3).heap.size = w.heap.size := by
  rw [setCell_size, setCell_size, setCell_size, setCell_size]
theorem set4_below {w w' : World} {N g : Nat} (h : Below N w w') (hg : N ≤ g) (x0 x1 x2 x3 : Value) : Below N w ((((w'.setCell ⟨g, 0, none⟩ x0).setCell ⟨g, 1, none⟩ x1).setCell ⟨g, 2, none⟩ x2).setCell ⟨g, 3, none⟩ x3) :=
  (((h.setCell (p := ⟨g, 0, none⟩) hg _).setCell (p := ⟨g, 1, none⟩) hg _).setCell (p := ⟨g, 2, none⟩) hg _).setCell (p := ⟨g, 3, none⟩) hg _
theorem rwith_out {T : Nat → Prop} {w w' : World} {B : Nat} {A : Option Addr} {c : Nat} {rs : List Rf} {x : Rf} {A0 : Option Addr} {c0 : Nat} (h0 : Ref T w A0 c0 rs) (hx : Lies w x.A x.c x.f.b) (hxT : x.f.b ≠ [] → ∀ a, x.A = some a → T a.block) (hxc : x.f.b.length ≤ x.c) (hB : w.heap.size ≤ B) (hown : OwnG 77 4 enF B w' A c (wi Rf.name rs x)) (hb : Below w.heap.size w w') : Ref (fun k => T k ∨ w.heap.size ≤ k) w' A c (wi Rf.name rs x) := by
  refine ⟨hown.cells, fun hne a ha => ?_, fun r hr => ?_⟩
  · have := (hown.row a.block (by rw [ha]; rfl)).1
    exact .inr (by omega)
  · rcases mem_wi.1 hr with rfl | ⟨hr1, _⟩
    · exact ⟨hx.below hb, hxc, fun hne a ha => .inl (hxT hne a ha)⟩
    · have := h0.2.2 r hr1
      exact ⟨this.1.below hb, this.2.1, fun hne a ha => .inl (this.2.2 hne a ha)⟩
set_option maxRecDepth 20000 in
set_option maxHeartbeats 4000000 in
theorem rwith_calls {T : Nat → Prop} (cap : Int) (A : Option Addr) (c : Nat) (ar : Bool) (fu : Int) (rs : List Rf) (x : Rf) (w : World) (h : Ref T w A c rs) (hl : rs.length ≤ 100000) (hx : Lies w x.A x.c x.f.b) (hxc : x.f.b.length ≤ x.c) (hxT : x.f.b ≠ [] → ∀ a, x.A = some a → T a.block) (hxn : x.f.name.size ≤ reachBytes) (hns : ∀ r ∈ rs, r.f.name.size ≤ reachBytes) :
    Calls Try.prog 46 #[dval cap A rs.length c ar fu, fval x] w (RefOut T w cap ar fu (wi Rf.name rs x)) := by
  obtain ⟨W0, hW0⟩ : ∃ W0, W0 = ((w.alloc (.cells #[.int .i64 cap, .slice A rs.length c, .bool ar, .int .i64 fu] 32)).alloc (.cells (fcs x) 77)).alloc (.cells #[.int .i64 0, .slice none 0 0, .bool false, .int .i64 0] 32) := ⟨_, rfl⟩
  have b1 : Blk W0 w.heap.size #[.int .i64 cap, .slice A rs.length c, .bool ar, .int .i64 fu] 32 := by rw [hW0]; exact ((Blk.new w _ 32).alloc _).alloc _
  have b2 : Blk W0 (w.heap.size + 1) (fcs x) 77 := by rw [hW0]; exact (Blk.newAt _ _ _ (by simp)).alloc _
  have b3 : Blk W0 (w.heap.size + 2) #[.int .i64 0, .slice none 0 0, .bool false, .int .i64 0] 32 := by rw [hW0]; exact Blk.newAt _ _ _ (by simp)
  have hsz : W0.heap.size = w.heap.size + 3 := by rw [hW0]; simp
  have hbW : Below w.heap.size w W0 := by rw [hW0]; exact (below_two _ _ _).alloc (by simp; omega) _
  have HWO := Lib.hid (rwithout_calls cap A c ar fu rs x.f.name W0 (h.bounded.below hbW) hl)
  unfold dval at HWO
  have HR := Lib.hid h
  have HXL := Lib.hid hx
  have HXT := Lib.hid hxT
  have HNS := Lib.hid hns
  have HB1 := Lib.hid b1
  have HB2 := Lib.hid b2
  have HB3 := Lib.hid b3
  have HSZ := Lib.hid hsz
  have HBW := Lib.hid hbW
  have c0 := b1.cell 0
  have c1 := b1.cell 1
  have c2 := b1.cell 2
  have c3 := b1.cell 3
  have d0 := b2.cell 0
  unfold fcs at d0
  have hu30 := run_underlying (P := Try.prog) Try.underlying30
  clear b1 b2 b3 hsz hbW h hx hxT hns
  unfold dval fval
  unfold fcs at hW0
  go_enter Try.func46, Try.ntmps46
  go_wp2_with fail
  rw [← hW0]
  clear hW0
  refine HWO.out.mono ?_
  rintro e w1 ⟨A1, c1', rfl, hRef1, hb1⟩
  dsimp only [dval]
  obtain ⟨L, hL⟩ : ∃ L, L = wo Rf.name rs x.f.name := ⟨_, rfl⟩
  rw [← hL] at hRef1 ⊢
  have hLl : L.length ≤ 100000 := by rw [hL]; exact Nat.le_trans (wo_length_le _ _) hl
  have hw1 : w.heap.size + 3 ≤ w1.heap.size := by rw [← HSZ.out]; exact hb1.size
  have p1 : Blk w1 w.heap.size _ 32 := HB1.out.below hb1 (by rw [HSZ.out]; omega)
  have p2 : Blk w1 (w.heap.size + 1) _ 77 := HB2.out.below hb1 (by rw [HSZ.out]; omega)
  have p3 : Blk w1 (w.heap.size + 2) _ 32 := HB3.out.below hb1 (by rw [HSZ.out]; omega)
  obtain ⟨W, hW⟩ : ∃ W, W = (((w1.setCell ⟨w.heap.size, 0, none⟩ (.int .i64 cap)).setCell ⟨w.heap.size, 1, none⟩ (.slice A1 L.length c1')).setCell ⟨w.heap.size, 2, none⟩ (.bool ar)).setCell ⟨w.heap.size, 3, none⟩ (.int .i64 fu) := ⟨_, rfl⟩
  have q1 : Blk W w.heap.size #[.int .i64 cap, .slice A1 L.length c1', .bool ar, .int .i64 fu] 32 := by rw [hW]; exact set4 p1 rfl _ _ _ _
  have q2 : Blk W (w.heap.size + 1) (fcs x) 77 := by rw [hW]; exact (set4_other (by omega) _ _ _ _).trans p2
  have q3 : Blk W (w.heap.size + 2) #[.int .i64 0, .slice none 0 0, .bool false, .int .i64 0] 32 := by rw [hW]; exact (set4_other (by omega) _ _ _ _).trans p3
  have hWs : W.heap.size = w1.heap.size := by rw [hW]; exact set4_size _ _ _ _ _ _
  have hRefW : Ref (fun k => (T k ∧ k < w.heap.size) ∨ W0.heap.size ≤ k) W A1 c1' L := hRef1.kept fun k hk hk2 => by
    rw [hW]
    refine set4_other (fun e => ?_) _ _ _ _
    rcases hk with hk | hk
    · omega
    · rw [HSZ.out] at hk; omega
  have hbW : Below w.heap.size w W := by rw [hW]; exact set4_below (HBW.out.trans (hb1.mono (by rw [HSZ.out]; omega))) (Nat.le_refl _) _ _ _ _
  have k0 := p1.cell 0
  have k1 := p1.cell 1
  have k2 := p1.cell 2
  have k3 := p1.cell 3
  have l0 := p1.free 0
  have l1 := p1.free 1
  have l2 := p1.free 2
  have l3 := p1.free 3
  have HL := Lib.hid hL
  have HW1 := Lib.hid hw1
  have HQ1 := Lib.hid q1
  have HQ2 := Lib.hid q2
  have HQ3 := Lib.hid q3
  have HWS := Lib.hid hWs
  have HRW := Lib.hid hRefW
  have HBWW := Lib.hid hbW
  clear hL hw1 p1 p2 p3 q1 q2 q3 hWs hRefW hbW hRef1 hb1 c0 c1 c2 c3 d0
  go_wp2
  rw [← hW]
  clear hW k0 k1 k2 k3 l0 l1 l2 l3
  go_loopw [5, 6, 7] (RelI x L W.heap.size W) (fun _ _ i _ => L.length - (intOf i).toNat)
  case atStart => exact ⟨0, false, none, 0, rfl, rfl, rfl, by omega, ⟨(fun h => by cases h), fun _ y hy => by simp at hy⟩, OwnG.nil _ _, Below.refl _ _⟩
  case round =>
    obtain ⟨k, dn, A2, c2, rfl, rfl, rfl, hk, hhas, hown, hbl⟩ := hrel
    obtain ⟨X, hX⟩ : ∃ X, X = insK (nm := Rf.name) x L k dn := ⟨_, rfl⟩
    rw [← hX] at hown ⊢
    have hXl : X.length ≤ 200000 := by rw [hX]; have := insK_len x L k dn; omega
    have HX := Lib.hid hX
    have HHAS := Lib.hid hhas
    have HOW := Lib.hid hown
    have HBL := Lib.hid hbl
    have hlo : w.heap.size + 3 ≤ W.heap.size := by rw [HWS.out]; exact HW1.out
    have b1r := HQ1.out.below hbl (by omega)
    have b2r := HQ2.out.below hbl (by omega)
    have c1 := b1r.cell 1
    have d0 := b2r.cell 0
    have d1 := b2r.cell 1
    have d2 := b2r.cell 2
    have d3 := b2r.cell 3
    unfold fcs at d0 d1 d2 d3
    have hszr : W.heap.size ≤ wr.heap.size := hbl.size
    have HLO := Lib.hid hlo
    have HZR := Lib.hid hszr
    clear hX hhas hown hbl b1r b2r hszr hlo
    by_cases hlt : k < L.length
    · have hlti : (k : Int) < (L.length : Int) := by omega
      obtain ⟨r, hr⟩ : ∃ r, L[k]? = some r := ⟨L[k], by simp [hlt]⟩
      obtain ⟨b, o, hA, hbs, g0, g1, g2, g3⟩ := HRW.out.cellAt HBL.out hr
      subst hA
      have HRK := Lib.hid hr
      have hrn : r.f.name.size ≤ reachBytes := HNS.out r (by
        have h1 := List.mem_of_getElem? hr
        rw [HL.out] at h1
        exact (mem_wo.1 h1).1)
      have HLS := Lib.hid (fun W' => less_calls x.f.name r.f.name W' hxn hrn)
      have hown2 := HOW.out.alloc (.cells (fcs x) 77)
      have hownr := HOW.out.alloc (.cells (fcs r) 77)
      have hA2 : W.heap.size ≤ (wr.alloc (.cells (fcs x) 77)).heap.size := by have := HZR.out; simp; omega
      have hA2r : W.heap.size ≤ (wr.alloc (.cells (fcs r) 77)).heap.size := by have := HZR.out; simp; omega
      have HO2 := Lib.hid hown2
      have HOR := Lib.hid hownr
      have HA2 := Lib.hid hA2
      have HA2R := Lib.hid hA2r
      have HA3 := Lib.hid (cells_one_val elF wr x (fcs x) rfl)
      have HA3R := Lib.hid (cells_one_val elF wr r (fcs r) rfl)
      have HA1 := Lib.hid (show X.length + [r].length ≤ 1000000000 by simp; omega)
      clear hr hrn hown2 hownr hA2 hA2r
      cases dn with
      | true =>
        obtain ⟨hs1, hs2⟩ := insK_done HRK.out HHAS.out
        rw [← HX.out] at hs1
        have HS1 := Lib.hid hs1
        have HS2 := Lib.hid hs2
        clear hs1 hs2
        unfold fcs at HOR HA2R HA3R
        go_wp2_with fail
        go_quiet (fail)
        go_wp2_with (at_builtin; go_must (refine wpList_append_vals elF rfl _ _ 30 Try.underlying30 rfl W.heap.size A2 c2 X rfl HOR.out (some ⟨wr.heap.size, 0, none⟩) 1 [r] rfl HA3R.out HA1.out (by decide) HA2R.out ?_); intro A7 c7 w7 R7 hR7 hown7 hgrow7)
        go_roundw
        case rel =>
          have e := hR7.out.trans HS1.out.symm
          subst e
          exact ⟨k + 1, true, A7, c7, rfl, rfl, by go_num, by omega, HS2.out, hown7, OwnG.grow HOR.out (HBL.out.alloc HZR.out _) ⟨hgrow7.os, hgrow7.tape, hgrow7.output, hgrow7.size, hgrow7.block⟩ HA2R.out⟩
        case measure => simp [intOf]; omega
      | false =>
        by_cases hls : nlt x.name r.name = true
        · obtain ⟨hs1, hs2⟩ := insK_here HRK.out HHAS.out hls
          rw [← HX.out] at hs1
          have HS1 := Lib.hid hs1
          have HS2 := Lib.hid hs2
          have hls2 : ltT (sl x.f.name) (sl r.f.name) = true := hls
          rw [hls2] at HLS
          clear hs1 hs2 hls hls2
          have HBS := Lib.hid hbs
          unfold fcs at HO2 HA2 HA3
          go_wp2_with fail
          go_quiet ((go_at_call 51; refine Calls.quiet_of (HLS.out _)))
          go_wp2_with (first | (at_builtin; refine wpList_append_vals elF rfl _ _ 30 Try.underlying30 rfl W.heap.size A2 c2 X rfl HO2.out (some ⟨wr.heap.size, 0, none⟩) 1 [x] rfl HA3.out HA1.out (by decide) HA2.out ?_; intro A7 c7 w7 R7 hR7 hown7 hgrow7; have hb7 := OwnG.grow HO2.out (HBL.out.alloc HZR.out _) ⟨hgrow7.os, hgrow7.tape, hgrow7.output, hgrow7.size, hgrow7.block⟩ HA2.out; have c1' := (HQ1.out.below hb7 (by have := HLO.out; omega)).cell 1; have g0' := ((hb7.cell (p := ⟨b, o + k * 4, none⟩) HBS.out).trans (HBL.out.cell (p := ⟨b, o + k * 4, none⟩) HBS.out).symm).trans g0; have g1' := ((hb7.cell (p := ⟨b, o + k * 4 + 1, none⟩) HBS.out).trans (HBL.out.cell (p := ⟨b, o + k * 4 + 1, none⟩) HBS.out).symm).trans g1; have g2' := ((hb7.cell (p := ⟨b, o + k * 4 + 2, none⟩) HBS.out).trans (HBL.out.cell (p := ⟨b, o + k * 4 + 2, none⟩) HBS.out).symm).trans g2; have g3' := ((hb7.cell (p := ⟨b, o + k * 4 + 3, none⟩) HBS.out).trans (HBL.out.cell (p := ⟨b, o + k * 4 + 3, none⟩) HBS.out).symm).trans g3; have HRL7 := Lib.hid (show R7.length + [r].length ≤ 1000000000 by rw [hR7.out]; simp; omega); have HB7 := Lib.hid hb7; have HO7 := Lib.hid hown7; clear hb7 hown7 hgrow7 g0 g1 g2 g3 c1 d0 d1 d2 d3) | (at_builtin; refine wpList_append_vals elF rfl _ _ 30 Try.underlying30 rfl W.heap.size A7 c7 R7 rfl (HO7.out.alloc _) (some ⟨w7.heap.size, 0, none⟩) 1 [r] rfl (cells_one_val elF w7 r #[.string r.f.name, .slice r.A r.f.b.length r.c, .int .i64 r.f.syn, .bool r.f.ever] rfl) HRL7.out (by decide) (by have := HB7.out.size; simp; omega) ?_; intro A8 c8 w8 R8 hR8 hown8 hgrow8))
          go_roundw
          case rel =>
            have e : R8 = insK (nm := Rf.name) x L (k + 1) true := by rw [hR8.out, hR7.out, HS1.out]
            subst e
            exact ⟨k + 1, true, A8, c8, rfl, rfl, by go_num, by omega, HS2.out, hown8, OwnG.grow (HO7.out.alloc _) (HB7.out.alloc HB7.out.size _) hgrow8 (by have := HB7.out.size; simp; omega)⟩
          case measure => simp [intOf]; omega
        · have hls' : nlt x.name r.name = false := by simpa using hls
          obtain ⟨hs1, hs2⟩ := insK_not HRK.out HHAS.out hls'
          rw [← HX.out] at hs1
          have HS1 := Lib.hid hs1
          have HS2 := Lib.hid hs2
          have hls2 : ltT (sl x.f.name) (sl r.f.name) = false := hls'
          rw [hls2] at HLS
          clear hs1 hs2 hls hls2 hls'
          unfold fcs at HOR HA2R HA3R
          go_wp2_with fail
          go_quiet ((go_at_call 51; refine Calls.quiet_of (HLS.out _)))
          go_wp2_with (at_builtin; go_must (refine wpList_append_vals elF rfl _ _ 30 Try.underlying30 rfl W.heap.size A2 c2 X rfl HOR.out (some ⟨wr.heap.size, 0, none⟩) 1 [r] rfl HA3R.out HA1.out (by decide) HA2R.out ?_); intro A7 c7 w7 R7 hR7 hown7 hgrow7)
          go_roundw
          case rel =>
            have e := hR7.out.trans HS1.out.symm
            subst e
            exact ⟨k + 1, false, A7, c7, rfl, rfl, by go_num, by omega, HS2.out, hown7, OwnG.grow HOR.out (HBL.out.alloc HZR.out _) ⟨hgrow7.os, hgrow7.tape, hgrow7.output, hgrow7.size, hgrow7.block⟩ HA2R.out⟩
          case measure => simp [intOf]; omega
    · have hd : decide ((k : Int) < (L.length : Int)) = false := by simp; omega
      have hkl : k = L.length := by omega
      cases dn with
      | true =>
        have HE := Lib.hid (show X = wi Rf.name rs x by
          rw [HX.out, hkl, insK_end_done, HL.out]; rfl)
        clear hkl
        have b1r := HQ1.out.below HBL.out (by have := HLO.out; omega)
        have b3r := HQ3.out.below HBL.out (by have := HLO.out; omega)
        have z1 := b1r.cell 1
        have f1 := b1r.free 1
        have b1s := b1r.set 1 (.slice A2 X.length c2)
        have e0 := b1s.cell 0
        have e1 := b1s.cell 1
        have e2 := b1s.cell 2
        have e3 := b1s.cell 3
        have b2s := b3r.other (a := ⟨w.heap.size, 1, none⟩) (show w.heap.size + 2 ≠ w.heap.size by omega) (.slice A2 X.length c2)
        have k0 := b2s.cell 0
        have k1 := b2s.cell 1
        have k2 := b2s.cell 2
        have k3 := b2s.cell 3
        have l0 := b2s.free 0
        have l1 := b2s.free 1
        have l2 := b2s.free 2
        have l3 := b2s.free 3
        clear b1r b3r b1s b2s
        go_wp2
        have h5 := ref_end (v := .slice A2 X.length c2) (x0 := .int .i64 cap) (x1 := .slice A2 X.length c2) (x2 := .bool ar) (x3 := .int .i64 fu) (HQ1.out.below HBL.out (by have := HLO.out; omega)) (HQ3.out.below HBL.out (by have := HLO.out; omega)) (show w.heap.size + 2 ≠ w.heap.size by omega) HOW.out (HBWW.out.trans (HBL.out.mono (by have := HLO.out; omega))) (Nat.le_refl _) (by omega)
        refine bodyPost_ret (results_cell1 rfl _ _ _ _ _ rfl (lv32 h5.1)) rfl ?_
        have e := HE.out
        subst e
        exact ⟨A2, c2, rfl, rwith_out HR.out HXL.out HXT.out hxc (by have := HLO.out; omega) h5.2.1 h5.2.2, h5.2.2⟩
      | false =>
        have hhk := HHAS.out
        rw [hkl] at hhk
        have HE0 := Lib.hid (show X ++ [x] = wi Rf.name rs x by
          rw [HX.out, hkl, insK_end_not hhk, HL.out]; rfl)
        clear hkl hhk
        have HO2 := Lib.hid (HOW.out.alloc (.cells (fcs x) 77))
        have HA2 := Lib.hid (show W.heap.size ≤ (wr.alloc (.cells (fcs x) 77)).heap.size by have := HZR.out; simp; omega)
        have HA3 := Lib.hid (cells_one_val elF wr x (fcs x) rfl)
        have HA1 := Lib.hid (show X.length + [x].length ≤ 1000000000 by simp; omega)
        unfold fcs at HO2 HA2 HA3
        go_wp2_with (at_builtin; refine wpList_append_vals elF rfl _ _ 30 Try.underlying30 rfl W.heap.size A2 c2 X rfl HO2.out (some ⟨wr.heap.size, 0, none⟩) 1 [x] rfl HA3.out HA1.out (by decide) HA2.out ?_; intro A7 c7 w7 R7 hR7 hown7 hgrow7; have HB7 := Lib.hid (OwnG.grow HO2.out (HBL.out.alloc HZR.out _) hgrow7 HA2.out); have HO7 := Lib.hid hown7; have HE := Lib.hid (hR7.out.trans HE0.out); clear hown7 hgrow7 c1 d0 d1 d2 d3 hR7; have b1r := HQ1.out.below HB7.out (by have := HLO.out; omega); have b3r := HQ3.out.below HB7.out (by have := HLO.out; omega); have z1 := b1r.cell 1; have f1 := b1r.free 1; have b1s := b1r.set 1 (.slice A7 R7.length c7); have e0 := b1s.cell 0; have e1 := b1s.cell 1; have e2 := b1s.cell 2; have e3 := b1s.cell 3; have b2s := b3r.other (a := ⟨w.heap.size, 1, none⟩) (show w.heap.size + 2 ≠ w.heap.size by omega) (.slice A7 R7.length c7); have k0 := b2s.cell 0; have k1 := b2s.cell 1; have k2 := b2s.cell 2; have k3 := b2s.cell 3; have l0 := b2s.free 0; have l1 := b2s.free 1; have l2 := b2s.free 2; have l3 := b2s.free 3; clear b1r b3r b1s b2s)
        have h5 := ref_end (v := .slice A7 R7.length c7) (x0 := .int .i64 cap) (x1 := .slice A7 R7.length c7) (x2 := .bool ar) (x3 := .int .i64 fu) (HQ1.out.below HB7.out (by have := HLO.out; omega)) (HQ3.out.below HB7.out (by have := HLO.out; omega)) (show w.heap.size + 2 ≠ w.heap.size by omega) HO7.out (HBWW.out.trans (HB7.out.mono (by have := HLO.out; omega))) (Nat.le_refl _) (by omega)
        refine bodyPost_ret (results_cell1 rfl _ _ _ _ _ rfl (lv32 h5.1)) rfl ?_
        have e := HE.out
        subst e
        exact ⟨A7, c7, rfl, rwith_out HR.out HXL.out HXT.out hxc (by have := HLO.out; omega) h5.2.1 h5.2.2, h5.2.2⟩
end Go.Proofs.Ytpnlgmnlanoncaa
