/-
  The walk of the law that plays a list of calls on both disks. Conditions: the bounds of an input.
-/
import Derived.Test.YtpnlgmnlanoncaaLStep
import Derived.Test.YtpnlgmnlanoncaaLMuch
import Derived.Test.YtpnlgmnlanoncaaDClone
import Derived.Deep.RegionHeld3
import Derived.Deep.CutRange
namespace Go.Proofs.Ytpnlgmnlanoncaa
open Go.ChangeShapes Go.WideShapes Go.ChangeAt Go.RowKit
set_option linter.unusedVariables false

/-- What holds in each round: the program's disk at sb and the document's disk in the block g hold the same. -/
structure Ply (w : World) (g : Nat) (z : Int) (sb : Nat) (S : Nat → Prop) (d : St) (A : Option Addr) (c : Nat) (rs : List Rf) (W : World) : Prop where
  hz : I64 z
  disk : DiskAt S W sb d
  fs : rs.map Rf.f = d.fs
  ref : Ref (fun k => ¬ S k ∧ k ≠ g) W A c rs
  gS : ¬ S g
  up : ∀ k, S k → w.heap.size ≤ k
  ge : w.heap.size ≤ g
  blk : Blk W g (vd z d A d.fs.length c) 32
  below : Below w.heap.size w W
def RelP (n : Nat) (w : World) (g : Nat) (p i : Value) (W : World) : Prop := ∃ (k : Nat) (z : Int) (sb : Nat) (S : Nat → Prop) (d : St) (A : Option Addr) (c : Nat) (rs : List Rf), p = .pointer (some ⟨sb, 0, none⟩) ∧ i = .int .i64 k ∧ k ≤ n ∧ Ply w g z sb S d A c rs W
section
variable {w W W1 : World} {g sb sb' : Nat} {z : Int} {S S1 : Nat → Prop} {d : St} {A : Option Addr} {c : Nat} {rs : List Rf}
/-- Another disk takes the old one's place. -/
theorem Ply.clone (h : Ply w g z sb S d A c rs W) (hd : DiskAt S1 W1 sb' d) (hS1 : ∀ k, S1 k → W.heap.size ≤ k) (ht : Touch S W W1) : Ply w g z sb' S1 d A c rs W1 where
  hz := h.hz
  disk := hd
  fs := h.fs
  ref := (h.ref.bounded.kept fun k hk hk2 => ht.block k hk2 hk.1.1).mono fun k hk => ⟨fun h1 => by have := hS1 k h1; have := hk.2; omega, hk.1.2⟩
  gS := fun h1 => by have := hS1 g h1; have := h.blk.lt; omega
  up := fun k hk => Nat.le_trans h.below.size (hS1 k hk)
  ge := h.ge
  blk := (ht.block g h.blk.lt h.gS).trans h.blk
  below := h.below.trans (ht.below h.up h.below.size)
theorem Ply.on (h : Ply w g z sb S d A c rs W) (hb : Below W.heap.size W W1) : Ply w g z sb S d A c rs W1 where
  hz := h.hz
  disk := h.disk.below hb
  fs := h.fs
  ref := h.ref.below hb
  gS := h.gS
  up := h.up
  ge := h.ge
  blk := h.blk.belowAll hb
  below := h.below.trans (hb.mono h.below.size)
/-- Both disks are others now; the document's is laid into its block. -/
theorem Ply.step {z2 : Int} {d2 : St} {A2 : Option Addr} {c2 : Nat} {rs2 : List Rf} (h : Ply w g z sb S d A c rs W) (hz : I64 z2) (hd : DiskAt S1 W1 sb d2) (hfs : rs2.map Rf.f = d2.fs) (hr : Ref (fun k => ¬ S1 k ∧ ((¬ S k ∧ k ≠ g) ∨ W.heap.size ≤ k)) W1 A2 c2 rs2) (ht : Touch S W W1) (hS : ∀ k, S1 k → S k ∨ W.heap.size ≤ k) :
    Ply w g z2 sb S1 d2 A2 c2 rs2 ((((W1.setCell ⟨g, 0, none⟩ (.int .i64 d2.cap)).setCell ⟨g, 1, none⟩ (.slice A2 d2.fs.length c2)).setCell ⟨g, 2, none⟩ (.bool (arV d2))).setCell ⟨g, 3, none⟩ (.int .i64 (fuV z2 d2))) := by
  have hg := h.blk.lt
  have hgS : ¬ S1 g := fun h1 => by
    rcases hS g h1 with h2 | h2
    · exact h.gS h2
    · omega
  have hb : Blk W1 g (vd z d A d.fs.length c) 32 := (ht.block g hg h.gS).trans h.blk
  refine ⟨hz, hd.kept (fun k hk => set4_other ?_ _ _ _ _) (fun _ hk => hk) (fun k hk => by rw [set4_size]; exact hd.lt k hk), hfs, (hr.kept fun k hk _ => set4_other ?_ _ _ _ _).mono fun k hk => ⟨hk.1, ?_⟩, hgS, fun k hk => ?_, h.ge, set4 hb rfl _ _ _ _, set4_below (h.below.trans (ht.below h.up h.below.size)) h.ge _ _ _ _⟩
  · intro e; exact hgS (e ▸ hk)
  · intro e
    subst e
    rcases hk.2 with h1 | h1
    · exact h1.2 rfl
    · omega
  · rcases hk.2 with h1 | h1
    · exact h1.2
    · omega
  · rcases hS k hk with h1 | h1
    · exact h.up k h1
    · exact Nat.le_trans h.below.size h1
end
theorem none_read {rs : List Rf} {d : St} {s : ByteArray} (hfs : rs.map Rf.f = d.fs) (h : ∀ r ∈ rs, r.f.name ≠ s) : (readS d s).1 = [] ∧ (readS d s).2 ≠ 0 := by
  have hf : fd Fl.name d.fs s = none := fd_none_of fun r hr e => by
    rw [← hfs] at hr
    obtain ⟨x, hx, rfl⟩ := List.mem_map.1 hr
    exact h x hx e
  unfold readS
  split
  · exact ⟨rfl, by decide⟩
  · rw [hf]; exact ⟨rfl, by decide⟩
theorem cells_lt {α : Type} {e sz : Nat} {bt : Nat} {zv : Value} {en : α → List Value} (E : El e sz bt zv en) {w : World} {A : Option Addr} {c : Nat} {xs : List α} (h : CellsG en w A c xs) (hne : xs ≠ []) : ∀ a, A = some a → a.block < w.heap.size := fun a ha => by
  obtain ⟨b, o, h1, h2, _⟩ := h.at_ E (List.length_pos_iff.2 hne)
  rw [h1] at ha
  injection ha with ha
  subst ha
  exact h2
theorem GoodA.below {w W : World} {a : Ac} (h : GoodA w a) (hb : Below w.heap.size w W) : GoodA W a := ⟨h.do_, h.n, h.name, h.to, h.b.below hb, h.isB, h.bl, h.bcap, h.keep.below hb, h.kr, h.kl⟩
/-- The old disk is written on; the copy stays. -/
theorem copy_kept {S S1 : Nat → Prop} {wr w1 w2 w4 : World} {sb' : Nat} {d : St} {o : Obj} (hlt : ∀ k, S k → k < wr.heap.size) (hb1 : Below wr.heap.size wr w1) (hd : DiskAt S1 w1 sb' d) (hS1 : ∀ k, S1 k → wr.heap.size ≤ k) (ht : Touch S w1 w2) (ht2 : Touch (Ext S w1 w2) (w2.alloc o) w4) : DiskAt S1 w4 sb' d ∧ Touch S wr w4 := by
  have h1 := hb1.size
  have h2 := ht.size
  have h4 := ht2.size
  have h3 : (w2.alloc o).heap.size = w2.heap.size + 1 := by simp
  rw [h3] at h4
  refine ⟨hd.kept (fun k hk => ?_) (fun _ hk => hk) (fun k hk => by have := hd.lt k hk; omega), ?_⟩
  · have hk1 := hd.lt k hk
    have hn : ¬ S k := fun h5 => by have := hlt k h5; have := hS1 k hk; omega
    refine (ht2.block k (by omega) fun h5 => ?_).trans ((Below.heap_alloc w2 o k (by omega)).trans (ht.block k hk1 hn))
    rcases h5 with h5 | h5
    · exact hn h5
    · omega
  · refine ((Touch.of_below hb1).on ht fun b hb => .inl hb).on ((Touch.alloc (Ext S w1 w2) w2 o).more ht2) fun b hb => ?_
    rcases hb with h5 | h5
    · exact .inl h5
    · exact .inr (by omega)

/-- The cells of a call. -/
def ActC (W : World) (b o : Nat) (x m : Int) (nm tn : ByteArray) (B : Option Addr) (lb bc : Nat) (K : Option Addr) (lk kc : Nat) : Prop :=
  W.cell? ⟨b, o, none⟩ = some (.int .i64 x) ∧ W.cell? ⟨b, o + 1, none⟩ = some (.int .i64 m) ∧ W.cell? ⟨b, o + 2, none⟩ = some (.string nm) ∧ W.cell? ⟨b, o + 3, none⟩ = some (.string tn) ∧ W.cell? ⟨b, o + 4, none⟩ = some (.slice B lb bc) ∧ W.cell? ⟨b, o + 5, none⟩ = some (.slice K lk kc)
theorem ActC.below {w W : World} {b o : Nat} {x m : Int} {nm tn : ByteArray} {B : Option Addr} {lb bc : Nat} {K : Option Addr} {lk kc : Nat} (h : ActC w b o x m nm tn B lb bc K lk kc) (hlt : b < w.heap.size) (hb : Below w.heap.size w W) : ActC W b o x m nm tn B lb bc K lk kc :=
  ⟨(hb.cell (p := ⟨b, o, none⟩) hlt).trans h.1, (hb.cell (p := ⟨b, o + 1, none⟩) hlt).trans h.2.1, (hb.cell (p := ⟨b, o + 2, none⟩) hlt).trans h.2.2.1, (hb.cell (p := ⟨b, o + 3, none⟩) hlt).trans h.2.2.2.1, (hb.cell (p := ⟨b, o + 4, none⟩) hlt).trans h.2.2.2.2.1, (hb.cell (p := ⟨b, o + 5, none⟩) hlt).trans h.2.2.2.2.2⟩
theorem keep10 {W : World} {g : Nat} {cap : Int} {A : Option Addr} {n c : Nat} {ar : Bool} {fu : Int} {b o : Nat} {x m : Int} {nm tn : ByteArray} {B : Option Addr} {lb bc : Nat} {K : Option Addr} {lk kc : Nat} (hb : Blk W g #[.int .i64 cap, .slice A n c, .bool ar, .int .i64 fu] 32) (ha : ActC W b o x m nm tn B lb bc K lk kc) :
    W.cell? ⟨g, 0, none⟩ = some (.int .i64 cap) ∧ W.cell? ⟨g, 1, none⟩ = some (.slice A n c) ∧ W.cell? ⟨g, 2, none⟩ = some (.bool ar) ∧ W.cell? ⟨g, 3, none⟩ = some (.int .i64 fu) ∧ ActC W b o x m nm tn B lb bc K lk kc := ⟨hb.cell 0, hb.cell 1, hb.cell 2, hb.cell 3, ha⟩
theorem append_zz {S : Nat → Prop} {w : World} {sb : Nat} {d : St} (h : DiskAt S w sb d) (q : Nat × Nat) : Calls Try.prog 13 #[.pointer (some ⟨sb, 0, none⟩), .string { data := #[122, 122] }, .slice (some ⟨w.heap.size, 0, none⟩) 1 1] (w.alloc (.cells #[.int .u8 1] 5 q)) fun e w' => (∃ v, e = .returned v) ∧ Touch S (w.alloc (.cells #[.int .u8 1] 5 q)) w' := by
  refine (append_calls (h.below ((Below.refl _ _).alloc (Nat.le_refl _) _)) { data := #[122, 122] } (by decide) (some ⟨w.heap.size, 0, none⟩) 1 [1] (lies_new w [1] #[.int .u8 1] q rfl 1) (fun _ a ha => ?_) (fun _ a ha => ?_) (fun x hx => ?_) (by decide)).mono fun e w' h => ⟨⟨_, h.1⟩, h.2.2⟩
  · injection ha with ha
    subst ha
    intro h1
    exact Nat.lt_irrefl _ (h.lt _ h1)
  · injection ha with ha
    subst ha
    simp
  · simp at hx
    subst hx
    decide

/-- Behind the law's step: s lies in the block h. -/
structure StepOut (S2 : Nat → Prop) (g : Nat) (wc : World) (sb h : Nat) (z3 : Int) (d3 : St) (A3 : Option Addr) (c3 : Nat) (rs3 : List Rf) (S3 : Nat → Prop) (W : World) : Prop where
  hz : I64 z3
  disk : DiskAt S3 W sb d3
  fs : rs3.map Rf.f = d3.fs
  ref : Ref (fun k => ¬ S3 k ∧ ((¬ S2 k ∧ k ≠ g) ∨ wc.heap.size ≤ k)) W A3 c3 rs3
  touch : Touch S2 wc W
  sub : ∀ k, S3 k → S2 k ∨ wc.heap.size ≤ k
  box : Blk W h (vd z3 d3 A3 d3.fs.length c3) 32
section
variable {S2 S3 : Nat → Prop} {g : Nat} {wc w5 : World} {sb : Nat} {z3 : Int} {d3 : St} {A3 : Option Addr} {c3 : Nat} {rs3 : List Rf}
theorem StepOut.later {Z : Array Value} (hlt : ∀ k, S2 k → k < wc.heap.size) (hz : I64 z3) (hd : DiskAt S3 w5 sb d3) (hfs : rs3.map Rf.f = d3.fs) (hr : Ref (fun k => ¬ S3 k ∧ (((¬ S2 k ∧ k ≠ g) ∧ k < wc.heap.size) ∨ (wc.alloc (.cells Z 32)).heap.size ≤ k)) w5 A3 c3 rs3) (ht : Touch S2 (wc.alloc (.cells Z 32)) w5) (hs : ∀ k, S3 k → S2 k ∨ (wc.alloc (.cells Z 32)).heap.size ≤ k) (hZ : Z.size = 4) :
    StepOut S2 g wc sb wc.heap.size z3 d3 A3 c3 rs3 S3 ((((w5.setCell ⟨wc.heap.size, 0, none⟩ (.int .i64 d3.cap)).setCell ⟨wc.heap.size, 1, none⟩ (.slice A3 d3.fs.length c3)).setCell ⟨wc.heap.size, 2, none⟩ (.bool (arV d3))).setCell ⟨wc.heap.size, 3, none⟩ (.int .i64 (fuV z3 d3))) := by
  have hsz : (wc.alloc (.cells Z 32)).heap.size = wc.heap.size + 1 := by simp
  have hnS : ¬ S2 wc.heap.size := fun h1 => Nat.lt_irrefl _ (hlt _ h1)
  rw [hsz] at hs
  have hbx : Blk w5 wc.heap.size Z 32 := (ht.block wc.heap.size (by rw [hsz]; omega) hnS).trans (Blk.new wc Z 32)
  have hb := set4_below (Below.refl wc.heap.size w5) (Nat.le_refl _) (.int .i64 d3.cap) (.slice A3 d3.fs.length c3) (.bool (arV d3)) (.int .i64 (fuV z3 d3))
  refine ⟨hz, hd.kept (fun k hk => set4_other ?_ _ _ _ _) (fun _ hk => hk) (fun k hk => by rw [set4_size]; exact hd.lt k hk), hfs, (hr.kept fun k hk _ => set4_other ?_ _ _ _ _).mono fun k hk => ⟨hk.1, ?_⟩, ?_, fun k hk => ?_, set4 hbx hZ _ _ _ _⟩
  · intro e
    subst e
    rcases hs _ hk with h1 | h1
    · exact hnS h1
    · omega
  · intro e
    subst e
    have h1 := hk.2
    rw [hsz] at h1
    omega
  · have h1 := hk.2
    rw [hsz] at h1
    rcases h1 with h1 | h1
    · exact .inl h1.1
    · exact .inr (by omega)
  · refine ((Touch.alloc S2 wc (.cells Z 32)).more ht).on (Touch.mk hb.os hb.tape hb.output hb.size (fun k hk hn => set4_other ?_ _ _ _ _) : Touch (fun k => wc.heap.size ≤ k) w5 _) (fun b hb => .inr hb)
    intro e
    exact hn (by omega)
  · rcases hs k hk with h1 | h1
    · exact .inl h1
    · exact .inr (by omega)
theorem StepOut.now (hz : I64 z3) (hd : DiskAt S3 w5 sb d3) (hfs : rs3.map Rf.f = d3.fs) (hr : Ref (fun k => ¬ S3 k ∧ (((¬ S2 k ∧ k ≠ g) ∧ k < wc.heap.size) ∨ wc.heap.size ≤ k)) w5 A3 c3 rs3) (ht : Touch S2 wc w5) (hs : ∀ k, S3 k → S2 k ∨ wc.heap.size ≤ k) :
    StepOut S2 g wc sb w5.heap.size z3 d3 A3 c3 rs3 S3 (w5.alloc (.cells #[.int .i64 d3.cap, .slice A3 d3.fs.length c3, .bool (arV d3), .int .i64 (fuV z3 d3)] 32)) := by
  have hb := below_one w5 (.cells #[.int .i64 d3.cap, .slice A3 d3.fs.length c3, .bool (arV d3), .int .i64 (fuV z3 d3)] 32)
  exact ⟨hz, hd.below hb, hfs, (hr.below hb).mono fun k hk => ⟨hk.1, hk.2.imp (fun h => h.1) id⟩, ht.on (Touch.of_below (S := S2) hb) (fun b hb => .inl hb), hs, Blk.new w5 _ 32⟩
end
set_option maxRecDepth 20000 in
set_option maxHeartbeats 4000000 in
theorem plays_calls (room : Int) (A : Option Addr) (c : Nat) (l : List Ac) (w : World) (hw : (Lit.int .i64 room).wf = true) (hm : l.length ≤ maxLen) (hc : CellsG enA w A c l) (hg : ∀ a ∈ l, GoodA w a) : Calls Try.prog 3 #[.int .i64 room, .slice A l.length c] w fun e w' => e = .returned (.bool true) ∧ Below w.heap.size w w' := by
  have HMU := Lib.hid (much_calls A c l w hc hg hm)
  have HC := Lib.hid hc
  have HG := Lib.hid hg
  have hr := i64_of_wf hw
  obtain ⟨n, hn⟩ : ∃ n, n = l.length := ⟨_, rfl⟩
  rw [← hn] at HMU hm ⊢
  have HN := Lib.hid hn
  unfold maxLen at hm
  have HRR := Lib.hid hr
  have hu22 := run_underlying (P := Try.prog) Try.underlying22
  clear hc hg hw hn hr
  go_enter Try.func3, Try.ntmps3
  go_wp2_with fail
  refine HMU.out.mono ?_
  rintro e w1 ⟨⟨r, rfl⟩, hb1⟩
  dsimp only
  have HB1 := Lib.hid hb1
  clear hb1
  cases r with
  | true =>
    go_wp2_with fail
    refine (live_calls _).mono ?_
    rintro e w2 ⟨rfl, hb2⟩
    dsimp only
    go_wp2
    go_ret
    exact ⟨rfl, Below.on HB1.out hb2⟩
  | false =>
    go_wp2_with fail
    by_cases hbad : room < 1 ∨ 1048576 < room
    · refine (new_bad room hbad w1).mono ?_
      rintro e w2 ⟨rfl, rfl⟩
      dsimp only
      by_cases h1 : room < 1
      · go_wp2_with (go_at_call 10; refine (code_calls _ _).mono ?_; rintro e w' ⟨rfl, rfl⟩)
        refine (live_calls _).mono ?_
        rintro e w2 ⟨rfl, hb2⟩
        dsimp only
        go_wp2
        go_ret
        exact ⟨rfl, Below.on HB1.out hb2⟩
      · have h1d : decide (room < 1) = false := by simpa using h1
        have h2 : 1048576 < room := by omega
        go_wp2_with (go_at_call 10; refine (code_calls _ _).mono ?_; rintro e w' ⟨rfl, rfl⟩)
        refine (live_calls _).mono ?_
        rintro e w2 ⟨rfl, hb2⟩
        dsimp only
        go_wp2
        go_ret
        exact ⟨rfl, Below.on HB1.out hb2⟩
    · have h1d : decide (room < 1) = false := by simp; omega
      have h2d : decide (1048576 < room) = false := by simp; omega
      refine (new_good room (by omega) (by omega) w1).mono ?_
      rintro e w2 ⟨sb, rfl, hd, hb2⟩
      dsimp only
      have HD := Lib.hid hd
      have HB2 := Lib.hid hb2
      have HROOM := Lib.hid hbad
      clear hd hb2 hbad
      unfold at_
      go_wp2_with (go_at_call 10; refine (code_calls _ _).mono ?_; rintro e w' ⟨rfl, rfl⟩)
      go_loopw [5, 8] (RelP n w w2.heap.size) (fun _ i _ => n - (intOf i).toNat)
      case atStart =>
        have hb3 := below_one w2 (.cells #[.int .i64 room, .slice none 0 0, .bool false, .int .i64 0] 32)
        have hbw2 : Below w.heap.size w w2 := Below.on HB1.out HB2.out
        refine ⟨0, 0, sb, _, newS room, none, 0, [], rfl, rfl, by omega, ⟨by omega, by omega⟩, HD.out.below hb3, rfl, Ref.nil _ _, fun h => ?_, fun k hk => ?_, hbw2.size, ?_, hbw2.trans (hb3.mono hbw2.size)⟩
        · have := h.2; omega
        · have := HB1.out.size; omega
        · exact Blk.new w2 _ 32
      case round =>
        obtain ⟨k, z, sb, S, d, A', c', rs, rfl, rfl, hk, P⟩ := hrel
        have HP := Lib.hid P
        by_cases hlt : k < n
        · have hlti : (k : Int) < (n : Int) := by omega
          obtain ⟨a, ha⟩ : ∃ a, l[k]? = some a := ⟨l[k]'(by rw [← HN.out]; exact hlt), by simp⟩
          have hga := HG.out a (List.mem_of_getElem? ha)
          obtain ⟨b0, o0, hA, hbs, j0, j1, j2, j3, j4, j5⟩ := acts_at HC.out (Below.refl _ _) ha
          subst hA
          obtain ⟨oo, hoo⟩ : ∃ oo, oo = o0 + k * 6 := ⟨_, rfl⟩
          obtain ⟨x, hx⟩ : ∃ x, x = a.do_ := ⟨_, rfl⟩
          obtain ⟨m, hm2⟩ : ∃ m, m = a.n := ⟨_, rfl⟩
          obtain ⟨nm, hnm⟩ : ∃ nm, nm = a.name := ⟨_, rfl⟩
          obtain ⟨tn, htn⟩ : ∃ tn, tn = a.to := ⟨_, rfl⟩
          obtain ⟨lb, hlb⟩ : ∃ lb, lb = a.b.length := ⟨_, rfl⟩
          obtain ⟨lk, hlk⟩ : ∃ lk, lk = a.keep.length := ⟨_, rfl⟩
          have hen : (enA a).toArray = #[.int .i64 x, .int .i64 m, .string nm, .string tn, .slice a.bA lb a.bc, .slice a.kA lk a.kc] := by rw [hx, hm2, hnm, htn, hlb, hlk]; rfl
          have HAC := Lib.hid (show ∀ W, Below w.heap.size w W → ActC W b0 (o0 + k * 6) x m nm tn a.bA lb a.bc a.kA lk a.kc by
            intro W hW
            rw [hx, hm2, hnm, htn, hlb, hlk]
            exact ActC.below ⟨j0, j1, j2, j3, j4, j5⟩ hbs hW)
          have HEN := Lib.hid hen
          have HGA := Lib.hid hga
          have HNS := Lib.hid (show nm.size ≤ maxLen by rw [hnm]; exact reach_max hga.name)
          obtain ⟨j0, j1, j2, j3, j4, j5⟩ := HAC.out wr P.below
          clear hoo hx hm2 hnm htn hlb hlk hen hga ha P oo
          go_upto_if 59 with fail
          go_cut [5] from 48 to 122 (fun s5 wx => ∃ sb2 S2, s5 = .pointer (some ⟨sb2, 0, none⟩) ∧ Ply w w2.heap.size z sb2 S2 d A' c' rs wx)
          case first =>
            by_cases hx6 : x = 6
            · subst hx6
              go_wp2_with fail
              refine (clone_disk HP.out.disk).mono ?_
              rintro e w3 ⟨sb', rfl, hd3, hb3⟩
              obtain ⟨q0, q1, q2, q3, q4, q5⟩ := HAC.out w3 (HP.out.below.trans (hb3.mono HP.out.below.size))
              have HD3 := Lib.hid hd3
              have HB3 := Lib.hid hb3
              clear hd3 hb3 j0 j1 j2 j3 j4 j5
              dsimp only [at_]
              go_wp2_with fail
              refine (remove_calls (HP.out.disk.below HB3.out) nm HNS.out).mono ?_
              rintro e w4 ⟨rfl, hd4, ht4⟩
              have HD4 := Lib.hid hd4
              have HT4 := Lib.hid ht4
              clear hd4 ht4 q0 q1 q2 q3 q4 q5
              dsimp only
              go_wp2_with fail
              refine (append_zz HD4.out _).mono ?_
              rintro e w5 ⟨⟨v5, rfl⟩, ht5⟩
              have CK := copy_kept HP.out.disk.lt HB3.out HD3.out (fun k hk => hk.1) HT4.out ht5
              have HPC := Lib.hid (HP.out.clone CK.1 (fun k hk => hk.1) CK.2)
              clear CK ht5
              dsimp only
              go_wp2_with fail
              go_meet
              exact ⟨sb', _, rfl, HPC.out⟩
            · have hx6d : (x == 6) = false := by simp [hx6]
              go_wp2_with fail
              go_meet
              exact ⟨sb, S, rfl, HP.out⟩
          case rest =>
            obtain ⟨sb2, S2, rfl, P2⟩ := hcut
            have HP2 := Lib.hid P2
            clear j0 j1 j2 j3 j4 j5
            obtain ⟨cap, hcap⟩ : ∃ y, y = d.cap := ⟨_, rfl⟩
            obtain ⟨nf, hnf⟩ : ∃ y, y = d.fs.length := ⟨_, rfl⟩
            obtain ⟨ar, har⟩ : ∃ y, y = arV d := ⟨_, rfl⟩
            obtain ⟨fu, hfu⟩ : ∃ y, y = fuV z d := ⟨_, rfl⟩
            have hdv : dv z d A' c' = .agg #[.int .i64 cap, .slice A' nf c', .bool ar, .int .i64 fu] := by rw [hcap, hnf, har, hfu]; rfl
            have hblk : Blk wc w2.heap.size #[.int .i64 cap, .slice A' nf c', .bool ar, .int .i64 fu] 32 := by rw [hcap, hnf, har, hfu]; exact P2.blk
            obtain ⟨p0, p1, p2, p3⟩ := hblk.cells4
            have HBG := Lib.hid hblk
            have HST := Lib.hid (show ∀ W, Below wc.heap.size wc W → Calls Try.prog 14 #[.pointer (some ⟨sb2, 0, none⟩), .agg #[.int .i64 cap, .slice A' nf c', .bool ar, .int .i64 fu], .agg #[.int .i64 x, .int .i64 m, .string nm, .string tn, .slice a.bA lb a.bc, .slice a.kA lk a.kc]] W (Stepped (fun k => (¬ S2 k ∧ k ≠ w2.heap.size) ∧ k < wc.heap.size) S2 W sb2) by
              intro W hbd
              have hbw : Below w.heap.size w W := P2.below.trans (hbd.mono P2.below.size)
              have H := step_calls P2.hz (P2.on hbd).disk A' c' rs P2.fs (P2.ref.bounded.below hbd) (fun k hk => hk.1.1) a (HGA.out.below hbw)
                (fun hne y hy h1 => by have h2 := lies_lt HGA.out.b hne y hy; have h3 := P2.up _ h1; omega)
                (fun hne y hy => Nat.lt_of_lt_of_le (lies_lt HGA.out.b hne y hy) hbw.size)
                (fun hne y hy h1 => by have h2 := cells_lt elI HGA.out.keep hne y hy; have h3 := P2.up _ h1; omega)
                (fun hne y hy => Nat.lt_of_lt_of_le (cells_lt elI HGA.out.keep hne y hy) hbw.size)
              rw [hdv, HEN.out] at H
              exact H)
            have HWA := Lib.hid (show Below wc.heap.size wc (wc.alloc (.cells #[.int .i64 0, .slice none 0 0, .bool false, .int .i64 0] 32)) from below_one wc _)
            obtain ⟨j0, j1, j2, j3, j4, j5⟩ := HAC.out wc P2.below
            have t0 := (hblk.alloc (.cells #[.int .i64 0, .slice none 0 0, .bool false, .int .i64 0] 32)).cells4
            obtain ⟨t0, t1, t2, t3⟩ := t0
            obtain ⟨y0, y1, y2, y3, y4, y5⟩ := HAC.out (wc.alloc (.cells #[.int .i64 0, .slice none 0 0, .bool false, .int .i64 0] 32)) (P2.below.trans (HWA.out.mono P2.below.size))
            clear P2 hblk hdv hcap hnf har hfu
            go_upto_region 17 with fail
            go_cut [10, 11] from 48 to 122 (fun s10 s11 wx => ∃ h z3 d3 A3 c3 rs3 S3, s10 = .pointer (some ⟨h, 0, none⟩) ∧ s11 = .bool true ∧ StepOut S2 w2.heap.size wc sb2 h z3 d3 A3 c3 rs3 S3 wx)
            case first =>
              go_region_held3 (fun W => W.cell? ⟨w2.heap.size, 0, none⟩ = some (.int .i64 cap) ∧ W.cell? ⟨w2.heap.size, 1, none⟩ = some (.slice A' nf c') ∧ W.cell? ⟨w2.heap.size, 2, none⟩ = some (.bool ar) ∧ W.cell? ⟨w2.heap.size, 3, none⟩ = some (.int .i64 fu) ∧ W.cell? ⟨b0, o0 + k * 6, none⟩ = some (.int .i64 x) ∧ W.cell? ⟨b0, o0 + k * 6 + 1, none⟩ = some (.int .i64 m) ∧ W.cell? ⟨b0, o0 + k * 6 + 2, none⟩ = some (.string nm) ∧ W.cell? ⟨b0, o0 + k * 6 + 3, none⟩ = some (.string tn) ∧ W.cell? ⟨b0, o0 + k * 6 + 4, none⟩ = some (.slice a.bA lb a.bc) ∧ W.cell? ⟨b0, o0 + k * 6 + 5, none⟩ = some (.slice a.kA lk a.kc)) (first | exact ⟨p0, p1, p2, p3, j0, j1, j2, j3, j4, j5⟩ | exact ⟨t0, t1, t2, t3, y0, y1, y2, y3, y4, y5⟩ | exact KE.out | exact KA.out _ | exact KS.out _ _ _ _) (first | (go_at_call 14; refine (HST.out wc.drew (below_drew wc)).mono ?_; rintro e w5 ⟨S3, z3, d3, A3, c3, rs3, rfl, hz3, hd3, hfs3, hr3, ht3, hs3⟩; have ht3' : Touch S2 wc w5 := ⟨ht3.os, ht3.tape, ht3.output, ht3.size, ht3.block⟩; have hbg : Blk w5 w2.heap.size #[.int .i64 cap, .slice A' nf c', .bool ar, .int .i64 fu] 32 := (ht3'.block _ HBG.out.lt HP2.out.gS).trans HBG.out; have hbw5 : Below w.heap.size w w5 := HP2.out.below.trans (ht3'.below HP2.out.up HP2.out.below.size); have KE := Lib.hid (keep10 hbg (HAC.out w5 hbw5)); have KA := Lib.hid (fun o => keep10 (hbg.alloc o) (HAC.out _ (hbw5.alloc hbw5.size o))); have OUT := Lib.hid (StepOut.now hz3 hd3 hfs3 hr3 ht3' hs3); clear hbg hbw5 hz3 hd3 hfs3 hr3 hs3 ht3 ht3'; dsimp only [dv, dval]) | (go_at_call 14; refine (HST.out (wc.alloc (.cells #[.int .i64 0, .slice none 0 0, .bool false, .int .i64 0] 32)).drew HWA.out.drew).mono ?_; rintro e w5 ⟨S3, z3, d3, A3, c3, rs3, rfl, hz3, hd3, hfs3, hr3, ht3, hs3⟩; have ht3' : Touch S2 (wc.alloc (.cells #[.int .i64 0, .slice none 0 0, .bool false, .int .i64 0] 32)) w5 := ⟨ht3.os, ht3.tape, ht3.output, ht3.size, ht3.block⟩; have hbg : Blk w5 w2.heap.size #[.int .i64 cap, .slice A' nf c', .bool ar, .int .i64 fu] 32 := (ht3'.block _ (Nat.lt_of_lt_of_le HBG.out.lt HWA.out.size) HP2.out.gS).trans (HBG.out.alloc _); have hbw5 : Below w.heap.size w w5 := (HP2.out.below.trans (HWA.out.mono HP2.out.below.size)).trans (ht3'.below HP2.out.up (Nat.le_trans HP2.out.below.size HWA.out.size)); have hbh : Blk w5 wc.heap.size #[.int .i64 0, .slice none 0 0, .bool false, .int .i64 0] 32 := (ht3'.block _ (Blk.new wc #[.int .i64 0, .slice none 0 0, .bool false, .int .i64 0] 32).lt (fun h1 => Nat.lt_irrefl _ (HP2.out.disk.lt _ h1))).trans (Blk.new wc #[.int .i64 0, .slice none 0 0, .bool false, .int .i64 0] 32); obtain ⟨k0, k1, k2, k3⟩ := hbh.cells4; obtain ⟨l0, l1, l2, l3⟩ := hbh.free4; have KE := Lib.hid (keep10 hbg (HAC.out w5 hbw5)); have KS := Lib.hid (fun x0 x1 x2 x3 => keep10 ((set4_other (show w2.heap.size ≠ wc.heap.size from Nat.ne_of_lt HBG.out.lt) x0 x1 x2 x3).trans hbg) (HAC.out _ (set4_below hbw5 HP2.out.below.size x0 x1 x2 x3))); have OUT := Lib.hid (StepOut.later HP2.out.disk.lt hz3 hd3 hfs3 hr3 ht3' hs3 rfl); clear hbg hbw5 hbh hz3 hd3 hfs3 hr3 hs3 ht3 ht3'; dsimp only [dv, dval]))
              all_goals
                go_wp2_with fail
                go_meet
                exact ⟨_, z3, d3, A3, c3, rs3, S3, rfl, rfl, OUT.out⟩
            case rest =>
              obtain ⟨h, z3, d3, A3, c3, rs3, S3, rfl, rfl, O⟩ := hcut
              have HO := Lib.hid O
              have HP3 := Lib.hid (HP2.out.step O.hz O.disk O.fs O.ref O.touch O.sub)
              have hbg : Blk wc w2.heap.size #[.int .i64 cap, .slice A' nf c', .bool ar, .int .i64 fu] 32 := (O.touch.block _ HBG.out.lt HP2.out.gS).trans HBG.out
              have hlen3 : d3.fs.length = rs3.length := by rw [← O.fs, List.length_map]
              have hmany : rs3.length ≤ 65536 := by rw [← hlen3]; exact O.disk.ok.many
              have hbx := O.box
              obtain ⟨cap3, hcap⟩ : ∃ y, y = d3.cap := ⟨_, rfl⟩
              obtain ⟨nf3, hnf⟩ : ∃ y, y = d3.fs.length := ⟨_, rfl⟩
              obtain ⟨ar3, har⟩ : ∃ y, y = arV d3 := ⟨_, rfl⟩
              obtain ⟨fu3, hfu⟩ : ∃ y, y = fuV z3 d3 := ⟨_, rfl⟩
              have hdv : dv z3 d3 A3 c3 = .agg #[.int .i64 cap3, .slice A3 nf3 c3, .bool ar3, .int .i64 fu3] := by rw [hcap, hnf, har, hfu]; rfl
              have HDV := Lib.hid hdv
              unfold vd at hbx
              rw [← hcap, ← hnf, ← har, ← hfu] at hbx HP3
              obtain ⟨r0, r1, r2, r3⟩ := hbx.cells4
              obtain ⟨k0, k1, k2, k3⟩ := hbg.cells4
              obtain ⟨l0, l1, l2, l3⟩ := hbg.free4
              have HNF := Lib.hid (show nf3 = rs3.length by rw [hnf, hlen3])
              have HMA := Lib.hid hmany
              have HVD := Lib.hid (show vd z3 d3 A3 d3.fs.length c3 = #[.int .i64 cap3, .slice A3 nf3 c3, .bool ar3, .int .i64 fu3] by rw [hcap, hnf, har, hfu]; rfl)
              obtain ⟨W9, hW9⟩ : ∃ W9, W9 = (((wc.setCell ⟨w2.heap.size, 0, none⟩ (.int .i64 cap3)).setCell ⟨w2.heap.size, 1, none⟩ (.slice A3 nf3 c3)).setCell ⟨w2.heap.size, 2, none⟩ (.bool ar3)).setCell ⟨w2.heap.size, 3, none⟩ (.int .i64 fu3) := ⟨_, rfl⟩
              rw [← hW9] at HP3
              obtain ⟨rl, hrl⟩ : ∃ rl, rl = (readS d3 nm).1.length := ⟨_, rfl⟩
              obtain ⟨re, hre⟩ : ∃ re, re = (readS d3 nm).2 := ⟨_, rfl⟩
              have HRD := Lib.hid (show Calls Try.prog 15 #[.pointer (some ⟨sb2, 0, none⟩), .string nm] W9 fun e w' => ∃ A6 c6, e = .returned (.tuple #[.slice A6 rl c6, .int .i64 re]) ∧ Below W9.heap.size W9 w' from (read_calls HP3.out.disk nm HNS.out).mono fun e w' ⟨A6, c6, he, _, hb⟩ => ⟨A6, c6, by rw [hrl, hre]; exact he, hb⟩)
              have HNO := Lib.hid (show (∀ r ∈ rs3, r.f.name ≠ nm) → rl = 0 ∧ re ≠ 0 from fun h5 => by
                have h6 := none_read HP3.out.fs h5
                rw [hrl, hre, h6.1]
                exact ⟨rfl, h6.2⟩)
              clear O hbg hlen3 hmany hbx hcap hnf har hfu hdv hrl hre j0 j1 j2 j3 j4 j5 p0 p1 p2 p3 t0 t1 t2 t3 y0 y1 y2 y3 y4 y5
              go_upto_region 19 with fail
              rw [← hW9]
              clear hW9 r0 r1 r2 r3 k0 k1 k2 k3 l0 l1 l2 l3
              obtain ⟨j0, j1, j2, j3, j4, j5⟩ := HAC.out W9 HP3.out.below
              go_wp2_with (go_at_call 15; refine HRD.out.mono ?_; rintro e w6 ⟨A6, c6, rfl, hb6⟩)
              have HP6 := Lib.hid (HP3.out.on hb6)
              clear hb6 j0 j1 j2 j3 j4 j5
              obtain ⟨j0, j1, j2, j3, j4, j5⟩ := HAC.out w6 HP6.out.below
              have hb6 := HP6.out.blk
              rw [HVD.out] at hb6
              have HB6 := Lib.hid hb6
              obtain ⟨p0, p1, p2, p3⟩ := hb6.cells4
              have HPL := Lib.hid (rplace_calls cap3 A3 c3 ar3 fu3 rs3 nm w6.drew (HP6.out.ref.below (below_drew w6)) (by have := HMA.out; omega))
              rw [← HNF.out] at HPL
              unfold dval at HPL
              clear hb6
              go_upto_region 20 with fail
              go_cut [14] from 48 to 122 (fun s14 wx => ∃ b14 : Bool, s14 = .bool b14 ∧ (b14 = true → rl = 0 ∧ re ≠ 0) ∧ Below w6.heap.size w6 wx)
              case first =>
                go_region_held3 (fun W => W.cell? ⟨w2.heap.size, 0, none⟩ = some (.int .i64 cap3) ∧ W.cell? ⟨w2.heap.size, 1, none⟩ = some (.slice A3 nf3 c3) ∧ W.cell? ⟨w2.heap.size, 2, none⟩ = some (.bool ar3) ∧ W.cell? ⟨w2.heap.size, 3, none⟩ = some (.int .i64 fu3) ∧ W.cell? ⟨b0, o0 + k * 6 + 2, none⟩ = some (.string nm)) (first | exact ⟨p0, p1, p2, p3, j2⟩ | exact ⟨q0, q1, q2, q3, i2⟩) (first | (go_at_call 16; refine HPL.out.mono ?_; rintro e w7 ⟨⟨px, rfl, hpx⟩, hb7⟩; have hb7' : Below w6.heap.size w6 w7 := ⟨hb7.os, hb7.tape, hb7.output, hb7.size, hb7.block⟩; obtain ⟨q0, q1, q2, q3⟩ := (HB6.out.belowAll hb7').cells4; obtain ⟨_, _, i2, _⟩ := HAC.out w7 (HP6.out.below.trans (hb7'.mono HP6.out.below.size)); have HPX := Lib.hid hpx; clear hpx))
                all_goals
                  go_wp2_with fail
                  go_meet
                  refine ⟨_, rfl, fun h5 => ?_, hb7'⟩
                  rcases HPX.out with h6 | ⟨i6, r6, h6, _⟩
                  · exact HNO.out h6.2
                  · simp only [decide_eq_true_eq] at h5
                    omega
              case rest =>
                obtain ⟨b14, rfl, hb14, hb7⟩ := hcut
                have HP7 := Lib.hid (HP6.out.on hb7)
                obtain ⟨q0, q1, q2, q3⟩ := (HB6.out.belowAll hb7).cells4
                have HSM := Lib.hid (same_calls (z := z3) HP7.out.disk A3 c3 rs3 HP7.out.fs HP7.out.ref)
                rw [HDV.out] at HSM
                unfold at_ at HSM
                clear hb7 j0 j1 j2 j3 j4 j5 p0 p1 p2 p3
                cases b14 with
                | true =>
                  obtain ⟨h5, h6⟩ := hb14 rfl
                  subst h5
                  have h6d : (re == 0) = false := by simp [h6]
                  clear hb14 h6
                  go_wp2_with (first | (go_at_call 17; refine HSM.out.mono ?_; rintro e w8 ⟨rfl, hb8⟩) | (go_at_call 10; refine (code_calls _ _).mono ?_; rintro e w' ⟨rfl, rfl⟩))
                  go_roundw
                  case rel => exact ⟨k + 1, z3, sb2, S3, d3, A3, c3, rs3, rfl, by go_num, by omega, HP7.out.on hb8⟩
                  case measure => simp [intOf]; omega
                | false =>
                  clear hb14
                  go_wp2_with (first | (go_at_call 17; refine HSM.out.mono ?_; rintro e w8 ⟨rfl, hb8⟩) | (go_at_call 10; refine (code_calls _ _).mono ?_; rintro e w' ⟨rfl, rfl⟩))
                  go_roundw
                  case rel => exact ⟨k + 1, z3, sb2, S3, d3, A3, c3, rs3, rfl, by go_num, by omega, HP7.out.on hb8⟩
                  case measure => simp [intOf]; omega
        · have hd : decide ((k : Int) < (n : Int)) = false := by simp; omega
          go_wp2_with fail
          refine (live_calls _).mono ?_
          rintro e w9 ⟨rfl, hb9⟩
          dsimp only
          go_wp2
          go_ret
          exact ⟨rfl, Below.on HP.out.below hb9⟩
end Go.Proofs.Ytpnlgmnlanoncaa
