/-
  The contract of the document GetPairs. Conditions: slices of at most a million bytes, each from 0 to 255.
  TYPES BY NUMBER: 22 23 48
-/
import Derived.Test.YtimcolanmbklpaaRGetP
import Derived.Test.YtimcolanmbklpaaHistA
namespace Go.Proofs.Ytimcolanmbklpaa
open Go.ChangeShapes Go.WideShapes Go.ChangeAt Go.RowKit
set_option linter.unusedVariables false

/-- Two and two. -/
def pairUp {α : Type} : List α → List (α × α)
  | a :: b :: r => (a, b) :: pairUp r
  | _ => []
theorem pairUp_step {α : Type} : ∀ (k : Nat) (ts : List α) (a b : α), ts[2 * k]? = some a → ts[2 * k + 1]? = some b → pairUp (ts.take (2 * (k + 1))) = pairUp (ts.take (2 * k)) ++ [(a, b)]
  | 0, x :: y :: r, a, b, h1, h2 => by simp at h1 h2; subst h1 h2; simp [pairUp]
  | k + 1, x :: y :: r, a, b, h1, h2 => by
    rw [show 2 * (k + 1) = 2 * k + 1 + 1 by omega] at h1
    rw [show 2 * (k + 1) + 1 = 2 * k + 1 + 1 + 1 by omega] at h2
    simp only [List.getElem?_cons_succ] at h1 h2
    rw [show 2 * (k + 1 + 1) = 2 * (k + 1) + 1 + 1 by omega, show 2 * (k + 1) = 2 * k + 1 + 1 by omega]
    simp only [List.take_succ_cons, pairUp, List.cons_append]
    rw [show 2 * k + 1 + 1 = 2 * (k + 1) by omega, pairUp_step k r a b h1 h2]
  | k, [], a, b, h1, _ => by simp at h1
  | k, [x], a, b, _, h2 => by simp at h2
theorem pairUp_end {α : Type} : ∀ (k : Nat) (ts : List α), ts.length ≤ 2 * k + 1 → pairUp (ts.take (2 * k)) = pairUp ts
  | 0, [], _ => by simp
  | 0, [x], _ => by simp [pairUp]
  | 0, x :: y :: r, h => by simp at h
  | k + 1, [], _ => by simp
  | k + 1, [x], _ => by rw [show 2 * (k + 1) = 2 * k + 1 + 1 by omega]; simp
  | k + 1, x :: y :: r, h => by
    rw [show 2 * (k + 1) = 2 * k + 1 + 1 by omega]
    simp only [List.take_succ_cons, pairUp]
    rw [pairUp_end k r (by simp at h; omega)]
theorem pairUp_length {α : Type} : ∀ (ts : List α), 2 * (pairUp ts).length ≤ ts.length
  | [] => by simp [pairUp]
  | [x] => by simp [pairUp]
  | x :: y :: r => by have := pairUp_length r; simp [pairUp]; omega

/-- The loop: k pairs have been made. -/
def RelQ (w1 : World) (ts : List ByteArray) (v i : Value) (wr : World) : Prop :=
  ∃ (k : Nat) (A : Option Addr) (c : Nat) (ps : List (ByteArray × ByteArray)), i = .int .i64 ((2 * k : Nat) : Int) ∧ v = .slice A ps.length c ∧ 2 * k ≤ ts.length ∧ OwnG 48 2 enP w1.heap.size wr A c ps ∧ Below w1.heap.size w1 wr ∧ ps = pairUp (ts.take (2 * k))

/-- The region of a round: what its slots hold. -/
def VQ (b o n c1 m c2 j : Nat) (A2 : Option Addr) (s t : ByteArray) (d : Nat) (v : Value) : Prop :=
  match d with
  | 26 => v = .slice A2 m c2
  | 27 | 31 => v = .slice (some ⟨b, o, none⟩) n c1
  | 28 | 32 => v = .int .i64 (j : Int)
  | 33 => v = .int .i64 ((j : Int) + 1)
  | 29 => v = .pointer (some ⟨b, o + j, none⟩)
  | 34 => v = .pointer (some ⟨b, o + (j + 1), none⟩)
  | 30 => v = .string s
  | 35 => v = .string t
  | 36 => v = .agg #[.string s, .string t]
  | _ => True
/-- .. and what they have to do with memory. -/
structure MQ (w1 : World) (A2 : Option Addr) (c2 : Nat) (ps R : List (ByteArray × ByteArray)) (s t : ByteArray) (s26 s37 s38 s10 : Option Value) (W : World) : Prop where
  n26 : s26 = none → s10 = none
  n37 : s37 = none → s38 = none
  n38 : s38 = none → s10 = none
  below : Below w1.heap.size w1 W
  row : s38 = none → OwnG 48 2 enP w1.heap.size W A2 c2 ps
  lits : s38 = none → ∀ v, s37 = some v → ∃ g, v = .slice (some ⟨g, 0, none⟩) 1 1 ∧ CellsG enP W (some ⟨g, 0, none⟩) 1 [(s, t)]
  full : ∀ v, s38 = some v → ∃ A' c', v = .slice A' R.length c' ∧ OwnG 48 2 enP w1.heap.size W A' c' R
  same10 : ∀ v, s10 = some v → s38 = some v
section
variable {w1 : World} {A2 : Option Addr} {c2 : Nat} {ps R : List (ByteArray × ByteArray)} {s t : ByteArray} {s26 s37 s38 s10 : Option Value} {W : World}
theorem MQ.take26 {v : Value} (h : MQ w1 A2 c2 ps R s t s26 s37 s38 s10 W) : MQ w1 A2 c2 ps R s t (some v) s37 s38 s10 W := { h with n26 := fun e => by cases e }
theorem MQ.lit (h : MQ w1 A2 c2 ps R s t s26 s37 s38 s10 W) (hn : s37 = none) : MQ w1 A2 c2 ps R s t s26 (some (.slice (some ⟨W.heap.size, 0, none⟩) 1 1)) s38 s10 (W.alloc (.cells #[.string s, .string t] 48)) :=
  { n26 := h.n26, n37 := fun e => (by cases e), n38 := h.n38, below := h.below.alloc h.below.size _, row := fun e => (h.row e).alloc _,
    lits := fun _ v hv => ⟨W.heap.size, by injection hv with hv; exact hv.symm, cells_one_val elP W (s, t) #[.string s, .string t] rfl⟩,
    full := fun v hv => (by rw [h.n37 hn] at hv; cases hv), same10 := h.same10 }
theorem MQ.done {v37 : Value} {A7 : Option Addr} {c7 : Nat} {w7 : World} {R7 : List (ByteArray × ByteArray)} (h : MQ w1 A2 c2 ps R s t s26 s37 s38 s10 W) (h37 : s37 = some v37) (hR : R7 = R) (hown : OwnG 48 2 enP w1.heap.size w7 A7 c7 R7) (hb : Below w1.heap.size w1 w7) (hn : s38 = none) :
    MQ w1 A2 c2 ps R s t s26 s37 (some (.slice A7 R7.length c7)) s10 w7 := by
  subst hR
  exact { n26 := h.n26, n37 := fun e => (by rw [h37] at e; cases e), n38 := fun e => (by cases e), below := hb, row := fun e => (by cases e), lits := fun e => (by cases e),
          full := fun v hv => ⟨A7, c7, by injection hv with hv; exact hv.symm, hown⟩, same10 := fun v hv => (by rw [h.n38 hn] at hv; cases hv) }
theorem MQ.assign {v26 v38 : Value} (h : MQ w1 A2 c2 ps R s t s26 s37 s38 s10 W) (h26 : s26 = some v26) (h38 : s38 = some v38) : MQ w1 A2 c2 ps R s t s26 s37 s38 (some v38) W :=
  { h with n26 := fun e => (by rw [h26] at e; cases e), n38 := fun e => (by rw [h38] at e; cases e), same10 := fun v hv => (by rw [h38]; exact hv) }
end

set_option maxRecDepth 20000 in
set_option maxHeartbeats 2000000 in
theorem rgetPairs_calls (A : Option Addr) (c : Nat) (l : List Int) (i : Int) (w : World) (h : Lies w A c l) (hb : IsB l) (hc : l.length ≤ c) (hl : l.length ≤ 1000000) (hRl : (getAll (rdS l) 2 (getS l i)).1.length ≤ 200000) :
    Calls Try.prog 20 #[.slice A l.length c, .int .i64 i] w (GotG 48 2 enP w (pairUp (getAll (rdS l) 2 (getS l i)).1, (getAll (rdS l) 2 (getS l i)).2)) := by
  have HP := Lib.hid (texts_calls A c l i 2 w h hb hc hl (by omega) (by omega))
  clear h hb
  rw [show (2 : Int).toNat = 2 by rfl] at HP
  generalize getAll (rdS l) 2 (getS l i) = R at *
  obtain ⟨ts, z, e⟩ := R
  dsimp only at *
  have hu22 := run_underlying (P := Try.prog) Try.underlying22
  go_enter Try.func20, Try.ntmps20
  go_wp2_with (go_at_call 35; refine HP.out.mono ?_; rintro e1 w1 ⟨A1, c1, rfl, hown1, hb1⟩; dsimp only at hown1; dsimp only; have H1 := Lib.hid hown1; clear hown1)
  go_loopw [10, 11] (RelQ w1 ts) (fun _ i _ => ts.length - (intOf i).toNat)
  case atStart => exact ⟨0, none, 0, [], rfl, rfl, by omega, OwnG.nil _ _, Below.refl _ _, by simp [pairUp]⟩
  case round =>
    obtain ⟨k, A2, c2, ps, rfl, rfl, hk, hown2, hb2, hps⟩ := hrel
    have HO2 := Lib.hid hown2
    have HPS := Lib.hid hps
    have hpl : ps.length ≤ 200000 := by
      rw [hps]
      have := pairUp_length (ts.take (2 * k))
      rw [List.length_take] at this
      omega
    clear hown2 hps
    by_cases hlt : 2 * k + 1 < ts.length
    · obtain ⟨b, o, hA, hbs, hcell⟩ := (OwnG.cells H1.out).at_ elS (by omega)
      obtain ⟨s, hs⟩ : ∃ s, ts[2 * k]? = some s := ⟨ts[2 * k]'(by omega), by simp⟩
      obtain ⟨t, ht⟩ : ∃ t, ts[2 * k + 1]? = some t := ⟨ts[2 * k + 1], by simp [hlt]⟩
      have hck0 := (hb2.cell (p := ⟨b, o + (2 * k * 1 + 0), none⟩) hbs).trans (hcell (2 * k) 0 s hs (by omega))
      have hck1 := (hb2.cell (p := ⟨b, o + ((2 * k + 1) * 1 + 0), none⟩) hbs).trans (hcell (2 * k + 1) 0 t ht (by omega))
      rw [Nat.mul_one, Nat.add_zero] at hck0 hck1
      simp only [enS, List.getElem?_cons_zero] at hck0 hck1
      subst hA
      have HN := Lib.hid (pairUp_step k ts s t hs ht)
      clear hs ht hcell
      obtain ⟨j, hj⟩ : ∃ j, j = 2 * k := ⟨_, rfl⟩
      rw [← hj] at hck0 hck1 hlt HPS hk ⊢
      have hj1 : ((j + 1 : Nat) : Int) = (j : Int) + 1 := by omega
      have HJ := Lib.hid hj
      clear hj
      obtain ⟨R, hR⟩ : ∃ R, R = ps ++ [(s, t)] := ⟨_, rfl⟩
      have HR := Lib.hid hR
      obtain ⟨n, hn⟩ : ∃ n, n = ts.length := ⟨_, rfl⟩
      obtain ⟨m, hm⟩ : ∃ m, m = ps.length := ⟨_, rfl⟩
      have HM := Lib.hid hm.symm
      have HC0 := Lib.hid ((hb2.cell (p := ⟨b, o + j, none⟩) hbs).symm.trans hck0)
      have HC1 := Lib.hid ((hb2.cell (p := ⟨b, o + (j + 1), none⟩) hbs).symm.trans hck1)
      have hM0 : MQ w1 A2 c2 ps R s t none none none none wr.drew := ⟨fun _ => rfl, fun _ => rfl, fun _ => rfl, hb2.drew, fun _ => HO2.out.below ((Below.refl _ _).drew), (fun _ v hv => nomatch hv), (fun v hv => nomatch hv), (fun v hv => nomatch hv)⟩
      clear hck0 hck1 hR
      have hR2 := hRl
      rw [← hn] at hlt hk hR2 ⊢
      rw [← hm] at hpl ⊢
      have HN2 := Lib.hid hn
      clear hn hm
      go_wp2_with fail
      refine wp_region_hist (by kernel_rfl) (fun σ W => SlotsAre (VQ b o n c1 m c2 j A2 s t) σ ∧ MQ w1 A2 c2 ps R s t (σ 26) (σ 37) (σ 38) (σ 10) W) [[], [], [], [27, 28], [29], [], [], [32], [31, 33], [34], [30, 35], [36], [26, 37], [38, 26]] (by kernel_rfl) ⟨SlotsAre.none _, hM0⟩ ?_ ?_
      · refine ⟨?_, ?_, ?_, ?_, ?_, ?_, ?_, ?_, ?_, ?_, ?_, ?_, ?_, ?_, trivial⟩
        · intro σ a W hJ hsame hold hfree ht
          obtain ⟨hV, hM⟩ := hJ
          have h10 := hold 10 (hM.n26 (hfree 26 rfl))
          change a.tmps.getD 10 undef = .slice A2 m c2 at h10
          rw [if_pos (by rfl)]
          clear hsame hold
          unfold Oper.wp
          go_simp
          exact ⟨_, rfl, hV.upd (by exact rfl), hM.take26⟩
        · intro σ a W hJ hsame hold hfree ht
          obtain ⟨hV, hM⟩ := hJ
          have h7 := hsame 7 (by decide)
          change a.tmps.getD 7 undef = .slice (some ⟨b, o, none⟩) n c1 at h7
          rw [if_pos (by rfl)]
          clear hsame hold
          unfold Oper.wp
          go_simp
          exact ⟨_, rfl, hV.upd (by exact rfl), hM⟩
        · intro σ a W hJ hsame hold hfree ht
          obtain ⟨hV, hM⟩ := hJ
          have h11 := hsame 11 (by decide)
          change a.tmps.getD 11 undef = .int .i64 (j : Int) at h11
          rw [if_pos (by rfl)]
          clear hsame hold
          unfold Oper.wp
          go_simp
          exact ⟨_, rfl, hV.upd (by exact rfl), hM⟩
        · intro σ a W hJ hsame hold hfree ht
          obtain ⟨hV, hM⟩ := hJ
          obtain ⟨⟨v27, s27, h27⟩, ⟨v28, s28, h28⟩, _⟩ := ht
          have q27 := hV 27 v27 s27
          change v27 = .slice (some ⟨b, o, none⟩) n c1 at q27
          rw [q27] at h27
          have q28 := hV 28 v28 s28
          change v28 = .int .i64 (j : Int) at q28
          rw [q28] at h28
          rw [if_pos (by rfl)]
          clear hsame hold
          have hj2 : (j : Int) < (n : Int) := by omega
          unfold Oper.wp
          go_simp
          exact ⟨_, rfl, hV.upd (by exact rfl), hM⟩
        · intro σ a W hJ hsame hold hfree ht
          obtain ⟨hV, hM⟩ := hJ
          obtain ⟨⟨v29, s29, h29⟩, _⟩ := ht
          have q29 := hV 29 v29 s29
          change v29 = .pointer (some ⟨b, o + j, none⟩) at q29
          rw [q29] at h29
          rw [if_pos (by rfl)]
          clear hsame hold
          have hck := (hM.below.cell (p := ⟨b, o + j, none⟩) hbs).trans HC0.out
          unfold Oper.wp
          go_simp
          exact ⟨_, rfl, hV.upd (by exact rfl), hM⟩
        · intro σ a W hJ hsame hold hfree ht
          obtain ⟨hV, hM⟩ := hJ
          have h7 := hsame 7 (by decide)
          change a.tmps.getD 7 undef = .slice (some ⟨b, o, none⟩) n c1 at h7
          rw [if_pos (by rfl)]
          clear hsame hold
          unfold Oper.wp
          go_simp
          exact ⟨_, rfl, hV.upd (by exact rfl), hM⟩
        · intro σ a W hJ hsame hold hfree ht
          obtain ⟨hV, hM⟩ := hJ
          have h11 := hsame 11 (by decide)
          change a.tmps.getD 11 undef = .int .i64 (j : Int) at h11
          rw [if_pos (by rfl)]
          clear hsame hold
          unfold Oper.wp
          go_simp
          exact ⟨_, rfl, hV.upd (by exact rfl), hM⟩
        · intro σ a W hJ hsame hold hfree ht
          obtain ⟨hV, hM⟩ := hJ
          obtain ⟨⟨v32, s32, h32⟩, _⟩ := ht
          have q32 := hV 32 v32 s32
          change v32 = .int .i64 (j : Int) at q32
          rw [q32] at h32
          rw [if_pos (by rfl)]
          clear hsame hold
          have hw : IntKind.i64.wrap ((j : Int) + 1) = (j : Int) + 1 := IntWalk.i64_in _ ⟨by omega, by omega⟩
          unfold Oper.wp
          go_simp
          exact ⟨_, rfl, hV.upd (by exact rfl), hM⟩
        · intro σ a W hJ hsame hold hfree ht
          obtain ⟨hV, hM⟩ := hJ
          obtain ⟨⟨v31, s31, h31⟩, ⟨v33, s33, h33⟩, _⟩ := ht
          have q31 := hV 31 v31 s31
          change v31 = .slice (some ⟨b, o, none⟩) n c1 at q31
          rw [q31] at h31
          have q33 := hV 33 v33 s33
          change v33 = .int .i64 ((j : Int) + 1) at q33
          rw [q33] at h33
          rw [if_pos (by rfl)]
          clear hsame hold
          have hj2 : (j : Int) + 1 < (n : Int) := by omega
          unfold Oper.wp
          go_simp
          exact ⟨_, rfl, hV.upd (by exact rfl), hM⟩
        · intro σ a W hJ hsame hold hfree ht
          obtain ⟨hV, hM⟩ := hJ
          obtain ⟨⟨v34, s34, h34⟩, _⟩ := ht
          have q34 := hV 34 v34 s34
          change v34 = .pointer (some ⟨b, o + (j + 1), none⟩) at q34
          rw [q34] at h34
          rw [if_pos (by rfl)]
          clear hsame hold
          have hck := (hM.below.cell (p := ⟨b, o + (j + 1), none⟩) hbs).trans HC1.out
          unfold Oper.wp
          go_simp
          exact ⟨_, rfl, hV.upd (by exact rfl), hM⟩
        · intro σ a W hJ hsame hold hfree ht
          obtain ⟨hV, hM⟩ := hJ
          obtain ⟨⟨v30, s30, h30⟩, ⟨v35, s35, h35⟩, _⟩ := ht
          have q30 := hV 30 v30 s30
          change v30 = .string s at q30
          rw [q30] at h30
          have q35 := hV 35 v35 s35
          change v35 = .string t at q35
          rw [q35] at h35
          rw [if_pos (by rfl)]
          clear hsame hold
          rw [Array.getD_eq_getD_getElem?] at h30 h35
          unfold Oper.wp
          go_simp
          exact ⟨_, rfl, hV.upd (by exact rfl), hM⟩
        · intro σ a W hJ hsame hold hfree ht
          obtain ⟨hV, hM⟩ := hJ
          obtain ⟨⟨v36, s36, h36⟩, _⟩ := ht
          have q36 := hV 36 v36 s36
          change v36 = .agg #[.string s, .string t] at q36
          rw [q36] at h36
          rw [if_pos (by rfl)]
          clear hsame hold
          rw [Array.getD_eq_getD_getElem?] at h36
          unfold Oper.wp
          go_simp
          exact ⟨_, rfl, hV.upd trivial, hM.lit (hfree 37 rfl)⟩
        · intro σ a W hJ hsame hold hfree ht
          obtain ⟨hV, hM⟩ := hJ
          obtain ⟨⟨v26, s26, h26⟩, ⟨v37, s37, h37⟩, _⟩ := ht
          have q26 := hV 26 v26 s26
          change v26 = .slice A2 m c2 at q26
          rw [q26] at h26
          rw [if_pos (by rfl)]
          clear hsame hold
          have hn38 := hfree 38 rfl
          obtain ⟨g, hv37, hcv⟩ := hM.lits hn38 v37 s37
          have hown := hM.row hn38
          have hbm := hM.below
          subst hv37
          refine wp_append_vals elP (.tmp 26) (.tmp 37) 23 Try.underlying23 rfl w1.heap.size A2 c2 ps (by rw [HM.out]; exact h26) hown (some ⟨g, 0, none⟩) 1 [(s, t)] (by exact h37) hcv (by have := HM.out; simp; omega) (by omega) hbm.size ?_
          intro A7 c7 w7 R7 hR7 hown7 hgrow7
          exact ⟨_, rfl, hV.upd trivial, hM.done s37 (hR7.out.trans HR.out.symm) hown7 (OwnG.grow hown hbm hgrow7 hbm.size) hn38⟩
        · intro σ a W hJ hsame hold hfree ht
          obtain ⟨hV, hM⟩ := hJ
          obtain ⟨⟨v38, s38, h38⟩, ⟨v26, s26, h26⟩, _⟩ := ht
          have q26 := hV 26 v26 s26
          change v26 = .slice A2 m c2 at q26
          rw [q26] at h26
          rw [if_pos (by rfl)]
          clear hsame hold
          unfold Oper.wp
          go_simp
          exact ⟨_, rfl, hV.upd trivial, hM.assign s26 s38⟩
      · intro σ a W hJ hsz hdef hsame hall
        obtain ⟨hV, hM⟩ := hJ
        obtain ⟨v10, s10, h10⟩ := hall 10 (by decide)
        obtain ⟨v26, s26, h26⟩ := hall 26 (by decide)
        have q26 := hV 26 v26 s26
        change v26 = .slice A2 m c2 at q26
        rw [q26] at h26
        obtain ⟨v27, s27, h27⟩ := hall 27 (by decide)
        have q27 := hV 27 v27 s27
        change v27 = .slice (some ⟨b, o, none⟩) n c1 at q27
        rw [q27] at h27
        obtain ⟨v28, s28, h28⟩ := hall 28 (by decide)
        have q28 := hV 28 v28 s28
        change v28 = .int .i64 (j : Int) at q28
        rw [q28] at h28
        obtain ⟨v29, s29, h29⟩ := hall 29 (by decide)
        have q29 := hV 29 v29 s29
        change v29 = .pointer (some ⟨b, o + j, none⟩) at q29
        rw [q29] at h29
        obtain ⟨v30, s30, h30⟩ := hall 30 (by decide)
        have q30 := hV 30 v30 s30
        change v30 = .string s at q30
        rw [q30] at h30
        obtain ⟨v31, s31, h31⟩ := hall 31 (by decide)
        have q31 := hV 31 v31 s31
        change v31 = .slice (some ⟨b, o, none⟩) n c1 at q31
        rw [q31] at h31
        obtain ⟨v32, s32, h32⟩ := hall 32 (by decide)
        have q32 := hV 32 v32 s32
        change v32 = .int .i64 (j : Int) at q32
        rw [q32] at h32
        obtain ⟨v33, s33, h33⟩ := hall 33 (by decide)
        have q33 := hV 33 v33 s33
        change v33 = .int .i64 ((j : Int) + 1) at q33
        rw [q33] at h33
        obtain ⟨v34, s34, h34⟩ := hall 34 (by decide)
        have q34 := hV 34 v34 s34
        change v34 = .pointer (some ⟨b, o + (j + 1), none⟩) at q34
        rw [q34] at h34
        obtain ⟨v35, s35, h35⟩ := hall 35 (by decide)
        have q35 := hV 35 v35 s35
        change v35 = .string t at q35
        rw [q35] at h35
        obtain ⟨v36, s36, h36⟩ := hall 36 (by decide)
        have q36 := hV 36 v36 s36
        change v36 = .agg #[.string s, .string t] at q36
        rw [q36] at h36
        obtain ⟨v37, s37, h37⟩ := hall 37 (by decide)
        obtain ⟨v38, s38, h38⟩ := hall 38 (by decide)
        have e10 := hM.same10 v10 s10
        rw [s38] at e10
        injection e10 with e10
        obtain ⟨A7, c7, e38, hown7⟩ := hM.full v38 s38
        have hb7 := hM.below
        subst e10 e38
        have hact := act_of (l := [_, _, _, _, _, _, _, _, _, _, _, _, _, _, _, _, _, _, _, _, _, _, _, _, _, _, _, _, _, _, _, _, _, _, _, _, _, _, _, _, _, _]) (ds := []) (by exact hsz) hdef ⟨hsame 0 (by decide), hsame 1 (by decide), hsame 2 (by decide), hsame 3 (by decide), hsame 4 (by decide), hsame 5 (by decide), hsame 6 (by decide), hsame 7 (by decide), hsame 8 (by decide), hsame 9 (by decide), h10, hsame 11 (by decide), hsame 12 (by decide), hsame 13 (by decide), hsame 14 (by decide), hsame 15 (by decide), hsame 16 (by decide), hsame 17 (by decide), hsame 18 (by decide), hsame 19 (by decide), hsame 20 (by decide), hsame 21 (by decide), hsame 22 (by decide), hsame 23 (by decide), hsame 24 (by decide), hsame 25 (by decide), h26, h27, h28, h29, h30, h31, h32, h33, h34, h35, h36, h37, h38, hsame 39 (by decide), hsame 40 (by decide), hsame 41 (by decide), trivial⟩
        clear hall hsame hsz hdef hV h10 h26 h27 h28 h29 h30 h31 h32 h33 h34 h35 h36 h37 h38
        subst hact
        have hw : IntKind.i64.wrap ((j : Int) + 2) = (j : Int) + 2 := IntWalk.i64_in _ ⟨by omega, by omega⟩
        clear hM
        go_wp2
        go_roundw
        case rel =>
          refine ⟨.slice A7 R.length c7, .int .i64 ((j : Int) + 2), _, _, _, _, _, _, _, _, _, _, _, _, _, _, _, _, _, _, _, _, ⟨k + 1, A7, c7, R, ?_, rfl, ?_, hown7, hb7, ?_⟩, rfl⟩
          · rw [HJ.out]; go_num
          · have := HN2.out; have := HJ.out; omega
          · rw [HN.out, HR.out, HPS.out, HJ.out]
        case measure => have := HN2.out; simp [intOf]; omega
    · have HN := Lib.hid (show ps = pairUp ts by rw [HPS.out]; exact pairUp_end k ts (by omega))
      go_wp2
      go_ret3
      rw [← HN.out]
      exact ⟨A2, c2, rfl, HO2.out.mono hb1.size, Below.on hb1 hb2⟩
end Go.Proofs.Ytimcolanmbklpaa
