/-
  Contract of the law's consts (stage 10). Conditions: the expression lies in memory; at most 3,000 parts.
  Contract of the document's Right. Conditions: the expression lies in memory; at most 3,000 parts.
  An argument that is an expression: a tree that lies in memory, with the bounds on what an input may take. No conditions.
  Plain facts of the law TokenExprs: tokens and values of an expression's text; two tokens in blocks of their own. Conditions: as in the premises.
  The walk of TokenExprs. Conditions: an expression as an input can hold it; strconv.ErrRange reads as an error.
-/
import Derived.Lib.SmallJoins
import Derived.Deep.RegionHeld3
import Derived.Deep.CutRange
import Derived.Test.YtjignlemahdoeaaDoorC7
namespace Go.Proofs.YtjignlemahdoeaaDoor
open Go.ChangeShapes Go.WideShapes Go.ChangeAt Go.RowKit
set_option linter.unusedVariables false
set_option maxRecDepth 20000
def enV (v : Vl) : List Value := [.int .u8 v.k, .int .i64 v.n, .string v.s]
theorem elV : El 33 3 32 (.agg #[.int .u8 0, .int .i64 0, .string ⟨#[]⟩]) enV where
  info := by kernel_rfl
  zero := rfl
  pos := by decide
  len := fun _ => rfl
  one := fun x u hu => by
    simp only [enV, List.mem_cons, List.not_mem_nil, or_false] at hu
    rcases hu with rfl | rfl | rfl <;> rfl
theorem constsL_append (a b : List Ex) : constsL (a ++ b) = constsL a ++ constsL b := by
  induction a with
  | nil => simp [constsL]
  | cons e a ih => rw [List.cons_append, constsL, constsL, ih, List.append_assoc]
theorem constsL_next {l : List Ex} {k : Nat} {e : Ex} (h : l[k]? = some e) : constsL (l.take (k + 1)) = constsL (l.take k) ++ e.consts := by rw [take_snoc h, constsL_append]; simp [constsL]
theorem consts_len : ∀ e : Ex, (e.consts.length : Int) ≤ e.size := by
  intro e
  induction e using Ex.ind with
  | h op v A c l ih =>
    have key : ∀ l : List Ex, (∀ e ∈ l, (e.consts.length : Int) ≤ e.size) → ((constsL l).length : Int) ≤ sizeL l := by
      intro l
      induction l with
      | nil => intro _; simp [constsL, sizeL]
      | cons e l ihl =>
        intro h
        have h1 := h e (by simp)
        have h2 := ihl fun x hx => h x (by simp [hx])
        simp only [constsL, sizeL, List.length_append]; omega
    have h1 := key l ih
    have h2 := sizeL_len l
    simp only [Ex.consts, Ex.size]
    split
    · simp; omega
    · omega
theorem constsL_len (l : List Ex) : ((constsL l).length : Int) ≤ sizeL l := by
  induction l with
  | nil => simp [constsL, sizeL]
  | cons e l ih => have := consts_len e; simp only [constsL, sizeL, List.length_append]; omega
def RelCs (l : List Ex) (B : Nat) (w1 : World) (t i : Value) (wr : World) : Prop := ∃ (k : Nat) (xs : List Vl) (A : Option Addr) (c : Nat), t = .slice A xs.length c ∧ i = .int .i64 k ∧ k ≤ l.length ∧ Hid (xs = constsL (l.take k)) ∧ OwnG 33 3 enV B wr A c xs ∧ Below w1.heap.size w1 wr
set_option maxHeartbeats 2000000 in
theorem consts_calls : ∀ (e : Ex) (w : World), e.At w → e.size ≤ 3000 → Calls Tryd.prog 17 #[e.v] w fun q w' => ∃ A c, q = .returned (.slice A e.consts.length c) ∧ OwnG 33 3 enV w.heap.size w' A c e.consts ∧ Below w.heap.size w w' := by
  intro e
  induction e using Ex.ind with
  | h op v A c l ih =>
    intro w hAt hs
    simp only [Ex.At] at hAt
    simp only [Ex.size] at hs
    obtain ⟨hcl, hal⟩ := hAt
    have hlen := sizeL_len l
    unfold Ex.v
    simp only [Ex.op, Ex.vl, Ex.adr, Ex.args, Ex.cp]
    obtain ⟨k, n, s⟩ := v
    dsimp only
    obtain ⟨ln, hln⟩ : ∃ ln, ln = l.length := ⟨_, rfl⟩
    have HLN := Lib.hid hln
    rw [← hln]
    have hB1 := below_one w (.cells #[.int .i64 op, .int .u8 k, .int .i64 n, .string s, .slice A ln c] 41)
    have bx := Blk.new w #[.int .i64 op, .int .u8 k, .int .i64 n, .string s, .slice A ln c] 41
    obtain ⟨W1, hW1⟩ : ∃ W1, W1 = w.alloc (.cells #[.int .i64 op, .int .u8 k, .int .i64 n, .string s, .slice A ln c] 41) := ⟨_, rfl⟩
    rw [← hW1] at hB1 bx
    have HB1 := Lib.hid hB1
    have HX := Lib.hid bx
    have HW1 := Lib.hid hW1
    by_cases h0 : op = 0
    · have e0 : (op == 0) = true := by simpa using h0
      have HCN := Lib.hid (show (Ex.node op ⟨k, n, s⟩ A c l).consts = [⟨k, n, s⟩] by simp only [Ex.consts]; rw [if_pos h0])
      have HC1 := Lib.hid (show OwnG 33 3 enV w.heap.size (W1.alloc (.cells #[.int .u8 k, .int .i64 n, .string s] 33)) (some ⟨W1.heap.size, 0, none⟩) 1 [⟨k, n, s⟩] from World.ownsRow_lit (size := 3) W1 #[.int .u8 k, .int .i64 n, .string s] 1 hB1.size (by unfold maxLen; omega) rfl)
      have HB2 := Lib.hid (hB1.trans ((below_one W1 (.cells #[.int .u8 k, .int .i64 n, .string s] 33)).mono hB1.size))
      obtain ⟨c0, c1, c2, c3, c4⟩ := bx.cells5
      clear hlen ih hal hcl hs hB1 bx hln h0 hW1
      go_enter Tryd.func17, Tryd.ntmps17
      go_upto_region 1 with fail
      rw [← HW1.out]
      go_wp2
      go_ret
      rw [HCN.out]
      exact ⟨_, 1, rfl, HC1.out, HB2.out⟩
    · have e0 : (op == 0) = false := by simpa using h0
      have HCN := Lib.hid (show (Ex.node op ⟨k, n, s⟩ A c l).consts = constsL l by simp only [Ex.consts]; rw [if_neg h0])
      have HIH := Lib.hid (fun e he W hW => ih e he W (Ex.At.below hW e (atL_mem hal e he)))
      have HCL := Lib.hid hcl
      have HTK := Lib.hid (sizeL_take l)
      have HSL := Lib.hid hs
      have HNX := Lib.hid (fun k e => sizeL_next (l := l) (k := k) (e := e))
      have HCX := Lib.hid (fun k e => constsL_next (l := l) (k := k) (e := e))
      have HEND := Lib.hid (show constsL (l.take l.length) = constsL l by rw [List.take_length])
      have hl3 : ln ≤ 3000 := by omega
      obtain ⟨c0, c1, c2, c3, c4⟩ := bx.cells5
      clear hlen ih hal hcl hs hB1 bx hln hW1
      go_enter Tryd.func17, Tryd.ntmps17
      go_upto_region 1 with fail
      rw [← HW1.out]
      go_wp2_with fail
      clear c0 c1 c2 c3 c4
      go_loopw [3, 4] (RelCs l W1.heap.size W1) (fun _ i _ => 3001 - (intOf i).toNat)
      case atStart => exact ⟨0, [], none, 0, rfl, rfl, Nat.zero_le _, Lib.hid (by simp [constsL]), OwnG.nil _ _, Below.refl _ _⟩
      case round =>
        obtain ⟨j, xs, A1, c1, rfl, rfl, hj, hx, hown, hbr⟩ := hrel
        rw [← HLN.out] at hj
        have HBR := Lib.hid hbr
        have HO := Lib.hid hown
        obtain ⟨y0, y1, y2, y3, y4⟩ := (HX.out.belowAll hbr).cells5
        have HBW := Lib.hid (HB1.out.trans (hbr.mono HB1.out.size))
        have hxl : (xs.length : Int) ≤ 3000 := by
          have h1 := constsL_len (l.take j)
          have h2 := HTK.out j
          have h3 := HSL.out
          rw [hx.out]; omega
        clear hbr hown
        by_cases hlt : j < ln
        · obtain ⟨e, he⟩ : ∃ e, l[j]? = some e := ⟨l[j]'(by rw [← HLN.out]; exact hlt), by simp⟩
          obtain ⟨b, o, hA, hb, hck⟩ := arg_cells HCL.out (by rw [← HLN.out]; omega)
          subst hA
          obtain ⟨a0, a1, a2, a3, a4⟩ := hck j e he wr HBW.out
          have hmem := List.mem_of_getElem? he
          have hnx := HNX.out j e he
          have htk := HTK.out (j + 1)
          have hsz1 := size_pos e
          have hsl := HSL.out
          have hel := consts_len e
          have HC := Lib.hid (HIH.out e hmem wr HBW.out (by have := sizeL_len (l.take j); omega))
          have HNEW := Lib.hid (show xs ++ e.consts = constsL (l.take (j + 1)) by rw [HCX.out j e he, hx.out])
          have hel2 : e.consts.length ≤ 3000 := by have := sizeL_len (l.take j); omega
          unfold Ex.v at HC
          have h1i : (j : Int) < (ln : Int) := by omega
          have HBS := Lib.hid HBW.out.size
          generalize e.op = p0 at *
          generalize e.vl.k = p1 at *
          generalize e.vl.n = p2 at *
          generalize e.vl.s = p3 at *
          generalize e.adr = p4 at *
          generalize e.args.length = p5 at *
          generalize e.cp = p6 at *
          generalize e.consts = ys at *
          clear hck he hmem hnx htk hx hsl hb hj hel hsz1
          go_wp2_with fail
          refine HC.out.mono ?_
          rintro q w2 ⟨A2, c2, rfl, ho2, hb2⟩
          have HO2 := Lib.hid (HO.out.below hb2)
          have HB2 := Lib.hid (HBR.out.trans (hb2.mono HBR.out.size))
          have HW2 := Lib.hid (HBW.out.trans (hb2.mono HBW.out.size))
          have HC2 := Lib.hid ho2.cells
          clear hb2 ho2
          dsimp only
          go_wp2_with (at_builtin; refine wpList_append_vals elV rfl _ _ 45 Tryd.underlying45 rfl W1.heap.size A1 c1 xs rfl HO2.out A2 c2 ys rfl HC2.out (by omega) (by decide) HB2.out.size ?_; intro A5 c5 w5 R hR ho5 hg5; have HB5 := Lib.hid (HO2.out.grow HB2.out hg5 HB2.out.size); have HO5 := Lib.hid ho5; have HG5 := Lib.hid hg5; clear hg5 ho5)
          go_roundw
          case rel => exact ⟨j + 1, R, A5, c5, rfl, by go_num, by rw [← HLN.out]; omega, Lib.hid (by rw [hR.out]; exact HNEW.out), HO5.out, HB5.out⟩
          case measure => simp [intOf]; omega
        · obtain rfl : j = ln := by omega
          have hd2 : decide ((j : Int) < (j : Int)) = false := by simp
          have HR := Lib.hid (show xs = constsL l by rw [hx.out, HLN.out]; exact HEND.out)
          clear hx
          go_wp2
          go_ret
          rw [HCN.out, ← HR.out]
          exact ⟨A1, c1, rfl, HO.out.mono HB1.out.size, HBW.out⟩
end Go.Proofs.YtjignlemahdoeaaDoor
namespace Go.Proofs.YtjignlemahdoeaaDoor
open Go.ChangeShapes Go.WideShapes Go.ChangeAt Go.RowKit
set_option linter.unusedVariables false
set_option maxRecDepth 20000
set_option maxHeartbeats 2000000 in
theorem rright_calls (e : Ex) (w : World) (hsz : e.size ≤ 3000) (hg : e.Good) (hA : e.At w) : Calls Tryd.prog 14 #[e.v] w fun q w' => q = .returned (.int .i64 e.right) ∧ Below w.heap.size w w' := by
  have hB1 := below_one w (.cells #[.int .i64 e.op, .int .u8 e.vl.k, .int .i64 e.vl.n, .string e.vl.s, .slice e.adr e.args.length e.cp] 41)
  have bx := Blk.new w #[.int .i64 e.op, .int .u8 e.vl.k, .int .i64 e.vl.n, .string e.vl.s, .slice e.adr e.args.length e.cp] 41
  obtain ⟨x0, x1, x2, x3, x4⟩ := bx.cells5
  have HS := Lib.hid (fun W (hW : Below w.heap.size w W) => rsize_calls e W (hA.below hW) hsz)
  have HD := Lib.hid (fun W (hW : Below w.heap.size w W) => rdeep_calls e W hsz (hA.below hW))
  have HH := Lib.hid (fun W (hW : Below w.heap.size w W) => rshaped_calls e W hsz (hA.below hW))
  have HW := Lib.hid (fun W (hW : Below w.heap.size w W) => rwide_calls e W hsz hg (hA.below hW))
  obtain ⟨r, hr⟩ : ∃ r, r = e.right := ⟨_, rfl⟩
  rw [← hr]
  unfold Ex.right at hr
  have HB0 := Lib.hid hB1
  have HX0 := Lib.hid bx
  unfold Ex.v at HS HD HH HW ⊢
  generalize e.size = sz at *
  generalize e.deep = dp at *
  generalize e.shaped = sh at *
  generalize e.wide = wi at *
  generalize e.op = p0 at *
  generalize e.vl.k = p1 at *
  generalize e.vl.n = p2 at *
  generalize e.vl.s = p3 at *
  generalize e.adr = p4 at *
  generalize e.args.length = p5 at *
  generalize e.cp = p6 at *
  clear hg hA hB1 bx
  by_cases h1 : 200 < sz
  · rw [if_pos h1] at hr
    subst hr
    have d1 : decide (200 < sz) = true := decide_eq_true h1
    go_enter Tryd.func14, Tryd.ntmps14
    go_wp2_with fail
    refine (HS.out _ HB0.out).mono ?_
    rintro q w1 ⟨rfl, hb1⟩
    obtain ⟨x0, x1, x2, x3, x4⟩ := (HX0.out.belowAll hb1).cells5
    have HX1 := Lib.hid (HX0.out.belowAll hb1)
    have HB1 := Lib.hid (HB0.out.trans (hb1.mono HB0.out.size))
    clear hb1
    dsimp only
    go_wp2
    go_ret
    exact ⟨rfl, HB1.out⟩
  · rw [if_neg h1] at hr
    have d1 : decide (200 < sz) = false := decide_eq_false h1
    by_cases h2 : 20 < dp
    · rw [if_pos h2] at hr
      subst hr
      have d2 : decide (20 < dp) = true := decide_eq_true h2
      go_enter Tryd.func14, Tryd.ntmps14
      go_wp2_with fail
      refine (HS.out _ HB0.out).mono ?_
      rintro q w1 ⟨rfl, hb1⟩
      obtain ⟨x0, x1, x2, x3, x4⟩ := (HX0.out.belowAll hb1).cells5
      have HX1 := Lib.hid (HX0.out.belowAll hb1)
      have HB1 := Lib.hid (HB0.out.trans (hb1.mono HB0.out.size))
      clear hb1
      dsimp only
      go_wp2_with fail
      refine (HD.out _ HB1.out).mono ?_
      rintro q w2 ⟨rfl, hb2⟩
      obtain ⟨x0, x1, x2, x3, x4⟩ := (HX1.out.belowAll hb2).cells5
      have HX2 := Lib.hid (HX1.out.belowAll hb2)
      have HB2 := Lib.hid (HB1.out.trans (hb2.mono HB1.out.size))
      clear hb2
      dsimp only
      go_wp2
      go_ret
      exact ⟨rfl, HB2.out⟩
    · rw [if_neg h2] at hr
      have d2 : decide (20 < dp) = false := decide_eq_false h2
      cases sh with
      | false =>
        rw [if_pos rfl] at hr
        subst hr
        go_enter Tryd.func14, Tryd.ntmps14
        go_wp2_with fail
        refine (HS.out _ HB0.out).mono ?_
        rintro q w1 ⟨rfl, hb1⟩
        obtain ⟨x0, x1, x2, x3, x4⟩ := (HX0.out.belowAll hb1).cells5
        have HX1 := Lib.hid (HX0.out.belowAll hb1)
        have HB1 := Lib.hid (HB0.out.trans (hb1.mono HB0.out.size))
        clear hb1
        dsimp only
        go_wp2_with fail
        refine (HD.out _ HB1.out).mono ?_
        rintro q w2 ⟨rfl, hb2⟩
        obtain ⟨x0, x1, x2, x3, x4⟩ := (HX1.out.belowAll hb2).cells5
        have HX2 := Lib.hid (HX1.out.belowAll hb2)
        have HB2 := Lib.hid (HB1.out.trans (hb2.mono HB1.out.size))
        clear hb2
        dsimp only
        go_wp2_with fail
        refine (HH.out _ HB2.out).mono ?_
        rintro q w3 ⟨rfl, hb3⟩
        obtain ⟨x0, x1, x2, x3, x4⟩ := (HX2.out.belowAll hb3).cells5
        have HX3 := Lib.hid (HX2.out.belowAll hb3)
        have HB3 := Lib.hid (HB2.out.trans (hb3.mono HB2.out.size))
        clear hb3
        dsimp only
        go_wp2
        go_ret
        exact ⟨rfl, HB3.out⟩
      | true =>
        rw [if_neg (by decide)] at hr
        cases wi with
        | true =>
          rw [if_pos rfl] at hr
          subst hr
          go_enter Tryd.func14, Tryd.ntmps14
          go_wp2_with fail
          refine (HS.out _ HB0.out).mono ?_
          rintro q w1 ⟨rfl, hb1⟩
          obtain ⟨x0, x1, x2, x3, x4⟩ := (HX0.out.belowAll hb1).cells5
          have HX1 := Lib.hid (HX0.out.belowAll hb1)
          have HB1 := Lib.hid (HB0.out.trans (hb1.mono HB0.out.size))
          clear hb1
          dsimp only
          go_wp2_with fail
          refine (HD.out _ HB1.out).mono ?_
          rintro q w2 ⟨rfl, hb2⟩
          obtain ⟨x0, x1, x2, x3, x4⟩ := (HX1.out.belowAll hb2).cells5
          have HX2 := Lib.hid (HX1.out.belowAll hb2)
          have HB2 := Lib.hid (HB1.out.trans (hb2.mono HB1.out.size))
          clear hb2
          dsimp only
          go_wp2_with fail
          refine (HH.out _ HB2.out).mono ?_
          rintro q w3 ⟨rfl, hb3⟩
          obtain ⟨x0, x1, x2, x3, x4⟩ := (HX2.out.belowAll hb3).cells5
          have HX3 := Lib.hid (HX2.out.belowAll hb3)
          have HB3 := Lib.hid (HB2.out.trans (hb3.mono HB2.out.size))
          clear hb3
          dsimp only
          go_wp2_with fail
          refine (HW.out _ HB3.out).mono ?_
          rintro q w4 ⟨rfl, hb4⟩
          obtain ⟨x0, x1, x2, x3, x4⟩ := (HX3.out.belowAll hb4).cells5
          have HX4 := Lib.hid (HX3.out.belowAll hb4)
          have HB4 := Lib.hid (HB3.out.trans (hb4.mono HB3.out.size))
          clear hb4
          dsimp only
          go_wp2
          go_ret
          exact ⟨rfl, HB4.out⟩
        | false =>
          rw [if_neg (by decide)] at hr
          subst hr
          go_enter Tryd.func14, Tryd.ntmps14
          go_wp2_with fail
          refine (HS.out _ HB0.out).mono ?_
          rintro q w1 ⟨rfl, hb1⟩
          obtain ⟨x0, x1, x2, x3, x4⟩ := (HX0.out.belowAll hb1).cells5
          have HX1 := Lib.hid (HX0.out.belowAll hb1)
          have HB1 := Lib.hid (HB0.out.trans (hb1.mono HB0.out.size))
          clear hb1
          dsimp only
          go_wp2_with fail
          refine (HD.out _ HB1.out).mono ?_
          rintro q w2 ⟨rfl, hb2⟩
          obtain ⟨x0, x1, x2, x3, x4⟩ := (HX1.out.belowAll hb2).cells5
          have HX2 := Lib.hid (HX1.out.belowAll hb2)
          have HB2 := Lib.hid (HB1.out.trans (hb2.mono HB1.out.size))
          clear hb2
          dsimp only
          go_wp2_with fail
          refine (HH.out _ HB2.out).mono ?_
          rintro q w3 ⟨rfl, hb3⟩
          obtain ⟨x0, x1, x2, x3, x4⟩ := (HX2.out.belowAll hb3).cells5
          have HX3 := Lib.hid (HX2.out.belowAll hb3)
          have HB3 := Lib.hid (HB2.out.trans (hb3.mono HB2.out.size))
          clear hb3
          dsimp only
          go_wp2_with fail
          refine (HW.out _ HB3.out).mono ?_
          rintro q w4 ⟨rfl, hb4⟩
          obtain ⟨x0, x1, x2, x3, x4⟩ := (HX3.out.belowAll hb4).cells5
          have HX4 := Lib.hid (HX3.out.belowAll hb4)
          have HB4 := Lib.hid (HB3.out.trans (hb4.mono HB3.out.size))
          clear hb4
          dsimp only
          go_wp2
          go_ret
          exact ⟨rfl, HB4.out⟩
end Go.Proofs.YtjignlemahdoeaaDoor
namespace Go.Proofs.YtjignlemahdoeaaDoor
open Go.ChangeShapes Go.WideShapes Go.ChangeAt Go.RowKit Go.Joins
set_option linter.unusedVariables false

theorem vals_of_fuel {α : Type} {H : Type} {encH : TypeId × Value → H} {W : World} {base : Nat} {held : Bool} (T e : TypeId) (hT : Tryd.prog.underlying T = some (.slice e)) (sz : Nat) (hsz : Tryd.prog.cellsOf e = sz) (hpos : 0 < sz) (en : α → List Value) (hen : ∀ x, (en x).length = sz) (G : α → Prop)
    {fuel : Nat} (hread : ∀ n, n < fuel → ∀ cs y, DataW.trod encH Tryd.prog W base (fun _ => true) held n e cs = some y → (∀ m ∈ y.1.weights Tryd.prog e, m ≤ reachBytes) → cs.length = sz → ∃ x, cs = en x ∧ G x)
    {a : Option Addr} {len cap : Nat} {x : DataW H × List MemPlace} (h : DataW.trod encH Tryd.prog W base (fun _ => true) held fuel T [.slice a len cap] = some x) (hW : ∀ m ∈ x.1.weights Tryd.prog T, m ≤ reachBytes) :
    ∃ xs : List α, xs.length = len ∧ xs.length ≤ cap ∧ xs.length ≤ maxLen ∧ CellsG en W a cap xs ∧ ∀ x ∈ xs, G x := by
  rcases DataW.trod_slice hT h with ⟨hcs, _⟩ | ⟨ad, l, c, elems, rest, n, hfu, hcs, hxx, _, hl, hm, hlen, hel, _, _⟩
  · simp only [List.cons.injEq, Value.slice.injEq, and_true] at hcs
    obtain ⟨rfl, rfl, rfl⟩ := hcs
    exact ⟨[], rfl, by simp, by simp, CellsG.nil en W, by simp⟩
  · simp only [List.cons.injEq, Value.slice.injEq, and_true] at hcs
    obtain ⟨rfl, rfl, rfl⟩ := hcs
    have each : ∀ i, i < len → ∃ x : α, G x ∧ ∀ j, j < sz → W.cell? (ad.add (i * sz + j)) = (en x)[j]? := fun i hi => by
      have h1 := hel i hi
      rw [List.getElem?_eq_getElem (by omega), hsz, Option.bind_eq_some_iff] at h1
      obtain ⟨cs, hc, hy⟩ := h1
      obtain ⟨_, hcl, hcell⟩ := World.cells?_some hc
      obtain ⟨x, hx, hG⟩ := hread n (by omega) cs _ hy (fun m hm' => hW m (by
        rw [hxx]
        simp only [DataW.weights, hT, List.mem_cons, List.mem_append]
        exact .inr (.inl (weights_all (List.mem_map.2 ⟨_, List.getElem_mem _, rfl⟩) hm')))) hcl
      refine ⟨x, hG, fun j hj => ?_⟩
      rw [← hx]
      have := hcell j hj
      rw [← this]
      refine congrArg W.cell? ?_
      unfold Addr.add
      by_cases h0 : i * sz = 0
      · simp [h0]
      · by_cases hj0 : j = 0
        · simp [h0, hj0]
        · simp [h0, hj0, Nat.add_assoc]
    have hx : ∃ xs : List α, xs.length = len ∧ ∀ i x, xs[i]? = some x → G x ∧ ∀ j, j < sz → W.cell? (ad.add (i * sz + j)) = (en x)[j]? := by
      have : ∀ m, m ≤ len → ∃ xs : List α, xs.length = m ∧ ∀ i x, xs[i]? = some x → G x ∧ ∀ j, j < sz → W.cell? (ad.add (i * sz + j)) = (en x)[j]? := by
        intro m
        induction m with
        | zero => exact fun _ => ⟨[], rfl, fun i x h => by simp at h⟩
        | succ m ih =>
          intro hm
          obtain ⟨xs, h1, h2⟩ := ih (by omega)
          obtain ⟨x, h3, h4⟩ := each m (by omega)
          refine ⟨xs ++ [x], by simp [h1], fun i y hy => ?_⟩
          rcases Nat.lt_or_ge i xs.length with h | h
          · rw [List.getElem?_append_left h] at hy
            exact h2 i y hy
          · rw [List.getElem?_append_right h] at hy
            have h0 : i - xs.length = 0 := by
              rcases Nat.eq_zero_or_pos (i - xs.length) with h | h
              · exact h
              · rw [List.getElem?_eq_none (by simp; omega)] at hy; cases hy
            rw [h0] at hy
            simp at hy
            subst hy
            rw [show i = m by omega]
            exact ⟨h3, h4⟩
      exact this len (Nat.le_refl _)
    obtain ⟨xs, h1, h2⟩ := hx
    refine ⟨xs, h1, by omega, by omega, .inr ⟨ad, rfl, fun k u hu => ?_⟩, fun x hx => ?_⟩
    · have hk : k < xs.length * sz := by
        have h3 : ∀ xs : List α, (cellsG en xs).length = xs.length * sz := by
          intro xs
          induction xs with
          | nil => simp [cellsG]
          | cons y xs ih =>
            simp only [cellsG] at ih
            simp only [cellsG, List.flatMap_cons, List.length_append, hen, ih, List.length_cons]
            rw [Nat.add_mul, Nat.one_mul, Nat.add_comm]
        rw [← h3 xs]
        exact (List.getElem?_eq_some_iff.1 hu).1
      have hi : k / sz < xs.length := Nat.div_lt_of_lt_mul (by rw [Nat.mul_comm]; exact hk)
      have hj : k % sz < sz := Nat.mod_lt _ hpos
      have hk2 : k / sz * sz + k % sz = k := Nat.div_add_mod' k sz
      have hxi : xs[k / sz]? = some xs[k / sz] := by simp [hi]
      have h4 := (h2 (k / sz) xs[k / sz] hxi).2 (k % sz) hj
      rw [hk2] at h4
      rw [h4]
      have h5 : ∀ (xs : List α) (i j : Nat) (x : α), xs[i]? = some x → j < sz → (cellsG en xs)[i * sz + j]? = (en x)[j]? := by
        intro xs
        induction xs with
        | nil => intro i j x h; simp at h
        | cons y xs ih =>
          intro i j x h hj
          cases i with
          | zero =>
            simp at h
            subst h
            simp only [cellsG, List.flatMap_cons, Nat.zero_mul, Nat.zero_add]
            rw [List.getElem?_append_left (by rw [hen]; exact hj)]
          | succ i =>
            simp only [List.getElem?_cons_succ] at h
            have ih := ih i j x h hj
            simp only [cellsG] at ih
            simp only [cellsG, List.flatMap_cons]
            rw [List.getElem?_append_right (by rw [hen, Nat.add_mul]; omega), hen, show (i + 1) * sz + j - sz = i * sz + j by rw [Nat.add_mul]; omega, ih]
      have h6 := h5 xs (k / sz) (k % sz) _ hxi hj
      rw [hk2, hu] at h6
      exact h6.symm
    · obtain ⟨i, hi⟩ := List.getElem?_of_mem hx
      exact (h2 i x hi).1

set_option maxRecDepth 20000 in
theorem expr_read {H : Type} {encH : TypeId × Value → H} {W : World} {base : Nat} {held : Bool} : ∀ (fuel : Nat) (cs : List Value) (x : DataW H × List MemPlace), DataW.trod encH Tryd.prog W base (fun _ => true) held fuel 41 cs = some x → (∀ m ∈ x.1.weights Tryd.prog 41, m ≤ reachBytes) → cs.length = 5 → ∃ e : Ex, cs = enX e ∧ e.Good ∧ e.At W := by
  intro fuel
  induction fuel using Nat.strongRecOn with
  | _ fuel ih =>
    intro cs x h hw hl
    obtain ⟨xs, m, hfu, hy, _, hlen, hf⟩ := DataW.trod_struct Tryd.underlying41 h
    match xs, hlen, cs, hl with
    | [y0, y1, y2], _, [u0, u1, u2, u3, u4], _ =>
      have g0 : DataW.trod encH Tryd.prog W base (fun _ => true) held m 3 ((([u0, u1, u2, u3, u4] : List Value).drop 0).take (Tryd.prog.cellsOf 3)) = some y0 := hf 0 _ rfl
      have g1 : DataW.trod encH Tryd.prog W base (fun _ => true) held m 33 ((([u0, u1, u2, u3, u4] : List Value).drop 1).take (Tryd.prog.cellsOf 33)) = some y1 := hf 1 _ rfl
      have g2 : DataW.trod encH Tryd.prog W base (fun _ => true) held m 39 ((([u0, u1, u2, u3, u4] : List Value).drop 4).take (Tryd.prog.cellsOf 39)) = some y2 := hf 2 _ rfl
      have c3 : Tryd.prog.cellsOf 3 = 1 := by kernel_rfl
      have c23 : Tryd.prog.cellsOf 33 = 3 := by kernel_rfl
      have c24 : Tryd.prog.cellsOf 39 = 1 := by kernel_rfl
      have c5 : Tryd.prog.cellsOf 5 = 1 := by kernel_rfl
      have c9 : Tryd.prog.cellsOf 9 = 1 := by kernel_rfl
      rw [c3] at g0
      rw [c23] at g1
      rw [c24] at g2
      obtain ⟨z0, e0, _, hz0⟩ := DataW.trod_int Tryd.underlying3 g0
      simp only [List.drop_succ_cons, List.drop_zero, List.take_succ_cons, List.take_zero] at g1
      obtain ⟨zs, m1, _, hy1, _, hlen1, hf1⟩ := DataW.trod_struct Tryd.underlying33 g1
      match zs, hlen1 with
      | [v0, v1, v2], _ =>
        have k0 : DataW.trod encH Tryd.prog W base (fun _ => true) held m1 5 ((([u1, u2, u3] : List Value).drop 0).take (Tryd.prog.cellsOf 5)) = some v0 := hf1 0 _ rfl
        have k1 : DataW.trod encH Tryd.prog W base (fun _ => true) held m1 3 ((([u1, u2, u3] : List Value).drop 1).take (Tryd.prog.cellsOf 3)) = some v1 := hf1 1 _ rfl
        have k2 : DataW.trod encH Tryd.prog W base (fun _ => true) held m1 9 ((([u1, u2, u3] : List Value).drop 2).take (Tryd.prog.cellsOf 9)) = some v2 := hf1 2 _ rfl
        rw [c5] at k0
        rw [c3] at k1
        rw [c9] at k2
        obtain ⟨a0, b0, _, ha0⟩ := DataW.trod_int Tryd.underlying5 k0
        obtain ⟨a1, b1, _, ha1⟩ := DataW.trod_int Tryd.underlying3 k1
        obtain ⟨s2, b2, ey2, hs2⟩ := DataW.trod_string Tryd.underlying9 k2
        have hyd : x.1 = _ := congrArg Prod.fst hy
        have hyd1 : y1.1 = _ := congrArg Prod.fst hy1
        have q2 := hw s2.data.toList.length (by rw [hyd]; simp only [List.map_cons, List.map_nil]; rw [hyd1]; simp [DataW.weights, Tryd.underlying41, Tryd.underlying33, DataW.weightsEach, ey2])
        simp at e0 b0 b1 b2
        subst e0 b0 b1 b2
        have hcs2 : ([u4] : List Value) = [u4] := rfl
        simp only [List.drop_succ_cons, List.drop_zero, List.take_succ_cons, List.take_zero] at g2
        have hsl : ∃ A len c, u4 = .slice A len c := by
          rcases DataW.trod_slice Tryd.underlying39 g2 with ⟨h1, _⟩ | ⟨ad, l, c, _, _, _, _, h1, _⟩
          · simp at h1; exact ⟨_, _, _, h1⟩
          · simp at h1; exact ⟨_, _, _, h1⟩
        obtain ⟨A, len, c, rfl⟩ := hsl
        obtain ⟨l, hll, _, hlm, hcl, hal⟩ := vals_of_fuel (encH := encH) (W := W) (base := base) (held := held) (fuel := m) 39 41 Tryd.underlying39 5 (by kernel_rfl) (by omega) enX (fun _ => rfl) (fun e => e.Good ∧ e.At W) (fun n hn cs y h1 h2 h3 => ih n (by omega) cs y h1 h2 h3) g2 (fun m' hm' => hw m' (by rw [hyd]; simp only [List.map_cons, List.map_nil]; simp [DataW.weights, Tryd.underlying41, DataW.weightsEach]; simp [hm']))
        have hi0 := bounds_i64 hz0
        have hi1 := bounds_i64 ha1
        have hb0 := bounds_u8 ha0
        subst hll
        refine ⟨.node z0 ⟨a0, a1, s2⟩ A c l, rfl, ?_, ?_⟩
        · simp only [Ex.Good]
          exact ⟨⟨⟨by omega, by omega⟩, ⟨by show 0 ≤ a0; omega, by show a0 ≤ 255; omega, by show -9223372036854775808 ≤ a1; omega, by show a1 ≤ 9223372036854775807; omega, by simpa using q2⟩⟩, hlm, goodL_of fun e he => (hal e he).1⟩
        · simp only [Ex.At]
          exact ⟨hcl, atL_of fun e he => (hal e he).2⟩
set_option maxRecDepth 20000 in
theorem expr_of_arg {H : Type} {encH : TypeId × Value → H} {W : World} {base : Nat} {held : Bool} {r : Reach} {b0 : Nat} {v : Value} {d : DataW H} {p : List MemPlace} (hv : Value.okWide Tryd.prog W r b0 41 v) (h : DataW.Trod encH Tryd.prog W base (fun _ => true) held 41 v d p) (hw : ∀ m ∈ d.weights Tryd.prog 41, m ≤ reachBytes) : ∃ e : Ex, v = e.v ∧ e.Good ∧ e.At W := by
  obtain ⟨cs, rfl, hsz⟩ := okWide_struct Tryd.underlying41 hv
  obtain ⟨fuel, hf⟩ := h
  have h3 : Tryd.prog.cellsOf 41 = 5 := by kernel_rfl
  obtain ⟨e, h1, h2⟩ := expr_read fuel _ _ hf hw (by simp [Value.cells]; omega)
  refine ⟨e, ?_, h2⟩
  have : cs = (enX e).toArray := by rw [← h1]; simp [Value.cells]
  rw [this]; rfl
end Go.Proofs.YtjignlemahdoeaaDoor
namespace Go.Proofs.YtjignlemahdoeaaDoor
open Go.ChangeShapes Go.WideShapes Go.ChangeAt Go.RowKit
set_option linter.unusedVariables false
set_option maxRecDepth 20000
theorem consts_good : ∀ e : Ex, e.Good → ∀ u ∈ e.consts, u.s.size ≤ reachBytes := by
  intro e
  induction e using Ex.ind with
  | h op v A c l ih =>
    intro hg u hu
    simp only [Ex.Good] at hg
    simp only [Ex.consts] at hu
    have key : ∀ l : List Ex, (∀ e ∈ l, e.Good → ∀ u ∈ e.consts, u.s.size ≤ reachBytes) → goodL l → ∀ u ∈ constsL l, u.s.size ≤ reachBytes := by
      intro l
      induction l with
      | nil => intro _ _ u hu; simp [constsL] at hu
      | cons e l ihl =>
        intro h hg u hu
        simp only [goodL] at hg
        simp only [constsL, List.mem_append] at hu
        rcases hu with hu | hu
        · exact h e (by simp) hg.1 u hu
        · exact ihl (fun x hx => h x (by simp [hx])) hg.2 u hu
    split at hu
    · simp at hu; subst hu; exact hg.1.2.s1
    · exact key l ih hg.2.2 u hu
theorem ord_plain (u : Vl) : ordV (plainV u) u = 0 := by
  obtain ⟨k, n, s⟩ := u
  by_cases h : k = 0
  · have e : plainV ⟨k, n, s⟩ = ⟨k, n, ⟨#[]⟩⟩ := by unfold plainV; rw [if_pos h, h]
    rw [e]
    unfold ordV
    dsimp only
    rw [if_pos h, if_pos h]
    unfold cmpI
    rw [if_neg (Int.lt_irrefl n), if_neg (Int.lt_irrefl n)]
  · have e : plainV ⟨k, n, s⟩ = ⟨1, 0, s⟩ := by unfold plainV; rw [if_neg h]
    rw [e]
    have h2 := ordV_self ⟨k, n, s⟩
    unfold ordV at h2 ⊢
    dsimp only at h2 ⊢
    rw [if_neg h, if_neg h] at h2
    rw [if_neg (show ¬ (1 : Int) = 0 by omega), if_neg h]
    exact h2
theorem plain_size (u : Vl) (h : u.s.size ≤ reachBytes) : (plainV u).s.size ≤ reachBytes := by
  unfold plainV; split
  · exact Nat.zero_le _
  · exact h
/-- The number of values among the first tokens. -/
def cntV (l : List Tk) (k : Nat) : Nat := (valsOf (l.take k)).length
theorem cntV_next {l : List Tk} {k : Nat} {t : Tk} (h : l[k]? = some t) : cntV l (k + 1) = cntV l k + if t.k = 4 then 1 else 0 := by
  unfold cntV
  rw [List.take_add_one, h, Option.toList_some, valsOf_append, List.length_append]
  congr 1
  unfold valsOf
  by_cases h4 : t.k = 4
  · rw [if_pos h4]; simp [h4]
  · rw [if_neg h4]; simp [h4]
theorem cntV_val {l : List Tk} {k : Nat} {t : Tk} {cs : List Vl} (h : l[k]? = some t) (h4 : t.k = 4) (hv : valsOf l = cs.map plainV) : ∃ u, cs[cntV l k]? = some u ∧ t.v = plainV u := by
  have hk := (List.getElem?_eq_some_iff.1 h).1
  have e : valsOf l = valsOf (l.take k) ++ (t.v :: valsOf (l.drop (k + 1))) := by
    have h1 : l = l.take k ++ (t :: l.drop (k + 1)) := by
      have h2 : l[k] = t := by have := (List.getElem?_eq_some_iff.1 h).2; exact this
      rw [← h2, List.getElem_cons_drop, List.take_append_drop]
    conv => lhs; rw [h1]
    rw [valsOf_append]
    congr 1
    unfold valsOf
    rw [List.filter_cons_of_pos (by simpa using h4)]; rfl
  have h3 : (valsOf l)[cntV l k]? = some t.v := by
    rw [e, List.getElem?_append_right (by unfold cntV; omega)]
    unfold cntV; simp
  rw [hv, List.getElem?_map] at h3
  cases hc : cs[cntV l k]? with
  | none => rw [hc] at h3; cases h3
  | some u =>
    rw [hc] at h3
    simp only [Option.map_some, Option.some.injEq] at h3
    exact ⟨u, rfl, h3.symm⟩
theorem cntV_end {l : List Tk} {cs : List Vl} (hv : valsOf l = cs.map plainV) : cntV l l.length = cs.length := by
  unfold cntV; rw [List.take_length, hv, List.length_map]
theorem cells_blk {α : Type} {e : TypeId} {sz bt : Nat} {z : Value} {en : α → List Value} (E : El e sz bt z en) {W : World} {b : Nat} {cs : Array Value} {t : TypeId} (h : Blk W b cs t) (x : α) (hcs : cs.toList = en x) : CellsG en W (some ⟨b, 0, none⟩) 1 [x] := by
  refine .inr ⟨_, rfl, fun j u hu => ?_⟩
  simp only [cellsG, List.flatMap_cons, List.flatMap_nil, List.append_nil] at hu
  have hc : cs[j]? = some u := by rw [← Array.getElem?_toList, hcs]; exact hu
  have e1 : (⟨b, 0, none⟩ : Addr).add j = ⟨b, j, none⟩ := by
    unfold Addr.add
    split
    · rename_i hz; rw [hz]
    · simp
  rw [e1, h.cell j]
  exact hc
/-- Two tokens of values that are the same, each in a block of its own. -/
theorem same2_blks (v u : Vl) (ho : ordV v u = 0) (hv : v.s.size ≤ reachBytes) (hu : u.s.size ≤ reachBytes) (W : World) (b1 b2 : Nat) (h1 : Blk W b1 #[.int .u8 0, .string ⟨#[]⟩, .int .u8 v.k, .int .i64 v.n, .string v.s, .int .i64 0] 35) (h2 : Blk W b2 #[.int .u8 0, .string ⟨#[]⟩, .int .u8 u.k, .int .i64 u.n, .string u.s, .int .i64 0] 35) :
    Calls Tryd.prog 9 #[.slice (some ⟨b1, 0, none⟩) 1 1, .slice (some ⟨b2, 0, none⟩) 1 1] W fun e w' => e = .returned (.bool true) ∧ Below W.heap.size W w' := by
  refine rsame_calls (l := [⟨0, [], v, 0⟩]) (m := [⟨0, [], u, 0⟩]) (cells_blk elT h1 ⟨0, [], v, 0⟩ rfl) (cells_blk elT h2 ⟨0, [], u, 0⟩ rfl) ⟨rfl, fun j t s ht hs => ?_⟩ (by simp)
  cases j with
  | zero =>
    simp at ht hs
    subst ht hs
    exact ⟨rfl, rfl, rfl, ho, hv, hu⟩
  | succ j => simp at ht
/-- The cells of the value at an index. -/
theorem val_cells {W : World} {A : Option Addr} {c : Nat} {l : List Vl} (h : CellsG enV W A c l) (hl : 0 < l.length) :
    ∃ b o, A = some ⟨b, o, none⟩ ∧ b < W.heap.size ∧ ∀ j u, l[j]? = some u → ∀ W', Below W.heap.size W W' → W'.cell? ⟨b, o + j * 3, none⟩ = some (.int .u8 u.k) ∧ W'.cell? ⟨b, o + j * 3 + 1, none⟩ = some (.int .i64 u.n) ∧ W'.cell? ⟨b, o + j * 3 + 2, none⟩ = some (.string u.s) := by
  obtain ⟨b, o, hA, hb, hc⟩ := h.at_ elV hl
  refine ⟨b, o, hA, hb, fun k e he W' hW => ?_⟩
  have q : ∀ j, j < 3 → W'.cell? ⟨b, o + (k * 3 + j), none⟩ = (enV e)[j]? := fun j hj => (hW.cell (p := ⟨b, o + (k * 3 + j), none⟩) hb).trans (hc k j e he hj)
  exact ⟨q 0 (by omega), by have := q 1 (by omega); rwa [← Nat.add_assoc] at this, by have := q 2 (by omega); rwa [← Nat.add_assoc] at this⟩
end Go.Proofs.YtjignlemahdoeaaDoor
namespace Go.Proofs.YtjignlemahdoeaaDoor
open Go.ChangeShapes Go.WideShapes Go.ChangeAt Go.RowKit
set_option linter.unusedVariables false
set_option maxRecDepth 20000
def RelE (l : List Tk) (w3 : World) (n' i : Value) (wr : World) : Prop := ∃ k m : Nat, n' = .int .i64 m ∧ i = .int .i64 k ∧ k ≤ l.length ∧ m ≤ k ∧ Hid (m = cntV l k) ∧ Below w3.heap.size w3 wr
set_option maxHeartbeats 4000000 in
theorem exprs_walk (x : Ex) (w : World) (hg : x.Good) (hA : x.At w) (hv : ErrV w) : Calls Tryd.prog 5 #[x.v] w fun q w' => q = .returned (.bool true) ∧ Below w.heap.size w w' := by
  have hB1 := below_one w (.cells #[.int .i64 x.op, .int .u8 x.vl.k, .int .i64 x.vl.n, .string x.vl.s, .slice x.adr x.args.length x.cp] 41)
  have bx := Blk.new w #[.int .i64 x.op, .int .u8 x.vl.k, .int .i64 x.vl.n, .string x.vl.s, .slice x.adr x.args.length x.cp] 41
  have HLV := Lib.hid (fun W (hW : Below w.heap.size w W) => live_calls W (hv.below hW))
  have HV := Lib.hid (fun W (hW : Below w.heap.size w W) => hv.below hW)
  have HBG := Lib.hid (fun W (hW : Below w.heap.size w W) => rbig_calls x W hg (hA.below hW))
  by_cases hbig : x.weigh 3000 < 0
  · have hb9 : decide (x.weigh 3000 < 0) = true := decide_eq_true hbig
    rw [hb9] at HBG
    unfold Ex.v at HBG ⊢
    generalize x.op = op at *
    generalize x.vl.k = k at *
    generalize x.vl.n = n at *
    generalize x.vl.s = s at *
    generalize x.adr = A at *
    generalize x.args.length = ln at *
    generalize x.cp = c at *
    obtain ⟨x0, x1, x2, x3, x4⟩ := bx.cells5
    have HB1 := Lib.hid hB1
    clear hg hA hv hbig hb9 hB1 bx HV
    go_enter Tryd.func5, Tryd.ntmps5
    go_wp2_with fail
    refine (HBG.out _ HB1.out).mono ?_
    rintro e w1 ⟨rfl, hb1⟩
    have HB2 := Lib.hid (HB1.out.trans (hb1.mono HB1.out.size))
    clear hb1
    dsimp only
    go_wp2_with fail
    refine (HLV.out _ HB2.out).mono ?_
    rintro e w2 ⟨rfl, hb2⟩
    dsimp only
    go_wp2
    go_ret
    exact ⟨rfl, HB2.out.trans (hb2.mono HB2.out.size)⟩
  · have hb9 : decide (x.weigh 3000 < 0) = false := decide_eq_false hbig
    have hst := not_big hbig
    have hsz : x.size ≤ 3000 := by have := txt_nonneg x; omega
    rw [hb9] at HBG
    have HR := Lib.hid (fun W (hW : Below w.heap.size w W) => rright_calls x W hsz hg (hA.below hW))
    by_cases hr : x.right = 0
    · have HS := Lib.hid (fun W (hW : Below w.heap.size w W) => rsize_calls x W (hA.below hW) hsz)
      have HT := Lib.hid (fun W (hW : Below w.heap.size w W) => rtext_calls x W hst hg (hA.below hW))
      have HCS := Lib.hid (fun W (hW : Below w.heap.size w W) => consts_calls x W (hA.below hW) hsz)
      have ⟨h200, hsh, hwd⟩ : x.size ≤ 200 ∧ x.shaped = true ∧ x.wide = false := by
        unfold Ex.right at hr
        split at hr
        · cases hr
        · split at hr
          · cases hr
          · split at hr
            · cases hr
            · split at hr
              · cases hr
              · rename_i h1 h2 h3 h4
                exact ⟨by omega, by simpa using h3, by simpa using h4⟩
      have htk := tokens_text x hsh hwd hg (by omega)
      have htb := text_isB x hg
      have htl := text_len x hg
      have hts : (str x.text).size ≤ 1000000 := by rw [str_size]; have := txt_nonneg x; omega
      have HTK := Lib.hid (fun W (hW : Below w.heap.size w W) => tokens_calls (str x.text) hts W (HV.out W hW))
      rw [sl_str htb, htk] at HTK
      dsimp only at HTK
      have hlen := toks_len x 0
      have HVAL := Lib.hid (toks_vals x 0 hsh)
      have HCG := Lib.hid (consts_good x hg)
      have hcl := consts_len x
      rw [hr] at HR
      have hsp := size_pos x
      generalize x.toks 0 = l at *
      generalize x.consts = cs at *
      generalize (x.text.length : Int) = tl at *
      generalize str x.text = tx at *
      unfold Ex.v at HBG HR HS HT HCS ⊢
      generalize x.size = sz at *
      generalize x.op = op at *
      generalize x.vl.k = k at *
      generalize x.vl.n = n at *
      generalize x.vl.s = s at *
      generalize x.adr = A at *
      generalize x.args.length = ln at *
      generalize x.cp = c at *
      obtain ⟨N, hN⟩ : ∃ N, N = l.length := ⟨_, rfl⟩
      have HN := Lib.hid hN
      obtain ⟨M, hM⟩ : ∃ M, M = cs.length := ⟨_, rfl⟩
      have HM := Lib.hid hM
      rw [← hN] at HTK hlen
      rw [← hM] at HCS hcl
      have HCD := Lib.hid (code_calls 0)
      have d3 : decide (3 * sz < (N : Int)) = false := decide_eq_false (by omega)
      obtain ⟨x0, x1, x2, x3, x4⟩ := bx.cells5
      have HB1 := Lib.hid hB1
      have HX := Lib.hid bx
      clear hg hA hv hbig hb9 hB1 bx hst hsh hwd htk htb htl hts hN hM hr
      go_enter Tryd.func5, Tryd.ntmps5
      go_wp2_with fail
      refine (HBG.out _ HB1.out).mono ?_
      rintro e w1 ⟨rfl, hb1⟩
      have HB2 := Lib.hid (HB1.out.trans (hb1.mono HB1.out.size))
      have HX1 := Lib.hid (HX.out.belowAll hb1)
      obtain ⟨x0, x1, x2, x3, x4⟩ := HX1.out.cells5
      clear hb1
      dsimp only
      go_wp2_with fail
      refine (HR.out _ HB2.out).mono ?_
      rintro e w2 ⟨rfl, hb2⟩
      have HB3 := Lib.hid (HB2.out.trans (hb2.mono HB2.out.size))
      have HX2 := Lib.hid (HX1.out.belowAll hb2)
      obtain ⟨x0, x1, x2, x3, x4⟩ := HX2.out.cells5
      clear hb2
      dsimp only
      go_wp2_with fail
      refine (HT.out _ HB3.out).mono ?_
      rintro e w3 ⟨rfl, hb3⟩
      have HB4 := Lib.hid (HB3.out.trans (hb3.mono HB3.out.size))
      have HX3 := Lib.hid (HX2.out.belowAll hb3)
      clear hb3
      dsimp only
      go_wp2_with fail
      refine (HTK.out _ HB4.out).mono ?_
      rintro e w4 ⟨A1, c1, rfl, ho1, hb4⟩
      have HO1 := Lib.hid ho1.cells
      have HB5 := Lib.hid (HB4.out.trans (hb4.mono HB4.out.size))
      have HX4 := Lib.hid (HX3.out.belowAll hb4)
      obtain ⟨x0, x1, x2, x3, x4⟩ := HX4.out.cells5
      clear hb4 ho1
      dsimp only
      go_wp2_with (go_at_call 10; refine (HCD.out _).mono ?_; rintro e' w4' ⟨rfl, h9⟩; obtain rfl := h9.symm)
      refine (HS.out _ HB5.out).mono ?_
      rintro e w5 ⟨rfl, hb5⟩
      have HB6 := Lib.hid (HB5.out.trans (hb5.mono HB5.out.size))
      have HX5 := Lib.hid (HX4.out.belowAll hb5)
      have HO2 := Lib.hid (HO1.out.below hb5)
      obtain ⟨x0, x1, x2, x3, x4⟩ := HX5.out.cells5
      clear hb5
      dsimp only
      go_wp2_with fail
      refine (HCS.out _ HB6.out).mono ?_
      rintro e w6 ⟨A2, c2, rfl, ho2, hb6⟩
      have HB7 := Lib.hid (HB6.out.trans (hb6.mono HB6.out.size))
      have HO3 := Lib.hid (HO2.out.below hb6)
      have HO4 := Lib.hid ho2.cells
      clear hb6 ho2 x0 x1 x2 x3 x4
      dsimp only
      go_wp2_with fail
      go_loopw [7, 8] (RelE l w6) (fun _ i _ => N + 1 - (intOf i).toNat)
      case atStart => exact ⟨0, 0, rfl, rfl, by omega, by omega, Lib.hid (by unfold cntV; simp [valsOf]), Below.refl _ _⟩
      case round =>
        obtain ⟨k2, m, rfl, rfl, hk, hmk, hm, hb⟩ := hrel
        rw [← HN.out] at hk
        have HB := Lib.hid hb
        have HMM := Lib.hid hm.out
        clear hb hm
        by_cases hlt : k2 < N
        · have hi : (k2 : Int) < (N : Int) := by omega
          obtain ⟨t, ht⟩ : ∃ t, l[k2]? = some t := ⟨l[k2]'(by rw [← HN.out]; exact hlt), by simp⟩
          obtain ⟨b1, o1, rfl, hb1l, hc1⟩ := tok_cells HO3.out (by rw [← HN.out]; omega)
          obtain ⟨y0, _, y2, y3, y4, _⟩ := hc1 k2 t ht wr HB.out
          have HNX := Lib.hid (cntV_next ht)
          have HC1 := Lib.hid (fun W hW => (hc1 k2 t ht W hW))
          have HVV := Lib.hid (fun h4 => cntV_val (cs := cs) ht h4 HVAL.out)
          rw [← HMM.out] at HNX HVV
          obtain ⟨tk, nm, ⟨vk, vn, vs⟩, ti⟩ := t
          dsimp only at y0 y2 y3 y4 HC1 HNX HVV
          clear hc1 ht
          by_cases h4 : tk = 4
          · have d4 : (tk != 4) = false := by simpa using h4
            obtain ⟨u, hu, huv⟩ := HVV.out h4
            have hmM : m < M := by rw [HM.out]; exact (List.getElem?_eq_some_iff.1 hu).1
            have dm : decide ((M : Int) ≤ (m : Int)) = false := decide_eq_false (by omega)
            have dmN : decide (M ≤ m) = false := decide_eq_false (by omega)
            have dmN2 : ¬ M ≤ m := by omega
            have dm2 : ¬ (M : Int) ≤ (m : Int) := by omega
            have hmi : (m : Int) < (M : Int) := by omega
            obtain ⟨b2, o2, rfl, hb2l, hc2⟩ := val_cells HO4.out (by rw [← HM.out]; omega)
            obtain ⟨q0, q1, q2⟩ := hc2 m u hu wr HB.out
            have HC2 := Lib.hid (fun W hW => (hc2 m u hu W hW))
            have hus := HCG.out u (List.mem_of_getElem? hu)
            have hvs : (⟨vk, vn, vs⟩ : Vl).s.size ≤ reachBytes := by rw [huv]; exact plain_size u hus
            have HSA := Lib.hid (same2_blks ⟨vk, vn, vs⟩ u (by rw [huv]; exact ord_plain u) hvs hus)
            obtain ⟨uk, un, us⟩ := u
            dsimp only at q0 q1 q2 HC2 HSA
            have HN1 := Lib.hid (show m + 1 = cntV l (k2 + 1) by rw [HNX.out, if_pos h4])
            have F1 := Lib.hid (show Blk ((wr.alloc (.cells #[.int .u8 0, .string ⟨#[]⟩, .int .u8 vk, .int .i64 vn, .string vs, .int .i64 0] 35)).alloc (.cells #[.int .u8 0, .string ⟨#[]⟩, .int .u8 uk, .int .i64 un, .string us, .int .i64 0] 35)).drew wr.heap.size #[.int .u8 0, .string ⟨#[]⟩, .int .u8 vk, .int .i64 vn, .string vs, .int .i64 0] 35 from (Blk.new wr #[.int .u8 0, .string ⟨#[]⟩, .int .u8 vk, .int .i64 vn, .string vs, .int .i64 0] 35).alloc (.cells #[.int .u8 0, .string ⟨#[]⟩, .int .u8 uk, .int .i64 un, .string us, .int .i64 0] 35))
            have F2 := Lib.hid (show Blk ((wr.alloc (.cells #[.int .u8 0, .string ⟨#[]⟩, .int .u8 vk, .int .i64 vn, .string vs, .int .i64 0] 35)).alloc (.cells #[.int .u8 0, .string ⟨#[]⟩, .int .u8 uk, .int .i64 un, .string us, .int .i64 0] 35)).drew (wr.heap.size + 1) #[.int .u8 0, .string ⟨#[]⟩, .int .u8 uk, .int .i64 un, .string us, .int .i64 0] 35 from Blk.newAt (wr.alloc (.cells #[.int .u8 0, .string ⟨#[]⟩, .int .u8 vk, .int .i64 vn, .string vs, .int .i64 0] 35)) #[.int .u8 0, .string ⟨#[]⟩, .int .u8 uk, .int .i64 un, .string us, .int .i64 0] 35 (by simp))
            have F3 := Lib.hid (show Blk ((wr.alloc (.cells #[.int .u8 0, .string ⟨#[]⟩, .int .u8 uk, .int .i64 un, .string us, .int .i64 0] 35)).alloc (.cells #[.int .u8 0, .string ⟨#[]⟩, .int .u8 vk, .int .i64 vn, .string vs, .int .i64 0] 35)).drew (wr.heap.size + 1) #[.int .u8 0, .string ⟨#[]⟩, .int .u8 vk, .int .i64 vn, .string vs, .int .i64 0] 35 from Blk.newAt (wr.alloc (.cells #[.int .u8 0, .string ⟨#[]⟩, .int .u8 uk, .int .i64 un, .string us, .int .i64 0] 35)) #[.int .u8 0, .string ⟨#[]⟩, .int .u8 vk, .int .i64 vn, .string vs, .int .i64 0] 35 (by simp))
            have F4 := Lib.hid (show Blk ((wr.alloc (.cells #[.int .u8 0, .string ⟨#[]⟩, .int .u8 uk, .int .i64 un, .string us, .int .i64 0] 35)).alloc (.cells #[.int .u8 0, .string ⟨#[]⟩, .int .u8 vk, .int .i64 vn, .string vs, .int .i64 0] 35)).drew wr.heap.size #[.int .u8 0, .string ⟨#[]⟩, .int .u8 uk, .int .i64 un, .string us, .int .i64 0] 35 from (Blk.new wr #[.int .u8 0, .string ⟨#[]⟩, .int .u8 uk, .int .i64 un, .string us, .int .i64 0] 35).alloc (.cells #[.int .u8 0, .string ⟨#[]⟩, .int .u8 vk, .int .i64 vn, .string vs, .int .i64 0] 35))
            have F5 := Lib.hid (below_two wr (.cells #[.int .u8 0, .string ⟨#[]⟩, .int .u8 vk, .int .i64 vn, .string vs, .int .i64 0] 35) (.cells #[.int .u8 0, .string ⟨#[]⟩, .int .u8 uk, .int .i64 un, .string us, .int .i64 0] 35)).drew
            have F6 := Lib.hid (below_two wr (.cells #[.int .u8 0, .string ⟨#[]⟩, .int .u8 uk, .int .i64 un, .string us, .int .i64 0] 35) (.cells #[.int .u8 0, .string ⟨#[]⟩, .int .u8 vk, .int .i64 vn, .string vs, .int .i64 0] 35)).drew
            obtain ⟨_, _, p2, p3, p4, _⟩ := HC1.out _ (HB.out.trans ((below_one wr (.cells #[.int .u8 0, .string ⟨#[]⟩, .int .u8 uk, .int .i64 un, .string us, .int .i64 0] 35)).mono HB.out.size))
            obtain ⟨r0, r1, r2⟩ := HC2.out _ (HB.out.trans ((below_one wr (.cells #[.int .u8 0, .string ⟨#[]⟩, .int .u8 vk, .int .i64 vn, .string vs, .int .i64 0] 35)).mono HB.out.size))
            clear hu huv hus hvs hc2 h4 HVV
            go_upto_region 12 with fail
            go_cut [69] from 37 to 71 (fun s69 wx => s69 = .bool false ∧ Below wr.heap.size wr wx)
            case first =>
              have HK := Lib.hid (fun W (hW : Below wr.heap.size wr W) => show W.cell? ⟨b1, o1 + k2 * 6 + 2, none⟩ = some (.int .u8 vk) ∧ W.cell? ⟨b1, o1 + k2 * 6 + 3, none⟩ = some (.int .i64 vn) ∧ W.cell? ⟨b1, o1 + k2 * 6 + 4, none⟩ = some (.string vs) ∧ W.cell? ⟨b2, o2 + m * 3, none⟩ = some (.int .u8 uk) ∧ W.cell? ⟨b2, o2 + m * 3 + 1, none⟩ = some (.int .i64 un) ∧ W.cell? ⟨b2, o2 + m * 3 + 2, none⟩ = some (.string us) from by
                have g1 := HC1.out W (HB.out.trans (hW.mono HB.out.size))
                have g2 := HC2.out W (HB.out.trans (hW.mono HB.out.size))
                exact ⟨g1.2.2.1, g1.2.2.2.1, g1.2.2.2.2.1, g2.1, g2.2.1, g2.2.2⟩)
              have K0 := Lib.hid (HK.out wr.drew (Below.refl _ _).drew)
              have K1 := Lib.hid (HK.out (wr.alloc (.cells #[.int .u8 0, .string ⟨#[]⟩, .int .u8 vk, .int .i64 vn, .string vs, .int .i64 0] 35)).drew (below_one wr (.cells #[.int .u8 0, .string ⟨#[]⟩, .int .u8 vk, .int .i64 vn, .string vs, .int .i64 0] 35)).drew)
              have K2 := Lib.hid (HK.out (wr.alloc (.cells #[.int .u8 0, .string ⟨#[]⟩, .int .u8 uk, .int .i64 un, .string us, .int .i64 0] 35)).drew (below_one wr (.cells #[.int .u8 0, .string ⟨#[]⟩, .int .u8 uk, .int .i64 un, .string us, .int .i64 0] 35)).drew)
              have K3 := Lib.hid (HK.out ((wr.alloc (.cells #[.int .u8 0, .string ⟨#[]⟩, .int .u8 vk, .int .i64 vn, .string vs, .int .i64 0] 35)).alloc (.cells #[.int .u8 0, .string ⟨#[]⟩, .int .u8 uk, .int .i64 un, .string us, .int .i64 0] 35)).drew F5.out)
              have K4 := Lib.hid (HK.out ((wr.alloc (.cells #[.int .u8 0, .string ⟨#[]⟩, .int .u8 uk, .int .i64 un, .string us, .int .i64 0] 35)).alloc (.cells #[.int .u8 0, .string ⟨#[]⟩, .int .u8 vk, .int .i64 vn, .string vs, .int .i64 0] 35)).drew F6.out)
              go_region_held3 (fun W => W.cell? ⟨b1, o1 + k2 * 6 + 2, none⟩ = some (.int .u8 vk) ∧ W.cell? ⟨b1, o1 + k2 * 6 + 3, none⟩ = some (.int .i64 vn) ∧ W.cell? ⟨b1, o1 + k2 * 6 + 4, none⟩ = some (.string vs) ∧ W.cell? ⟨b2, o2 + m * 3, none⟩ = some (.int .u8 uk) ∧ W.cell? ⟨b2, o2 + m * 3 + 1, none⟩ = some (.int .i64 un) ∧ W.cell? ⟨b2, o2 + m * 3 + 2, none⟩ = some (.string us)) (first | with_reducible exact K0.out | with_reducible exact K1.out | with_reducible exact K2.out | with_reducible exact K3.out | with_reducible exact K4.out | with_reducible exact K9.out) (first | (go_at_call 9; refine (HSA.out _ _ _ (by first | with_reducible exact F1.out | with_reducible exact F3.out) (by first | with_reducible exact F2.out | with_reducible exact F4.out)).mono ?_; rintro e' w9 ⟨rfl, hb9⟩; have HB9 := Lib.hid (Below.trans (by first | with_reducible exact F5.out | with_reducible exact F6.out) (hb9.mono (by simp; omega))); have K9 := Lib.hid (HK.out w9 HB9.out); clear hb9))
              all_goals
                go_wp2_with fail
                go_meet
                exact ⟨rfl, HB9.out⟩
            case rest =>
              obtain ⟨rfl, hbc⟩ := hcut
              have HBC := Lib.hid hbc
              clear hbc
              go_wp2
              go_roundw
              case rel => exact ⟨k2 + 1, m + 1, by go_num, by go_num, by rw [← HN.out]; omega, by omega, Lib.hid HN1.out, HB.out.trans (HBC.out.mono HB.out.size)⟩
              case measure => simp [intOf]; omega
          · have d4 : (tk != 4) = true := by simpa using h4
            have HN1 := Lib.hid (show m = cntV l (k2 + 1) by rw [HNX.out, if_neg h4]; rfl)
            go_wp2
            go_roundw
            case rel => exact ⟨k2 + 1, m, rfl, by go_num, by rw [← HN.out]; omega, by omega, Lib.hid HN1.out, HB.out⟩
            case measure => simp [intOf]; omega
        · have hd2 : decide ((k2 : Int) < (N : Int)) = false := decide_eq_false (by omega)
          obtain rfl : k2 = N := by omega
          have hmM : m = M := by rw [HMM.out, HN.out, cntV_end HVAL.out, HM.out]
          subst hmM
          have HBF := Lib.hid (HB7.out.trans (HB.out.mono HB7.out.size))
          go_wp2_with fail
          refine (HLV.out _ HBF.out).mono ?_
          rintro q' w9 ⟨rfl, hb9⟩
          have HB9 := Lib.hid (HBF.out.trans (hb9.mono HBF.out.size))
          clear hb9
          go_wp2
          go_ret
          exact ⟨rfl, HB9.out⟩
    · have he : (x.right != 0) = true := by simpa using hr
      unfold Ex.v at HBG HR ⊢
      generalize x.right = rt at *
      generalize x.op = op at *
      generalize x.vl.k = k at *
      generalize x.vl.n = n at *
      generalize x.vl.s = s at *
      generalize x.adr = A at *
      generalize x.args.length = ln at *
      generalize x.cp = c at *
      obtain ⟨x0, x1, x2, x3, x4⟩ := bx.cells5
      have HB1 := Lib.hid hB1
      have HX := Lib.hid bx
      clear hg hA hv hbig hb9 hB1 bx HV hst hsz hr
      go_enter Tryd.func5, Tryd.ntmps5
      go_wp2_with fail
      refine (HBG.out _ HB1.out).mono ?_
      rintro e w1 ⟨rfl, hb1⟩
      have HB2 := Lib.hid (HB1.out.trans (hb1.mono HB1.out.size))
      have HX1 := Lib.hid (HX.out.belowAll hb1)
      obtain ⟨x0, x1, x2, x3, x4⟩ := HX1.out.cells5
      clear hb1
      dsimp only
      go_wp2_with fail
      refine (HR.out _ HB2.out).mono ?_
      rintro e w2 ⟨rfl, hb2⟩
      have HB3 := Lib.hid (HB2.out.trans (hb2.mono HB2.out.size))
      clear hb2
      dsimp only
      go_wp2_with fail
      refine (HLV.out _ HB3.out).mono ?_
      rintro e w3 ⟨rfl, hb3⟩
      dsimp only
      go_wp2
      go_ret
      exact ⟨rfl, HB3.out.trans (hb3.mono HB3.out.size)⟩
end Go.Proofs.YtjignlemahdoeaaDoor
