/-
  The walk of FaultStages. Conditions: the argument as the row hands it over; the table of powers of ten reads as its initialiser lays it.
-/
import Derived.Test.YtgpaedknonkioaaDoorES
import Derived.Test.YtgpaedknonkioaaDoorFL
import Derived.Test.YtgpaedknonkioaaDoorLV
import Derived.Test.YtgpaedknonkioaaDoorEH
namespace Go.Proofs.YtgpaedknonkioaaDoor
open Go.ChangeShapes Go.WideShapes Go.ChangeAt Go.RowKit
set_option linter.unusedVariables false

/-- The document's All, none let in. -/
theorem rallO_calls (t : Option Er) (v : List Value) (w : World) (h : IsRO w t v) (hw : wtO t ≤ 1000000) : Calls Tryd.prog 9 #[.agg v.toArray] w (Ints w (allO t)) := by
  cases t with
  | none => obtain rfl := h; exact rall_none 0 0 ⟨#[]⟩ w
  | some t => exact rall_calls t v w h (Nat.le_trans hw (by omega))
theorem allO_le (t : Option Er) : (allO t).length ≤ wtO t := by
  cases t with
  | none => simp [allO]
  | some t => exact Er.all_le t
theorem stagesO_le (t : Option Er) : (stagesO t).length ≤ wtO t := by
  cases t with
  | none => simp [stagesO]
  | some t => exact Er.stages_le t
theorem hasO_all (t : Option Er) (n : Int) : hasO t n = decide (n ∈ allO t) := by
  cases t with
  | none => simp [hasO, allO]
  | some t => rfl

/-- Looking a number up. -/
def RelH (w : World) (R : List Int) (n : Int) (has i : Value) (wr : World) : Prop :=
  ∃ k : Nat, has = .bool (decide (n ∈ R.take k)) ∧ i = .int .i64 k ∧ k ≤ R.length ∧ wr = w

/-- Going through the stages: r is what is left of the document's error. -/
def RelG (w0 w : World) (g : Nat) (S : List (ByteArray × Int)) (A : Option Addr) (c : Nat) (i : Value) (wr : World) : Prop :=
  ∃ (k : Nat) (t : Option Er) (n1 m1 : Int) (s1 : ByteArray) (A1 : Option Addr) (l1 c1 : Nat), i = .int .i64 k ∧ k ≤ S.length ∧ S.drop k = stagesO t ∧ Blk wr g #[.int .i64 (kindO t), .int .i64 n1, .string s1, .int .i64 m1, .slice A1 l1 c1] 29 ∧
    IsRO w0 t [.int .i64 (kindO t), .int .i64 n1, .string s1, .int .i64 m1, .slice A1 l1 c1] ∧ OwnG 45 3 enL w.heap.size wr A c S ∧ Below w0.heap.size w0 wr

theorem kind_two {t : Option Er} (h : kindO t ≠ 2) : stagesO t = [] := by
  cases t with
  | none => rfl
  | some t => cases t <;> first | rfl | exact absurd rfl h

theorem own_set5 {B : Nat} {W : World} {A : Option Addr} {c : Nat} {xs : List (ByteArray × Int)} (h : OwnG 45 3 enL B W A c xs) {g : Nat} {a b d e f : Value} (hb : Blk W g #[a, b, d, e, f] 29) (a' b' c' d' f' : Value) :
    OwnG 45 3 enL B (((((W.setCell ⟨g, 0, none⟩ a').setCell ⟨g, 1, none⟩ b').setCell ⟨g, 2, none⟩ c').setCell ⟨g, 3, none⟩ d').setCell ⟨g, 4, none⟩ f') A c xs := by
  have h1 := hb.set 0 a'
  have h2 := h1.set 1 b'
  have h3 := h2.set 2 c'
  have h4 := h3.set 3 d'
  exact ((((h.other hb (by decide) 0 a').other h1 (by decide) 1 b').other h2 (by decide) 2 c').other h3 (by decide) 3 d').other h4 (by decide) 4 f'
theorem stages_next {St : List (ByteArray × Int)} {j : Nat} {t' : Option Er} (hdrop : St.drop j = stagesO t') (h2 : j < St.length) : ∃ s no u, t' = some (.stage s no u) ∧ St[j]? = some (s, no) ∧ St.drop (j + 1) = stagesO (some u) := by
  have hcons := List.drop_eq_getElem_cons h2
  rw [hdrop] at hcons
  cases t' with
  | none => exact absurd hcons (by intro h; cases h)
  | some t' =>
    cases t' with
    | num m => exact absurd hcons (by intro h; cases h)
    | two a b => exact absurd hcons (by intro h; cases h)
    | stage s no u =>
      have h1 : (s, no) = St[j] := (List.cons.inj hcons).1
      have h3 : u.stages = St.drop (j + 1) := (List.cons.inj hcons).2
      exact ⟨s, no, u, rfl, by rw [List.getElem?_eq_getElem h2, h1], h3.symm⟩
theorem stages_none {t' : Option Er} (hnil : stagesO t' = []) : kindO t' ≠ 2 := by
  intro h
  cases t' with
  | none => exact absurd h (by decide)
  | some t' =>
    cases t' with
    | num m => exact absurd h (show (1 : Int) ≠ 2 by decide)
    | two a b => exact absurd h (show (3 : Int) ≠ 2 by decide)
    | stage s no u => exact absurd hnil (by intro h; cases h)

set_option maxRecDepth 100000 in
set_option maxHeartbeats 4000000 in
theorem stages_walk (A : Option Addr) (c : Nat) (l : List Ac) (n : Int) (W : World) (hm : l.length ≤ maxLen) (hx : CellsG enA W A c l) (hs : ∀ a ∈ l, a.2.1.size ≤ reachBytes ∧ I64 a.2.2.1 ∧ I64 a.2.2.2) (hn : (Lit.int .i64 n).wf = true) (hT : Tab W.heap.size W) :
    Calls Tryd.prog 4 #[.slice A l.length c, .int .i64 n] W fun e W' => e = .returned (.bool true) ∧ Below W.heap.size W W' := by
  have HLong := Lib.hid (long_calls A c l W hx hm (fun a ha => (hs a ha).1))
  have HLive := Lib.hid (fun (w' : World) (hb : Below W.heap.size W w') => live_calls w' (fun W2 hW2 => hT W2 (Below.on hb hW2)))
  have HMade := Lib.hid (made_calls A c l W hx hm)
  have hok := resO_ok l (fun a ha => (hs a ha).2)
  have hwt := resO_wt l
  generalize total (l.take 40) = N at *
  generalize resO l = t at *
  clear hx hs hT
  by_cases hN : 2000 < N
  · have hd : decide (2000 < N) = true := by simp [hN]
    rw [hd] at HLong
    clear hd hwt hok
    go_enter Tryd.func4, Tryd.ntmps4
    go_wp2_with (first
      | (go_at_call 6; refine HLong.out.mono ?_; rintro e w1 ⟨rfl, hw1⟩; subst w1)
      | (go_at_call 7; refine (HLive.out _ (Below.refl _ _)).mono ?_; rintro e w1 ⟨rfl, hb1⟩))
    go_ret
    exact ⟨rfl, hb1⟩
  · have hd : decide (2000 < N) = false := by simp [hN]
    rw [hd] at HLong
    have hw := hwt (by omega)
    clear hd hwt
    go_enter Tryd.func4, Tryd.ntmps4
    go_wp2_with (first
      | (go_at_call 6; refine HLong.out.mono ?_; rintro e w1 ⟨rfl, hw1⟩; subst w1)
      | (go_at_call 8; refine HMade.out.mono ?_; rintro e w1 ⟨v, u, rfl, hv, hu, hb1⟩; obtain ⟨n1, s1, m1, A1, l1, c1, rfl⟩ := hu.form))
    have hd2 : Below w1.heap.size w1 (w1.alloc (.cells #[.int .i64 (kindO t), .int .i64 n1, .string s1, .int .i64 m1, .slice A1 l1 c1] 29)) := (Below.refl _ _).alloc (Nat.le_refl _) _
    have b2 := Blk.new w1 #[.int .i64 (kindO t), .int .i64 n1, .string s1, .int .i64 m1, .slice A1 l1 c1] 29
    have HAll := Lib.hid (rallO_calls t _ _ (hu.below hd2) (by omega))
    have HV := Lib.hid hv
    have HU := Lib.hid hu
    have hRl := allO_le t
    have HHas := Lib.hid (fun (w' : World) (hw' : IsO w' t v) => has_calls n t v w' hw')
    rw [hasO_all] at HHas
    generalize allO t = R at *
    generalize hW2 : w1.alloc (.cells #[.int .i64 (kindO t), .int .i64 n1, .string s1, .int .i64 m1, .slice A1 l1 c1] 29) = w2 at *
    generalize hG : w1.heap.size = g at *
    have HB2 := Lib.hid b2
    have HD2 := Lib.hid (show Below w1.heap.size w1 w2 by rw [hG]; exact hd2)
    have HG := Lib.hid hG
    clear hW2 b2 hd2 hu hv hG
    go_wp2_with (go_at_call 9; refine HAll.out.mono ?_; rintro e w3 ⟨A3, c3, rfl, ho3, hb3⟩)
    go_loopw [7, 9] (RelH w3 R n) (fun _ i _ => R.length - (intOf i).toNat)
    case atStart => exact ⟨0, by simp, rfl, Nat.zero_le _, rfl⟩
    case round =>
      obtain ⟨k, rfl, rfl, hk, hwr⟩ := hrel
      subst wr
      by_cases h1 : k < R.length
      · have i1 : (k : Int) < (R.length : Int) := by omega
        obtain ⟨b, o, rfl, hbs, hcell⟩ := ho3.cells.at_ elI (by omega)
        obtain ⟨x, hx⟩ : ∃ x, R[k]? = some x := ⟨R[k], by simp [h1]⟩
        have q1 : w3.cell? ⟨b, o + k, none⟩ = some (.int .i64 x) := by have := hcell k 0 x hx (by omega); simpa [enI] using this
        have HT : Hid (decide (n ∈ R.take (k + 1)) = (decide (n ∈ R.take k) || (x == n))) := Lib.hid (by
          rw [List.take_add_one, hx]
          by_cases ha : n ∈ R.take k
          · simp [ha]
          · by_cases hb : n = x
            · simp [hb]
            · have hb' : ¬ x = n := fun e => hb e.symm
              simp [ha, hb, hb'])
        clear hcell hx
        generalize decide (n ∈ R.take k) = b0 at *
        cases b0
        · go_wp2
          go_roundw
          case rel => exact ⟨k + 1, by rw [HT.out]; rfl, by go_num, h1, rfl⟩
          case measure => simp [intOf]; omega
        · go_wp2
          go_roundw
          case rel => exact ⟨k + 1, by rw [HT.out]; rfl, by go_num, h1, rfl⟩
          case measure => simp [intOf]; omega
      · have i1 : ¬ (k : Int) < (R.length : Int) := by omega
        rw [List.take_of_length_le (show R.length ≤ k by omega)]
        generalize decide (n ∈ R) = b0 at *
        have HSt := Lib.hid (stages_calls t v w3 (HV.out.below (Below.on HD2.out hb3)) (by have := stagesO_le t; omega))
        have hSl := stagesO_le t
        obtain ⟨St, hSt⟩ : ∃ St, St = stagesO t := ⟨_, rfl⟩
        rw [← hSt] at HSt hSl
        have HSe := Lib.hid hSt
        clear hSt
        go_wp2_with (go_at_call 16; refine HSt.out.mono ?_; rintro e w4 ⟨A4, c4, rfl, ho4, hb4⟩)
        have hb14 : Below w1.heap.size w1 w4 := Below.on (Below.on HD2.out hb3) hb4
        have hW4 : Below W.heap.size W w4 := Below.on hb1 hb14
        have HW4 := Lib.hid hb14
        have HWW := Lib.hid hb1
        have HVV := Lib.hid (fun (w' : World) (hw' : Below w1.heap.size w1 w') => HV.out.below hw')
        have HB14 := Lib.hid hb14
        have hlt3 : g < w3.heap.size := (HB2.out.belowAll hb3).lt
        have HB4 := Lib.hid ((HB2.out.belowAll hb3).belowAll hb4)
        have HO4 := Lib.hid ho4
        clear ho4 hb14 hW4 hb4
        go_loopw [11] (RelG w1 w3 g St A4 c4) (fun i _ => St.length - (intOf i).toNat)
        case atStart => exact ⟨0, t, n1, m1, s1, A1, l1, c1, rfl, Nat.zero_le _, HSe.out, HB4.out, HU.out, HO4.out, HB14.out⟩
        case round =>
          obtain ⟨j, t', n2, m2, s2, A2, l2, c2, rfl, hj, hdrop, hblk, hr, ho, hbr⟩ := hrel
          by_cases h2 : j < St.length
          · have i2 : (j : Int) < (St.length : Int) := by omega
            obtain ⟨s, no, u, rfl, hsj, hrest⟩ := stages_next hdrop h2
            obtain ⟨q, cq, he, u', hu', hcells⟩ := hr
            simp only [List.cons.injEq, Value.int.injEq, Value.string.injEq, Value.slice.injEq, and_true, true_and] at he
            obtain ⟨hk2, rfl, rfl, rfl, rfl, rfl, rfl⟩ := he
            obtain ⟨n3, s3, m3, A3', l3, c3', rfl⟩ := hu'.form
            have hat := at0 hcells
            obtain ⟨z0, z1, z2, z3, z4⟩ := hat
            simp only [Nat.zero_add] at z0 z1 z2 z3 z4
            replace z0 := (hbr.cell (block_lt_of_cell z0)).trans z0
            replace z1 := (hbr.cell (block_lt_of_cell z1)).trans z1
            replace z2 := (hbr.cell (block_lt_of_cell z2)).trans z2
            replace z3 := (hbr.cell (block_lt_of_cell z3)).trans z3
            replace z4 := (hbr.cell (block_lt_of_cell z4)).trans z4
            obtain ⟨⟨x0, x1, x2, x3, x4⟩, y0, y1, y2, y3, y4⟩ := five hblk
            rw [show kindO (some (Er.stage s2 m2 u)) = 2 from rfl] at x0
            obtain ⟨gs, rfl, hgs, hgs', hcs⟩ := ho.at0 elL (by omega)
            have e0 : wr.cell? ⟨gs, j * 3, none⟩ = some (.string s2) := hcs j 0 _ hsj (by omega)
            have e1 : wr.cell? ⟨gs, j * 3 + 1, none⟩ = some (.int .i64 m2) := hcs j 1 _ hsj (by omega)
            have e2 : wr.cell? ⟨gs, j * 3 + 2, none⟩ = some .nilIface := hcs j 2 _ hsj (by omega)
            have HE := Lib.hid hrest
            have HBK := Lib.hid hblk
            have HU2 := Lib.hid hu'
            have HOO := Lib.hid ho
            have HBR := Lib.hid hbr
            clear hcs hrest hdrop hblk hu' ho hcells hsj hbr
            go_wp2_with fail
            go_quiet (fail)
            go_wp2
            go_roundw
            case rel =>
              have hB' : Blk (wr.drewN nq) g _ 29 := HBK.out
              have hO' : OwnG 45 3 enL w3.heap.size (wr.drewN nq) (some ⟨gs, 0, none⟩) c4 St := HOO.out
              have hR' : Below w1.heap.size w1 (wr.drewN nq) := ⟨HBR.out.os, HBR.out.tape, HBR.out.output, HBR.out.size, HBR.out.block⟩
              exact ⟨j + 1, some u, n3, m3, s3, A3', l3, c3', by go_num, h2, HE.out, hB'.set5 _ _ _ _ _, HU2.out, own_set5 hO' hB' _ _ _ _ _, below_set5 hR' (Nat.le_of_eq HG.out) _ _ _ _ _⟩
            case measure => simp [intOf]; omega
          · have i2 : ¬ (j : Int) < (St.length : Int) := by omega
            have hnil : stagesO t' = [] := by rw [← hdrop]; exact List.drop_eq_nil_of_le (by omega)
            have hk2 := stages_none hnil
            have hk3 : (kindO t' != 2) = true := by simpa using hk2
            obtain ⟨⟨x0, _⟩, _⟩ := five hblk
            have HC := Lib.hid (HHas.out wr (HVV.out wr hbr))
            go_wp2_with (first
              | (go_at_call 14; refine HC.out.mono ?_; rintro e w5 ⟨rfl, hb5⟩)
              | (go_at_call 7; refine (HLive.out _ (Below.on HWW.out (Below.on hbr hb5))).mono ?_; rintro e w6 ⟨rfl, hb6⟩))

            go_ret
            exact ⟨rfl, Below.on (Below.on HWW.out (Below.on hbr hb5)) hb6⟩
end Go.Proofs.YtgpaedknonkioaaDoor
