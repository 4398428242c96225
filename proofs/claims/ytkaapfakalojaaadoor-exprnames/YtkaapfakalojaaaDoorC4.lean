/-
  Contract of the document's Text. Conditions: the expression lies in memory; its parts and its texts are at most 3,000 in all.
  An argument that is a slice of values (strings, structs of two strings, or any that can be read one by one), as the contracts take it. No conditions.
  Arguments that are slices of strings, of structs of two strings, or such a struct, with the bounds on what an input may take. No conditions.
  An argument that is an expression: a tree that lies in memory, with the bounds on what an input may take. No conditions.
  Contract of the program's plain: a value with its meaningful fields alone. No conditions.
  Slices of ints of the call's own: append, and what a store elsewhere leaves. Conditions: as in the premises.
  Contracts of cmp.Compare at uint8 and int, and of cmp.Or at int. No conditions.
  Contract of cmp.Or at three ints. Condition: they lie in a block of three.
  Contracts of the program's Order, of the document's Order and Same. Conditions: values of 64 bits and texts as long as an input can be.
-/
import Derived.SliceStrings
import Derived.ChangeSame
import Derived.SizedLaws
import Derived.Lib.SmallJoins
import Derived.Deep.RegionLaw
import Derived.Deep.Cut
import Derived.Deep.CutBlock
import Derived.Deep.CutRange
import Derived.Test.YtkaapfakalojaaaDoorC3
namespace Go.Proofs.YtkaapfakalojaaaDoor
open Go.ChangeShapes Go.WideShapes Go.ChangeAt Go.RowKit
set_option linter.unusedVariables false
set_option maxRecDepth 20000
theorem txtL_nonneg : ∀ l : List Ex, 0 ≤ txtL l
  | [] => by simp [txtL]
  | e :: l => by have h1 := txt_nonneg e; have h2 := txtL_nonneg l; simp only [txtL]; omega
theorem txtL_mem {e : Ex} : ∀ {l : List Ex}, e ∈ l → e.size + e.txt ≤ sizeL l + txtL l
  | [], h => by cases h
  | a :: l, h => by
    have h1 := sizeL_len l
    have h2 := size_pos a
    have h3 := txt_nonneg a
    have h4 := txtL_nonneg l
    simp only [sizeL, txtL]
    rcases List.mem_cons.1 h with rfl | h
    · omega
    · have := txtL_mem (e := e) h; omega
theorem quote_len (s : List Int) : (quote s).length ≤ 2 + 4 * s.length := by
  have : (s.flatMap qch).length ≤ 4 * s.length := by
    induction s with
    | nil => simp
    | cons c s ih => have := qch_len c; simp only [List.flatMap_cons, List.length_append, List.length_cons]; omega
  simp only [quote, List.length_append, List.length_cons, List.length_nil]; omega
theorem names_len : ∀ k : Fin 28, (names.getD k.val []).length ≤ 5 := by decide +kernel
theorem nameOf_len (op : Int) : (nameOf op).length ≤ 5 := by
  unfold nameOf
  split
  · by_cases h : op.toNat < 28
    · exact names_len ⟨op.toNat, h⟩
    · have : names.getD op.toNat [] = [] := by
        rw [List.getD, List.getElem?_eq_none (by show 28 ≤ op.toNat; omega)]; rfl
      rw [this]; simp
  · simp
theorem text_len : ∀ e : Ex, e.Good → (e.text.length : Int) + 1 ≤ 40 * e.size + 4 * e.txt := by
  intro e
  induction e using Ex.ind with
  | h op v A c l ih =>
    intro hg
    simp only [Ex.Good] at hg
    have key : ∀ l : List Ex, (∀ e ∈ l, (e.text.length : Int) + 1 ≤ 40 * e.size + 4 * e.txt) → ((textL l).length : Int) ≤ 40 * sizeL l + 4 * txtL l := by
      intro l
      induction l with
      | nil => intro _; simp [textL, sizeL, txtL]
      | cons e l ihl =>
        intro h
        have h1 := h e (by simp)
        have h2 := ihl fun x hx => h x (by simp [hx])
        simp only [textL, sizeL, txtL, List.length_append, List.length_cons, List.length_nil]; omega
    have h1 := key l (fun e he => ih e he (goodL_mem hg.2.2 e he))
    have h2 := sizeL_len l
    have h3 := txtL_nonneg l
    have h4 := nameOf_len op
    simp only [Ex.text, Ex.size, Ex.txt]
    split
    · split
      · have h5 := num10_len (n := v.n) ⟨hg.1.2.n0, hg.1.2.n1⟩
        omega
      · have h5 := quote_len (sl v.s)
        rw [sl_length] at h5; omega
    · split
      · omega
      · simp only [List.length_append, List.length_cons, List.length_nil]; omega
def RelT (nm : List Int) (l : List Ex) (w1 : World) (t i : Value) (wr : World) : Prop := ∃ (k : Nat) (L : List Int), t = .string (str L) ∧ i = .int .i64 k ∧ k ≤ l.length ∧ Hid (L = 40 :: (nm ++ textL (l.take k))) ∧ Below w1.heap.size w1 wr
def RelN3 (nm : List Int) (w1 : World) (v : Value) (wr : World) : Prop := v = .string (str nm) ∧ Below w1.heap.size w1 wr
theorem textL_take_len (l : List Ex) (k : Nat) : (textL (l.take k)).length ≤ (textL l).length := by
  have h := textL_append (l.take k) (l.drop k)
  rw [List.take_append_drop] at h
  rw [h, List.length_append]; omega
set_option maxHeartbeats 8000000 in
theorem rtext_calls : ∀ (e : Ex) (w : World), e.size + e.txt ≤ 3000 → e.Good → e.At w → Calls Tryd.prog 16 #[e.v] w fun q w' => q = .returned (.string (str e.text)) ∧ Below w.heap.size w w' := by
  intro e
  induction e using Ex.ind with
  | h op v A c l ih =>
    intro w hst hgd hAt
    simp only [Ex.At] at hAt
    simp only [Ex.text]
    obtain ⟨hcl, hal⟩ := hAt
    have hlen := sizeL_len l
    unfold Ex.v
    simp only [Ex.op, Ex.vl, Ex.adr, Ex.args, Ex.cp]
    obtain ⟨k, n, s⟩ := v
    dsimp only
    obtain ⟨ln, hln⟩ : ∃ ln, ln = l.length := ⟨_, rfl⟩
    have HLN := Lib.hid hln
    simp only [Ex.Good] at hgd
    have HGL := Lib.hid hgd.2.2
    have hi64 : I64 n := ⟨hgd.1.2.n0, hgd.1.2.n1⟩
    have hgx : (Ex.node op ⟨k, n, s⟩ A c l).Good := by simp only [Ex.Good]; exact hgd
    have htl9 : (textL l).length ≤ 121000 := by
      have key : ((textL l).length : Int) ≤ 40 * sizeL l + 4 * txtL l := by
        have : ∀ l : List Ex, goodL l → ((textL l).length : Int) ≤ 40 * sizeL l + 4 * txtL l := by
          intro l
          induction l with
          | nil => intro _; simp [textL, sizeL, txtL]
          | cons e l ihl =>
            intro h
            simp only [goodL] at h
            have h1 := text_len e h.1
            have h2 := ihl h.2
            simp only [textL, sizeL, txtL, List.length_append, List.length_cons, List.length_nil]; omega
        exact this l hgd.2.2
      have h9 := hst
      simp only [Ex.size, Ex.txt] at h9
      have := sizeL_len l
      have := txtL_nonneg l
      omega
    have hsl9 : sizeL l + txtL l ≤ 3000 := by
      have h9 := hst
      simp only [Ex.size, Ex.txt] at h9
      omega
    have hlen9 : (l.length : Int) ≤ 3000 := by
      have h9 := hst
      simp only [Ex.size, Ex.txt] at h9
      have h8 := txt_nonneg (Ex.node op ⟨k, n, s⟩ A c l)
      simp only [Ex.txt] at h8
      have := txtL_nonneg l
      omega
    have HIH0 := (fun e (he : e ∈ l) W (hW : Below w.heap.size w W) => ih e he W (by have := txtL_mem he; omega) (goodL_mem HGL.out e he) (Ex.At.below hW e (atL_mem hal e he)))
    have HALL := Lib.hid (fun e he => atL_mem hal e he)
    rw [← hln]
    have hB1 := below_one w (.cells #[.int .i64 op, .int .u8 k, .int .i64 n, .string s, .slice A ln c] 26)
    have bx := Blk.new w #[.int .i64 op, .int .u8 k, .int .i64 n, .string s, .slice A ln c] 26
    obtain ⟨w0, w1, w2, w3, w4⟩ := bx.cells5
    obtain ⟨W1, hW1⟩ : ∃ W1, W1 = w.alloc (.cells #[.int .i64 op, .int .u8 k, .int .i64 n, .string s, .slice A ln c] 26) := ⟨_, rfl⟩
    rw [← hW1] at hB1 bx
    have HB1 := Lib.hid hB1
    have HX := Lib.hid bx
    have HIH := Lib.hid HIH0
    have HCL := Lib.hid hcl
    have HEND := Lib.hid (show l.take l.length = l from List.take_length)
    have hl3 : ln ≤ 3000 := by omega
    have hs2 : s.size ≤ 3000 := by
      have h9 := hst
      simp only [Ex.size, Ex.txt] at h9
      have := sizeL_len l
      have := txtL_nonneg l
      omega
    obtain ⟨nm, hnm⟩ : ∃ nm, nm = nameOf op := ⟨_, rfl⟩
    have HNL := Lib.hid (show nm.length ≤ 5 by rw [hnm]; exact nameOf_len op)
    have HTE := Lib.hid (fun e (he : e ∈ l) => show e.text.length ≤ 130000 from by
      have h1 := text_len e (goodL_mem HGL.out e he)
      have h2 := txtL_mem he
      have h3 := txt_nonneg e
      have h4 := size_pos e
      omega)
    have HTL := Lib.hid (fun k => show (textL (l.take k)).length ≤ 121000 from by
      have h1 := textL_take_len l k
      omega)
    have HW1 := Lib.hid hW1
    clear hlen ih hal hcl hB1 bx hln hW1 hst hgd
    obtain ⟨R, hR⟩ : ∃ R, R = (if op = 0 then (if k = 0 then num10 n else quote (sl s)) else if ln = 0 then nameOf op else [40] ++ nameOf op ++ textL l ++ [41]) := ⟨_, rfl⟩
    have HRR := Lib.hid hR
    rw [← hR]
    by_cases h0 : op = 0
    · have e0 : (op == 0) = true := by simpa using h0
      rw [if_pos h0] at hR
      subst h0
      clear hnm
      by_cases hk : k = 0
      · have e1 : (k == 0) = true := by simpa using hk
        rw [if_pos hk] at hR
        have HNB := Lib.hid (rnum10_calls n hi64 W1)
        clear hk
        go_enter Tryd.func16, Tryd.ntmps16
        go_wp2_with fail
        rw [← HW1.out]
        refine HNB.out.mono ?_
        rintro q w2 ⟨rfl, hq⟩
        subst w2
        dsimp only
        go_wp2
        go_ret
        exact ⟨by rw [hR]; rfl, HB1.out⟩
      · have e1 : (k == 0) = false := by simpa using hk
        rw [if_neg hk] at hR
        have HQ := Lib.hid (rquote_calls s (by omega) W1)
        clear hk
        go_enter Tryd.func16, Tryd.ntmps16
        go_wp2_with fail
        rw [← HW1.out]
        refine HQ.out.mono ?_
        rintro q w2 ⟨rfl, p, rfl⟩
        dsimp only
        go_wp2
        go_ret
        exact ⟨by rw [hR]; rfl, HB1.out.trans ⟨rfl, rfl, rfl, Nat.le_refl _, fun _ _ => rfl⟩⟩
    · have e0 : (op == 0) = false := by simpa using h0
      rw [if_neg h0, ← hnm] at hR
      clear HRR
      have HRR := Lib.hid hR
      have HTX0 := Lib.hid (show ln = 0 → (if ln = 0 then nm else [40] ++ nm ++ textL l ++ [41]) = nm from fun h => if_pos h)
      have HTX1 := Lib.hid (show ¬ ln = 0 → (if ln = 0 then nm else [40] ++ nm ++ textL l ++ [41]) = [40] ++ nm ++ textL l ++ [41] from fun h => if_neg h)
      clear hR
      by_cases hr0 : op < 0
      · have o1 : decide (0 < op) = false := decide_eq_false (by omega)
        have hnm0 : nm = [] := by
          rw [hnm]; unfold nameOf
          rw [if_neg (by omega)]
        subst hnm0
        have HN4 := Lib.hid (show (⟨#[40]⟩ : ByteArray) ++ ⟨#[]⟩ = str ([40]) by rw [show (⟨#[40]⟩ : ByteArray) = str [40] from rfl]; rfl)
        have z0 : ((⟨#[]⟩ : ByteArray)).size ≤ 5 := by decide
        clear hnm h0
        by_cases hl0 : ln = 0
        · have hle : ((ln : Int) == 0) = true := beq_iff_eq.2 (by omega)
          have HL0 := Lib.hid hl0
          clear hl0
          go_enter Tryd.func16, Tryd.ntmps16
          go_wp2
          go_ret
          exact ⟨by rw [show R = [] from by rw [HRR.out, HTX0.out HL0.out]]; rfl, by rw [← HW1.out]; exact HB1.out⟩
        · have hle : ((ln : Int) == 0) = false := beq_eq_false_iff_ne.2 (by omega)
          have HTX := Lib.hid (HTX1.out hl0)
          clear hl0
          go_enter Tryd.func16, Tryd.ntmps16
          go_wp2_with fail
          rw [← HW1.out]
          clear w0 w1 w2 w3 w4
          go_loopw [4, 5] (RelT [] l W1) (fun _ i _ => ln + 1 - (intOf i).toNat)
          case atStart => exact ⟨0, [40], by rw [← HN4.out], rfl, Nat.zero_le _, Lib.hid (by simp [textL]), Below.refl _ _⟩
          case round =>
            obtain ⟨j, L, rfl, rfl, hj, hx, hbr⟩ := hrel
            have HBR := Lib.hid hbr
            obtain ⟨c0, c1, c2, c3, c4⟩ := (HX.out.belowAll hbr).cells5
            have HBW := Lib.hid (HB1.out.trans (hbr.mono HB1.out.size))
            have HJL := Lib.hid (show j ≤ ln by rw [HLN.out]; exact hj)
            clear hbr hj
            have hLn : L.length ≤ 130000 := by
              rw [hx.out]
              have := HTL.out j
              have := HNL.out
              simp only [List.length_cons, List.length_append]; omega
            have hLs : (str L).size ≤ 130000 := by rw [str_size]; exact hLn
            have z1 : (str L ++ ⟨#[32]⟩ : ByteArray).size ≤ 130001 := by
              rw [show (⟨#[32]⟩ : ByteArray) = str [32] from rfl, str_append, str_size]; simp; omega
            have z2 : (str L ++ ⟨#[41]⟩ : ByteArray).size ≤ 130001 := by
              rw [show (⟨#[41]⟩ : ByteArray) = str [41] from rfl, str_append, str_size]; simp; omega
            by_cases hlt : j < ln
            · obtain ⟨e, he⟩ : ∃ e, l[j]? = some e := ⟨l[j]'(by rw [← HLN.out]; exact hlt), by simp⟩
              obtain ⟨b, o, hA, hb, hck⟩ := arg_cells HCL.out (by rw [← HLN.out]; omega)
              subst hA
              obtain ⟨a0, a1, a2, a3, a4⟩ := hck j e he wr HBW.out
              have hmem := List.mem_of_getElem? he
              have hsn := take_snoc he
              have h1i : (j : Int) < (ln : Int) := by omega
              have HC := Lib.hid (HIH.out e hmem wr HBW.out)
              obtain ⟨y, hy⟩ : ∃ y, y = e.text := ⟨_, rfl⟩
              have hyl := HTE.out e hmem
              rw [← hy] at HC hyl
              have HNEW := Lib.hid (show L ++ ([32] ++ y) = 40 :: ([] ++ textL (l.take (j + 1))) by rw [hsn, textL_append, hx.out]; simp only [textL]; rw [← hy]; simp)
              have z3 : (str y).size ≤ 130000 := by rw [str_size]; exact hyl
              have HCAT := Lib.hid (show str L ++ (⟨#[32]⟩ : ByteArray) ++ str y = str (L ++ ([32] ++ y)) by
                rw [show (⟨#[32]⟩ : ByteArray) = str [32] from rfl, str_append, str_append]; simp)
              unfold Ex.v at HC
              generalize e.op = p0 at *
              generalize e.vl.k = p1 at *
              generalize e.vl.n = p2 at *
              generalize e.vl.s = p3 at *
              generalize e.adr = p4 at *
              generalize e.args.length = p5 at *
              generalize e.cp = p6 at *
              clear hck he hmem hsn hb hx hy hLn hyl
              go_wp2_with fail
              refine HC.out.mono ?_
              rintro q w2 ⟨rfl, hb2⟩
              have HB2 := Lib.hid (HBR.out.trans (hb2.mono HBR.out.size))
              have HBW2 := Lib.hid (HBW.out.trans (hb2.mono HBW.out.size))
              clear hb2
              dsimp only
              go_wp2
              go_roundw
              case rel => exact ⟨j + 1, L ++ ([32] ++ y), by rw [← HCAT.out], by go_num, by rw [← HLN.out]; omega, Lib.hid HNEW.out, HB2.out⟩
              case measure => simp [intOf]; omega
            · obtain rfl : j = ln := by have := HJL.out; omega
              have hd2 : decide ((j : Int) < (j : Int)) = false := by simp
              have HFIN := Lib.hid (show str L ++ (⟨#[41]⟩ : ByteArray) = str R by
                rw [show (⟨#[41]⟩ : ByteArray) = str [41] from rfl, str_append, hx.out, HLN.out, HEND.out, HRR.out, HTX.out]; simp)
              clear hx hLn
              go_wp2
              go_ret
              exact ⟨by rw [← HFIN.out]; rfl, HBW.out⟩
      · by_cases hr1 : op < 28
        · have o1 : decide (0 < op) = true := decide_eq_true (by omega)
          have o2 : decide (op < 28) = true := decide_eq_true (by omega)
          have HNM := Lib.hid (show nm = names.getD op.toNat [] by rw [hnm]; unfold nameOf; rw [if_pos (by omega)])
          obtain ⟨m, rfl⟩ : ∃ m : Nat, op = (m : Int) := ⟨op.toNat, by omega⟩
          rw [Int.toNat_natCast] at HNM
          have hm28 : m < 28 := by omega
          have hm00 : 0 < m := by omega
          have hmi : (m : Int) < 28 := by omega
          have HN4 := Lib.hid (show (⟨#[40]⟩ : ByteArray) ++ str nm = str (40 :: nm) by rw [show (⟨#[40]⟩ : ByteArray) = str [40] from rfl, str_append]; rfl)
          have z0 : (str nm).size ≤ 5 := by rw [str_size]; exact HNL.out
          clear hnm h0
          by_cases hl0 : ln = 0
          · have hle : ((ln : Int) == 0) = true := beq_iff_eq.2 (by omega)
            have HL0 := Lib.hid hl0
            clear hl0
            go_enter Tryd.func16, Tryd.ntmps16
            go_upto_region 7 with fail
            rw [← HW1.out]
            go_cut [3] from 29 to 33 (RelN3 nm W1)
            case first =>
              have b3 := HX.out.alloc (.cells nameCs 9)
              obtain ⟨v0, v1, v2, v3, v4⟩ := b3.cells5
              obtain ⟨u0, u1, u2, u3, u4⟩ := HX.out.cells5
              have cn := names_cell W1 m hm28
              rw [← HNM.out] at cn
              have HBA := Lib.hid (show Below W1.heap.size W1 (W1.alloc (.cells nameCs 9)).drew from (below_one W1 _).drew)
              have HNAMES := Lib.hid (rnames_calls W1.drew)
              clear b3
              go_region_law (go_simp; refine (HNAMES.out).mono ?_; rintro q w2 ⟨rfl, hq⟩; subst w2)
              all_goals
                go_wp2
                go_meet
                exact ⟨rfl, HBA.out⟩
            case rest =>
              obtain ⟨rfl, hbc⟩ := hcut
              obtain ⟨y0, y1, y2, y3, y4⟩ := (HX.out.belowAll hbc).cells5
              have HSW := Lib.hid hbc
              have HBC := Lib.hid (HB1.out.trans (hbc.mono HB1.out.size))
              clear hbc
              go_wp2
              go_ret
              exact ⟨by rw [show R = nm from by rw [HRR.out, HTX0.out HL0.out]]; rfl, HBC.out⟩
          · have hle : ((ln : Int) == 0) = false := beq_eq_false_iff_ne.2 (by omega)
            have HTX := Lib.hid (HTX1.out hl0)
            clear hl0
            go_enter Tryd.func16, Tryd.ntmps16
            go_upto_region 7 with fail
            rw [← HW1.out]
            go_cut [3] from 29 to 33 (RelN3 nm W1)
            case first =>
              have b3 := HX.out.alloc (.cells nameCs 9)
              obtain ⟨v0, v1, v2, v3, v4⟩ := b3.cells5
              obtain ⟨u0, u1, u2, u3, u4⟩ := HX.out.cells5
              have cn := names_cell W1 m hm28
              rw [← HNM.out] at cn
              have HBA := Lib.hid (show Below W1.heap.size W1 (W1.alloc (.cells nameCs 9)).drew from (below_one W1 _).drew)
              have HNAMES := Lib.hid (rnames_calls W1.drew)
              clear b3
              go_region_law (go_simp; refine (HNAMES.out).mono ?_; rintro q w2 ⟨rfl, hq⟩; subst w2)
              all_goals
                go_wp2
                go_meet
                exact ⟨rfl, HBA.out⟩
            case rest =>
              obtain ⟨rfl, hbc⟩ := hcut
              obtain ⟨y0, y1, y2, y3, y4⟩ := (HX.out.belowAll hbc).cells5
              have HSW := Lib.hid hbc
              have HBC := Lib.hid (HB1.out.trans (hbc.mono HB1.out.size))
              clear hbc
              go_wp2_with fail
              go_loopw [4, 5] (RelT nm l W1) (fun _ i _ => ln + 1 - (intOf i).toNat)
              case atStart => exact ⟨0, 40 :: nm, by rw [← HN4.out], rfl, Nat.zero_le _, Lib.hid (by simp [textL]), HSW.out⟩
              case round =>
                obtain ⟨j, L, rfl, rfl, hj, hx, hbr⟩ := hrel
                have HBR := Lib.hid hbr
                obtain ⟨c0, c1, c2, c3, c4⟩ := (HX.out.belowAll hbr).cells5
                have HBW := Lib.hid (HB1.out.trans (hbr.mono HB1.out.size))
                have HJL := Lib.hid (show j ≤ ln by rw [HLN.out]; exact hj)
                clear hbr hj
                have hLn : L.length ≤ 130000 := by
                  rw [hx.out]
                  have := HTL.out j
                  have := HNL.out
                  simp only [List.length_cons, List.length_append]; omega
                have hLs : (str L).size ≤ 130000 := by rw [str_size]; exact hLn
                have z1 : (str L ++ ⟨#[32]⟩ : ByteArray).size ≤ 130001 := by
                  rw [show (⟨#[32]⟩ : ByteArray) = str [32] from rfl, str_append, str_size]; simp; omega
                have z2 : (str L ++ ⟨#[41]⟩ : ByteArray).size ≤ 130001 := by
                  rw [show (⟨#[41]⟩ : ByteArray) = str [41] from rfl, str_append, str_size]; simp; omega
                by_cases hlt : j < ln
                · obtain ⟨e, he⟩ : ∃ e, l[j]? = some e := ⟨l[j]'(by rw [← HLN.out]; exact hlt), by simp⟩
                  obtain ⟨b, o, hA, hb, hck⟩ := arg_cells HCL.out (by rw [← HLN.out]; omega)
                  subst hA
                  obtain ⟨a0, a1, a2, a3, a4⟩ := hck j e he wr HBW.out
                  have hmem := List.mem_of_getElem? he
                  have hsn := take_snoc he
                  have h1i : (j : Int) < (ln : Int) := by omega
                  have HC := Lib.hid (HIH.out e hmem wr HBW.out)
                  obtain ⟨y, hy⟩ : ∃ y, y = e.text := ⟨_, rfl⟩
                  have hyl := HTE.out e hmem
                  rw [← hy] at HC hyl
                  have HNEW := Lib.hid (show L ++ ([32] ++ y) = 40 :: (nm ++ textL (l.take (j + 1))) by rw [hsn, textL_append, hx.out]; simp only [textL]; rw [← hy]; simp)
                  have z3 : (str y).size ≤ 130000 := by rw [str_size]; exact hyl
                  have HCAT := Lib.hid (show str L ++ (⟨#[32]⟩ : ByteArray) ++ str y = str (L ++ ([32] ++ y)) by
                    rw [show (⟨#[32]⟩ : ByteArray) = str [32] from rfl, str_append, str_append]; simp)
                  unfold Ex.v at HC
                  generalize e.op = p0 at *
                  generalize e.vl.k = p1 at *
                  generalize e.vl.n = p2 at *
                  generalize e.vl.s = p3 at *
                  generalize e.adr = p4 at *
                  generalize e.args.length = p5 at *
                  generalize e.cp = p6 at *
                  clear hck he hmem hsn hb hx hy hLn hyl
                  go_wp2_with fail
                  refine HC.out.mono ?_
                  rintro q w2 ⟨rfl, hb2⟩
                  have HB2 := Lib.hid (HBR.out.trans (hb2.mono HBR.out.size))
                  have HBW2 := Lib.hid (HBW.out.trans (hb2.mono HBW.out.size))
                  clear hb2
                  dsimp only
                  go_wp2
                  go_roundw
                  case rel => exact ⟨j + 1, L ++ ([32] ++ y), by rw [← HCAT.out], by go_num, by rw [← HLN.out]; omega, Lib.hid HNEW.out, HB2.out⟩
                  case measure => simp [intOf]; omega
                · obtain rfl : j = ln := by have := HJL.out; omega
                  have hd2 : decide ((j : Int) < (j : Int)) = false := by simp
                  have HFIN := Lib.hid (show str L ++ (⟨#[41]⟩ : ByteArray) = str R by
                    rw [show (⟨#[41]⟩ : ByteArray) = str [41] from rfl, str_append, hx.out, HLN.out, HEND.out, HRR.out, HTX.out]; simp)
                  clear hx hLn
                  go_wp2
                  go_ret
                  exact ⟨by rw [← HFIN.out]; rfl, HBW.out⟩
        · have o1 : decide (0 < op) = true := decide_eq_true (by omega)
          have o2 : decide (op < 28) = false := decide_eq_false (by omega)
          have hnm0 : nm = [] := by
            rw [hnm]; unfold nameOf
            rw [if_pos (by omega), List.getD, List.getElem?_eq_none (by show 28 ≤ op.toNat; omega)]; rfl
          subst hnm0
          have HN4 := Lib.hid (show (⟨#[40]⟩ : ByteArray) ++ ⟨#[]⟩ = str ([40]) by rw [show (⟨#[40]⟩ : ByteArray) = str [40] from rfl]; rfl)
          have z0 : ((⟨#[]⟩ : ByteArray)).size ≤ 5 := by decide
          clear hnm h0
          by_cases hl0 : ln = 0
          · have hle : ((ln : Int) == 0) = true := beq_iff_eq.2 (by omega)
            have HL0 := Lib.hid hl0
            clear hl0
            go_enter Tryd.func16, Tryd.ntmps16
            go_wp2
            go_ret
            exact ⟨by rw [show R = [] from by rw [HRR.out, HTX0.out HL0.out]]; rfl, by rw [← HW1.out]; exact HB1.out⟩
          · have hle : ((ln : Int) == 0) = false := beq_eq_false_iff_ne.2 (by omega)
            have HTX := Lib.hid (HTX1.out hl0)
            clear hl0
            go_enter Tryd.func16, Tryd.ntmps16
            go_wp2_with fail
            rw [← HW1.out]
            clear w0 w1 w2 w3 w4
            go_loopw [4, 5] (RelT [] l W1) (fun _ i _ => ln + 1 - (intOf i).toNat)
            case atStart => exact ⟨0, [40], by rw [← HN4.out], rfl, Nat.zero_le _, Lib.hid (by simp [textL]), Below.refl _ _⟩
            case round =>
              obtain ⟨j, L, rfl, rfl, hj, hx, hbr⟩ := hrel
              have HBR := Lib.hid hbr
              obtain ⟨c0, c1, c2, c3, c4⟩ := (HX.out.belowAll hbr).cells5
              have HBW := Lib.hid (HB1.out.trans (hbr.mono HB1.out.size))
              have HJL := Lib.hid (show j ≤ ln by rw [HLN.out]; exact hj)
              clear hbr hj
              have hLn : L.length ≤ 130000 := by
                rw [hx.out]
                have := HTL.out j
                have := HNL.out
                simp only [List.length_cons, List.length_append]; omega
              have hLs : (str L).size ≤ 130000 := by rw [str_size]; exact hLn
              have z1 : (str L ++ ⟨#[32]⟩ : ByteArray).size ≤ 130001 := by
                rw [show (⟨#[32]⟩ : ByteArray) = str [32] from rfl, str_append, str_size]; simp; omega
              have z2 : (str L ++ ⟨#[41]⟩ : ByteArray).size ≤ 130001 := by
                rw [show (⟨#[41]⟩ : ByteArray) = str [41] from rfl, str_append, str_size]; simp; omega
              by_cases hlt : j < ln
              · obtain ⟨e, he⟩ : ∃ e, l[j]? = some e := ⟨l[j]'(by rw [← HLN.out]; exact hlt), by simp⟩
                obtain ⟨b, o, hA, hb, hck⟩ := arg_cells HCL.out (by rw [← HLN.out]; omega)
                subst hA
                obtain ⟨a0, a1, a2, a3, a4⟩ := hck j e he wr HBW.out
                have hmem := List.mem_of_getElem? he
                have hsn := take_snoc he
                have h1i : (j : Int) < (ln : Int) := by omega
                have HC := Lib.hid (HIH.out e hmem wr HBW.out)
                obtain ⟨y, hy⟩ : ∃ y, y = e.text := ⟨_, rfl⟩
                have hyl := HTE.out e hmem
                rw [← hy] at HC hyl
                have HNEW := Lib.hid (show L ++ ([32] ++ y) = 40 :: ([] ++ textL (l.take (j + 1))) by rw [hsn, textL_append, hx.out]; simp only [textL]; rw [← hy]; simp)
                have z3 : (str y).size ≤ 130000 := by rw [str_size]; exact hyl
                have HCAT := Lib.hid (show str L ++ (⟨#[32]⟩ : ByteArray) ++ str y = str (L ++ ([32] ++ y)) by
                  rw [show (⟨#[32]⟩ : ByteArray) = str [32] from rfl, str_append, str_append]; simp)
                unfold Ex.v at HC
                generalize e.op = p0 at *
                generalize e.vl.k = p1 at *
                generalize e.vl.n = p2 at *
                generalize e.vl.s = p3 at *
                generalize e.adr = p4 at *
                generalize e.args.length = p5 at *
                generalize e.cp = p6 at *
                clear hck he hmem hsn hb hx hy hLn hyl
                go_wp2_with fail
                refine HC.out.mono ?_
                rintro q w2 ⟨rfl, hb2⟩
                have HB2 := Lib.hid (HBR.out.trans (hb2.mono HBR.out.size))
                have HBW2 := Lib.hid (HBW.out.trans (hb2.mono HBW.out.size))
                clear hb2
                dsimp only
                go_wp2
                go_roundw
                case rel => exact ⟨j + 1, L ++ ([32] ++ y), by rw [← HCAT.out], by go_num, by rw [← HLN.out]; omega, Lib.hid HNEW.out, HB2.out⟩
                case measure => simp [intOf]; omega
              · obtain rfl : j = ln := by have := HJL.out; omega
                have hd2 : decide ((j : Int) < (j : Int)) = false := by simp
                have HFIN := Lib.hid (show str L ++ (⟨#[41]⟩ : ByteArray) = str R by
                  rw [show (⟨#[41]⟩ : ByteArray) = str [41] from rfl, str_append, hx.out, HLN.out, HEND.out, HRR.out, HTX.out]; simp)
                clear hx hLn
                go_wp2
                go_ret
                exact ⟨by rw [← HFIN.out]; rfl, HBW.out⟩
end Go.Proofs.YtkaapfakalojaaaDoor
namespace Go.Proofs.YtkaapfakalojaaaDoor
open Go.ChangeShapes Go.WideShapes Go.ChangeAt Go.RowKit
set_option linter.unusedVariables false

theorem vals_of_arg {α : Type} {H : Type} {encH : TypeId × Value → H} {W : World} {base : Nat} {held : Bool} (T e : TypeId) (hT : Tryd.prog.underlying T = some (.slice e)) (sz : Nat) (hsz : Tryd.prog.cellsOf e = sz) (hpos : 0 < sz) (en : α → List Value) (hen : ∀ x, (en x).length = sz) (G : α → Prop)
    (hread : ∀ n cs y, DataW.trod encH Tryd.prog W base (fun _ => true) held n e cs = some y → cs.length = sz → ∃ x, cs = en x ∧ G x)
    {fuel : Nat} {a : Option Addr} {len cap : Nat} {x : DataW H × List MemPlace} (h : DataW.trod encH Tryd.prog W base (fun _ => true) held fuel T [.slice a len cap] = some x) :
    ∃ xs : List α, xs.length = len ∧ xs.length ≤ cap ∧ xs.length ≤ maxLen ∧ CellsG en W a cap xs ∧ ∀ x ∈ xs, G x := by
  rcases DataW.trod_slice hT h with ⟨hcs, _⟩ | ⟨ad, l, c, elems, rest, n, _, hcs, _, _, hl, hm, hlen, hel, _, _⟩
  · simp only [List.cons.injEq, Value.slice.injEq, and_true] at hcs
    obtain ⟨rfl, rfl, rfl⟩ := hcs
    exact ⟨[], rfl, by simp, by simp, CellsG.nil en W, by simp⟩
  · simp only [List.cons.injEq, Value.slice.injEq, and_true] at hcs
    obtain ⟨rfl, rfl, rfl⟩ := hcs
    have each : ∀ i, i < len → ∃ x : α, G x ∧ ∀ j, j < sz → W.cell? (ad.add (i * sz + j)) = (en x)[j]? := fun i hi => by
      have h1 := hel i hi
      rw [List.getElem?_eq_getElem (by omega), hsz, Option.bind_eq_some_iff] at h1
      obtain ⟨cs, hc, hy⟩ := h1
      obtain ⟨_, hcl, hcell⟩ := World.cells?_some hc
      obtain ⟨x, hx, hG⟩ := hread n cs _ hy hcl
      refine ⟨x, hG, fun j hj => ?_⟩
      rw [← hx]
      have := hcell j hj
      rw [← this]
      refine congrArg W.cell? ?_
      unfold Addr.add
      by_cases h0 : i * sz = 0
      · simp [h0]
      · by_cases hj0 : j = 0
        · simp [h0, hj0]
        · simp [h0, hj0, Nat.add_assoc]
    have hx : ∃ xs : List α, xs.length = len ∧ ∀ i x, xs[i]? = some x → G x ∧ ∀ j, j < sz → W.cell? (ad.add (i * sz + j)) = (en x)[j]? := by
      have : ∀ m, m ≤ len → ∃ xs : List α, xs.length = m ∧ ∀ i x, xs[i]? = some x → G x ∧ ∀ j, j < sz → W.cell? (ad.add (i * sz + j)) = (en x)[j]? := by
        intro m
        induction m with
        | zero => exact fun _ => ⟨[], rfl, fun i x h => by simp at h⟩
        | succ m ih =>
          intro hm
          obtain ⟨xs, h1, h2⟩ := ih (by omega)
          obtain ⟨x, h3, h4⟩ := each m (by omega)
          refine ⟨xs ++ [x], by simp [h1], fun i y hy => ?_⟩
          rcases Nat.lt_or_ge i xs.length with h | h
          · rw [List.getElem?_append_left h] at hy
            exact h2 i y hy
          · rw [List.getElem?_append_right h] at hy
            have h0 : i - xs.length = 0 := by
              rcases Nat.eq_zero_or_pos (i - xs.length) with h | h
              · exact h
              · rw [List.getElem?_eq_none (by simp; omega)] at hy; cases hy
            rw [h0] at hy
            simp at hy
            subst hy
            rw [show i = m by omega]
            exact ⟨h3, h4⟩
      exact this len (Nat.le_refl _)
    obtain ⟨xs, h1, h2⟩ := hx
    refine ⟨xs, h1, by omega, by omega, .inr ⟨ad, rfl, fun k u hu => ?_⟩, fun x hx => ?_⟩
    · have hk : k < xs.length * sz := by
        have h3 : ∀ xs : List α, (cellsG en xs).length = xs.length * sz := by
          intro xs
          induction xs with
          | nil => simp [cellsG]
          | cons y xs ih =>
            simp only [cellsG] at ih
            simp only [cellsG, List.flatMap_cons, List.length_append, hen, ih, List.length_cons]
            rw [Nat.add_mul, Nat.one_mul, Nat.add_comm]
        rw [← h3 xs]
        exact (List.getElem?_eq_some_iff.1 hu).1
      have hi : k / sz < xs.length := Nat.div_lt_of_lt_mul (by rw [Nat.mul_comm]; exact hk)
      have hj : k % sz < sz := Nat.mod_lt _ hpos
      have hk2 : k / sz * sz + k % sz = k := Nat.div_add_mod' k sz
      have hxi : xs[k / sz]? = some xs[k / sz] := by simp [hi]
      have h4 := (h2 (k / sz) xs[k / sz] hxi).2 (k % sz) hj
      rw [hk2] at h4
      rw [h4]
      have h5 : ∀ (xs : List α) (i j : Nat) (x : α), xs[i]? = some x → j < sz → (cellsG en xs)[i * sz + j]? = (en x)[j]? := by
        intro xs
        induction xs with
        | nil => intro i j x h; simp at h
        | cons y xs ih =>
          intro i j x h hj
          cases i with
          | zero =>
            simp at h
            subst h
            simp only [cellsG, List.flatMap_cons, Nat.zero_mul, Nat.zero_add]
            rw [List.getElem?_append_left (by rw [hen]; exact hj)]
          | succ i =>
            simp only [List.getElem?_cons_succ] at h
            have ih := ih i j x h hj
            simp only [cellsG] at ih
            simp only [cellsG, List.flatMap_cons]
            rw [List.getElem?_append_right (by rw [hen, Nat.add_mul]; omega), hen, show (i + 1) * sz + j - sz = i * sz + j by rw [Nat.add_mul]; omega, ih]
      have h6 := h5 xs (k / sz) (k % sz) _ hxi hj
      rw [hk2, hu] at h6
      exact h6.symm
    · obtain ⟨i, hi⟩ := List.getElem?_of_mem hx
      exact (h2 i x hi).1

/-- Strings. -/
def enS (s : ByteArray) : List Value := [.string s]
theorem strs_of_arg {H : Type} {encH : TypeId × Value → H} {W : World} {base : Nat} {held : Bool} (T e : TypeId) (hT : Tryd.prog.underlying T = some (.slice e)) (he : Tryd.prog.underlying e = some .string) (hc : Tryd.prog.cellsOf e = 1)
    {fuel : Nat} {a : Option Addr} {len cap : Nat} {x : DataW H × List MemPlace} (h : DataW.trod encH Tryd.prog W base (fun _ => true) held fuel T [.slice a len cap] = some x) :
    ∃ ss : List ByteArray, ss.length = len ∧ ss.length ≤ cap ∧ ss.length ≤ maxLen ∧ CellsG enS W a cap ss ∧ ∀ s ∈ ss, s.size ≤ maxLen :=
  vals_of_arg T e hT 1 hc (by omega) enS (fun _ => rfl) (fun s => s.size ≤ maxLen) (fun n cs y hy _ => by
    obtain ⟨s, rfl, _, hs⟩ := DataW.trod_string he hy
    exact ⟨s, rfl, hs⟩) h

/-- Structs of two strings. -/
def enP (p : ByteArray × ByteArray) : List Value := [.string p.1, .string p.2]
theorem pairs_of_arg {H : Type} {encH : TypeId × Value → H} {W : World} {base : Nat} {held : Bool} (T e : TypeId) (hT : Tryd.prog.underlying T = some (.slice e)) {f0 f1 : Field} (he : Tryd.prog.underlying e = some (.struct #[f0, f1])) (hc : Tryd.prog.cellsOf e = 2)
    (h0 : Tryd.prog.underlying f0.type = some .string) (h1 : Tryd.prog.underlying f1.type = some .string) (c0 : Tryd.prog.cellsOf f0.type = 1) (c1 : Tryd.prog.cellsOf f1.type = 1) (o0 : f0.offset = 0) (o1 : f1.offset = 1)
    {fuel : Nat} {a : Option Addr} {len cap : Nat} {x : DataW H × List MemPlace} (h : DataW.trod encH Tryd.prog W base (fun _ => true) held fuel T [.slice a len cap] = some x) :
    ∃ ps : List (ByteArray × ByteArray), ps.length = len ∧ ps.length ≤ cap ∧ ps.length ≤ maxLen ∧ CellsG enP W a cap ps ∧ ∀ p ∈ ps, p.1.size ≤ maxLen ∧ p.2.size ≤ maxLen :=
  vals_of_arg T e hT 2 hc (by omega) enP (fun _ => rfl) (fun p => p.1.size ≤ maxLen ∧ p.2.size ≤ maxLen) (fun n cs y hy hl => by
    obtain ⟨y0, y1, m, _, _, g0, g1⟩ := trod_struct2 he hy
    rw [o0, c0] at g0
    rw [o1, c1] at g1
    obtain ⟨s0, e0, _, hs0⟩ := DataW.trod_string h0 g0
    obtain ⟨s1, e1, _, hs1⟩ := DataW.trod_string h1 g1
    match cs, hl with
    | [u, v], _ =>
      simp at e0 e1
      subst e0 e1
      exact ⟨(s0, s1), rfl, hs0, hs1⟩) h
end Go.Proofs.YtkaapfakalojaaaDoor
namespace Go.Proofs.YtkaapfakalojaaaDoor
open Go.ChangeShapes Go.WideShapes Go.ChangeAt Go.RowKit
set_option linter.unusedVariables false

theorem weights_all {H : Type} {e : TypeId} {d : DataW H} {m : Nat} : ∀ {l : List (DataW H)}, d ∈ l → m ∈ d.weights Tryd.prog e → m ∈ DataW.weightsAll Tryd.prog e l
  | [], h, _ => by simp at h
  | x :: l, h, hm => by
    simp only [DataW.weightsAll, List.mem_append]
    rcases List.mem_cons.1 h with rfl | h
    · exact .inl hm
    · exact .inr (weights_all h hm)
theorem weights_of_each {H : Type} {ts : List TypeId} {ds : List (DataW H)} (h : (DataW.weightsEach Tryd.prog ts ds).all (· ≤ reachBytes) = true) {j : Nat} {t : TypeId} {d : DataW H} (ht : ts[j]? = some t) (hd : ds[j]? = some d) : ∀ m ∈ d.weights Tryd.prog t, m ≤ reachBytes := fun m hm => by
  simpa using List.all_eq_true.1 h _ (DataW.weights_mem_each ht hd m hm)

theorem vals_of_arg_sized {α : Type} {H : Type} {encH : TypeId × Value → H} {W : World} {base : Nat} {held : Bool} (T e : TypeId) (hT : Tryd.prog.underlying T = some (.slice e)) (sz : Nat) (hsz : Tryd.prog.cellsOf e = sz) (hpos : 0 < sz) (en : α → List Value) (hen : ∀ x, (en x).length = sz) (G : α → Prop)
    (hread : ∀ n cs y, DataW.trod encH Tryd.prog W base (fun _ => true) held n e cs = some y → (∀ m ∈ y.1.weights Tryd.prog e, m ≤ reachBytes) → cs.length = sz → ∃ x, cs = en x ∧ G x)
    {fuel : Nat} {a : Option Addr} {len cap : Nat} {x : DataW H × List MemPlace} (h : DataW.trod encH Tryd.prog W base (fun _ => true) held fuel T [.slice a len cap] = some x) (hW : ∀ m ∈ x.1.weights Tryd.prog T, m ≤ reachBytes) :
    ∃ xs : List α, xs.length = len ∧ xs.length ≤ cap ∧ xs.length ≤ maxLen ∧ CellsG en W a cap xs ∧ ∀ x ∈ xs, G x := by
  rcases DataW.trod_slice hT h with ⟨hcs, _⟩ | ⟨ad, l, c, elems, rest, n, _, hcs, hxx, _, hl, hm, hlen, hel, _, _⟩
  · simp only [List.cons.injEq, Value.slice.injEq, and_true] at hcs
    obtain ⟨rfl, rfl, rfl⟩ := hcs
    exact ⟨[], rfl, by simp, by simp, CellsG.nil en W, by simp⟩
  · simp only [List.cons.injEq, Value.slice.injEq, and_true] at hcs
    obtain ⟨rfl, rfl, rfl⟩ := hcs
    have each : ∀ i, i < len → ∃ x : α, G x ∧ ∀ j, j < sz → W.cell? (ad.add (i * sz + j)) = (en x)[j]? := fun i hi => by
      have h1 := hel i hi
      rw [List.getElem?_eq_getElem (by omega), hsz, Option.bind_eq_some_iff] at h1
      obtain ⟨cs, hc, hy⟩ := h1
      obtain ⟨_, hcl, hcell⟩ := World.cells?_some hc
      obtain ⟨x, hx, hG⟩ := hread n cs _ hy (fun m hm' => hW m (by
        rw [hxx]
        simp only [DataW.weights, hT, List.mem_cons, List.mem_append]
        exact .inr (.inl (weights_all (List.mem_map.2 ⟨_, List.getElem_mem _, rfl⟩) hm')))) hcl
      refine ⟨x, hG, fun j hj => ?_⟩
      rw [← hx]
      have := hcell j hj
      rw [← this]
      refine congrArg W.cell? ?_
      unfold Addr.add
      by_cases h0 : i * sz = 0
      · simp [h0]
      · by_cases hj0 : j = 0
        · simp [h0, hj0]
        · simp [h0, hj0, Nat.add_assoc]
    have hx : ∃ xs : List α, xs.length = len ∧ ∀ i x, xs[i]? = some x → G x ∧ ∀ j, j < sz → W.cell? (ad.add (i * sz + j)) = (en x)[j]? := by
      have : ∀ m, m ≤ len → ∃ xs : List α, xs.length = m ∧ ∀ i x, xs[i]? = some x → G x ∧ ∀ j, j < sz → W.cell? (ad.add (i * sz + j)) = (en x)[j]? := by
        intro m
        induction m with
        | zero => exact fun _ => ⟨[], rfl, fun i x h => by simp at h⟩
        | succ m ih =>
          intro hm
          obtain ⟨xs, h1, h2⟩ := ih (by omega)
          obtain ⟨x, h3, h4⟩ := each m (by omega)
          refine ⟨xs ++ [x], by simp [h1], fun i y hy => ?_⟩
          rcases Nat.lt_or_ge i xs.length with h | h
          · rw [List.getElem?_append_left h] at hy
            exact h2 i y hy
          · rw [List.getElem?_append_right h] at hy
            have h0 : i - xs.length = 0 := by
              rcases Nat.eq_zero_or_pos (i - xs.length) with h | h
              · exact h
              · rw [List.getElem?_eq_none (by simp; omega)] at hy; cases hy
            rw [h0] at hy
            simp at hy
            subst hy
            rw [show i = m by omega]
            exact ⟨h3, h4⟩
      exact this len (Nat.le_refl _)
    obtain ⟨xs, h1, h2⟩ := hx
    refine ⟨xs, h1, by omega, by omega, .inr ⟨ad, rfl, fun k u hu => ?_⟩, fun x hx => ?_⟩
    · have hk : k < xs.length * sz := by
        have h3 : ∀ xs : List α, (cellsG en xs).length = xs.length * sz := by
          intro xs
          induction xs with
          | nil => simp [cellsG]
          | cons y xs ih =>
            simp only [cellsG] at ih
            simp only [cellsG, List.flatMap_cons, List.length_append, hen, ih, List.length_cons]
            rw [Nat.add_mul, Nat.one_mul, Nat.add_comm]
        rw [← h3 xs]
        exact (List.getElem?_eq_some_iff.1 hu).1
      have hi : k / sz < xs.length := Nat.div_lt_of_lt_mul (by rw [Nat.mul_comm]; exact hk)
      have hj : k % sz < sz := Nat.mod_lt _ hpos
      have hk2 : k / sz * sz + k % sz = k := Nat.div_add_mod' k sz
      have hxi : xs[k / sz]? = some xs[k / sz] := by simp [hi]
      have h4 := (h2 (k / sz) xs[k / sz] hxi).2 (k % sz) hj
      rw [hk2] at h4
      rw [h4]
      have h5 : ∀ (xs : List α) (i j : Nat) (x : α), xs[i]? = some x → j < sz → (cellsG en xs)[i * sz + j]? = (en x)[j]? := by
        intro xs
        induction xs with
        | nil => intro i j x h; simp at h
        | cons y xs ih =>
          intro i j x h hj
          cases i with
          | zero =>
            simp at h
            subst h
            simp only [cellsG, List.flatMap_cons, Nat.zero_mul, Nat.zero_add]
            rw [List.getElem?_append_left (by rw [hen]; exact hj)]
          | succ i =>
            simp only [List.getElem?_cons_succ] at h
            have ih := ih i j x h hj
            simp only [cellsG] at ih
            simp only [cellsG, List.flatMap_cons]
            rw [List.getElem?_append_right (by rw [hen, Nat.add_mul]; omega), hen, show (i + 1) * sz + j - sz = i * sz + j by rw [Nat.add_mul]; omega, ih]
      have h6 := h5 xs (k / sz) (k % sz) _ hxi hj
      rw [hk2, hu] at h6
      exact h6.symm
    · obtain ⟨i, hi⟩ := List.getElem?_of_mem hx
      exact (h2 i x hi).1


theorem strs_of_arg_sized {H : Type} {encH : TypeId × Value → H} {W : World} {base : Nat} {held : Bool} (T e : TypeId) (hT : Tryd.prog.underlying T = some (.slice e)) (he : Tryd.prog.underlying e = some .string) (hc : Tryd.prog.cellsOf e = 1)
    {fuel : Nat} {a : Option Addr} {len cap : Nat} {x : DataW H × List MemPlace} (h : DataW.trod encH Tryd.prog W base (fun _ => true) held fuel T [.slice a len cap] = some x) (hW : ∀ m ∈ x.1.weights Tryd.prog T, m ≤ reachBytes) :
    ∃ ss : List ByteArray, ss.length = len ∧ ss.length ≤ cap ∧ ss.length ≤ maxLen ∧ CellsG enS W a cap ss ∧ ∀ s ∈ ss, s.size ≤ reachBytes :=
  vals_of_arg_sized T e hT 1 hc (by omega) enS (fun _ => rfl) (fun s => s.size ≤ reachBytes) (fun n cs y hy hw _ => by
    obtain ⟨s, rfl, rfl, hs⟩ := DataW.trod_string he hy
    refine ⟨s, rfl, ?_⟩
    have := hw s.data.toList.length (by simp [DataW.weights])
    simpa using this) h hW

theorem pairs_of_arg_sized {H : Type} {encH : TypeId × Value → H} {W : World} {base : Nat} {held : Bool} (T e : TypeId) (hT : Tryd.prog.underlying T = some (.slice e)) {f0 f1 : Field} (he : Tryd.prog.underlying e = some (.struct #[f0, f1])) (hc : Tryd.prog.cellsOf e = 2)
    (h0 : Tryd.prog.underlying f0.type = some .string) (h1 : Tryd.prog.underlying f1.type = some .string) (c0 : Tryd.prog.cellsOf f0.type = 1) (c1 : Tryd.prog.cellsOf f1.type = 1) (o0 : f0.offset = 0) (o1 : f1.offset = 1)
    {fuel : Nat} {a : Option Addr} {len cap : Nat} {x : DataW H × List MemPlace} (h : DataW.trod encH Tryd.prog W base (fun _ => true) held fuel T [.slice a len cap] = some x) (hW : ∀ m ∈ x.1.weights Tryd.prog T, m ≤ reachBytes) :
    ∃ ps : List (ByteArray × ByteArray), ps.length = len ∧ ps.length ≤ cap ∧ ps.length ≤ maxLen ∧ CellsG enP W a cap ps ∧ ∀ p ∈ ps, p.1.size ≤ reachBytes ∧ p.2.size ≤ reachBytes :=
  vals_of_arg_sized T e hT 2 hc (by omega) enP (fun _ => rfl) (fun p => p.1.size ≤ reachBytes ∧ p.2.size ≤ reachBytes) (fun n cs y hy hw hl => by
    obtain ⟨y0, y1, m, hy1, _, g0, g1⟩ := trod_struct2 he hy
    rw [o0, c0] at g0
    rw [o1, c1] at g1
    obtain ⟨s0, e0, ey0, hs0⟩ := DataW.trod_string h0 g0
    obtain ⟨s1, e1, ey1, hs1⟩ := DataW.trod_string h1 g1
    have q0 := hw s0.data.toList.length (by rw [hy1, ey0]; simp [DataW.weights, he, DataW.weightsEach])
    have q1 := hw s1.data.toList.length (by rw [hy1, ey1]; simp [DataW.weights, he, DataW.weightsEach])
    match cs, hl with
    | [u, v], _ =>
      simp at e0 e1
      subst e0 e1
      exact ⟨(s0, s1), rfl, by simpa using q0, by simpa using q1⟩) h hW
end Go.Proofs.YtkaapfakalojaaaDoor
namespace Go.Proofs.YtkaapfakalojaaaDoor
open Go.ChangeShapes Go.WideShapes Go.ChangeAt Go.RowKit Go.Joins
set_option linter.unusedVariables false

theorem vals_of_fuel {α : Type} {H : Type} {encH : TypeId × Value → H} {W : World} {base : Nat} {held : Bool} (T e : TypeId) (hT : Tryd.prog.underlying T = some (.slice e)) (sz : Nat) (hsz : Tryd.prog.cellsOf e = sz) (hpos : 0 < sz) (en : α → List Value) (hen : ∀ x, (en x).length = sz) (G : α → Prop)
    {fuel : Nat} (hread : ∀ n, n < fuel → ∀ cs y, DataW.trod encH Tryd.prog W base (fun _ => true) held n e cs = some y → (∀ m ∈ y.1.weights Tryd.prog e, m ≤ reachBytes) → cs.length = sz → ∃ x, cs = en x ∧ G x)
    {a : Option Addr} {len cap : Nat} {x : DataW H × List MemPlace} (h : DataW.trod encH Tryd.prog W base (fun _ => true) held fuel T [.slice a len cap] = some x) (hW : ∀ m ∈ x.1.weights Tryd.prog T, m ≤ reachBytes) :
    ∃ xs : List α, xs.length = len ∧ xs.length ≤ cap ∧ xs.length ≤ maxLen ∧ CellsG en W a cap xs ∧ ∀ x ∈ xs, G x := by
  rcases DataW.trod_slice hT h with ⟨hcs, _⟩ | ⟨ad, l, c, elems, rest, n, hfu, hcs, hxx, _, hl, hm, hlen, hel, _, _⟩
  · simp only [List.cons.injEq, Value.slice.injEq, and_true] at hcs
    obtain ⟨rfl, rfl, rfl⟩ := hcs
    exact ⟨[], rfl, by simp, by simp, CellsG.nil en W, by simp⟩
  · simp only [List.cons.injEq, Value.slice.injEq, and_true] at hcs
    obtain ⟨rfl, rfl, rfl⟩ := hcs
    have each : ∀ i, i < len → ∃ x : α, G x ∧ ∀ j, j < sz → W.cell? (ad.add (i * sz + j)) = (en x)[j]? := fun i hi => by
      have h1 := hel i hi
      rw [List.getElem?_eq_getElem (by omega), hsz, Option.bind_eq_some_iff] at h1
      obtain ⟨cs, hc, hy⟩ := h1
      obtain ⟨_, hcl, hcell⟩ := World.cells?_some hc
      obtain ⟨x, hx, hG⟩ := hread n (by omega) cs _ hy (fun m hm' => hW m (by
        rw [hxx]
        simp only [DataW.weights, hT, List.mem_cons, List.mem_append]
        exact .inr (.inl (weights_all (List.mem_map.2 ⟨_, List.getElem_mem _, rfl⟩) hm')))) hcl
      refine ⟨x, hG, fun j hj => ?_⟩
      rw [← hx]
      have := hcell j hj
      rw [← this]
      refine congrArg W.cell? ?_
      unfold Addr.add
      by_cases h0 : i * sz = 0
      · simp [h0]
      · by_cases hj0 : j = 0
        · simp [h0, hj0]
        · simp [h0, hj0, Nat.add_assoc]
    have hx : ∃ xs : List α, xs.length = len ∧ ∀ i x, xs[i]? = some x → G x ∧ ∀ j, j < sz → W.cell? (ad.add (i * sz + j)) = (en x)[j]? := by
      have : ∀ m, m ≤ len → ∃ xs : List α, xs.length = m ∧ ∀ i x, xs[i]? = some x → G x ∧ ∀ j, j < sz → W.cell? (ad.add (i * sz + j)) = (en x)[j]? := by
        intro m
        induction m with
        | zero => exact fun _ => ⟨[], rfl, fun i x h => by simp at h⟩
        | succ m ih =>
          intro hm
          obtain ⟨xs, h1, h2⟩ := ih (by omega)
          obtain ⟨x, h3, h4⟩ := each m (by omega)
          refine ⟨xs ++ [x], by simp [h1], fun i y hy => ?_⟩
          rcases Nat.lt_or_ge i xs.length with h | h
          · rw [List.getElem?_append_left h] at hy
            exact h2 i y hy
          · rw [List.getElem?_append_right h] at hy
            have h0 : i - xs.length = 0 := by
              rcases Nat.eq_zero_or_pos (i - xs.length) with h | h
              · exact h
              · rw [List.getElem?_eq_none (by simp; omega)] at hy; cases hy
            rw [h0] at hy
            simp at hy
            subst hy
            rw [show i = m by omega]
            exact ⟨h3, h4⟩
      exact this len (Nat.le_refl _)
    obtain ⟨xs, h1, h2⟩ := hx
    refine ⟨xs, h1, by omega, by omega, .inr ⟨ad, rfl, fun k u hu => ?_⟩, fun x hx => ?_⟩
    · have hk : k < xs.length * sz := by
        have h3 : ∀ xs : List α, (cellsG en xs).length = xs.length * sz := by
          intro xs
          induction xs with
          | nil => simp [cellsG]
          | cons y xs ih =>
            simp only [cellsG] at ih
            simp only [cellsG, List.flatMap_cons, List.length_append, hen, ih, List.length_cons]
            rw [Nat.add_mul, Nat.one_mul, Nat.add_comm]
        rw [← h3 xs]
        exact (List.getElem?_eq_some_iff.1 hu).1
      have hi : k / sz < xs.length := Nat.div_lt_of_lt_mul (by rw [Nat.mul_comm]; exact hk)
      have hj : k % sz < sz := Nat.mod_lt _ hpos
      have hk2 : k / sz * sz + k % sz = k := Nat.div_add_mod' k sz
      have hxi : xs[k / sz]? = some xs[k / sz] := by simp [hi]
      have h4 := (h2 (k / sz) xs[k / sz] hxi).2 (k % sz) hj
      rw [hk2] at h4
      rw [h4]
      have h5 : ∀ (xs : List α) (i j : Nat) (x : α), xs[i]? = some x → j < sz → (cellsG en xs)[i * sz + j]? = (en x)[j]? := by
        intro xs
        induction xs with
        | nil => intro i j x h; simp at h
        | cons y xs ih =>
          intro i j x h hj
          cases i with
          | zero =>
            simp at h
            subst h
            simp only [cellsG, List.flatMap_cons, Nat.zero_mul, Nat.zero_add]
            rw [List.getElem?_append_left (by rw [hen]; exact hj)]
          | succ i =>
            simp only [List.getElem?_cons_succ] at h
            have ih := ih i j x h hj
            simp only [cellsG] at ih
            simp only [cellsG, List.flatMap_cons]
            rw [List.getElem?_append_right (by rw [hen, Nat.add_mul]; omega), hen, show (i + 1) * sz + j - sz = i * sz + j by rw [Nat.add_mul]; omega, ih]
      have h6 := h5 xs (k / sz) (k % sz) _ hxi hj
      rw [hk2, hu] at h6
      exact h6.symm
    · obtain ⟨i, hi⟩ := List.getElem?_of_mem hx
      exact (h2 i x hi).1

set_option maxRecDepth 20000 in
theorem expr_read {H : Type} {encH : TypeId × Value → H} {W : World} {base : Nat} {held : Bool} : ∀ (fuel : Nat) (cs : List Value) (x : DataW H × List MemPlace), DataW.trod encH Tryd.prog W base (fun _ => true) held fuel 26 cs = some x → (∀ m ∈ x.1.weights Tryd.prog 26, m ≤ reachBytes) → cs.length = 5 → ∃ e : Ex, cs = enX e ∧ e.Good ∧ e.At W := by
  intro fuel
  induction fuel using Nat.strongRecOn with
  | _ fuel ih =>
    intro cs x h hw hl
    obtain ⟨xs, m, hfu, hy, _, hlen, hf⟩ := DataW.trod_struct Tryd.underlying26 h
    match xs, hlen, cs, hl with
    | [y0, y1, y2], _, [u0, u1, u2, u3, u4], _ =>
      have g0 : DataW.trod encH Tryd.prog W base (fun _ => true) held m 3 ((([u0, u1, u2, u3, u4] : List Value).drop 0).take (Tryd.prog.cellsOf 3)) = some y0 := hf 0 _ rfl
      have g1 : DataW.trod encH Tryd.prog W base (fun _ => true) held m 23 ((([u0, u1, u2, u3, u4] : List Value).drop 1).take (Tryd.prog.cellsOf 23)) = some y1 := hf 1 _ rfl
      have g2 : DataW.trod encH Tryd.prog W base (fun _ => true) held m 24 ((([u0, u1, u2, u3, u4] : List Value).drop 4).take (Tryd.prog.cellsOf 24)) = some y2 := hf 2 _ rfl
      have c3 : Tryd.prog.cellsOf 3 = 1 := by kernel_rfl
      have c23 : Tryd.prog.cellsOf 23 = 3 := by kernel_rfl
      have c24 : Tryd.prog.cellsOf 24 = 1 := by kernel_rfl
      have c5 : Tryd.prog.cellsOf 5 = 1 := by kernel_rfl
      have c9 : Tryd.prog.cellsOf 9 = 1 := by kernel_rfl
      rw [c3] at g0
      rw [c23] at g1
      rw [c24] at g2
      obtain ⟨z0, e0, _, hz0⟩ := DataW.trod_int Tryd.underlying3 g0
      simp only [List.drop_succ_cons, List.drop_zero, List.take_succ_cons, List.take_zero] at g1
      obtain ⟨zs, m1, _, hy1, _, hlen1, hf1⟩ := DataW.trod_struct Tryd.underlying23 g1
      match zs, hlen1 with
      | [v0, v1, v2], _ =>
        have k0 : DataW.trod encH Tryd.prog W base (fun _ => true) held m1 5 ((([u1, u2, u3] : List Value).drop 0).take (Tryd.prog.cellsOf 5)) = some v0 := hf1 0 _ rfl
        have k1 : DataW.trod encH Tryd.prog W base (fun _ => true) held m1 3 ((([u1, u2, u3] : List Value).drop 1).take (Tryd.prog.cellsOf 3)) = some v1 := hf1 1 _ rfl
        have k2 : DataW.trod encH Tryd.prog W base (fun _ => true) held m1 9 ((([u1, u2, u3] : List Value).drop 2).take (Tryd.prog.cellsOf 9)) = some v2 := hf1 2 _ rfl
        rw [c5] at k0
        rw [c3] at k1
        rw [c9] at k2
        obtain ⟨a0, b0, _, ha0⟩ := DataW.trod_int Tryd.underlying5 k0
        obtain ⟨a1, b1, _, ha1⟩ := DataW.trod_int Tryd.underlying3 k1
        obtain ⟨s2, b2, ey2, hs2⟩ := DataW.trod_string Tryd.underlying9 k2
        have hyd : x.1 = _ := congrArg Prod.fst hy
        have hyd1 : y1.1 = _ := congrArg Prod.fst hy1
        have q2 := hw s2.data.toList.length (by rw [hyd]; simp only [List.map_cons, List.map_nil]; rw [hyd1]; simp [DataW.weights, Tryd.underlying26, Tryd.underlying23, DataW.weightsEach, ey2])
        simp at e0 b0 b1 b2
        subst e0 b0 b1 b2
        have hcs2 : ([u4] : List Value) = [u4] := rfl
        simp only [List.drop_succ_cons, List.drop_zero, List.take_succ_cons, List.take_zero] at g2
        have hsl : ∃ A len c, u4 = .slice A len c := by
          rcases DataW.trod_slice Tryd.underlying24 g2 with ⟨h1, _⟩ | ⟨ad, l, c, _, _, _, _, h1, _⟩
          · simp at h1; exact ⟨_, _, _, h1⟩
          · simp at h1; exact ⟨_, _, _, h1⟩
        obtain ⟨A, len, c, rfl⟩ := hsl
        obtain ⟨l, hll, _, hlm, hcl, hal⟩ := vals_of_fuel (encH := encH) (W := W) (base := base) (held := held) (fuel := m) 24 26 Tryd.underlying24 5 (by kernel_rfl) (by omega) enX (fun _ => rfl) (fun e => e.Good ∧ e.At W) (fun n hn cs y h1 h2 h3 => ih n (by omega) cs y h1 h2 h3) g2 (fun m' hm' => hw m' (by rw [hyd]; simp only [List.map_cons, List.map_nil]; simp [DataW.weights, Tryd.underlying26, DataW.weightsEach]; simp [hm']))
        have hi0 := bounds_i64 hz0
        have hi1 := bounds_i64 ha1
        have hb0 := bounds_u8 ha0
        subst hll
        refine ⟨.node z0 ⟨a0, a1, s2⟩ A c l, rfl, ?_, ?_⟩
        · simp only [Ex.Good]
          exact ⟨⟨⟨by omega, by omega⟩, ⟨by show 0 ≤ a0; omega, by show a0 ≤ 255; omega, by show -9223372036854775808 ≤ a1; omega, by show a1 ≤ 9223372036854775807; omega, by simpa using q2⟩⟩, hlm, goodL_of fun e he => (hal e he).1⟩
        · simp only [Ex.At]
          exact ⟨hcl, atL_of fun e he => (hal e he).2⟩
set_option maxRecDepth 20000 in
theorem expr_of_arg {H : Type} {encH : TypeId × Value → H} {W : World} {base : Nat} {held : Bool} {r : Reach} {b0 : Nat} {v : Value} {d : DataW H} {p : List MemPlace} (hv : Value.okWide Tryd.prog W r b0 26 v) (h : DataW.Trod encH Tryd.prog W base (fun _ => true) held 26 v d p) (hw : ∀ m ∈ d.weights Tryd.prog 26, m ≤ reachBytes) : ∃ e : Ex, v = e.v ∧ e.Good ∧ e.At W := by
  obtain ⟨cs, rfl, hsz⟩ := okWide_struct Tryd.underlying26 hv
  obtain ⟨fuel, hf⟩ := h
  have h3 : Tryd.prog.cellsOf 26 = 5 := by kernel_rfl
  obtain ⟨e, h1, h2⟩ := expr_read fuel _ _ hf hw (by simp [Value.cells]; omega)
  refine ⟨e, ?_, h2⟩
  have : cs = (enX e).toArray := by rw [← h1]; simp [Value.cells]
  rw [this]; rfl
end Go.Proofs.YtkaapfakalojaaaDoor
namespace Go.Proofs.YtkaapfakalojaaaDoor
open Go.ChangeShapes Go.WideShapes Go.ChangeAt Go.RowKit
set_option linter.unusedVariables false
set_option maxRecDepth 20000
def plainV (a : Vl) : Vl := if a.k = 0 then ⟨0, a.n, ⟨#[]⟩⟩ else ⟨1, 0, a.s⟩
set_option maxHeartbeats 2000000 in
theorem plain_calls (a : Vl) (w : World) : Calls Tryd.prog 50 #[a.v] w fun e w' => e = .returned (plainV a).v ∧ Below w.heap.size w w' := by
  obtain ⟨k, n, s⟩ := a
  have b4 := Blk.new w #[.int .u8 k, .int .i64 n, .string s] 23
  have b5 := Blk.newAt (w.alloc (.cells #[.int .u8 k, .int .i64 n, .string s] 23)) #[.int .u8 0, .int .i64 0, .string ⟨#[]⟩] 23 (g := w.heap.size + 1) (by simp)
  have b6 := b4.alloc (.cells #[.int .u8 0, .int .i64 0, .string ⟨#[]⟩] 23)
  have HB5 := Lib.hid b5
  obtain ⟨x0, x1, x2⟩ := b6.cells3
  obtain ⟨y0, y1, y2⟩ := b6.free3
  obtain ⟨z0, z1, z2⟩ := b5.free3
  obtain ⟨u0, u1, u2⟩ := b5.cells3
  have HB6 := Lib.hid b6
  clear b4 b5 b6
  unfold Vl.v plainV
  dsimp only
  by_cases h0 : k = 0
  · subst h0
    rw [if_pos rfl]
    dsimp only
    go_enter Tryd.func50, Tryd.ntmps50
    go_wp2
    exact bodyPost_ret (results_cell1 rfl _ _ _ _ _ rfl (lv23 (Blk.newAt _ _ _ (by simp)))) rfl ⟨rfl, below_two w _ _⟩
  · have hk0 : (k == 0) = false := by simpa using h0
    rw [if_neg h0]
    dsimp only
    by_cases h1 : k = 1
    · subst h1
      go_enter Tryd.func50, Tryd.ntmps50
      go_wp2
      exact bodyPost_ret (results_cell1 rfl _ _ _ _ _ rfl (lv23 (Blk.newAt _ _ _ (by simp)))) rfl ⟨rfl, below_two w _ _⟩
    · have hk1 : (k == 1) = false := by simpa using h1
      go_enter Tryd.func50, Tryd.ntmps50
      go_wp2
      exact bodyPost_ret (results_cell1 rfl _ _ _ _ _ rfl (lv23 (Blk.newAt _ _ _ (by simp)))) rfl ⟨rfl, below_two w _ _⟩
end Go.Proofs.YtkaapfakalojaaaDoor
namespace Go.Proofs.YtkaapfakalojaaaDoor
open Go.ChangeShapes Go.WideShapes Go.ChangeAt Go.RowKit
set_option linter.unusedVariables false

def cellsI (es : List Int) : List Value := es.map (Value.int .i64)
theorem cellsI_length (es : List Int) : (cellsI es).length = es.length := by simp [cellsI]
theorem cellsI_one (es : List Int) : ∀ u ∈ cellsI es, u.oneCell' = true := by
  intro u hu
  obtain ⟨n, _, rfl⟩ := List.mem_map.1 hu
  rfl
theorem cellsI_append (a b : List Int) : cellsI (a ++ b) = cellsI a ++ cellsI b := by simp [cellsI]
theorem Tryd.info3 : (Tryd.prog.info? 3).map (fun i => (i.zero, i.size, i.bytes)) = some (some (.int .i64 0), 1, 8) := by kernel_rfl
theorem size3 (w : World) : (Go.sizeOf 3).run Tryd.prog w = .ok 1 w := by kernel_rfl

/-- A slice of ints of the call own. -/
def OwnI (B : Nat) (w : World) (A : Option Addr) (c : Nat) (es : List Int) : Prop := w.ownsRow B 3 1 (.slice A es.length c) es.length (cellsI es)
theorem OwnI.nil (B : Nat) (w : World) : OwnI B w none 0 [] := World.ownsRow_nil w B 3 1
theorem OwnI.below {B : Nat} {w w' : World} {A : Option Addr} {c : Nat} {es : List Int} (h : OwnI B w A c es) (hb : Below w.heap.size w w') : OwnI B w' A c es := by
  refine ⟨h.1, ?_⟩
  rcases h.2 with h2 | ⟨g, cap, cur, hv, hg, hh, r⟩
  · exact .inl h2
  · refine .inr ⟨g, cap, cur, hv, hg, ?_, r⟩
    rw [hb.block g (lt_of_block hh)]
    exact hh
theorem OwnI.alloc {B : Nat} {w : World} {A : Option Addr} {c : Nat} {es : List Int} (h : OwnI B w A c es) (o : Obj) : OwnI B (w.alloc o) A c es := World.ownsRow.alloc h o
theorem OwnI.grow {B : Nat} {w0 w w' : World} {A : Option Addr} {c : Nat} {es : List Int} (h : OwnI B w A c es) (hb : Below B w0 w) (hg : w.grownBy w' (Value.slice A es.length c).ownBlock) (hB : B ≤ w.heap.size) : Below B w0 w' :=
  hb.grown hg hB (fun k hk => (World.ownsRow.lt h k hk).1)
theorem OwnI.row {B : Nat} {W : World} {A : Option Addr} {c : Nat} {es : List Int} (h : OwnI B W A c es) : ∀ g, (Value.slice A es.length c).ownBlock = some g → B ≤ g ∧ ∃ cur z, W.heap[g]? = some (.cells cur 3 z) := fun g hg => by
  rcases h.2 with ⟨h1, _⟩ | ⟨g', cap, cur, h1, hb, hgg, _⟩
  · rw [h1] at hg; simp [Value.ownBlock] at hg
  · rw [h1] at hg
    simp [Value.ownBlock] at hg
    subst hg
    exact ⟨hb, cur, _, hgg⟩
/-- Where its elements lie. -/
theorem OwnI.at_ {B : Nat} {W : World} {A : Option Addr} {c : Nat} {es : List Int} (h : OwnI B W A c es) (hl : 0 < es.length) :
    ∃ g, A = some ⟨g, 0, none⟩ ∧ g < W.heap.size ∧ ∀ j, j < es.length → W.cell? ⟨g, j, none⟩ = some (.int .i64 (es.getD j 0)) := by
  rcases h.2 with ⟨_, h0⟩ | ⟨g, cap, cur, hv, hb, hg, _⟩
  · omega
  · have hA : A = some ⟨g, 0, none⟩ := by injection hv
    subst hA
    refine ⟨g, rfl, lt_of_block hg, fun j hj => ?_⟩
    rw [World.ownsRow.cellAt h j (by omega)]
    simp [cellsI, List.getD, hj]

theorem run_append_ints (T ty : TypeId) (hT : Tryd.prog.underlying T = some (.slice 3)) (w : World) (base : Nat) (A : Option Addr) (c : Nat) (es : List Int) (hown : OwnI base w A c es) (a : Addr) (d : Nat) (ns : List Int) (hr : ∀ j u, (cellsI ns)[j]? = some u → w.cell? (a.add j) = some u)
    (h63 : es.length + ns.length ≤ 1000000000) (hbase : base ≤ w.heap.size) :
    ∃ A' c' w', (Builtin.append_ #[T, T] ty #[.slice A es.length c, .slice (some a) ns.length d]).run Tryd.prog w = .ok (.slice A' (es ++ ns).length c') w' ∧ OwnI base w' A' c' (es ++ ns) ∧ w.grownBy w' (Value.slice A es.length c).ownBlock := by
  obtain ⟨i0, hi, hz0, hz1, hz2⟩ := info_parts Tryd.info3
  unfold OwnI at *
  rw [List.length_append, cellsI_append]
  obtain ⟨v', w', hrun, h2, h3, _, h5⟩ := run_append_own_at (P := Tryd.prog) w base T ty 3 i0 (.int .i64 0) 1 8 hT hi hz0 hz1 hz2 rfl (by decide) _ _ _ hown a ns.length d (cellsI ns) (by rw [cellsI_length]; omega) hr (cellsI_one ns) (by unfold maxLen; omega) (by omega) hbase
  rcases h2.2 with ⟨hv, h0⟩ | ⟨g, cap, cur, hv, _⟩
  · subst hv
    refine ⟨none, 0, w', ?_, ?_, h3⟩
    · rw [h0]; exact hrun
    · rw [h0] at h2 ⊢; exact h2
  · subst hv
    exact ⟨_, cap, w', hrun, h2, h3⟩

theorem wpList_append_ints {w : World} {ops : Array Oper} {rest : List Oper} {o : Oper} {a : Act} {Q : Exit → Act → World → Prop} (hgd : o.guard = none) (s x : Operand) (T : TypeId) (hT : Tryd.prog.underlying T = some (.slice 3))
    (ho : o.op = .call { callee := .builtin .append, args := #[s, x], argTypes := #[T, T] })
    (base : Nat) (A : Option Addr) (c : Nat) (es : List Int) (hs : a.eval s = .slice A es.length c) (hown : OwnI base w A c es)
    (p : Addr) (d : Nat) (ns : List Int) (hx : a.eval x = .slice (some p) ns.length d) (hr : ∀ j u, (cellsI ns)[j]? = some u → w.cell? (p.add j) = some u) (h63 : es.length + ns.length ≤ 1000000000) (hbase : base ≤ w.heap.size)
    (h : ∀ A' c' w' R, Hid (R = es ++ ns) → OwnI base w' A' c' R → w.grownBy w' (Value.slice A es.length c).ownBlock → wpList Tryd.prog ops Q rest (a.put o.dst (.slice A' R.length c')) w') : wpList Tryd.prog ops Q (o :: rest) a w := by
  obtain ⟨A', c', w', hrun, h2, h3⟩ := run_append_ints T o.type hT w base A c es hown p d ns hr h63 hbase
  refine wpList_plain hgd fun K hK => ?_
  unfold Oper.wp execOp
  simp only [ho, resolve, invoke, builtin, Sem.run_bind, Sem.run_pure, Result.andThen_ok, List.map_toArray, List.map_cons, List.map_nil, hs, hx, hrun]
  exact hK _ _ (h A' c' w' _ (Lib.hid rfl) h2 h3)

theorem cells_one_int (w : World) (x : Int) : ∀ j u, (cellsI [x])[j]? = some u → (w.alloc (.cells #[.int .i64 x] 3)).cell? ((⟨w.heap.size, 0, none⟩ : Addr).add j) = some u := by
  intro j u hu
  cases j with
  | zero => simp [cellsI] at hu; subst hu; simp [Addr.add]
  | succ j => simp [cellsI] at hu
end Go.Proofs.YtkaapfakalojaaaDoor
namespace Go.Proofs.YtkaapfakalojaaaDoor
open Go.ChangeShapes Go.WideShapes Go.ChangeAt Go.RowKit
set_option linter.unusedVariables false
set_option maxRecDepth 20000
theorem nan8_calls (n : Int) (w : World) : Calls Tryd.prog 58 #[.int .u8 n] w fun e w' => e = .returned (.bool false) ∧ w = w' := by
  have h : (n != n) = false := by simp
  go_enter Tryd.func58, Tryd.ntmps58
  go_wp2
  go_ret
  exact ⟨rfl, rfl⟩
theorem nan_calls (n : Int) (w : World) : Calls Tryd.prog 59 #[.int .i64 n] w fun e w' => e = .returned (.bool false) ∧ w = w' := by
  have h : (n != n) = false := by simp
  go_enter Tryd.func59, Tryd.ntmps59
  go_wp2
  go_ret
  exact ⟨rfl, rfl⟩
theorem cmp8_calls (m n : Int) (w : World) : Calls Tryd.prog 52 #[.int .u8 m, .int .u8 n] w fun e w' => e = .returned (.int .i64 (cmpI m n)) ∧ w = w' := by
  have H := nan8_calls
  unfold cmpI
  by_cases h1 : m < n
  · rw [if_pos h1]
    go_enter Tryd.func52, Tryd.ntmps52
    go_wp2_with (go_at_call 58; refine (H _ _).mono ?_; rintro e w' ⟨rfl, rfl⟩)
    go_ret
    exact ⟨rfl, rfl⟩
  · rw [if_neg h1]
    have d1 : decide (m < n) = false := by simpa using h1
    by_cases h2 : n < m
    · rw [if_pos h2]
      have d2 : decide (n < m) = true := by simpa using h2
      go_enter Tryd.func52, Tryd.ntmps52
      go_wp2_with (go_at_call 58; refine (H _ _).mono ?_; rintro e w' ⟨rfl, rfl⟩)
      go_ret
      exact ⟨rfl, rfl⟩
    · rw [if_neg h2]
      have d2 : decide (n < m) = false := by simpa using h2
      go_enter Tryd.func52, Tryd.ntmps52
      go_wp2_with (go_at_call 58; refine (H _ _).mono ?_; rintro e w' ⟨rfl, rfl⟩)
      go_ret
      exact ⟨rfl, rfl⟩
theorem cmp_calls (m n : Int) (w : World) : Calls Tryd.prog 53 #[.int .i64 m, .int .i64 n] w fun e w' => e = .returned (.int .i64 (cmpI m n)) ∧ w = w' := by
  have H := nan_calls
  unfold cmpI
  by_cases h1 : m < n
  · rw [if_pos h1]
    go_enter Tryd.func53, Tryd.ntmps53
    go_wp2_with (go_at_call 59; refine (H _ _).mono ?_; rintro e w' ⟨rfl, rfl⟩)
    go_ret
    exact ⟨rfl, rfl⟩
  · rw [if_neg h1]
    have d1 : decide (m < n) = false := by simpa using h1
    by_cases h2 : n < m
    · rw [if_pos h2]
      have d2 : decide (n < m) = true := by simpa using h2
      go_enter Tryd.func53, Tryd.ntmps53
      go_wp2_with (go_at_call 59; refine (H _ _).mono ?_; rintro e w' ⟨rfl, rfl⟩)
      go_ret
      exact ⟨rfl, rfl⟩
    · rw [if_neg h2]
      have d2 : decide (n < m) = false := by simpa using h2
      go_enter Tryd.func53, Tryd.ntmps53
      go_wp2_with (go_at_call 59; refine (H _ _).mono ?_; rintro e w' ⟨rfl, rfl⟩)
      go_ret
      exact ⟨rfl, rfl⟩
end Go.Proofs.YtkaapfakalojaaaDoor
namespace Go.Proofs.YtkaapfakalojaaaDoor
open Go.ChangeShapes Go.WideShapes Go.ChangeAt Go.RowKit
set_option linter.unusedVariables false
set_option maxRecDepth 20000
def or3 (a b c : Int) : Int := if a = 0 then (if b = 0 then c else b) else a
def RelO (a b c : Int) (w : World) (v : Value) (wr : World) : Prop := ∃ k : Nat, v = .int .i64 k ∧ k ≤ 3 ∧ (0 < k → a = 0) ∧ (1 < k → b = 0) ∧ (2 < k → c = 0) ∧ wr = w
set_option maxHeartbeats 2000000 in
theorem or_calls (g : Nat) (a b c : Int) (w : World) (hb : Blk w g #[.int .i64 a, .int .i64 b, .int .i64 c] 3) : Calls Tryd.prog 51 #[.slice (some ⟨g, 0, none⟩) 3 3] w fun e w' => e = .returned (.int .i64 (or3 a b c)) ∧ w = w' := by
  obtain ⟨x0, x1, x2⟩ := hb.cells3
  obtain ⟨r, hr⟩ : ∃ r, r = or3 a b c := ⟨_, rfl⟩
  rw [← hr]
  have HR := Lib.hid hr
  clear hb hr
  go_enter Tryd.func51, Tryd.ntmps51
  go_wp2
  go_loopw [8] (RelO a b c w) (fun i _ => 3 - (intOf i).toNat)
  case atStart => exact ⟨0, rfl, by omega, by omega, by omega, by omega, rfl⟩
  case round =>
    obtain ⟨k, rfl, hk, ha, hb, hc, rfl⟩ := hrel
    have HA := Lib.hid ha
    have HB := Lib.hid hb
    have HC := Lib.hid hc
    clear ha hb hc
    have hk4 : k = 0 ∨ k = 1 ∨ k = 2 ∨ k = 3 := by omega
    rcases hk4 with rfl | rfl | rfl | rfl
    · by_cases h : a = 0
      · have hn : (a != 0) = false := by simpa using h
        have HZ := Lib.hid h
        clear h
        go_wp2
        go_roundw
        case rel => exact ⟨1, by go_num, by omega, fun _ => HZ.out, by omega, by omega, rfl⟩
        case measure => simp [intOf]
      · have hn : (a != 0) = true := by simpa using h
        have HE := Lib.hid (show r = a by rw [HR.out]; unfold or3; rw [if_neg h])
        clear h
        go_wp2
        go_ret
        exact ⟨by rw [HE.out]; rfl, rfl⟩
    · by_cases h : b = 0
      · have hn : (b != 0) = false := by simpa using h
        have HZ := Lib.hid h
        clear h
        go_wp2
        go_roundw
        case rel => exact ⟨2, by go_num, by omega, fun _ => HA.out (by omega), fun _ => HZ.out, by omega, rfl⟩
        case measure => simp [intOf]
      · have hn : (b != 0) = true := by simpa using h
        have HE := Lib.hid (show r = b by rw [HR.out]; unfold or3; rw [if_pos (HA.out (by omega)), if_neg h])
        clear h
        go_wp2
        go_ret
        exact ⟨by rw [HE.out]; rfl, rfl⟩
    · by_cases h : c = 0
      · have hn : (c != 0) = false := by simpa using h
        have HZ := Lib.hid h
        clear h
        go_wp2
        go_roundw
        case rel => exact ⟨3, by go_num, by omega, fun _ => HA.out (by omega), fun _ => HB.out (by omega), fun _ => HZ.out, rfl⟩
        case measure => simp [intOf]
      · have hn : (c != 0) = true := by simpa using h
        have HE := Lib.hid (show r = c by rw [HR.out]; unfold or3; rw [if_pos (HA.out (by omega)), if_pos (HB.out (by omega))])
        clear h
        go_wp2
        go_ret
        exact ⟨by rw [HE.out]; rfl, rfl⟩
    · have HE := Lib.hid (show r = 0 by rw [HR.out]; unfold or3; rw [if_pos (HA.out (by omega)), if_pos (HB.out (by omega))]; exact HC.out (by omega))
      go_wp2
      go_ret
      exact ⟨by rw [HE.out]; rfl, rfl⟩
end Go.Proofs.YtkaapfakalojaaaDoor
namespace Go.Proofs.YtkaapfakalojaaaDoor
open Go.ChangeShapes Go.WideShapes Go.ChangeAt Go.RowKit
set_option linter.unusedVariables false
set_option maxRecDepth 20000
theorem or3_ord (a b : Vl) : or3 (cmpI (plainV a).k (plainV b).k) (cmpI (plainV a).n (plainV b).n) (cmpT (sl (plainV a).s) (sl (plainV b).s)) = ordV a b := by
  unfold plainV ordV
  by_cases h1 : a.k = 0
  · by_cases h2 : b.k = 0
    · rw [if_pos h1, if_pos h2, if_pos h1, if_pos h2]
      show or3 (cmpI 0 0) (cmpI a.n b.n) (cmpT (sl ⟨#[]⟩) (sl ⟨#[]⟩)) = _
      rw [cmpT_same]
      unfold or3
      rw [if_pos (by rfl)]
      split
      · rename_i h; exact h.symm
      · rfl
    · rw [if_pos h1, if_neg h2, if_pos h1, if_neg h2]; rfl
  · by_cases h2 : b.k = 0
    · rw [if_neg h1, if_pos h2, if_neg h1, if_pos h2]; rfl
    · rw [if_neg h1, if_neg h2, if_neg h1, if_neg h2]; rfl
set_option maxHeartbeats 2000000 in
theorem order_calls (a b : Vl) (w : World) : Calls Tryd.prog 37 #[a.v, b.v] w fun e w' => e = .returned (.int .i64 (ordV a b)) ∧ Below w.heap.size w w' := by
  obtain ⟨r, hr⟩ : ∃ r, r = ordV a b := ⟨_, rfl⟩
  rw [← hr]
  rw [← or3_ord] at hr
  have HP := Lib.hid (show ∀ (k n : Int) (s : ByteArray) (W : World), Calls Tryd.prog 50 #[.agg #[.int .u8 k, .int .i64 n, .string s]] W fun e w' => e = .returned (.agg #[.int .u8 (plainV ⟨k, n, s⟩).k, .int .i64 (plainV ⟨k, n, s⟩).n, .string (plainV ⟨k, n, s⟩).s]) ∧ Below W.heap.size W w' from fun k n s W => plain_calls ⟨k, n, s⟩ W)
  obtain ⟨k, n, s⟩ := a
  obtain ⟨k', n', s'⟩ := b
  have HRR := Lib.hid hr
  clear hr
  unfold Vl.v
  dsimp only
  have b4 := Blk.new w #[.int .u8 k, .int .i64 n, .string s] 23
  have b5 := Blk.newAt (w.alloc (.cells #[.int .u8 k, .int .i64 n, .string s] 23)) #[.int .u8 k', .int .i64 n', .string s'] 23 (g := w.heap.size + 1) (by simp)
  have b6 := b4.alloc (.cells #[.int .u8 k', .int .i64 n', .string s'] 23)
  have HB5 := Lib.hid b5
  have HB6 := Lib.hid b6
  have HF := Lib.hid (show ∀ W : World, ∀ V : World, Blk W w.heap.size #[.int .u8 k, .int .i64 n, .string s] 23 → Blk W (w.heap.size + 1) #[.int .u8 k', .int .i64 n', .string s'] 23 → Below W.heap.size W V → Blk V w.heap.size #[.int .u8 k, .int .i64 n, .string s] 23 ∧ Blk V (w.heap.size + 1) #[.int .u8 k', .int .i64 n', .string s'] 23 from fun W V h1 h2 hb => ⟨h1.belowAll hb, h2.belowAll hb⟩)
  have HF0 := Lib.hid (show ∀ V : World, Below ((w.alloc (.cells #[.int .u8 k, .int .i64 n, .string s] 23)).alloc (.cells #[.int .u8 k', .int .i64 n', .string s'] 23)).drew.heap.size ((w.alloc (.cells #[.int .u8 k, .int .i64 n, .string s] 23)).alloc (.cells #[.int .u8 k', .int .i64 n', .string s'] 23)).drew V → Blk V w.heap.size #[.int .u8 k, .int .i64 n, .string s] 23 ∧ Blk V (w.heap.size + 1) #[.int .u8 k', .int .i64 n', .string s'] 23 from fun V hb => ⟨HB6.out.drew.belowAll hb, HB5.out.drew.belowAll hb⟩)
  obtain ⟨x0, x1, x2⟩ := b6.cells3
  obtain ⟨y0, y1, y2⟩ := b5.cells3
  clear b4 b5 b6
  go_enter Tryd.func37, Tryd.ntmps37
  go_wp2_with fail
  go_region_law (go_simp; refine (HP.out _ _ _ _).mono ?_; rintro e w1 ⟨rfl, hb1⟩; first | (have hf := HF.out _ _ HX1.out HY1.out hb1; have HX2 := Lib.hid hf.1; have HY2 := Lib.hid hf.2; obtain ⟨u0, u1, u2⟩ := hf.1.cells3; obtain ⟨v0, v1, v2⟩ := hf.2.cells3; obtain ⟨g0, g1, g2⟩ := hf.1.free3; obtain ⟨h0, h1, h2⟩ := hf.2.free3; have HBB2 := Lib.hid hb1; clear hf hb1) | (have hf := HF0.out _ hb1; have HX1 := Lib.hid hf.1; have HY1 := Lib.hid hf.2; obtain ⟨p0, p1, p2⟩ := hf.1.cells3; obtain ⟨q0, q1, q2⟩ := hf.2.cells3; have HBB1 := Lib.hid hb1; clear hf hb1))
  all_goals
    have hne : w.heap.size ≠ w.heap.size + 1 := by omega
    have bX := (((HX2.out.set3 (.int .u8 (plainV ⟨k, n, s⟩).k) (.int .i64 (plainV ⟨k, n, s⟩).n) (.string (plainV ⟨k, n, s⟩).s)).other (a := ⟨w.heap.size + 1, 0, none⟩) hne (.int .u8 (plainV ⟨k', n', s'⟩).k)).other (a := ⟨w.heap.size + 1, 1, none⟩) hne (.int .i64 (plainV ⟨k', n', s'⟩).n)).other (a := ⟨w.heap.size + 1, 2, none⟩) hne (.string (plainV ⟨k', n', s'⟩).s)
    have bY := (((HY2.out.other (a := ⟨w.heap.size, 0, none⟩) hne.symm (.int .u8 (plainV ⟨k, n, s⟩).k)).other (a := ⟨w.heap.size, 1, none⟩) hne.symm (.int .i64 (plainV ⟨k, n, s⟩).n)).other (a := ⟨w.heap.size, 2, none⟩) hne.symm (.string (plainV ⟨k, n, s⟩).s)).set3 (.int .u8 (plainV ⟨k', n', s'⟩).k) (.int .i64 (plainV ⟨k', n', s'⟩).n) (.string (plainV ⟨k', n', s'⟩).s)
    have hB : Below w.heap.size w ((((((w1.setCell ⟨w.heap.size, 0, none⟩ (.int .u8 (plainV ⟨k, n, s⟩).k)).setCell ⟨w.heap.size, 1, none⟩ (.int .i64 (plainV ⟨k, n, s⟩).n)).setCell ⟨w.heap.size, 2, none⟩ (.string (plainV ⟨k, n, s⟩).s)).setCell ⟨w.heap.size + 1, 0, none⟩ (.int .u8 (plainV ⟨k', n', s'⟩).k)).setCell ⟨w.heap.size + 1, 1, none⟩ (.int .i64 (plainV ⟨k', n', s'⟩).n)).setCell ⟨w.heap.size + 1, 2, none⟩ (.string (plainV ⟨k', n', s'⟩).s)) := below_set3 (below_set3 (((below_two w _ _).trans ((below_drew _).mono (below_two w _ _).size)).trans ((HBB1.out.mono (below_two w _ _).size).trans (HBB2.out.mono (Nat.le_trans (below_two w _ _).size HBB1.out.size)))) (Nat.le_refl _) _ _ _) (by omega) _ _ _
    obtain ⟨W6, hW6⟩ : ∃ W6, W6 = ((((((w1.setCell ⟨w.heap.size, 0, none⟩ (.int .u8 (plainV ⟨k, n, s⟩).k)).setCell ⟨w.heap.size, 1, none⟩ (.int .i64 (plainV ⟨k, n, s⟩).n)).setCell ⟨w.heap.size, 2, none⟩ (.string (plainV ⟨k, n, s⟩).s)).setCell ⟨w.heap.size + 1, 0, none⟩ (.int .u8 (plainV ⟨k', n', s'⟩).k)).setCell ⟨w.heap.size + 1, 1, none⟩ (.int .i64 (plainV ⟨k', n', s'⟩).n)).setCell ⟨w.heap.size + 1, 2, none⟩ (.string (plainV ⟨k', n', s'⟩).s)) := ⟨_, rfl⟩
    rw [← hW6] at bX bY hB ⊢
    generalize (plainV ⟨k, n, s⟩).k = ka at *
    generalize (plainV ⟨k, n, s⟩).n = na at *
    generalize (plainV ⟨k, n, s⟩).s = sa at *
    generalize (plainV ⟨k', n', s'⟩).k = kb at *
    generalize (plainV ⟨k', n', s'⟩).n = nb at *
    generalize (plainV ⟨k', n', s'⟩).s = sb at *
    have HRF := Lib.hid (show r = or3 (cmpI ka kb) (cmpI na nb) (cmpT (sl sa) (sl sb)) from HRR.out)
    have HW6 := Lib.hid hB
    have HBX := Lib.hid bX
    have HBY := Lib.hid bY
    clear HP HF HF0 HB5 HB6 HX1 HX2 HY1 HY2 HBB1 HBB2 hW6 hB hne HRR
    clear x0 x1 x2 y0 y1 y2 p0 p1 p2 q0 q1 q2 u0 u1 u2 v0 v1 v2 g0 g1 g2 h0 h1 h2
    obtain ⟨c0, c1, c2⟩ := bX.cells3
    obtain ⟨d0, d1, d2⟩ := bY.cells3
    clear bX bY
    generalize hN : w.heap.size = N at *
    have HN := Lib.hid hN
    clear hN
    go_wp2_with fail
    refine wp_region_still_tail 15 (by kernel_rfl) (by kernel_rfl) ?_
    change wpStill _ _ W6.drew (fun a' => wpList _ _ _ _ a' W6.drew) _ _
    simp only [List.take_succ_cons, List.take_zero, List.drop_succ_cons, List.drop_zero]
    repeat still_step
    still_call ((cmp8_calls _ _ _).mono (fun e w' ⟨he, hw⟩ => ⟨he, hw.symm⟩))
    repeat still_step
    still_call ((cmp_calls _ _ _).mono (fun e w' ⟨he, hw⟩ => ⟨he, hw.symm⟩))
    repeat still_step
    still_call ((compare_calls _ _ _).mono (fun e w' ⟨he, hw⟩ => ⟨he, hw.symm⟩))
    repeat still_step
    refine wpStill_nil ?_
    have HO := Lib.hid (or_calls W6.heap.size (cmpI ka kb) (cmpI na nb) (cmpT (sl sa) (sl sb)) (W6.drew.alloc (.cells #[.int .i64 (cmpI ka kb), .int .i64 (cmpI na nb), .int .i64 (cmpT (sl sa) (sl sb))] 3)) (Blk.newAt _ _ _ rfl))
    rw [← HRF.out] at HO
    go_wp2_with fail
    refine HO.out.mono ?_
    rintro e w9 ⟨rfl, rfl⟩
    dsimp only
    go_wp2
    go_ret
    refine ⟨rfl, ?_⟩
    rw [HN.out]
    have hs : N ≤ W6.heap.size := by have := HW6.out.size; exact Nat.le_trans (Nat.le_of_eq HN.out.symm) this
    exact HW6.out.drew.alloc hs _
end Go.Proofs.YtkaapfakalojaaaDoor
