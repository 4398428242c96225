/-
  Contract of the document's Names. No conditions.
  Contract of the document's Text. Conditions: the expression lies in memory; its parts and its texts are at most 3,000 in all.
  Contract of the program's plain: a value with its meaningful fields alone. No conditions.
  Tokens of a text, by the document. Plain, of no program. No conditions.
  Contracts of the document's digit, letter and half (stage 10). Conditions: as in the premises.
  Contract of the document's text (a string in marks). Conditions: a text of at most 1,000,000 bytes.
  Contract of the program's readByte: one byte of a string in marks. Conditions: a text of at most 1,000,000 bytes.
-/
import Derived.Deep.QuietTactic
import Derived.BigQuiet
import Derived.Test.YtjignlemahdoeaaDoorC3
namespace Go.Proofs.YtjignlemahdoeaaDoor
open Go.ChangeShapes Go.WideShapes Go.ChangeAt Go.RowKit
set_option linter.unusedVariables false
set_option maxRecDepth 20000
def nameCs : Array Value := #[.string ⟨#[99, 111, 110, 115, 116]⟩, .string ⟨#[108, 105, 110, 101]⟩, .string ⟨#[111, 102, 102]⟩, .string ⟨#[119, 111, 114, 100]⟩, .string ⟨#[110, 117, 109]⟩, .string ⟨#[107, 101, 121]⟩, .string ⟨#[97, 99, 99]⟩, .string ⟨#[99, 111, 117, 110, 116]⟩, .string ⟨#[97, 100, 100]⟩, .string ⟨#[115, 117, 98]⟩, .string ⟨#[109, 117, 108]⟩, .string ⟨#[100, 105, 118]⟩, .string ⟨#[109, 111, 100]⟩, .string ⟨#[110, 101, 103]⟩, .string ⟨#[101, 113]⟩, .string ⟨#[108, 116]⟩, .string ⟨#[97, 110, 100]⟩, .string ⟨#[111, 114]⟩, .string ⟨#[110, 111, 116]⟩, .string ⟨#[105, 102]⟩, .string ⟨#[108, 101, 110]⟩, .string ⟨#[99, 97, 116]⟩, .string ⟨#[99, 117, 116]⟩, .string ⟨#[105, 110, 116]⟩, .string ⟨#[115, 116, 114]⟩, .string ⟨#[102, 105, 101, 108, 100]⟩, .string ⟨#[117, 112, 112, 101, 114]⟩, .string ⟨#[102, 105, 110, 100]⟩]
theorem rnames_calls (w : World) : Calls Tryd.prog 33 #[] w fun q w' => q = .returned (.slice (some ⟨w.heap.size, 0, none⟩) 28 28) ∧ w' = w.alloc (.cells nameCs 9) := by
  go_enter Tryd.func33, Tryd.ntmps33
  go_wp2
  go_ret
  exact ⟨rfl, rfl⟩
theorem nameCs_at : ∀ k : Fin 28, nameCs[k.val]? = some (.string (str (names.getD k.val []))) := by
  intro k
  have hk : k = 0 ∨ k = 1 ∨ k = 2 ∨ k = 3 ∨ k = 4 ∨ k = 5 ∨ k = 6 ∨ k = 7 ∨ k = 8 ∨ k = 9 ∨ k = 10 ∨ k = 11 ∨ k = 12 ∨ k = 13 ∨ k = 14 ∨ k = 15 ∨ k = 16 ∨ k = 17 ∨ k = 18 ∨ k = 19 ∨ k = 20 ∨ k = 21 ∨ k = 22 ∨ k = 23 ∨ k = 24 ∨ k = 25 ∨ k = 26 ∨ k = 27 := by revert k; decide
  rcases hk with rfl | rfl | rfl | rfl | rfl | rfl | rfl | rfl | rfl | rfl | rfl | rfl | rfl | rfl | rfl | rfl | rfl | rfl | rfl | rfl | rfl | rfl | rfl | rfl | rfl | rfl | rfl | rfl <;> rfl
/-- A world that holds the names. -/
theorem names_cell (w : World) (k : Nat) (h : k < 28) : (w.alloc (.cells nameCs 9)).cell? ⟨w.heap.size, k, none⟩ = some (.string (str (names.getD k []))) := by
  rw [(Blk.new w nameCs 9).cell k]
  exact nameCs_at ⟨k, h⟩
end Go.Proofs.YtjignlemahdoeaaDoor
namespace Go.Proofs.YtjignlemahdoeaaDoor
open Go.ChangeShapes Go.WideShapes Go.ChangeAt Go.RowKit
set_option linter.unusedVariables false
set_option maxRecDepth 20000
theorem txtL_nonneg : ∀ l : List Ex, 0 ≤ txtL l
  | [] => by simp [txtL]
  | e :: l => by have h1 := txt_nonneg e; have h2 := txtL_nonneg l; simp only [txtL]; omega
theorem txtL_mem {e : Ex} : ∀ {l : List Ex}, e ∈ l → e.size + e.txt ≤ sizeL l + txtL l
  | [], h => by cases h
  | a :: l, h => by
    have h1 := sizeL_len l
    have h2 := size_pos a
    have h3 := txt_nonneg a
    have h4 := txtL_nonneg l
    simp only [sizeL, txtL]
    rcases List.mem_cons.1 h with rfl | h
    · omega
    · have := txtL_mem (e := e) h; omega
theorem quote_len (s : List Int) : (quote s).length ≤ 2 + 4 * s.length := by
  have : (s.flatMap qch).length ≤ 4 * s.length := by
    induction s with
    | nil => simp
    | cons c s ih => have := qch_len c; simp only [List.flatMap_cons, List.length_append, List.length_cons]; omega
  simp only [quote, List.length_append, List.length_cons, List.length_nil]; omega
theorem names_len : ∀ k : Fin 28, (names.getD k.val []).length ≤ 5 := by decide +kernel
theorem nameOf_len (op : Int) : (nameOf op).length ≤ 5 := by
  unfold nameOf
  split
  · by_cases h : op.toNat < 28
    · exact names_len ⟨op.toNat, h⟩
    · have : names.getD op.toNat [] = [] := by
        rw [List.getD, List.getElem?_eq_none (by show 28 ≤ op.toNat; omega)]; rfl
      rw [this]; simp
  · simp
theorem text_len : ∀ e : Ex, e.Good → (e.text.length : Int) + 1 ≤ 40 * e.size + 4 * e.txt := by
  intro e
  induction e using Ex.ind with
  | h op v A c l ih =>
    intro hg
    simp only [Ex.Good] at hg
    have key : ∀ l : List Ex, (∀ e ∈ l, (e.text.length : Int) + 1 ≤ 40 * e.size + 4 * e.txt) → ((textL l).length : Int) ≤ 40 * sizeL l + 4 * txtL l := by
      intro l
      induction l with
      | nil => intro _; simp [textL, sizeL, txtL]
      | cons e l ihl =>
        intro h
        have h1 := h e (by simp)
        have h2 := ihl fun x hx => h x (by simp [hx])
        simp only [textL, sizeL, txtL, List.length_append, List.length_cons, List.length_nil]; omega
    have h1 := key l (fun e he => ih e he (goodL_mem hg.2.2 e he))
    have h2 := sizeL_len l
    have h3 := txtL_nonneg l
    have h4 := nameOf_len op
    simp only [Ex.text, Ex.size, Ex.txt]
    split
    · split
      · have h5 := num10_len (n := v.n) ⟨hg.1.2.n0, hg.1.2.n1⟩
        omega
      · have h5 := quote_len (sl v.s)
        rw [sl_length] at h5; omega
    · split
      · omega
      · simp only [List.length_append, List.length_cons, List.length_nil]; omega
def RelT (nm : List Int) (l : List Ex) (w1 : World) (t i : Value) (wr : World) : Prop := ∃ (k : Nat) (L : List Int), t = .string (str L) ∧ i = .int .i64 k ∧ k ≤ l.length ∧ Hid (L = 40 :: (nm ++ textL (l.take k))) ∧ Below w1.heap.size w1 wr
def RelN3 (nm : List Int) (w1 : World) (v : Value) (wr : World) : Prop := v = .string (str nm) ∧ Below w1.heap.size w1 wr
theorem textL_take_len (l : List Ex) (k : Nat) : (textL (l.take k)).length ≤ (textL l).length := by
  have h := textL_append (l.take k) (l.drop k)
  rw [List.take_append_drop] at h
  rw [h, List.length_append]; omega
set_option maxHeartbeats 8000000 in
theorem rtext_calls : ∀ (e : Ex) (w : World), e.size + e.txt ≤ 3000 → e.Good → e.At w → Calls Tryd.prog 15 #[e.v] w fun q w' => q = .returned (.string (str e.text)) ∧ Below w.heap.size w w' := by
  intro e
  induction e using Ex.ind with
  | h op v A c l ih =>
    intro w hst hgd hAt
    simp only [Ex.At] at hAt
    simp only [Ex.text]
    obtain ⟨hcl, hal⟩ := hAt
    have hlen := sizeL_len l
    unfold Ex.v
    simp only [Ex.op, Ex.vl, Ex.adr, Ex.args, Ex.cp]
    obtain ⟨k, n, s⟩ := v
    dsimp only
    obtain ⟨ln, hln⟩ : ∃ ln, ln = l.length := ⟨_, rfl⟩
    have HLN := Lib.hid hln
    simp only [Ex.Good] at hgd
    have HGL := Lib.hid hgd.2.2
    have hi64 : I64 n := ⟨hgd.1.2.n0, hgd.1.2.n1⟩
    have hgx : (Ex.node op ⟨k, n, s⟩ A c l).Good := by simp only [Ex.Good]; exact hgd
    have htl9 : (textL l).length ≤ 121000 := by
      have key : ((textL l).length : Int) ≤ 40 * sizeL l + 4 * txtL l := by
        have : ∀ l : List Ex, goodL l → ((textL l).length : Int) ≤ 40 * sizeL l + 4 * txtL l := by
          intro l
          induction l with
          | nil => intro _; simp [textL, sizeL, txtL]
          | cons e l ihl =>
            intro h
            simp only [goodL] at h
            have h1 := text_len e h.1
            have h2 := ihl h.2
            simp only [textL, sizeL, txtL, List.length_append, List.length_cons, List.length_nil]; omega
        exact this l hgd.2.2
      have h9 := hst
      simp only [Ex.size, Ex.txt] at h9
      have := sizeL_len l
      have := txtL_nonneg l
      omega
    have hsl9 : sizeL l + txtL l ≤ 3000 := by
      have h9 := hst
      simp only [Ex.size, Ex.txt] at h9
      omega
    have hlen9 : (l.length : Int) ≤ 3000 := by
      have h9 := hst
      simp only [Ex.size, Ex.txt] at h9
      have h8 := txt_nonneg (Ex.node op ⟨k, n, s⟩ A c l)
      simp only [Ex.txt] at h8
      have := txtL_nonneg l
      omega
    have HIH0 := (fun e (he : e ∈ l) W (hW : Below w.heap.size w W) => ih e he W (by have := txtL_mem he; omega) (goodL_mem HGL.out e he) (Ex.At.below hW e (atL_mem hal e he)))
    have HALL := Lib.hid (fun e he => atL_mem hal e he)
    rw [← hln]
    have hB1 := below_one w (.cells #[.int .i64 op, .int .u8 k, .int .i64 n, .string s, .slice A ln c] 41)
    have bx := Blk.new w #[.int .i64 op, .int .u8 k, .int .i64 n, .string s, .slice A ln c] 41
    obtain ⟨w0, w1, w2, w3, w4⟩ := bx.cells5
    obtain ⟨W1, hW1⟩ : ∃ W1, W1 = w.alloc (.cells #[.int .i64 op, .int .u8 k, .int .i64 n, .string s, .slice A ln c] 41) := ⟨_, rfl⟩
    rw [← hW1] at hB1 bx
    have HB1 := Lib.hid hB1
    have HX := Lib.hid bx
    have HIH := Lib.hid HIH0
    have HCL := Lib.hid hcl
    have HEND := Lib.hid (show l.take l.length = l from List.take_length)
    have hl3 : ln ≤ 3000 := by omega
    have hs2 : s.size ≤ 3000 := by
      have h9 := hst
      simp only [Ex.size, Ex.txt] at h9
      have := sizeL_len l
      have := txtL_nonneg l
      omega
    obtain ⟨nm, hnm⟩ : ∃ nm, nm = nameOf op := ⟨_, rfl⟩
    have HNL := Lib.hid (show nm.length ≤ 5 by rw [hnm]; exact nameOf_len op)
    have HTE := Lib.hid (fun e (he : e ∈ l) => show e.text.length ≤ 130000 from by
      have h1 := text_len e (goodL_mem HGL.out e he)
      have h2 := txtL_mem he
      have h3 := txt_nonneg e
      have h4 := size_pos e
      omega)
    have HTL := Lib.hid (fun k => show (textL (l.take k)).length ≤ 121000 from by
      have h1 := textL_take_len l k
      omega)
    have HW1 := Lib.hid hW1
    clear hlen ih hal hcl hB1 bx hln hW1 hst hgd
    obtain ⟨R, hR⟩ : ∃ R, R = (if op = 0 then (if k = 0 then num10 n else quote (sl s)) else if ln = 0 then nameOf op else [40] ++ nameOf op ++ textL l ++ [41]) := ⟨_, rfl⟩
    have HRR := Lib.hid hR
    rw [← hR]
    by_cases h0 : op = 0
    · have e0 : (op == 0) = true := by simpa using h0
      rw [if_pos h0] at hR
      subst h0
      clear hnm
      by_cases hk : k = 0
      · have e1 : (k == 0) = true := by simpa using hk
        rw [if_pos hk] at hR
        have HNB := Lib.hid (rnum10_calls n hi64 W1)
        clear hk
        go_enter Tryd.func15, Tryd.ntmps15
        go_wp2_with fail
        rw [← HW1.out]
        refine HNB.out.mono ?_
        rintro q w2 ⟨rfl, hq⟩
        subst w2
        dsimp only
        go_wp2
        go_ret
        exact ⟨by rw [hR]; rfl, HB1.out⟩
      · have e1 : (k == 0) = false := by simpa using hk
        rw [if_neg hk] at hR
        have HQ := Lib.hid (rquote_calls s (by omega) W1)
        clear hk
        go_enter Tryd.func15, Tryd.ntmps15
        go_wp2_with fail
        rw [← HW1.out]
        refine HQ.out.mono ?_
        rintro q w2 ⟨rfl, p, rfl⟩
        dsimp only
        go_wp2
        go_ret
        exact ⟨by rw [hR]; rfl, HB1.out.trans ⟨rfl, rfl, rfl, Nat.le_refl _, fun _ _ => rfl⟩⟩
    · have e0 : (op == 0) = false := by simpa using h0
      rw [if_neg h0, ← hnm] at hR
      clear HRR
      have HRR := Lib.hid hR
      have HTX0 := Lib.hid (show ln = 0 → (if ln = 0 then nm else [40] ++ nm ++ textL l ++ [41]) = nm from fun h => if_pos h)
      have HTX1 := Lib.hid (show ¬ ln = 0 → (if ln = 0 then nm else [40] ++ nm ++ textL l ++ [41]) = [40] ++ nm ++ textL l ++ [41] from fun h => if_neg h)
      clear hR
      by_cases hr0 : op < 0
      · have o1 : decide (0 < op) = false := decide_eq_false (by omega)
        have hnm0 : nm = [] := by
          rw [hnm]; unfold nameOf
          rw [if_neg (by omega)]
        subst hnm0
        have HN4 := Lib.hid (show (⟨#[40]⟩ : ByteArray) ++ ⟨#[]⟩ = str ([40]) by rw [show (⟨#[40]⟩ : ByteArray) = str [40] from rfl]; rfl)
        have z0 : ((⟨#[]⟩ : ByteArray)).size ≤ 5 := by decide
        clear hnm h0
        by_cases hl0 : ln = 0
        · have hle : ((ln : Int) == 0) = true := beq_iff_eq.2 (by omega)
          have HL0 := Lib.hid hl0
          clear hl0
          go_enter Tryd.func15, Tryd.ntmps15
          go_wp2
          go_ret
          exact ⟨by rw [show R = [] from by rw [HRR.out, HTX0.out HL0.out]]; rfl, by rw [← HW1.out]; exact HB1.out⟩
        · have hle : ((ln : Int) == 0) = false := beq_eq_false_iff_ne.2 (by omega)
          have HTX := Lib.hid (HTX1.out hl0)
          clear hl0
          go_enter Tryd.func15, Tryd.ntmps15
          go_wp2_with fail
          rw [← HW1.out]
          clear w0 w1 w2 w3 w4
          go_loopw [4, 5] (RelT [] l W1) (fun _ i _ => ln + 1 - (intOf i).toNat)
          case atStart => exact ⟨0, [40], by rw [← HN4.out], rfl, Nat.zero_le _, Lib.hid (by simp [textL]), Below.refl _ _⟩
          case round =>
            obtain ⟨j, L, rfl, rfl, hj, hx, hbr⟩ := hrel
            have HBR := Lib.hid hbr
            obtain ⟨c0, c1, c2, c3, c4⟩ := (HX.out.belowAll hbr).cells5
            have HBW := Lib.hid (HB1.out.trans (hbr.mono HB1.out.size))
            have HJL := Lib.hid (show j ≤ ln by rw [HLN.out]; exact hj)
            clear hbr hj
            have hLn : L.length ≤ 130000 := by
              rw [hx.out]
              have := HTL.out j
              have := HNL.out
              simp only [List.length_cons, List.length_append]; omega
            have hLs : (str L).size ≤ 130000 := by rw [str_size]; exact hLn
            have z1 : (str L ++ ⟨#[32]⟩ : ByteArray).size ≤ 130001 := by
              rw [show (⟨#[32]⟩ : ByteArray) = str [32] from rfl, str_append, str_size]; simp; omega
            have z2 : (str L ++ ⟨#[41]⟩ : ByteArray).size ≤ 130001 := by
              rw [show (⟨#[41]⟩ : ByteArray) = str [41] from rfl, str_append, str_size]; simp; omega
            by_cases hlt : j < ln
            · obtain ⟨e, he⟩ : ∃ e, l[j]? = some e := ⟨l[j]'(by rw [← HLN.out]; exact hlt), by simp⟩
              obtain ⟨b, o, hA, hb, hck⟩ := arg_cells HCL.out (by rw [← HLN.out]; omega)
              subst hA
              obtain ⟨a0, a1, a2, a3, a4⟩ := hck j e he wr HBW.out
              have hmem := List.mem_of_getElem? he
              have hsn := take_snoc he
              have h1i : (j : Int) < (ln : Int) := by omega
              have HC := Lib.hid (HIH.out e hmem wr HBW.out)
              obtain ⟨y, hy⟩ : ∃ y, y = e.text := ⟨_, rfl⟩
              have hyl := HTE.out e hmem
              rw [← hy] at HC hyl
              have HNEW := Lib.hid (show L ++ ([32] ++ y) = 40 :: ([] ++ textL (l.take (j + 1))) by rw [hsn, textL_append, hx.out]; simp only [textL]; rw [← hy]; simp)
              have z3 : (str y).size ≤ 130000 := by rw [str_size]; exact hyl
              have HCAT := Lib.hid (show str L ++ (⟨#[32]⟩ : ByteArray) ++ str y = str (L ++ ([32] ++ y)) by
                rw [show (⟨#[32]⟩ : ByteArray) = str [32] from rfl, str_append, str_append]; simp)
              unfold Ex.v at HC
              generalize e.op = p0 at *
              generalize e.vl.k = p1 at *
              generalize e.vl.n = p2 at *
              generalize e.vl.s = p3 at *
              generalize e.adr = p4 at *
              generalize e.args.length = p5 at *
              generalize e.cp = p6 at *
              clear hck he hmem hsn hb hx hy hLn hyl
              go_wp2_with fail
              refine HC.out.mono ?_
              rintro q w2 ⟨rfl, hb2⟩
              have HB2 := Lib.hid (HBR.out.trans (hb2.mono HBR.out.size))
              have HBW2 := Lib.hid (HBW.out.trans (hb2.mono HBW.out.size))
              clear hb2
              dsimp only
              go_wp2
              go_roundw
              case rel => exact ⟨j + 1, L ++ ([32] ++ y), by rw [← HCAT.out], by go_num, by rw [← HLN.out]; omega, Lib.hid HNEW.out, HB2.out⟩
              case measure => simp [intOf]; omega
            · obtain rfl : j = ln := by have := HJL.out; omega
              have hd2 : decide ((j : Int) < (j : Int)) = false := by simp
              have HFIN := Lib.hid (show str L ++ (⟨#[41]⟩ : ByteArray) = str R by
                rw [show (⟨#[41]⟩ : ByteArray) = str [41] from rfl, str_append, hx.out, HLN.out, HEND.out, HRR.out, HTX.out]; simp)
              clear hx hLn
              go_wp2
              go_ret
              exact ⟨by rw [← HFIN.out]; rfl, HBW.out⟩
      · by_cases hr1 : op < 28
        · have o1 : decide (0 < op) = true := decide_eq_true (by omega)
          have o2 : decide (op < 28) = true := decide_eq_true (by omega)
          have HNM := Lib.hid (show nm = names.getD op.toNat [] by rw [hnm]; unfold nameOf; rw [if_pos (by omega)])
          obtain ⟨m, rfl⟩ : ∃ m : Nat, op = (m : Int) := ⟨op.toNat, by omega⟩
          rw [Int.toNat_natCast] at HNM
          have hm28 : m < 28 := by omega
          have hm00 : 0 < m := by omega
          have hmi : (m : Int) < 28 := by omega
          have HN4 := Lib.hid (show (⟨#[40]⟩ : ByteArray) ++ str nm = str (40 :: nm) by rw [show (⟨#[40]⟩ : ByteArray) = str [40] from rfl, str_append]; rfl)
          have z0 : (str nm).size ≤ 5 := by rw [str_size]; exact HNL.out
          clear hnm h0
          by_cases hl0 : ln = 0
          · have hle : ((ln : Int) == 0) = true := beq_iff_eq.2 (by omega)
            have HL0 := Lib.hid hl0
            clear hl0
            go_enter Tryd.func15, Tryd.ntmps15
            go_upto_region 7 with fail
            rw [← HW1.out]
            go_cut [3] from 29 to 33 (RelN3 nm W1)
            case first =>
              have b3 := HX.out.alloc (.cells nameCs 9)
              obtain ⟨v0, v1, v2, v3, v4⟩ := b3.cells5
              obtain ⟨u0, u1, u2, u3, u4⟩ := HX.out.cells5
              have cn := names_cell W1 m hm28
              rw [← HNM.out] at cn
              have HBA := Lib.hid (show Below W1.heap.size W1 (W1.alloc (.cells nameCs 9)).drew from (below_one W1 _).drew)
              have HNAMES := Lib.hid (rnames_calls W1.drew)
              clear b3
              go_region_law (go_simp; refine (HNAMES.out).mono ?_; rintro q w2 ⟨rfl, hq⟩; subst w2)
              all_goals
                go_wp2
                go_meet
                exact ⟨rfl, HBA.out⟩
            case rest =>
              obtain ⟨rfl, hbc⟩ := hcut
              obtain ⟨y0, y1, y2, y3, y4⟩ := (HX.out.belowAll hbc).cells5
              have HSW := Lib.hid hbc
              have HBC := Lib.hid (HB1.out.trans (hbc.mono HB1.out.size))
              clear hbc
              go_wp2
              go_ret
              exact ⟨by rw [show R = nm from by rw [HRR.out, HTX0.out HL0.out]]; rfl, HBC.out⟩
          · have hle : ((ln : Int) == 0) = false := beq_eq_false_iff_ne.2 (by omega)
            have HTX := Lib.hid (HTX1.out hl0)
            clear hl0
            go_enter Tryd.func15, Tryd.ntmps15
            go_upto_region 7 with fail
            rw [← HW1.out]
            go_cut [3] from 29 to 33 (RelN3 nm W1)
            case first =>
              have b3 := HX.out.alloc (.cells nameCs 9)
              obtain ⟨v0, v1, v2, v3, v4⟩ := b3.cells5
              obtain ⟨u0, u1, u2, u3, u4⟩ := HX.out.cells5
              have cn := names_cell W1 m hm28
              rw [← HNM.out] at cn
              have HBA := Lib.hid (show Below W1.heap.size W1 (W1.alloc (.cells nameCs 9)).drew from (below_one W1 _).drew)
              have HNAMES := Lib.hid (rnames_calls W1.drew)
              clear b3
              go_region_law (go_simp; refine (HNAMES.out).mono ?_; rintro q w2 ⟨rfl, hq⟩; subst w2)
              all_goals
                go_wp2
                go_meet
                exact ⟨rfl, HBA.out⟩
            case rest =>
              obtain ⟨rfl, hbc⟩ := hcut
              obtain ⟨y0, y1, y2, y3, y4⟩ := (HX.out.belowAll hbc).cells5
              have HSW := Lib.hid hbc
              have HBC := Lib.hid (HB1.out.trans (hbc.mono HB1.out.size))
              clear hbc
              go_wp2_with fail
              go_loopw [4, 5] (RelT nm l W1) (fun _ i _ => ln + 1 - (intOf i).toNat)
              case atStart => exact ⟨0, 40 :: nm, by rw [← HN4.out], rfl, Nat.zero_le _, Lib.hid (by simp [textL]), HSW.out⟩
              case round =>
                obtain ⟨j, L, rfl, rfl, hj, hx, hbr⟩ := hrel
                have HBR := Lib.hid hbr
                obtain ⟨c0, c1, c2, c3, c4⟩ := (HX.out.belowAll hbr).cells5
                have HBW := Lib.hid (HB1.out.trans (hbr.mono HB1.out.size))
                have HJL := Lib.hid (show j ≤ ln by rw [HLN.out]; exact hj)
                clear hbr hj
                have hLn : L.length ≤ 130000 := by
                  rw [hx.out]
                  have := HTL.out j
                  have := HNL.out
                  simp only [List.length_cons, List.length_append]; omega
                have hLs : (str L).size ≤ 130000 := by rw [str_size]; exact hLn
                have z1 : (str L ++ ⟨#[32]⟩ : ByteArray).size ≤ 130001 := by
                  rw [show (⟨#[32]⟩ : ByteArray) = str [32] from rfl, str_append, str_size]; simp; omega
                have z2 : (str L ++ ⟨#[41]⟩ : ByteArray).size ≤ 130001 := by
                  rw [show (⟨#[41]⟩ : ByteArray) = str [41] from rfl, str_append, str_size]; simp; omega
                by_cases hlt : j < ln
                · obtain ⟨e, he⟩ : ∃ e, l[j]? = some e := ⟨l[j]'(by rw [← HLN.out]; exact hlt), by simp⟩
                  obtain ⟨b, o, hA, hb, hck⟩ := arg_cells HCL.out (by rw [← HLN.out]; omega)
                  subst hA
                  obtain ⟨a0, a1, a2, a3, a4⟩ := hck j e he wr HBW.out
                  have hmem := List.mem_of_getElem? he
                  have hsn := take_snoc he
                  have h1i : (j : Int) < (ln : Int) := by omega
                  have HC := Lib.hid (HIH.out e hmem wr HBW.out)
                  obtain ⟨y, hy⟩ : ∃ y, y = e.text := ⟨_, rfl⟩
                  have hyl := HTE.out e hmem
                  rw [← hy] at HC hyl
                  have HNEW := Lib.hid (show L ++ ([32] ++ y) = 40 :: (nm ++ textL (l.take (j + 1))) by rw [hsn, textL_append, hx.out]; simp only [textL]; rw [← hy]; simp)
                  have z3 : (str y).size ≤ 130000 := by rw [str_size]; exact hyl
                  have HCAT := Lib.hid (show str L ++ (⟨#[32]⟩ : ByteArray) ++ str y = str (L ++ ([32] ++ y)) by
                    rw [show (⟨#[32]⟩ : ByteArray) = str [32] from rfl, str_append, str_append]; simp)
                  unfold Ex.v at HC
                  generalize e.op = p0 at *
                  generalize e.vl.k = p1 at *
                  generalize e.vl.n = p2 at *
                  generalize e.vl.s = p3 at *
                  generalize e.adr = p4 at *
                  generalize e.args.length = p5 at *
                  generalize e.cp = p6 at *
                  clear hck he hmem hsn hb hx hy hLn hyl
                  go_wp2_with fail
                  refine HC.out.mono ?_
                  rintro q w2 ⟨rfl, hb2⟩
                  have HB2 := Lib.hid (HBR.out.trans (hb2.mono HBR.out.size))
                  have HBW2 := Lib.hid (HBW.out.trans (hb2.mono HBW.out.size))
                  clear hb2
                  dsimp only
                  go_wp2
                  go_roundw
                  case rel => exact ⟨j + 1, L ++ ([32] ++ y), by rw [← HCAT.out], by go_num, by rw [← HLN.out]; omega, Lib.hid HNEW.out, HB2.out⟩
                  case measure => simp [intOf]; omega
                · obtain rfl : j = ln := by have := HJL.out; omega
                  have hd2 : decide ((j : Int) < (j : Int)) = false := by simp
                  have HFIN := Lib.hid (show str L ++ (⟨#[41]⟩ : ByteArray) = str R by
                    rw [show (⟨#[41]⟩ : ByteArray) = str [41] from rfl, str_append, hx.out, HLN.out, HEND.out, HRR.out, HTX.out]; simp)
                  clear hx hLn
                  go_wp2
                  go_ret
                  exact ⟨by rw [← HFIN.out]; rfl, HBW.out⟩
        · have o1 : decide (0 < op) = true := decide_eq_true (by omega)
          have o2 : decide (op < 28) = false := decide_eq_false (by omega)
          have hnm0 : nm = [] := by
            rw [hnm]; unfold nameOf
            rw [if_pos (by omega), List.getD, List.getElem?_eq_none (by show 28 ≤ op.toNat; omega)]; rfl
          subst hnm0
          have HN4 := Lib.hid (show (⟨#[40]⟩ : ByteArray) ++ ⟨#[]⟩ = str ([40]) by rw [show (⟨#[40]⟩ : ByteArray) = str [40] from rfl]; rfl)
          have z0 : ((⟨#[]⟩ : ByteArray)).size ≤ 5 := by decide
          clear hnm h0
          by_cases hl0 : ln = 0
          · have hle : ((ln : Int) == 0) = true := beq_iff_eq.2 (by omega)
            have HL0 := Lib.hid hl0
            clear hl0
            go_enter Tryd.func15, Tryd.ntmps15
            go_wp2
            go_ret
            exact ⟨by rw [show R = [] from by rw [HRR.out, HTX0.out HL0.out]]; rfl, by rw [← HW1.out]; exact HB1.out⟩
          · have hle : ((ln : Int) == 0) = false := beq_eq_false_iff_ne.2 (by omega)
            have HTX := Lib.hid (HTX1.out hl0)
            clear hl0
            go_enter Tryd.func15, Tryd.ntmps15
            go_wp2_with fail
            rw [← HW1.out]
            clear w0 w1 w2 w3 w4
            go_loopw [4, 5] (RelT [] l W1) (fun _ i _ => ln + 1 - (intOf i).toNat)
            case atStart => exact ⟨0, [40], by rw [← HN4.out], rfl, Nat.zero_le _, Lib.hid (by simp [textL]), Below.refl _ _⟩
            case round =>
              obtain ⟨j, L, rfl, rfl, hj, hx, hbr⟩ := hrel
              have HBR := Lib.hid hbr
              obtain ⟨c0, c1, c2, c3, c4⟩ := (HX.out.belowAll hbr).cells5
              have HBW := Lib.hid (HB1.out.trans (hbr.mono HB1.out.size))
              have HJL := Lib.hid (show j ≤ ln by rw [HLN.out]; exact hj)
              clear hbr hj
              have hLn : L.length ≤ 130000 := by
                rw [hx.out]
                have := HTL.out j
                have := HNL.out
                simp only [List.length_cons, List.length_append]; omega
              have hLs : (str L).size ≤ 130000 := by rw [str_size]; exact hLn
              have z1 : (str L ++ ⟨#[32]⟩ : ByteArray).size ≤ 130001 := by
                rw [show (⟨#[32]⟩ : ByteArray) = str [32] from rfl, str_append, str_size]; simp; omega
              have z2 : (str L ++ ⟨#[41]⟩ : ByteArray).size ≤ 130001 := by
                rw [show (⟨#[41]⟩ : ByteArray) = str [41] from rfl, str_append, str_size]; simp; omega
              by_cases hlt : j < ln
              · obtain ⟨e, he⟩ : ∃ e, l[j]? = some e := ⟨l[j]'(by rw [← HLN.out]; exact hlt), by simp⟩
                obtain ⟨b, o, hA, hb, hck⟩ := arg_cells HCL.out (by rw [← HLN.out]; omega)
                subst hA
                obtain ⟨a0, a1, a2, a3, a4⟩ := hck j e he wr HBW.out
                have hmem := List.mem_of_getElem? he
                have hsn := take_snoc he
                have h1i : (j : Int) < (ln : Int) := by omega
                have HC := Lib.hid (HIH.out e hmem wr HBW.out)
                obtain ⟨y, hy⟩ : ∃ y, y = e.text := ⟨_, rfl⟩
                have hyl := HTE.out e hmem
                rw [← hy] at HC hyl
                have HNEW := Lib.hid (show L ++ ([32] ++ y) = 40 :: ([] ++ textL (l.take (j + 1))) by rw [hsn, textL_append, hx.out]; simp only [textL]; rw [← hy]; simp)
                have z3 : (str y).size ≤ 130000 := by rw [str_size]; exact hyl
                have HCAT := Lib.hid (show str L ++ (⟨#[32]⟩ : ByteArray) ++ str y = str (L ++ ([32] ++ y)) by
                  rw [show (⟨#[32]⟩ : ByteArray) = str [32] from rfl, str_append, str_append]; simp)
                unfold Ex.v at HC
                generalize e.op = p0 at *
                generalize e.vl.k = p1 at *
                generalize e.vl.n = p2 at *
                generalize e.vl.s = p3 at *
                generalize e.adr = p4 at *
                generalize e.args.length = p5 at *
                generalize e.cp = p6 at *
                clear hck he hmem hsn hb hx hy hLn hyl
                go_wp2_with fail
                refine HC.out.mono ?_
                rintro q w2 ⟨rfl, hb2⟩
                have HB2 := Lib.hid (HBR.out.trans (hb2.mono HBR.out.size))
                have HBW2 := Lib.hid (HBW.out.trans (hb2.mono HBW.out.size))
                clear hb2
                dsimp only
                go_wp2
                go_roundw
                case rel => exact ⟨j + 1, L ++ ([32] ++ y), by rw [← HCAT.out], by go_num, by rw [← HLN.out]; omega, Lib.hid HNEW.out, HB2.out⟩
                case measure => simp [intOf]; omega
              · obtain rfl : j = ln := by have := HJL.out; omega
                have hd2 : decide ((j : Int) < (j : Int)) = false := by simp
                have HFIN := Lib.hid (show str L ++ (⟨#[41]⟩ : ByteArray) = str R by
                  rw [show (⟨#[41]⟩ : ByteArray) = str [41] from rfl, str_append, hx.out, HLN.out, HEND.out, HRR.out, HTX.out]; simp)
                clear hx hLn
                go_wp2
                go_ret
                exact ⟨by rw [← HFIN.out]; rfl, HBW.out⟩
end Go.Proofs.YtjignlemahdoeaaDoor
namespace Go.Proofs.YtjignlemahdoeaaDoor
open Go.ChangeShapes Go.WideShapes Go.ChangeAt Go.RowKit
set_option linter.unusedVariables false
set_option maxRecDepth 20000
def plainV (a : Vl) : Vl := if a.k = 0 then ⟨0, a.n, ⟨#[]⟩⟩ else ⟨1, 0, a.s⟩
end Go.Proofs.YtjignlemahdoeaaDoor
namespace Go.Proofs.YtjignlemahdoeaaDoor
open Go.ChangeShapes Go.WideShapes Go.ChangeAt Go.RowKit
set_option linter.unusedVariables false
/-- A token: kind, name, value, where it begins. -/
structure Tk where
  k : Int
  nm : List Int
  v : Vl
  i : Int
def zV : Vl := ⟨0, 0, ⟨#[]⟩⟩
def digI (c : Int) : Bool := decide (48 ≤ c) && decide (c ≤ 57)
def letI' (c : Int) : Bool := decide (97 ≤ c) && decide (c ≤ 122)
/-- Is there a digit, a letter, at a place? -/
def digAt (s : List Int) (i : Nat) : Bool := match s[i]? with | some c => digI c | none => false
def letAt (s : List Int) (i : Nat) : Bool := match s[i]? with | some c => letI' c | none => false
/-- The place behind all that are such, from a place on. -/
def past (p : Int → Bool) (s : List Int) (i : Nat) : Nat := i + ((s.drop i).takeWhile p).length
/-- A text as a number. -/
def numI (l : List Int) : Int × Int := numD (l.map fun n => UInt8.ofNat n.toNat)
/-- A hexadecimal digit at a place; -1: there is none. -/
def half (s : List Int) (i : Nat) : Int := match s[i]? with | some c => if digI c then c - 48 else if letI' c && decide (c ≤ 102) then c - 87 else -1 | none => -1
/-- A text in marks, from a place on, behind what has been read. -/
def textG : Nat → List Int → Nat → List Int → List Int × Int × Int
  | 0, _, _, _ => ([], 0, 3)
  | f + 1, s, i, t => match s[i]? with
    | none => ([], 0, 3)
    | some c => if c = 34 then (if 65536 < t.length then ([], 0, 5) else (t, ((i : Int) + 1), 0)) else if c < 32 then ([], 0, 3) else if c ≠ 92 then textG f s (i + 1) (t ++ [c])
      else if s[i + 1]? = some 34 ∨ s[i + 1]? = some 92 then textG f s (i + 2) (t ++ [s.getD (i + 1) 0])
      else if s[i + 1]? ≠ some 120 ∨ half s (i + 2) < 0 ∨ half s (i + 3) < 0 then ([], 0, 3) else textG f s (i + 4) (t ++ [16 * half s (i + 2) + half s (i + 3)])
inductive TR where
  | skip (n : Nat)
  | tok (t : Tk) (n : Nat)
  | err (e : Int)
/-- What is at a place. -/
def tokStep (s : List Int) (i : Nat) : TR :=
  let c := s.getD i 0
  if c = 32 then .skip (i + 1)
  else if c = 35 then .skip (past (fun x => decide (x ≠ 10)) s i)
  else if c = 10 then .tok ⟨5, [], zV, i⟩ (i + 1)
  else if c = 40 then .tok ⟨1, [], zV, i⟩ (i + 1)
  else if c = 41 then .tok ⟨2, [], zV, i⟩ (i + 1)
  else if letI' c then .tok ⟨3, (s.drop i).take (past letI' s (i + 1) - i), zV, i⟩ (past letI' s (i + 1))
  else if digI c || (decide (c = 45) && digAt s (i + 1)) then
    (if (numI ((s.drop i).take (past digI s (i + 1) - i))).2 = 0 then .tok ⟨4, [], ⟨0, (numI ((s.drop i).take (past digI s (i + 1) - i))).1, ⟨#[]⟩⟩, i⟩ (past digI s (i + 1)) else .err (numI ((s.drop i).take (past digI s (i + 1) - i))).2)
  else if c = 34 then
    (if (textG (s.length + 1) s (i + 1) []).2.2 = 0 then .tok ⟨4, [], ⟨1, 0, str (textG (s.length + 1) s (i + 1) []).1⟩, i⟩ (textG (s.length + 1) s (i + 1) []).2.1.toNat else .err (textG (s.length + 1) s (i + 1) []).2.2)
  else .err 3
def tokRun : Nat → List Int → Nat → List Tk → List Tk × Int × Int
  | 0, _, i, acc => (acc, i, 0)
  | f + 1, s, i, acc => if i < s.length then (match tokStep s i with | .skip n => tokRun f s n acc | .tok t n => if 65536 ≤ acc.length then ([], i, 9) else tokRun f s n (acc ++ [t]) | .err e => ([], i, e)) else (acc, i, 0)
def tokensP (s : List Int) : List Tk × Int × Int := tokRun (s.length + 1) s 0 []
/-- From a place to a place, without an error. -/
inductive Lexes (s : List Int) : Nat → List Tk → Nat → Prop
  | nil (i : Nat) : Lexes s i [] i
  | skip {i n m : Nat} {l : List Tk} (hi : i < s.length) (h : tokStep s i = .skip n) (hn : i < n) (hr : Lexes s n l m) : Lexes s i l m
  | tok {i n m : Nat} {t : Tk} {l : List Tk} (hi : i < s.length) (h : tokStep s i = .tok t n) (hn : i < n) (hr : Lexes s n l m) : Lexes s i (t :: l) m
theorem Lexes.trans {s : List Int} {i n m : Nat} {a b : List Tk} (h : Lexes s i a n) (k : Lexes s n b m) : Lexes s i (a ++ b) m := by
  induction h with
  | nil => exact k
  | skip hi h hn _ ih => exact .skip hi h hn (ih k)
  | tok hi h hn _ ih => exact .tok hi h hn (ih k)
theorem Lexes.le {s : List Int} {i m : Nat} {l : List Tk} (h : Lexes s i l m) : i ≤ m := by
  induction h with
  | nil => omega
  | skip _ _ _ _ ih => omega
  | tok _ _ _ _ ih => omega
theorem Lexes.run {s : List Int} {i m : Nat} {l : List Tk} (h : Lexes s i l m) : m = s.length → ∀ (f : Nat) (acc : List Tk), s.length - i < f → acc.length + l.length ≤ 65536 → tokRun f s i acc = (acc ++ l, (s.length : Int), 0) := by
  induction h with
  | nil i =>
    intro hm f acc hf _
    subst hm
    cases f with
    | zero => omega
    | succ f => rw [tokRun, if_neg (by omega), List.append_nil]
  | skip hi h hn hr ih =>
    intro hm f acc hf hl
    cases f with
    | zero => omega
    | succ f =>
      rw [tokRun, if_pos hi, h]
      exact ih hm f acc (by omega) hl
  | tok hi h hn hr ih =>
    intro hm f acc hf hl
    cases f with
    | zero => omega
    | succ f =>
      rw [tokRun, if_pos hi, h]
      simp only [List.length_cons] at hl
      show (if 65536 ≤ acc.length then _ else _) = _
      rw [if_neg (by omega), ih hm f _ (by omega) (by simp only [List.length_append, List.length_cons, List.length_nil]; omega)]
      simp
theorem tokensP_of {s : List Int} {l : List Tk} (h : Lexes s 0 l s.length) (hl : l.length ≤ 65536) : tokensP s = (l, (s.length : Int), 0) := by
  unfold tokensP
  rw [h.run rfl _ _ (by omega) (by simpa using hl)]; simp
mutual
def Ex.toks : Ex → Nat → List Tk | .node op v _ _ l, i => if op = 0 then [⟨4, [], plainV v, i⟩] else if l.length = 0 then [⟨3, nameOf op, zV, i⟩] else ⟨1, [], zV, i⟩ :: ⟨3, nameOf op, zV, ((i + 1 : Nat) : Int)⟩ :: (toksL l (i + 1 + (nameOf op).length) ++ [⟨2, [], zV, ((i + 1 + (nameOf op).length + (textL l).length : Nat) : Int)⟩])
def toksL : List Ex → Nat → List Tk | [], _ => [] | e :: l, i => e.toks (i + 1) ++ toksL l (i + 1 + e.text.length)
end
mutual
def Ex.consts : Ex → List Vl | .node op v _ _ l => if op = 0 then [v] else constsL l
def constsL : List Ex → List Vl | [] => [] | e :: l => e.consts ++ constsL l
end
theorem toks_len : ∀ (e : Ex) (i : Nat), ((e.toks i).length : Int) ≤ 3 * e.size := by
  intro e
  induction e using Ex.ind with
  | h op v A c l ih =>
    intro i
    have key : ∀ (l : List Ex), (∀ e ∈ l, ∀ i : Nat, ((e.toks i).length : Int) ≤ 3 * e.size) → ∀ i, ((toksL l i).length : Int) ≤ 3 * sizeL l := by
      intro l
      induction l with
      | nil => intro _ i; simp [toksL, sizeL]
      | cons e l ihl =>
        intro h i
        have h1 := h e (by simp) (i + 1)
        have h2 := ihl (fun x hx => h x (by simp [hx])) (i + 1 + e.text.length)
        simp only [toksL, sizeL, List.length_append]; omega
    have h1 := key l ih (i + 1 + (nameOf op).length)
    have h2 := sizeL_len l
    simp only [Ex.toks, Ex.size]
    split
    · simp; omega
    · split
      · simp; omega
      · simp only [List.length_cons, List.length_append, List.length_nil]; omega
/-- The values among tokens. -/
def valsOf (l : List Tk) : List Vl := (l.filter fun t => decide (t.k = 4)).map (·.v)
theorem valsOf_append (a b : List Tk) : valsOf (a ++ b) = valsOf a ++ valsOf b := by unfold valsOf; simp
theorem toks_vals : ∀ (e : Ex) (i : Nat), e.shaped = true → valsOf (e.toks i) = e.consts.map plainV := by
  intro e
  induction e using Ex.ind with
  | h op v A c l ih =>
    intro i hs
    simp only [Ex.shaped, Bool.and_eq_true] at hs
    have key : ∀ (l : List Ex), (∀ e ∈ l, ∀ i : Nat, e.shaped = true → valsOf (e.toks i) = e.consts.map plainV) → shapedL l = true → ∀ i, valsOf (toksL l i) = (constsL l).map plainV := by
      intro l
      induction l with
      | nil => intro _ _ i; rfl
      | cons e l ihl =>
        intro h h1 i
        simp only [shapedL, Bool.and_eq_true] at h1
        simp only [toksL, constsL, valsOf_append, List.map_append]
        rw [h e (by simp) _ h1.1, ihl (fun x hx => h x (by simp [hx])) h1.2]
    have h1 := key l ih hs.2 (i + 1 + (nameOf op).length)
    simp only [Ex.toks, Ex.consts]
    by_cases h0 : op = 0
    · rw [if_pos h0, if_pos h0]; rfl
    · rw [if_neg h0, if_neg h0]
      by_cases hl : l.length = 0
      · rw [if_pos hl]
        have : l = [] := List.eq_nil_of_length_eq_zero hl
        subst this; rfl
      · rw [if_neg hl]
        have e1 : ∀ (t : Tk) (r : List Tk), t.k ≠ 4 → valsOf (t :: r) = valsOf r := fun t r ht => by unfold valsOf; rw [List.filter_cons_of_neg (by simpa using ht)]
        rw [e1 _ _ (by show (1 : Int) ≠ 4; omega), e1 _ _ (by show (3 : Int) ≠ 4; omega), valsOf_append, h1]
        simp [valsOf]
end Go.Proofs.YtjignlemahdoeaaDoor
namespace Go.Proofs.YtjignlemahdoeaaDoor
open Go.ChangeShapes Go.WideShapes Go.ChangeAt Go.RowKit
set_option linter.unusedVariables false
set_option maxRecDepth 20000
theorem digAt_lt {s : ByteArray} {k : Nat} (h : k < s.size) : digAt (sl s) k = digI ((s[k].toNat : Nat) : Int) := by unfold digAt; rw [sl_at s k h]
theorem digAt_ge {s : ByteArray} {k : Nat} (h : ¬ k < s.size) : digAt (sl s) k = false := by unfold digAt; rw [List.getElem?_eq_none (by rw [sl_length]; omega)]
theorem letAt_lt {s : ByteArray} {k : Nat} (h : k < s.size) : letAt (sl s) k = letI' ((s[k].toNat : Nat) : Int) := by unfold letAt; rw [sl_at s k h]
theorem letAt_ge {s : ByteArray} {k : Nat} (h : ¬ k < s.size) : letAt (sl s) k = false := by unfold letAt; rw [List.getElem?_eq_none (by rw [sl_length]; omega)]
theorem digit_calls (s : ByteArray) (hs : s.size ≤ 1000000) (k : Nat) (hk : k ≤ 1000010) (w : World) : Calls Tryd.prog 22 #[.string s, .int .i64 k] w fun q w' => q = .returned (.bool (digAt (sl s) k)) ∧ w' = w := by
  by_cases h : k < s.size
  · have h1 : (k : Int) < (s.size : Int) := by omega
    have HD := Lib.hid (digAt_lt h)
    by_cases h48 : 48 ≤ ((s[k].toNat : Nat) : Int)
    · by_cases h57 : ((s[k].toNat : Nat) : Int) ≤ 57
      · go_enter Tryd.func22, Tryd.ntmps22
        go_wp2
        go_ret
        rw [HD.out]; unfold digI; simp; omega
      · go_enter Tryd.func22, Tryd.ntmps22
        go_wp2
        go_ret
        rw [HD.out]; unfold digI; simp; omega
    · go_enter Tryd.func22, Tryd.ntmps22
      go_wp2
      go_ret
      rw [HD.out]; unfold digI; simp; omega
  · have h1 : ¬ (k : Int) < (s.size : Int) := by omega
    have HD := Lib.hid (digAt_ge h)
    go_enter Tryd.func22, Tryd.ntmps22
    go_wp2
    go_ret
    rw [HD.out]; simp
theorem letter_calls (s : ByteArray) (hs : s.size ≤ 1000000) (k : Nat) (hk : k ≤ 1000010) (w : World) : Calls Tryd.prog 21 #[.string s, .int .i64 k] w fun q w' => q = .returned (.bool (letAt (sl s) k)) ∧ w' = w := by
  by_cases h : k < s.size
  · have h1 : (k : Int) < (s.size : Int) := by omega
    have HD := Lib.hid (letAt_lt h)
    by_cases h48 : 97 ≤ ((s[k].toNat : Nat) : Int)
    · by_cases h57 : ((s[k].toNat : Nat) : Int) ≤ 122
      · go_enter Tryd.func21, Tryd.ntmps21
        go_wp2
        go_ret
        rw [HD.out]; unfold letI'; simp; omega
      · go_enter Tryd.func21, Tryd.ntmps21
        go_wp2
        go_ret
        rw [HD.out]; unfold letI'; simp; omega
    · go_enter Tryd.func21, Tryd.ntmps21
      go_wp2
      go_ret
      rw [HD.out]; unfold letI'; simp; omega
  · have h1 : ¬ (k : Int) < (s.size : Int) := by omega
    have HD := Lib.hid (letAt_ge h)
    go_enter Tryd.func21, Tryd.ntmps21
    go_wp2
    go_ret
    rw [HD.out]; simp
theorem half_lt {s : ByteArray} {k : Nat} (h : k < s.size) : half (sl s) k = (if digI ((s[k].toNat : Nat) : Int) then ((s[k].toNat : Nat) : Int) - 48 else if letI' ((s[k].toNat : Nat) : Int) && decide (((s[k].toNat : Nat) : Int) ≤ 102) then ((s[k].toNat : Nat) : Int) - 87 else -1) := by unfold half; rw [sl_at s k h]
theorem half_ge {s : ByteArray} {k : Nat} (h : ¬ k < s.size) : half (sl s) k = -1 := by unfold half; rw [List.getElem?_eq_none (by rw [sl_length]; omega)]
theorem half_range (l : List Int) (k : Nat) : -1 ≤ half l k ∧ half l k < 16 := by
  unfold half
  split
  · rename_i c hc
    by_cases h1 : digI c = true
    · rw [if_pos h1]; unfold digI at h1; simp at h1; omega
    · rw [if_neg h1]
      by_cases h2 : (letI' c && decide (c ≤ 102)) = true
      · rw [if_pos h2]; unfold letI' at h2; simp at h2; omega
      · rw [if_neg h2]; omega
  · omega
set_option maxHeartbeats 1000000 in
theorem half_calls (s : ByteArray) (hs : s.size ≤ 1000000) (k : Nat) (hk : k ≤ 1000010) (w : World) : Calls Tryd.prog 39 #[.string s, .int .i64 k] w fun q w' => q = .returned (.int .i64 (half (sl s) k)) ∧ w' = w := by
  have D := Lib.hid fun W => digit_calls s hs k hk W
  have L := Lib.hid fun W => letter_calls s hs k hk W
  by_cases h : k < s.size
  · have h1 : (k : Int) < (s.size : Int) := by omega
    have HH := Lib.hid (half_lt h)
    have HD := Lib.hid (digAt_lt h)
    have HL := Lib.hid (letAt_lt h)
    have hb255 : ((s[k].toNat : Nat) : Int) ≤ 255 := by have := s[k].toNat_lt; omega
    cases hd : digI ((s[k].toNat : Nat) : Int) with
    | true =>
      have e1 := HD.out.trans hd
      have HR := Lib.hid (show half (sl s) k = ((s[k].toNat : Nat) : Int) - 48 by rw [HH.out, hd]; rfl)
      have hg : 48 ≤ ((s[k].toNat : Nat) : Int) := by unfold digI at hd; simp at hd; omega
      have D1 := Lib.hid (show ∀ W, Calls Tryd.prog 22 #[.string s, .int .i64 k] W fun q w' => q = .returned (.bool true) ∧ w' = W by rw [← e1]; exact D.out)
      clear hd e1 D HD HL HH
      go_enter Tryd.func39, Tryd.ntmps39
      go_wp2_with (go_at_call 22; refine (D1.out _).mono ?_; rintro e' w1 ⟨rfl, rfl⟩)
      go_ret
      exact ⟨by rw [HR.out]; go_num, rfl⟩
    | false =>
      have e1 := HD.out.trans hd
      have D1 := Lib.hid (show ∀ W, Calls Tryd.prog 22 #[.string s, .int .i64 k] W fun q w' => q = .returned (.bool false) ∧ w' = W by rw [← e1]; exact D.out)
      cases hl : letI' ((s[k].toNat : Nat) : Int) with
      | true =>
        have e2 := HL.out.trans hl
        have L1 := Lib.hid (show ∀ W, Calls Tryd.prog 21 #[.string s, .int .i64 k] W fun q w' => q = .returned (.bool true) ∧ w' = W by rw [← e2]; exact L.out)
        have hg : 97 ≤ ((s[k].toNat : Nat) : Int) := by unfold letI' at hl; simp at hl; omega
        by_cases h102 : ((s[k].toNat : Nat) : Int) ≤ 102
        · have HR := Lib.hid (show half (sl s) k = ((s[k].toNat : Nat) : Int) - 87 by rw [HH.out, hd, hl, decide_eq_true h102]; rfl)
          clear hd e1 e2 hl D L HD HL HH
          go_enter Tryd.func39, Tryd.ntmps39
          go_wp2_with (first | (go_at_call 22; refine (D1.out _).mono ?_; rintro e' w1 ⟨rfl, rfl⟩) | (go_at_call 21; refine (L1.out _).mono ?_; rintro e' w1 ⟨rfl, rfl⟩))
          go_ret
          exact ⟨by rw [HR.out]; go_num, rfl⟩
        · have HR := Lib.hid (show half (sl s) k = -1 by rw [HH.out, hd, hl, decide_eq_false h102]; rfl)
          clear hd e1 e2 hl D L HD HL HH
          go_enter Tryd.func39, Tryd.ntmps39
          go_wp2_with (first | (go_at_call 22; refine (D1.out _).mono ?_; rintro e' w1 ⟨rfl, rfl⟩) | (go_at_call 21; refine (L1.out _).mono ?_; rintro e' w1 ⟨rfl, rfl⟩))
          go_ret
          exact ⟨by rw [HR.out]; rfl, rfl⟩
      | false =>
        have e2 := HL.out.trans hl
        have L1 := Lib.hid (show ∀ W, Calls Tryd.prog 21 #[.string s, .int .i64 k] W fun q w' => q = .returned (.bool false) ∧ w' = W by rw [← e2]; exact L.out)
        have HR := Lib.hid (show half (sl s) k = -1 by rw [HH.out, hd, hl]; rfl)
        clear hd e1 e2 hl D L HD HL HH
        go_enter Tryd.func39, Tryd.ntmps39
        go_wp2_with (first | (go_at_call 22; refine (D1.out _).mono ?_; rintro e' w1 ⟨rfl, rfl⟩) | (go_at_call 21; refine (L1.out _).mono ?_; rintro e' w1 ⟨rfl, rfl⟩))
        go_ret
        exact ⟨by rw [HR.out]; rfl, rfl⟩
  · have D1 := Lib.hid (show ∀ W, Calls Tryd.prog 22 #[.string s, .int .i64 k] W fun q w' => q = .returned (.bool false) ∧ w' = W by rw [← digAt_ge h]; exact D.out)
    have L1 := Lib.hid (show ∀ W, Calls Tryd.prog 21 #[.string s, .int .i64 k] W fun q w' => q = .returned (.bool false) ∧ w' = W by rw [← letAt_ge h]; exact L.out)
    have HR := Lib.hid (half_ge h)
    clear D L
    go_enter Tryd.func39, Tryd.ntmps39
    go_wp2_with (first | (go_at_call 22; refine (D1.out _).mono ?_; rintro e' w1 ⟨rfl, rfl⟩) | (go_at_call 21; refine (L1.out _).mono ?_; rintro e' w1 ⟨rfl, rfl⟩))
    go_ret
    exact ⟨by rw [HR.out]; rfl, rfl⟩
end Go.Proofs.YtjignlemahdoeaaDoor
namespace Go.Proofs.YtjignlemahdoeaaDoor
open Go.ChangeShapes Go.WideShapes Go.ChangeAt Go.RowKit
set_option linter.unusedVariables false
set_option maxRecDepth 20000
section
variable {l T : List Int} {k f : Nat} {c d : Int}
theorem tg_end (h : l[k]? = none) : textG f l k T = ([], 0, 3) := by
  cases f with
  | zero => rfl
  | succ f => unfold textG; rw [h]
theorem tg1 (h : l[k]? = some 34) : textG (f + 1) l k T = if 65536 < T.length then ([], 0, 5) else (T, (k : Int) + 1, 0) := by
  conv => lhs; unfold textG
  rw [h]; rfl
theorem tg2 (h : l[k]? = some c) (h1 : c < 32) : textG (f + 1) l k T = ([], 0, 3) := by
  conv => lhs; unfold textG
  rw [h]; show (if c = 34 then _ else _) = _
  rw [if_neg (by omega), if_pos h1]
theorem tg3 (h : l[k]? = some c) (h1 : ¬ c < 32) (h2 : c ≠ 34) (h3 : c ≠ 92) : textG (f + 1) l k T = textG f l (k + 1) (T ++ [c]) := by
  conv => lhs; unfold textG
  rw [h]; show (if c = 34 then _ else _) = _
  rw [if_neg h2, if_neg h1, if_pos h3]
theorem tg4 (h : l[k]? = some 92) (h1 : l[k + 1]? = some d) (h2 : d = 34 ∨ d = 92) : textG (f + 1) l k T = textG f l (k + 2) (T ++ [d]) := by
  conv => lhs; unfold textG
  rw [h]; show (if (92 : Int) = 34 then _ else _) = _
  rw [if_neg (by omega), if_neg (by omega), if_neg (by omega), if_pos (by rw [h1]; rcases h2 with rfl | rfl <;> simp), show l.getD (k + 1) 0 = d by rw [List.getD, h1]; rfl]
theorem tg5 (h : l[k]? = some 92) (h1 : l[k + 1]? ≠ some 34) (h2 : l[k + 1]? ≠ some 92) (h3 : l[k + 1]? ≠ some 120 ∨ half l (k + 2) < 0 ∨ half l (k + 3) < 0) : textG (f + 1) l k T = ([], 0, 3) := by
  conv => lhs; unfold textG
  rw [h]; show (if (92 : Int) = 34 then _ else _) = _
  rw [if_neg (by omega), if_neg (by omega), if_neg (by omega), if_neg (by simp [h1, h2]), if_pos h3]
theorem tg6 (h : l[k]? = some 92) (h1 : l[k + 1]? = some 120) (h2 : ¬ half l (k + 2) < 0) (h3 : ¬ half l (k + 3) < 0) : textG (f + 1) l k T = textG f l (k + 4) (T ++ [16 * half l (k + 2) + half l (k + 3)]) := by
  conv => lhs; unfold textG
  rw [h]; show (if (92 : Int) = 34 then _ else _) = _
  rw [if_neg (by omega), if_neg (by omega), if_neg (by omega), if_neg (by rw [h1]; simp), if_neg (by rw [h1]; simp only [ne_eq, not_true_eq_false, false_or]; omega)]
end
/-- The loop: what is read so far, and what will come of it. -/
def triT (r : List Int × Int × Int) : Value := .tuple #[.string (str r.1), .int .i64 r.2.1, .int .i64 r.2.2]
def RelTq (B : Nat) (w : World) (s : ByteArray) (X : List Int × Int × Int) (t i : Value) (wr : World) : Prop :=
  ∃ (k f : Nat) (T : List Int) (A : Option Addr) (c : Nat), t = .slice A T.length c ∧ i = .int .i64 k ∧ k ≤ s.size + 3 ∧ s.size < f + k ∧ Hid (X = textG f (sl s) k T) ∧ T.length ≤ k ∧ OwnS B wr A c T ∧ Below B w wr
set_option maxHeartbeats 4000000 in
theorem rtextq_calls (s : ByteArray) (hs : s.size ≤ 1000000) (p : Nat) (hp : p < s.size) (w : World) : Calls Tryd.prog 24 #[.string s, .int .i64 p] w fun q w' => q = .returned (triT (textG (s.size + 1) (sl s) (p + 1) [])) ∧ Below w.heap.size w w' := by
  obtain ⟨X, hX⟩ : ∃ X, X = textG (s.size + 1) (sl s) (p + 1) [] := ⟨_, rfl⟩
  rw [← hX]
  have HX0 := Lib.hid hX
  clear hX
  go_enter Tryd.func24, Tryd.ntmps24
  go_wp2
  go_loopw [7, 8] (RelTq w.heap.size w s X) (fun _ i _ => s.size + 4 - (intOf i).toNat)
  case atStart => exact ⟨p + 1, s.size + 1, [], none, 0, rfl, by go_num, by omega, by omega, HX0, by simp, OwnS.nil _ _, Below.refl _ _⟩
  case round =>
    obtain ⟨k, f, T, A, c, rfl, rfl, hk, hf, hX, hT, hown, hb⟩ := hrel
    by_cases hlt : k < s.size
    · have h1 : (k : Int) < (s.size : Int) := by omega
      have HAT := Lib.hid (sl_at s k hlt)
      obtain ⟨f, rfl⟩ : ∃ g, f = g + 1 := ⟨f - 1, by omega⟩
      have hstr := run_str hown.lies
      by_cases c34 : ((s[k].toNat : Nat) : Int) = 34
      · have e1 : (((s[k].toNat : Nat) : Int) == 34) = true := by simpa using c34
        have HE := Lib.hid (hX.out.trans (tg1 (by rw [HAT.out, c34])))
        have HT := Lib.hid hT
        clear hX hT
        by_cases hlong : 65536 < T.length
        · have hlw : decide ((65536 : Int) < (T.length : Int)) = true := by simp; omega
          have HE2 := Lib.hid (HE.out.trans (if_pos hlong))
          clear HE
          go_wp2
          go_ret3
          rw [HE2.out]
          exact ⟨rfl, hb⟩
        · have hlw : decide ((65536 : Int) < (T.length : Int)) = false := by simp; omega
          have HE2 := Lib.hid (HE.out.trans (if_neg hlong))
          clear HE
          go_wp2
          go_ret3
          rw [HE2.out]
          exact ⟨rfl, hb⟩
      · have e1 : (((s[k].toNat : Nat) : Int) == 34) = false := by simpa using c34
        clear hstr
        have hb255 : ((s[k].toNat : Nat) : Int) ≤ 255 := by have := s[k].toNat_lt; omega
        by_cases c32 : ((s[k].toNat : Nat) : Int) < 32
        · have HE := Lib.hid (hX.out.trans (tg2 HAT.out c32))
          have HT := Lib.hid hT
          clear hX hT
          go_wp2
          go_ret3
          rw [HE.out]
          exact ⟨rfl, hb⟩
        · have hbs := hb.size
          by_cases c92 : ((s[k].toNat : Nat) : Int) = 92
          · have e92 : (((s[k].toNat : Nat) : Int) != 92) = false := by simpa using c92
            have HAT2 := Lib.hid (show (sl s)[k]? = some 92 by rw [HAT.out, c92])
            by_cases hl1 : k + 1 < s.size
            · have h2 : (k : Int) + 1 < (s.size : Int) := by omega
              have HA1 := Lib.hid (sl_at s (k + 1) hl1)
              have hd255 : ((s[k + 1].toNat : Nat) : Int) ≤ 255 := by have := s[k + 1].toNat_lt; omega
              by_cases d34 : ((s[k + 1].toNat : Nat) : Int) = 34
              · have HE := Lib.hid (hX.out.trans (tg4 HAT2.out (by rw [HA1.out, d34]) (by omega : (34 : Int) = 34 ∨ (34 : Int) = 92)))
                have hb4 : Below w.heap.size w (wr.alloc (.cells #[.int .u8 34] 5)) := hb.alloc hbs _
                have hown4 := World.ownsRow.alloc hown (.cells #[.int .u8 34] 5)
                clear hX c92 HA1 HAT2
                go_wp2_with (at_builtin; go_must (refine wpList_append_bytes rfl _ _ rfl w.heap.size A c T rfl hown4 (some ⟨wr.heap.size, 0, none⟩) 1 [34] rfl (lies_one wr _) (by simp; omega) hb4.size ?_); intro A5 c5 w5 L5 hL5 hown5 hgrow5; have hb5 := OwnS.grow hown4 hb4 hgrow5 hb4.size)
                go_roundw
                case rel => exact ⟨k + 2, f, L5, A5, c5, rfl, by go_num, by omega, by omega, Lib.hid (by rw [hL5.out]; exact HE.out), by rw [hL5.out]; simp; omega, hown5, hb5⟩
                case measure => simp [intOf]; omega
              · skip
                by_cases d92 : ((s[k + 1].toNat : Nat) : Int) = 92
                · have HE := Lib.hid (hX.out.trans (tg4 HAT2.out (by rw [HA1.out, d92]) (by omega : (92 : Int) = 34 ∨ (92 : Int) = 92)))
                  have f1 : (((s[k + 1].toNat : Nat) : Int) == 34) = false := by simpa using d34
                  have hb4 : Below w.heap.size w (wr.alloc (.cells #[.int .u8 92] 5)) := hb.alloc hbs _
                  have hown4 := World.ownsRow.alloc hown (.cells #[.int .u8 92] 5)
                  clear hX c92 HA1 HAT2
                  go_wp2_with (at_builtin; go_must (refine wpList_append_bytes rfl _ _ rfl w.heap.size A c T rfl hown4 (some ⟨wr.heap.size, 0, none⟩) 1 [92] rfl (lies_one wr _) (by simp; omega) hb4.size ?_); intro A5 c5 w5 L5 hL5 hown5 hgrow5; have hb5 := OwnS.grow hown4 hb4 hgrow5 hb4.size)
                  go_roundw
                  case rel => exact ⟨k + 2, f, L5, A5, c5, rfl, by go_num, by omega, by omega, Lib.hid (by rw [hL5.out]; exact HE.out), by rw [hL5.out]; simp; omega, hown5, hb5⟩
                  case measure => simp [intOf]; omega
                · skip
                  have f1 : (((s[k + 1].toNat : Nat) : Int) == 34) = false := by simpa using d34
                  have f2 : (((s[k + 1].toNat : Nat) : Int) == 92) = false := by simpa using d92
                  have HN1 := Lib.hid (show (sl s)[k + 1]? ≠ some 34 by rw [HA1.out]; simpa using d34)
                  have HN2 := Lib.hid (show (sl s)[k + 1]? ≠ some 92 by rw [HA1.out]; simpa using d92)
                  by_cases d120 : ((s[k + 1].toNat : Nat) : Int) = 120
                  · have HA2 := Lib.hid (show (sl s)[k + 1]? = some 120 by rw [HA1.out, d120])
                    obtain ⟨a, ha⟩ : ∃ a, a = half (sl s) (k + 2) := ⟨_, rfl⟩
                    have ra := half_range (sl s) (k + 2)
                    have Ca := Lib.hid (show ∀ W, Calls Tryd.prog 39 #[.string s, .int .i64 ((k : Int) + 2)] W fun q w' => q = .returned (.int .i64 a) ∧ w' = W from fun W => by rw [ha]; exact half_calls s hs (k + 2) (by omega) W)
                    rw [← ha] at ra
                    obtain ⟨a0, a1⟩ := ra
                    obtain ⟨b, hb'⟩ : ∃ b, b = half (sl s) (k + 3) := ⟨_, rfl⟩
                    have rb := half_range (sl s) (k + 3)
                    have Cb := Lib.hid (show ∀ W, Calls Tryd.prog 39 #[.string s, .int .i64 ((k : Int) + 3)] W fun q w' => q = .returned (.int .i64 b) ∧ w' = W from fun W => by rw [hb']; exact half_calls s hs (k + 3) (by omega) W)
                    rw [← hb'] at rb
                    obtain ⟨b0, b1⟩ := rb
                    by_cases an : a < 0
                    · have HE := Lib.hid (hX.out.trans (tg5 HAT2.out HN1.out HN2.out (.inr (.inl (by rw [← ha]; exact an)))))
                      clear hX HA1 HA2 HAT2 ha hb'
                      go_wp2_with fail
                      refine (Ca.out _).mono ?_
                      rintro e' w1 ⟨rfl, rfl⟩
                      go_wp2
                      go_ret3
                      rw [HE.out]
                      exact ⟨rfl, hb⟩
                    · skip
                      by_cases bn : b < 0
                      · have HE := Lib.hid (hX.out.trans (tg5 HAT2.out HN1.out HN2.out (.inr (.inr (by rw [← hb']; exact bn)))))
                        clear hX HA1 HA2 HAT2 ha hb'
                        go_wp2_with fail
                        refine (Ca.out _).mono ?_
                        rintro e' w1 ⟨rfl, rfl⟩
                        go_wp2_with fail
                        refine (Cb.out _).mono ?_
                        rintro e' w1 ⟨rfl, rfl⟩
                        go_wp2
                        go_ret3
                        rw [HE.out]
                        exact ⟨rfl, hb⟩
                      · skip
                        have HE := Lib.hid (hX.out.trans (tg6 HAT2.out HA2.out (by rw [← ha]; exact an) (by rw [← hb']; exact bn)))
                        rw [← ha, ← hb'] at HE
                        have hb4 : Below w.heap.size w (wr.alloc (.cells #[.int .u8 (16 * a + b)] 5)) := hb.alloc hbs _
                        have hown4 := World.ownsRow.alloc hown (.cells #[.int .u8 (16 * a + b)] 5)
                        clear hX HA1 HA2 HAT2 ha hb'
                        go_wp2_with fail
                        refine (Ca.out _).mono ?_
                        rintro e' w1 ⟨rfl, rfl⟩
                        go_wp2_with fail
                        refine (Cb.out _).mono ?_
                        rintro e' w1 ⟨rfl, rfl⟩
                        go_wp2_with fail
                        refine (Ca.out _).mono ?_
                        rintro e' w1 ⟨rfl, rfl⟩
                        go_wp2_with fail
                        refine (Cb.out _).mono ?_
                        rintro e' w1 ⟨rfl, rfl⟩
                        go_wp2_with (at_builtin; go_must (refine wpList_append_bytes rfl _ _ rfl w.heap.size A c T rfl hown4 (some ⟨_, 0, none⟩) 1 [16 * a + b] rfl (lies_one _ _) (by simp; omega) hb4.size ?_); intro A5 c5 w5 L5 hL5 hown5 hgrow5; have hb5 := OwnS.grow hown4 hb4 hgrow5 hb4.size)
                        go_roundw
                        case rel => exact ⟨k + 4, f, L5, A5, c5, rfl, by go_num, by omega, by omega, Lib.hid (by rw [hL5.out]; exact HE.out), by rw [hL5.out]; simp; omega, hown5, hb5⟩
                        case measure => simp [intOf]; omega
                  · have f3 : (((s[k + 1].toNat : Nat) : Int) != 120) = true := by simpa using d120
                    have HE := Lib.hid (hX.out.trans (tg5 HAT2.out HN1.out HN2.out (.inl (by rw [HA1.out]; simpa using d120))))
                    clear hX HA1 HAT2
                    go_wp2
                    go_ret3
                    rw [HE.out]
                    exact ⟨rfl, hb⟩
            · have h2 : decide ((k : Int) + 1 < (s.size : Int)) = false := decide_eq_false (by omega)
              have HNO := Lib.hid (show (sl s)[k + 1]? = none by rw [List.getElem?_eq_none (by rw [sl_length]; omega)])
              have HE := Lib.hid (hX.out.trans (tg5 HAT2.out (by rw [HNO.out]; simp) (by rw [HNO.out]; simp) (.inl (by rw [HNO.out]; simp))))
              clear hX HAT2
              go_wp2
              go_ret3
              rw [HE.out]
              exact ⟨rfl, hb⟩
          · have HE := Lib.hid (hX.out.trans (tg3 HAT.out c32 c34 c92))
            have e92 : (((s[k].toNat : Nat) : Int) != 92) = true := by simpa using c92
            obtain ⟨q, hq⟩ : ∃ q : Int, q = ((s[k].toNat : Nat) : Int) := ⟨_, rfl⟩
            rw [← hq] at HE
            have hb4 : Below w.heap.size w (wr.alloc (.cells #[.int .u8 q] 5)) := hb.alloc hbs _
            have hown4 := World.ownsRow.alloc hown (.cells #[.int .u8 q] 5)
            rw [hq] at hb4 hown4
            have HQ := Lib.hid hq
            clear hX c92 hq
            go_wp2_with (at_builtin; go_must (refine wpList_append_bytes rfl _ _ rfl w.heap.size A c T rfl hown4 (some ⟨wr.heap.size, 0, none⟩) 1 [((s[k].toNat : Nat) : Int)] rfl (lies_one wr _) (by simp; omega) hb4.size ?_); intro A5 c5 w5 L5 hL5 hown5 hgrow5; have hb5 := OwnS.grow hown4 hb4 hgrow5 hb4.size)
            go_roundw
            case rel => exact ⟨k + 1, f, L5, A5, c5, rfl, by go_num, by omega, by omega, Lib.hid (by rw [hL5.out, ← HQ.out]; exact HE.out), by rw [hL5.out]; simp; omega, hown5, hb5⟩
            case measure => simp [intOf]; omega
    · have h1 : decide ((k : Int) < (s.size : Int)) = false := decide_eq_false (by omega)
      have HE := Lib.hid (hX.out.trans (tg_end (by rw [List.getElem?_eq_none (by rw [sl_length]; omega)])))
      clear hX
      go_wp2
      go_ret3
      rw [HE.out]
      exact ⟨rfl, hb⟩
end Go.Proofs.YtjignlemahdoeaaDoor
namespace Go.Proofs.YtjignlemahdoeaaDoor
open Go.ChangeShapes Go.WideShapes Go.ChangeAt Go.RowKit
set_option linter.unusedVariables false
set_option maxRecDepth 20000
/-- One byte of a string in marks: itself, or what an escape stands for. -/
def byteS (l : List Int) (k : Nat) : Int × Int × Int := match l[k]? with
  | none => (0, 0, 3)
  | some c => if c < 32 then (0, 0, 3) else if c ≠ 92 then (c, (k : Int) + 1, 0)
    else if l[k + 1]? = some 34 ∨ l[k + 1]? = some 92 then (l.getD (k + 1) 0, (k : Int) + 2, 0)
    else if l[k + 1]? ≠ some 120 ∨ half l (k + 2) < 0 ∨ half l (k + 3) < 0 then (0, 0, 3) else (16 * half l (k + 2) + half l (k + 3), (k : Int) + 4, 0)
section
variable {l T : List Int} {k f : Nat} {c d : Int}
theorem bs2 (h : l[k]? = some c) (h1 : c < 32) : byteS l k = (0, 0, 3) := by unfold byteS; rw [h]; exact if_pos h1
theorem bs3 (h : l[k]? = some c) (h1 : ¬ c < 32) (h3 : c ≠ 92) : byteS l k = (c, (k : Int) + 1, 0) := by
  unfold byteS; rw [h]; show (if c < 32 then _ else _) = _
  rw [if_neg h1, if_pos h3]
theorem bs4 (h : l[k]? = some 92) (h1 : l[k + 1]? = some d) (h2 : d = 34 ∨ d = 92) : byteS l k = (d, (k : Int) + 2, 0) := by
  unfold byteS; rw [h]; show (if (92 : Int) < 32 then _ else _) = _
  rw [if_neg (by omega), if_neg (by omega), if_pos (by rw [h1]; rcases h2 with rfl | rfl <;> simp), show l.getD (k + 1) 0 = d by rw [List.getD, h1]; rfl]
theorem bs5 (h : l[k]? = some 92) (h1 : l[k + 1]? ≠ some 34) (h2 : l[k + 1]? ≠ some 92) (h3 : l[k + 1]? ≠ some 120 ∨ half l (k + 2) < 0 ∨ half l (k + 3) < 0) : byteS l k = (0, 0, 3) := by
  unfold byteS; rw [h]; show (if (92 : Int) < 32 then _ else _) = _
  rw [if_neg (by omega), if_neg (by omega), if_neg (by simp [h1, h2]), if_pos h3]
theorem bs6 (h : l[k]? = some 92) (h1 : l[k + 1]? = some 120) (h2 : ¬ half l (k + 2) < 0) (h3 : ¬ half l (k + 3) < 0) : byteS l k = (16 * half l (k + 2) + half l (k + 3), (k : Int) + 4, 0) := by
  unfold byteS; rw [h]; show (if (92 : Int) < 32 then _ else _) = _
  rw [if_neg (by omega), if_neg (by omega), if_neg (by rw [h1]; simp), if_neg (by rw [h1]; simp only [ne_eq, not_true_eq_false, false_or]; omega)]
theorem textG_byte (h : l[k]? = some c) (h1 : c ≠ 34) : textG (f + 1) l k T = if (byteS l k).2.2 = 0 then textG f l (byteS l k).2.1.toNat (T ++ [(byteS l k).1]) else ([], 0, 3) := by
  by_cases c32 : c < 32
  · rw [tg2 h c32, bs2 h c32]; rfl
  · by_cases c92 : c = 92
    · rw [c92] at h
      by_cases hd : l[k + 1]? = some 34 ∨ l[k + 1]? = some 92
      · have ⟨d, hd1, hd2⟩ : ∃ d, l[k + 1]? = some d ∧ (d = 34 ∨ d = 92) := by rcases hd with h1 | h1 <;> exact ⟨_, h1, by omega⟩
        rw [tg4 h hd1 hd2, bs4 h hd1 hd2]
        rfl
      · by_cases hx : l[k + 1]? ≠ some 120 ∨ half l (k + 2) < 0 ∨ half l (k + 3) < 0
        · rw [tg5 h (fun e => hd (.inl e)) (fun e => hd (.inr e)) hx, bs5 h (fun e => hd (.inl e)) (fun e => hd (.inr e)) hx]; rfl
        · have h1 : l[k + 1]? = some 120 := by
            rcases Classical.em (l[k + 1]? = some 120) with e | e
            · exact e
            · exact absurd (.inl e) hx
          rw [tg6 h h1 (fun e => hx (.inr (.inl e))) (fun e => hx (.inr (.inr e))), bs6 h h1 (fun e => hx (.inr (.inl e))) (fun e => hx (.inr (.inr e)))]
          rfl
    · rw [tg3 h c32 h1 c92, bs3 h c32 c92]; rfl
/-- Where a byte ends. -/
theorem byteS_place (h : (byteS l k).2.2 = 0) : ∃ n : Nat, (byteS l k).2.1 = n ∧ k < n ∧ n ≤ l.length ∧ n ≤ k + 4 := by
  rcases Nat.lt_or_ge k l.length with hk | hk
  · have hc : l[k]? = some l[k] := List.getElem?_eq_getElem hk
    generalize l[k] = c at hc
    by_cases c32 : c < 32
    · rw [bs2 hc c32] at h; simp at h
    · by_cases c92 : c = 92
      · rw [c92] at hc
        by_cases hd : l[k + 1]? = some 34 ∨ l[k + 1]? = some 92
        · have ⟨d, hd1, hd2⟩ : ∃ d, l[k + 1]? = some d ∧ (d = 34 ∨ d = 92) := by rcases hd with h1 | h1 <;> exact ⟨_, h1, by omega⟩
          have hl := (List.getElem?_eq_some_iff.1 hd1).1
          rw [bs4 hc hd1 hd2]
          exact ⟨k + 2, rfl, by omega, by omega, by omega⟩
        · by_cases hx : l[k + 1]? ≠ some 120 ∨ half l (k + 2) < 0 ∨ half l (k + 3) < 0
          · rw [bs5 hc (fun e => hd (.inl e)) (fun e => hd (.inr e)) hx] at h; simp at h
          · have h1 : l[k + 1]? = some 120 := by
              rcases Classical.em (l[k + 1]? = some 120) with e | e
              · exact e
              · exact absurd (.inl e) hx
            have hl : k + 3 < l.length := by
              rcases Nat.lt_or_ge (k + 3) l.length with e | e
              · exact e
              · exact absurd (.inr (.inr (by unfold half; rw [List.getElem?_eq_none e]; decide))) hx
            rw [bs6 hc h1 (fun e => hx (.inr (.inl e))) (fun e => hx (.inr (.inr e)))]
            exact ⟨k + 4, rfl, by omega, by omega, by omega⟩
      · rw [bs3 hc c32 c92]
        exact ⟨k + 1, rfl, by omega, by omega, by omega⟩
  · unfold byteS at h; rw [List.getElem?_eq_none hk] at h; simp at h
theorem byteS_err (h : (byteS l k).2.2 ≠ 0) : byteS l k = (0, 0, 3) := by
  unfold byteS at h ⊢
  split
  · rfl
  · rename_i c hc
    rw [hc] at h
    dsimp only at h ⊢
    split
    · rfl
    · rename_i h1
      rw [if_neg h1] at h
      split
      · rename_i h2; rw [if_pos h2] at h; exact absurd rfl h
      · rename_i h2
        rw [if_neg h2] at h
        split
        · rename_i h3; rw [if_pos h3] at h; exact absurd rfl h
        · rename_i h3
          rw [if_neg h3] at h
          split
          · rfl
          · rename_i h4; rw [if_neg h4] at h; exact absurd rfl h
end
/-- The rest of a text from a place on. -/
theorem cut_rest (s : ByteArray) (k : Nat) (hk : k ≤ s.size) : ∃ t : ByteArray, sl t = (sl s).drop k ∧ t.size + k = s.size ∧ ∀ W, (Instr.slice 9 (.string s) (some (.int .i64 (k : Int))) none none).run Tryd.prog W = .ok (.string t) W := by
  refine ⟨s.extract k s.size, ?_, ?_, fun W => ?_⟩
  · unfold sl
    rw [ByteArray.data_extract, Array.toList_extract]
    simp only [List.extract, List.map_take, List.map_drop]
    rw [List.take_of_length_le (by simp)]
  · simp; omega
  · rw [run_slice_string_l W 9 s Tryd.underlying9 .i64 (k : Int) (by omega) (by omega)]; rfl
theorem pre2 (t : ByteArray) (x y : UInt8) : Lib.hasPrefix t.data.toList [x, y] = (decide ((sl t)[0]? = some (x.toNat : Int)) && decide ((sl t)[1]? = some (y.toNat : Int))) := by
  unfold Lib.hasPrefix sl
  have e : ∀ a b : UInt8, (a == b) = decide ((b.toNat : Int) = (a.toNat : Int)) := fun a b => by
    by_cases h : a = b
    · subst h; simp
    · have : ¬ ((b.toNat : Int) = (a.toNat : Int)) := fun h2 => h (UInt8.toNat_inj.1 (by omega))
      simp [h, this]
  cases t.data.toList with
  | nil => rfl
  | cons a r =>
    cases r with
    | nil => simp [List.isPrefixOf]
    | cons b r => simp [List.isPrefixOf, e]
def halfC (c : Int) : Int := if digI c then c - 48 else if letI' c && decide (c ≤ 102) then c - 87 else -1
theorem half_some {l : List Int} {k : Nat} {c : Int} (h : l[k]? = some c) : half l k = halfC c := by unfold half halfC; rw [h]
theorem index_hex (b : UInt8) : Lib.indexByte [48, 49, 50, 51, 52, 53, 54, 55, 56, 57, 97, 98, 99, 100, 101, 102] ((b.toNat : Int).toNat.toUInt8) = halfC (b.toNat : Int) := by
  have h : ∀ n : Fin 256, Lib.indexByte [48, 49, 50, 51, 52, 53, 54, 55, 56, 57, 97, 98, 99, 100, 101, 102] (((UInt8.ofFin n).toNat : Int).toNat.toUInt8) = halfC ((UInt8.ofFin n).toNat : Int) := by decide +kernel
  exact h b.toFin
theorem ixhex_calls (b : UInt8) (w : World) : Calls Tryd.prog 56 #[.string ⟨#[48, 49, 50, 51, 52, 53, 54, 55, 56, 57, 97, 98, 99, 100, 101, 102]⟩, .int .u8 ((b.toNat : Nat) : Int)] w fun e w' => e = .returned (.int .i64 (halfC (b.toNat : Int))) ∧ ∃ q, w' = w.drewN q := by
  have h := Tryd.strings_IndexByte ⟨#[48, 49, 50, 51, 52, 53, 54, 55, 56, 57, 97, 98, 99, 100, 101, 102]⟩ ((b.toNat : Nat) : Int) w
  rw [show (⟨#[48, 49, 50, 51, 52, 53, 54, 55, 56, 57, 97, 98, 99, 100, 101, 102]⟩ : ByteArray).data.toList = [48, 49, 50, 51, 52, 53, 54, 55, 56, 57, 97, 98, 99, 100, 101, 102] from rfl, index_hex] at h
  exact h.mono fun e w1 h1 => ⟨h1.1, 0, h1.2⟩
theorem or_hex (x y : Int) (x0 : 0 ≤ x) (x1 : x < 16) (y0 : 0 ≤ y) (y1 : y < 16) : bits BinOp.or IntKind.i64 (x * 16) y % 256 = 16 * x + y := by
  have h : ∀ a b : Fin 16, bits BinOp.or IntKind.i64 ((a.val : Int) * 16) (b.val : Int) % 256 = 16 * (a.val : Int) + (b.val : Int) := by decide +kernel
  have h2 := h ⟨x.toNat, by omega⟩ ⟨y.toNat, by omega⟩
  simp only at h2
  rw [show (x.toNat : Int) = x by omega, show (y.toNat : Int) = y by omega] at h2
  exact h2
theorem half_le (l : List Int) (k : Nat) : half l k ≤ 15 := by have := (half_range l k).2; omega
set_option maxHeartbeats 4000000 in
theorem readbyte_calls (s : ByteArray) (hs : s.size ≤ 1000000) (k : Nat) (hk : k < s.size) (w : World) : Calls Tryd.prog 46 #[.string s, .int .i64 k] w fun q w' => q = .returned (.tuple #[.int .u8 (byteS (sl s) k).1, .int .i64 (byteS (sl s) k).2.1, .int .i64 (byteS (sl s) k).2.2]) ∧ ∃ p, w' = w.drewN p := by
  obtain ⟨R, hR⟩ : ∃ R, R = byteS (sl s) k := ⟨_, rfl⟩
  rw [← hR]
  obtain ⟨t, ht, hts, hcut⟩ := cut_rest s k (by omega)
  have hat : ∀ i, (sl s)[k + i]? = (sl t)[i]? := fun i => by rw [ht, List.getElem?_drop]
  have ht0 : 0 < t.size := by omega
  have h0 := sl_at t 0 ht0
  have h0i : (0 : Int) < (t.size : Int) := by omega
  have hs0 : (sl s)[k]? = some ((t[0].toNat : Nat) : Int) := by rw [← h0]; exact hat 0
  have HC := Lib.hid hcut
  have HP := Lib.hid (fun (x y : UInt8) W => (Tryd.strings_HasPrefix t ⟨#[x, y]⟩ W))
  have hc255 : ((t[0].toNat : Nat) : Int) ≤ 255 := by have := t[0].toNat_lt; omega
  obtain ⟨c, hc⟩ : ∃ c : Int, c = ((t[0].toNat : Nat) : Int) := ⟨_, rfl⟩
  clear hcut
  by_cases c32 : ((t[0].toNat : Nat) : Int) < 32
  · have HE := Lib.hid (show R = (0, 0, 3) by rw [hR]; unfold byteS; rw [hs0]; exact if_pos c32)
    have d32 : decide (((t[0].toNat : Nat) : Int) < 32) = true := decide_eq_true c32
    clear hR hs0 h0 hc
    go_enter Tryd.func46, Tryd.ntmps46
    have K := HC.out
    go_wp2
    go_ret3
    rw [HE.out]
    exact ⟨rfl, 0, rfl⟩
  · have d32 : decide (((t[0].toNat : Nat) : Int) < 32) = false := decide_eq_false c32
    by_cases c92 : ((t[0].toNat : Nat) : Int) = 92
    · have e92 : (((t[0].toNat : Nat) : Int) != 92) = false := by simpa using c92
      rw [c92] at hs0 h0
      have P := Lib.hid (fun y : UInt8 => pre2 t 92 y)
      have hp : ∀ y : UInt8, Lib.hasPrefix t.data.toList [92, y] = decide ((sl s)[k + 1]? = some (y.toNat : Int)) := fun y => by
        rw [P.out, h0, hat]; simp
      have HPB := Lib.hid (fun (y : UInt8) (b : Bool) (hb : decide ((sl s)[k + 1]? = some (y.toNat : Int)) = b) W => show Calls Tryd.prog 55 #[.string t, .string ⟨#[92, y]⟩] W fun e w' => e = .returned (.bool b) ∧ w' = W by rw [← hb, ← hp]; exact HP.out 92 y W)
      clear P hp
      by_cases d34 : (sl s)[k + 1]? = some 34
      · have H34 := Lib.hid (HPB.out 34 true (decide_eq_true d34))
        have ht1 : 1 < t.size := by
          have := (List.getElem?_eq_some_iff.1 ((hat 1).symm.trans d34)).1
          rw [sl_length] at this; exact this
        have h1 : (1 : Int) < (t.size : Int) := by omega
        have g1 : (sl s)[k + 1]? = some ((t[1].toNat : Nat) : Int) := (hat 1).trans (sl_at t 1 ht1)
        have g2 : ((t[1].toNat : Nat) : Int) = 34 := by rw [g1] at d34; injection d34
        have HE := Lib.hid (hR.trans (bs4 hs0 g1 (.inl g2)))
        clear hR hs0 h0 hc HPB g1 g2 d34 hat
        go_enter Tryd.func46, Tryd.ntmps46
        have K := HC.out
        go_wp2_with (go_at_call 55; refine (H34.out _).mono ?_; rintro e' w1 ⟨rfl, h9⟩; obtain rfl := h9.symm)
        go_ret3
        rw [HE.out]
        exact ⟨rfl, 0, rfl⟩
      · have H34 := Lib.hid (HPB.out 34 false (decide_eq_false d34))
        by_cases d92 : (sl s)[k + 1]? = some 92
        · have H92 := Lib.hid (HPB.out 92 true (decide_eq_true d92))
          have ht1 : 1 < t.size := by
            have := (List.getElem?_eq_some_iff.1 ((hat 1).symm.trans d92)).1
            rw [sl_length] at this; exact this
          have h1 : (1 : Int) < (t.size : Int) := by omega
          have g1 : (sl s)[k + 1]? = some ((t[1].toNat : Nat) : Int) := (hat 1).trans (sl_at t 1 ht1)
          have g2 : ((t[1].toNat : Nat) : Int) = 92 := by rw [g1] at d92; injection d92
          have HE := Lib.hid (hR.trans (bs4 hs0 g1 (.inr g2)))
          clear hR hs0 h0 hc HPB g1 g2 d92 hat d34
          go_enter Tryd.func46, Tryd.ntmps46
          have K := HC.out
          go_wp2_with (go_at_call 55; first | (refine (H34.out _).mono ?_; rintro e' w1 ⟨rfl, h9⟩; obtain rfl := h9.symm) | (refine (H92.out _).mono ?_; rintro e' w1 ⟨rfl, h9⟩; obtain rfl := h9.symm))
          go_ret3
          rw [HE.out]
          exact ⟨rfl, 0, rfl⟩
        · have H92 := Lib.hid (HPB.out 92 false (decide_eq_false d92))
          by_cases d120 : (sl s)[k + 1]? = some 120
          · have H120 := Lib.hid (HPB.out 120 true (decide_eq_true d120))
            by_cases hl4 : 4 ≤ t.size
            · have g4 : decide ((4 : Int) ≤ (t.size : Int)) = true := decide_eq_true (by omega)
              have h2 : (2 : Int) < (t.size : Int) := by omega
              have h3 : (3 : Int) < (t.size : Int) := by omega
              have a2 : half (sl s) (k + 2) = halfC ((t[2].toNat : Nat) : Int) := half_some ((hat 2).trans (sl_at t 2 (by omega)))
              have a3 : half (sl s) (k + 3) = halfC ((t[3].toNat : Nat) : Int) := half_some ((hat 3).trans (sl_at t 3 (by omega)))
              have C2 := Lib.hid (fun W => ixhex_calls t[2] W)
              have C3 := Lib.hid (fun W => ixhex_calls t[3] W)
              rw [← a2] at C2
              rw [← a3] at C3
              have r2 := half_range (sl s) (k + 2)
              have r3 := half_range (sl s) (k + 3)
              have HE5 := Lib.hid (fun h => hR.trans (bs5 hs0 d34 d92 (.inr h)))
              have HE6 := Lib.hid (fun h h' => hR.trans (bs6 hs0 d120 h h'))
              clear hR hs0 h0 hc HPB d92 hat d34 d120 a2 a3
              generalize half (sl s) (k + 2) = x at *
              generalize half (sl s) (k + 3) = y at *
              go_enter Tryd.func46, Tryd.ntmps46
              have K := HC.out
              go_wp2_with (go_at_call 55; first | (refine (H34.out _).mono ?_; rintro e' w1 ⟨rfl, h9⟩; obtain rfl := h9.symm) | (refine (H92.out _).mono ?_; rintro e' w1 ⟨rfl, h9⟩; obtain rfl := h9.symm) | (refine (H120.out _).mono ?_; rintro e' w1 ⟨rfl, h9⟩; obtain rfl := h9.symm))
              go_quiet ((go_at_call 56; first | refine Calls.quiet_of (C2.out _) | refine Calls.quiet_of (C3.out _)))
              by_cases hx : x < 0
              · have HE := Lib.hid (HE5.out (.inl hx))
                have dx : decide (0 ≤ x) = false := decide_eq_false (by omega)
                go_wp2
                go_ret3
                rw [HE.out]
                exact ⟨rfl, _, rfl⟩
              · by_cases hy : y < 0
                · have HE := Lib.hid (HE5.out (.inr hy))
                  have dx : decide (0 ≤ x) = true := decide_eq_true (by omega)
                  have dy : decide (0 ≤ y) = false := decide_eq_false (by omega)
                  go_wp2
                  go_ret3
                  rw [HE.out]
                  exact ⟨rfl, _, rfl⟩
                · have HE := Lib.hid (HE6.out (by omega) (by omega))
                  have dx : decide (0 ≤ x) = true := decide_eq_true (by omega)
                  have dy : decide (0 ≤ y) = true := decide_eq_true (by omega)
                  have HB := Lib.hid (or_hex x y (by omega) (by omega) (by omega) (by omega))
                  go_wp2
                  go_ret3
                  rw [HE.out]
                  refine ⟨?_, _, rfl⟩
                  have HB := HB.out
                  show Ending.returned (.tuple #[.int .u8 (bits BinOp.or IntKind.i64 (x * 16) y % 256), _, _]) = _
                  rw [HB]; rfl
            · have g4 : decide ((4 : Int) ≤ (t.size : Int)) = false := decide_eq_false (by omega)
              have hno : half (sl s) (k + 3) < 0 := by
                rw [half_ge (s := s) (k := k + 3) (by omega)]; decide
              have HE := Lib.hid (hR.trans (bs5 hs0 d34 d92 (.inr (.inr hno))))
              clear hR hs0 h0 hc HPB d92 hat d34 d120 hno
              go_enter Tryd.func46, Tryd.ntmps46
              have K := HC.out
              go_wp2_with (go_at_call 55; first | (refine (H34.out _).mono ?_; rintro e' w1 ⟨rfl, h9⟩; obtain rfl := h9.symm) | (refine (H92.out _).mono ?_; rintro e' w1 ⟨rfl, h9⟩; obtain rfl := h9.symm) | (refine (H120.out _).mono ?_; rintro e' w1 ⟨rfl, h9⟩; obtain rfl := h9.symm))
              go_ret3
              rw [HE.out]
              exact ⟨rfl, 0, rfl⟩
          · have H120 := Lib.hid (HPB.out 120 false (decide_eq_false d120))
            have HE := Lib.hid (hR.trans (bs5 hs0 d34 d92 (.inl d120)))
            clear hR hs0 h0 hc HPB d92 hat d34 d120
            go_enter Tryd.func46, Tryd.ntmps46
            have K := HC.out
            go_wp2_with (go_at_call 55; first | (refine (H34.out _).mono ?_; rintro e' w1 ⟨rfl, h9⟩; obtain rfl := h9.symm) | (refine (H92.out _).mono ?_; rintro e' w1 ⟨rfl, h9⟩; obtain rfl := h9.symm) | (refine (H120.out _).mono ?_; rintro e' w1 ⟨rfl, h9⟩; obtain rfl := h9.symm))
            go_ret3
            rw [HE.out]
            exact ⟨rfl, 0, rfl⟩
    · have e92 : (((t[0].toNat : Nat) : Int) != 92) = true := by simpa using c92
      have HE := Lib.hid (hR.trans (bs3 hs0 c32 c92))
      clear hR hs0 h0 hc hat
      go_enter Tryd.func46, Tryd.ntmps46
      have K := HC.out
      go_wp2
      go_ret3
      rw [HE.out]
      exact ⟨rfl, 0, rfl⟩
end Go.Proofs.YtjignlemahdoeaaDoor
