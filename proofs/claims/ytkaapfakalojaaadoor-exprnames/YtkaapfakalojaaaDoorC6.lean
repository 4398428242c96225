/-
  The walk of ExprSames, out of what the program's functions answer.
  The walk of ExprNames, out of what the program's functions answer.
  The table of the operations, and the other package-level variables that the rows list: what they hold when the call begins; a world in which they do. Conditions: the row's own.
  Contracts of the program's isOperation, Name, Arity, isString. Conditions: the table of the operations lies in memory.
-/
import Derived.Test.YtkaapfakalojaaaDoorRows
import Derived.Lay
import Derived.Lib.SmallJoins
import Derived.LaidMore
import Derived.LaidLaws
import Derived.LaidHandle
import Derived.ChangeSame
import Derived.ChangeVars
import Derived.OpenShut
import Derived.JoinedOf
import Derived.RowKit
import Derived.RowKitTokens
import Derived.Stop.Joined
import Derived.Lib.LaidTab
import Derived.Test.YtkaapfakalojaaaDoorC5
namespace Go.Proofs.YtkaapfakalojaaaDoor
open Go.ChangeShapes Go.WideShapes Go.ChangeAt Go.RowKit
set_option linter.unusedVariables false
set_option maxRecDepth 20000
theorem unwanted_true {ops : List Oper} {o : Oper} {a : Act} {j d : Nat} (hg : o.guard = some (j, true)) (hd : (ops[j]?).bind (·.dst) = some d) (hv : a.tmps.getD d undef = .bool false) :
    ¬ Region.wanted o (yielded ops.toArray a.tmps) = true := by
  have h : a.tmps[d]? = some (.bool false) := by
    rw [Array.getD_eq_getD_getElem?] at hv
    cases ht : a.tmps[d]? with
    | none => rw [ht] at hv; exact absurd hv (by simp [undef])
    | some v => rw [ht] at hv; simpa using hv
  have hy : yielded ops.toArray a.tmps j = some false := by
    unfold yielded
    rw [List.getElem?_toArray, hd]
    simp [h]
  unfold Region.wanted
  rw [hg]
  simp [hy]
/-- What each slot of the region holds. -/
def VA (N : Nat) (op n op2 n2 rx ry : Int) (k k2 : Int) (s s2 : ByteArray) (A A2 : Option Addr) (ln c ln2 c2 : Nat) (tx ty : List Int) (sm : Bool) (d : Nat) (W : World) (v : Value) : Prop :=
  match d with
  | 16 | 25 => v = .agg #[.int .i64 op, .int .u8 k, .int .i64 n, .string s, .slice A ln c]
  | 17 => v = .int .i64 rx
  | 18 | 19 | 22 | 23 | 24 => v = .bool true
  | 20 | 27 => v = .agg #[.int .i64 op2, .int .u8 k2, .int .i64 n2, .string s2, .slice A2 ln2 c2]
  | 21 => v = .int .i64 ry
  | 26 => v = .string (str tx)
  | 28 => v = .string (str ty)
  | 29 | 30 => v = .bool sm
  | 31 | 32 => v = .bool false
  | _ => True
theorem VA.keep (N : Nat) (op n op2 n2 rx ry : Int) (k k2 : Int) (s s2 : ByteArray) (A A2 : Option Addr) (ln c ln2 c2 : Nat) (tx ty : List Int) (sm : Bool) (d : Nat) (W W' : World) (v : Value) (hb : Below W.heap.size W W') (h : VA N op n op2 n2 rx ry k k2 s s2 A A2 ln c ln2 c2 tx ty sm d W v) : VA N op n op2 n2 rx ry k k2 s s2 A A2 ln c ln2 c2 tx ty sm d W' v := by
  unfold VA at *
  split at h
  all_goals first | exact h | (obtain ⟨A, c, rfl, h⟩ := h; exact ⟨A, c, rfl, h.below hb⟩)
/-- What each slot of the region holds. -/
def VB (N : Nat) (op n op2 n2 rx ry : Int) (k k2 : Int) (s s2 : ByteArray) (A A2 : Option Addr) (ln c ln2 c2 : Nat) (tx ty : List Int) (sm : Bool) (d : Nat) (W : World) (v : Value) : Prop :=
  match d with
  | 16 => v = .agg #[.int .i64 op, .int .u8 k, .int .i64 n, .string s, .slice A ln c]
  | 17 => v = .int .i64 rx
  | 18 | 19 => v = .bool true
  | 20 => v = .agg #[.int .i64 op2, .int .u8 k2, .int .i64 n2, .string s2, .slice A2 ln2 c2]
  | 21 => v = .int .i64 ry
  | 22 | 23 | 24 | 32 => v = .bool false
  | 25 | 26 | 27 | 28 | 29 | 30 | 31 => v = undef
  | _ => True
theorem VB.keep (N : Nat) (op n op2 n2 rx ry : Int) (k k2 : Int) (s s2 : ByteArray) (A A2 : Option Addr) (ln c ln2 c2 : Nat) (tx ty : List Int) (sm : Bool) (d : Nat) (W W' : World) (v : Value) (hb : Below W.heap.size W W') (h : VB N op n op2 n2 rx ry k k2 s s2 A A2 ln c ln2 c2 tx ty sm d W v) : VB N op n op2 n2 rx ry k k2 s s2 A A2 ln c ln2 c2 tx ty sm d W' v := by
  unfold VB at *
  split at h
  all_goals first | exact h | (obtain ⟨A, c, rfl, h⟩ := h; exact ⟨A, c, rfl, h.below hb⟩)
/-- What each slot of the region holds. -/
def VC (N : Nat) (op n op2 n2 rx ry : Int) (k k2 : Int) (s s2 : ByteArray) (A A2 : Option Addr) (ln c ln2 c2 : Nat) (tx ty : List Int) (sm : Bool) (d : Nat) (W : World) (v : Value) : Prop :=
  match d with
  | 16 => v = .agg #[.int .i64 op, .int .u8 k, .int .i64 n, .string s, .slice A ln c]
  | 17 => v = .int .i64 rx
  | 18 | 19 | 23 | 24 | 32 => v = .bool false
  | 20 | 21 | 22 | 25 | 26 | 27 | 28 | 29 | 30 | 31 => v = undef
  | _ => True
theorem VC.keep (N : Nat) (op n op2 n2 rx ry : Int) (k k2 : Int) (s s2 : ByteArray) (A A2 : Option Addr) (ln c ln2 c2 : Nat) (tx ty : List Int) (sm : Bool) (d : Nat) (W W' : World) (v : Value) (hb : Below W.heap.size W W') (h : VC N op n op2 n2 rx ry k k2 s s2 A A2 ln c ln2 c2 tx ty sm d W v) : VC N op n op2 n2 rx ry k k2 s s2 A A2 ln c ln2 c2 tx ty sm d W' v := by
  unfold VC at *
  split at h
  all_goals first | exact h | (obtain ⟨A, c, rfl, h⟩ := h; exact ⟨A, c, rfl, h.below hb⟩)

def RelZ (w1 : World) (v : Value) (wr : World) : Prop := v = .bool false ∧ Below w1.heap.size w1 wr
theorem nameOf_isB (op : Int) : IsB (nameOf op) := by
  have h : ∀ k : Fin 28, ∀ x ∈ names.getD k.val [], 0 ≤ x ∧ x ≤ 255 := by decide +kernel
  intro x hx
  unfold nameOf at hx
  split at hx
  · by_cases hk : op.toNat < 28
    · exact h ⟨op.toNat, hk⟩ x hx
    · rw [List.getD, List.getElem?_eq_none (by show 28 ≤ op.toNat; omega)] at hx; cases hx
  · cases hx
theorem qch_isB {c : Int} (h0 : 0 ≤ c ∧ c ≤ 255) : IsB (qch c) := by
  intro x hx
  unfold qch hexd at hx
  split at hx
  · simp only [List.mem_cons, List.not_mem_nil, or_false] at hx
    rcases hx with rfl | rfl | rfl | rfl
    · omega
    · omega
    · split <;> omega
    · split <;> omega
  · split at hx
    · simp only [List.mem_cons, List.not_mem_nil, or_false] at hx
      rcases hx with rfl | rfl <;> omega
    · simp only [List.mem_cons, List.not_mem_nil, or_false] at hx
      subst hx; omega
theorem quote_isB {s : List Int} (h : IsB s) : IsB (quote s) := by
  intro x hx
  simp only [quote, List.mem_append, List.mem_cons, List.not_mem_nil, or_false, List.mem_flatMap] at hx
  rcases hx with rfl | ⟨c, hc, hx⟩ | rfl
  · omega
  · exact qch_isB (h c hc) x hx
  · omega
theorem text_isB : ∀ e : Ex, e.Good → IsB e.text := by
  intro e
  induction e using Ex.ind with
  | h op v A c l ih =>
    intro hg
    simp only [Ex.Good] at hg
    have key : ∀ l : List Ex, (∀ e ∈ l, IsB e.text) → IsB (textL l) := by
      intro l
      induction l with
      | nil => intro _ x hx; simp [textL] at hx
      | cons e l ihl =>
        intro h
        simp only [textL]
        exact IsB.append (IsB.append (show IsB [32] from fun x hx => by simp at hx; omega) (h e (by simp))) (ihl fun y hy => h y (by simp [hy]))
    have hk := key l fun e he => ih e he (goodL_mem hg.2.2 e he)
    simp only [Ex.text]
    split
    · split
      · exact num10_isB _
      · exact quote_isB (sl_bytes _)
    · split
      · exact nameOf_isB _
      · exact IsB.append (IsB.append (IsB.append (show IsB [40] from fun x hx => by simp at hx; omega) (nameOf_isB _)) hk) (show IsB [41] from fun x hx => by simp at hx; omega)
set_option maxRecDepth 100000 in
set_option maxHeartbeats 8000000 in
theorem sames_walk (x y : Ex) (w : World) (hgx : x.Good) (hgy : y.Good) (hAx : x.At w) (hAy : y.At w) (hP : P9 w) : Calls Tryd.prog 4 #[x.v, y.v] w fun e w' => e = .returned (.bool true) ∧ Below w.heap.size w w' := by
  have hB1 := below_two w (.cells #[.int .i64 x.op, .int .u8 x.vl.k, .int .i64 x.vl.n, .string x.vl.s, .slice x.adr x.args.length x.cp] 26) (.cells #[.int .i64 y.op, .int .u8 y.vl.k, .int .i64 y.vl.n, .string y.vl.s, .slice y.adr y.args.length y.cp] 26)
  have bx := (Blk.new w #[.int .i64 x.op, .int .u8 x.vl.k, .int .i64 x.vl.n, .string x.vl.s, .slice x.adr x.args.length x.cp] 26).alloc (.cells #[.int .i64 y.op, .int .u8 y.vl.k, .int .i64 y.vl.n, .string y.vl.s, .slice y.adr y.args.length y.cp] 26)
  have b_y := Blk.newAt (w.alloc (.cells #[.int .i64 x.op, .int .u8 x.vl.k, .int .i64 x.vl.n, .string x.vl.s, .slice x.adr x.args.length x.cp] 26)) #[.int .i64 y.op, .int .u8 y.vl.k, .int .i64 y.vl.n, .string y.vl.s, .slice y.adr y.args.length y.cp] 26 (g := w.heap.size + 1) (by simp)
  obtain ⟨i0, i1, i2, i3, i4⟩ := bx.cells5
  obtain ⟨j0, j1, j2, j3, j4⟩ := b_y.cells5
  have HLV := Lib.hid (fun W (hW : Below w.heap.size w W) => hP.live W hW)
  have HBX := Lib.hid (fun W (hW : Below w.heap.size w W) => rbig_calls x W hgx (hAx.below hW))
  have HBY := Lib.hid (fun W (hW : Below w.heap.size w W) => rbig_calls y W hgy (hAy.below hW))
  by_cases hbx : x.weigh 3000 < 0
  · have hb9 : decide (x.weigh 3000 < 0) = true := decide_eq_true hbx
    rw [hb9] at HBX
    unfold Ex.v at HBX HBY ⊢
    generalize x.op = op at *
    generalize x.vl.k = k at *
    generalize x.vl.n = n at *
    generalize x.vl.s = s at *
    generalize x.adr = A at *
    generalize x.args.length = ln at *
    generalize x.cp = c at *
    generalize y.op = op2 at *
    generalize y.vl.k = k2 at *
    generalize y.vl.n = n2 at *
    generalize y.vl.s = s2 at *
    generalize y.adr = A2 at *
    generalize y.args.length = ln2 at *
    generalize y.cp = c2 at *
    have HB0 := Lib.hid hB1
    have HX0 := Lib.hid bx
    have HY0 := Lib.hid b_y
    clear hgx hgy hAx hAy hP hbx hb9 hB1 bx b_y
    go_enter Tryd.func4, Tryd.ntmps4
    go_wp2_with fail
    refine (HBX.out _ HB0.out).mono ?_
    rintro e w1 ⟨rfl, hb1⟩
    obtain ⟨i0, i1, i2, i3, i4⟩ := (HX0.out.belowAll hb1).cells5
    obtain ⟨j0, j1, j2, j3, j4⟩ := (HY0.out.belowAll hb1).cells5
    have HX1 := Lib.hid (HX0.out.belowAll hb1)
    have HY1 := Lib.hid (HY0.out.belowAll hb1)
    have HB1 := Lib.hid (HB0.out.trans (hb1.mono (Nat.le_of_lt HX0.out.lt)))
    clear hb1
    dsimp only
    go_wp2_with fail
    refine (HLV.out _ HB1.out).mono ?_
    rintro e w9 ⟨rfl, hb9⟩
    dsimp only
    go_wp2
    go_ret
    exact ⟨rfl, HB1.out.trans (hb9.mono HB1.out.size)⟩
  by_cases hby : y.weigh 3000 < 0
  · have hb9 : decide (x.weigh 3000 < 0) = false := decide_eq_false hbx
    have hb8 : decide (y.weigh 3000 < 0) = true := decide_eq_true hby
    rw [hb9] at HBX
    rw [hb8] at HBY
    unfold Ex.v at HBX HBY ⊢
    generalize x.op = op at *
    generalize x.vl.k = k at *
    generalize x.vl.n = n at *
    generalize x.vl.s = s at *
    generalize x.adr = A at *
    generalize x.args.length = ln at *
    generalize x.cp = c at *
    generalize y.op = op2 at *
    generalize y.vl.k = k2 at *
    generalize y.vl.n = n2 at *
    generalize y.vl.s = s2 at *
    generalize y.adr = A2 at *
    generalize y.args.length = ln2 at *
    generalize y.cp = c2 at *
    have HB0 := Lib.hid hB1
    have HX0 := Lib.hid bx
    have HY0 := Lib.hid b_y
    clear hgx hgy hAx hAy hP hbx hby hb8 hb9 hB1 bx b_y
    go_enter Tryd.func4, Tryd.ntmps4
    go_wp2_with fail
    refine (HBX.out _ HB0.out).mono ?_
    rintro e w1 ⟨rfl, hb1⟩
    obtain ⟨i0, i1, i2, i3, i4⟩ := (HX0.out.belowAll hb1).cells5
    obtain ⟨j0, j1, j2, j3, j4⟩ := (HY0.out.belowAll hb1).cells5
    have HX1 := Lib.hid (HX0.out.belowAll hb1)
    have HY1 := Lib.hid (HY0.out.belowAll hb1)
    have HB1 := Lib.hid (HB0.out.trans (hb1.mono (Nat.le_of_lt HX0.out.lt)))
    clear hb1
    dsimp only
    go_wp2_with fail
    refine (HBY.out _ HB1.out).mono ?_
    rintro e w2 ⟨rfl, hb2⟩
    obtain ⟨i0, i1, i2, i3, i4⟩ := (HX1.out.belowAll hb2).cells5
    obtain ⟨j0, j1, j2, j3, j4⟩ := (HY1.out.belowAll hb2).cells5
    have HX2 := Lib.hid (HX1.out.belowAll hb2)
    have HY2 := Lib.hid (HY1.out.belowAll hb2)
    have HB2 := Lib.hid (HB1.out.trans (hb2.mono (Nat.le_of_lt HX1.out.lt)))
    clear hb2
    dsimp only
    go_wp2_with fail
    refine (HLV.out _ HB2.out).mono ?_
    rintro e w9 ⟨rfl, hb9⟩
    dsimp only
    go_wp2
    go_ret
    exact ⟨rfl, HB2.out.trans (hb9.mono HB2.out.size)⟩
  have hb9 : decide (x.weigh 3000 < 0) = false := decide_eq_false hbx
  have hb8 : decide (y.weigh 3000 < 0) = false := decide_eq_false hby
  rw [hb9] at HBX
  rw [hb8] at HBY
  have hsx := not_big hbx
  have hsy := not_big hby
  have hzx : x.size ≤ 3000 := by have := txt_nonneg x; omega
  have hzy : y.size ≤ 3000 := by have := txt_nonneg y; omega
  have HSM := Lib.hid (fun W (hW : Below w.heap.size w W) => rsame_calls x y W hzx hgx hgy (hAx.below hW) (hAy.below hW))
  have HPS := Lib.hid (fun W (hW : Below w.heap.size w W) => hP.same x y W hW hsx hsy hgx hgy (hAx.below hW) (hAy.below hW))
  have HPR := Lib.hid (fun W (hW : Below w.heap.size w W) => hP.same x x W hW hsx hsx hgx hgx (hAx.below hW) (hAx.below hW))
  rw [same_refl x] at HPR
  have HRX := Lib.hid (fun W (hW : Below w.heap.size w W) => rright_calls x W hzx hgx (hAx.below hW))
  have HRY := Lib.hid (fun W (hW : Below w.heap.size w W) => rright_calls y W hzy hgy (hAy.below hW))
  have HTX := Lib.hid (fun W (hW : Below w.heap.size w W) => hP.text x W hW hsx hgx (hAx.below hW))
  have HTY := Lib.hid (fun W (hW : Below w.heap.size w W) => hP.text y W hW hsy hgy (hAy.below hW))
  have HTT := Lib.hid (show x.right = 0 → y.right = 0 → ((str x.text).toList == (str y.text).toList) = x.same y from fun h1 h2 => by
    have h3 := text_iff x y (right_ok h1) (right_ok h2)
    cases hs : x.same y with
    | true => rw [h3.2 hs]; simp
    | false =>
      have h4 : x.text ≠ y.text := fun h => by rw [h3.1 h] at hs; cases hs
      exact toList_beq_false fun h => h4 (str_inj (text_isB x hgx) (text_isB y hgy) h))
  unfold Ex.v at HBX HBY HSM HPS HPR HRX HRY HTX HTY ⊢
  generalize x.same y = sm at *
  generalize x.right = rx at *
  generalize y.right = ry at *
  generalize x.text = tx at *
  generalize y.text = ty at *
  generalize x.op = op at *
  generalize x.vl.k = k at *
  generalize x.vl.n = n at *
  generalize x.vl.s = s at *
  generalize x.adr = A at *
  generalize x.args.length = ln at *
  generalize x.cp = c at *
  generalize y.op = op2 at *
  generalize y.vl.k = k2 at *
  generalize y.vl.n = n2 at *
  generalize y.vl.s = s2 at *
  generalize y.adr = A2 at *
  generalize y.args.length = ln2 at *
  generalize y.cp = c2 at *
  have HB0 := Lib.hid hB1
  have HX0 := Lib.hid bx
  have HY0 := Lib.hid b_y
  clear hgx hgy hAx hAy hP hbx hby hb8 hb9 hB1 bx b_y hsx hsy hzx hzy
  go_enter Tryd.func4, Tryd.ntmps4
  go_wp2_with fail
  refine (HBX.out _ HB0.out).mono ?_
  rintro e w2 ⟨rfl, hb2⟩
  obtain ⟨i0, i1, i2, i3, i4⟩ := (HX0.out.belowAll hb2).cells5
  obtain ⟨j0, j1, j2, j3, j4⟩ := (HY0.out.belowAll hb2).cells5
  have HX2 := Lib.hid (HX0.out.belowAll hb2)
  have HY2 := Lib.hid (HY0.out.belowAll hb2)
  have HB2 := Lib.hid (HB0.out.trans (hb2.mono (Nat.le_of_lt HX0.out.lt)))
  clear hb2
  dsimp only
  go_wp2_with fail
  refine (HBY.out _ HB2.out).mono ?_
  rintro e w3 ⟨rfl, hb3⟩
  obtain ⟨i0, i1, i2, i3, i4⟩ := (HX2.out.belowAll hb3).cells5
  obtain ⟨j0, j1, j2, j3, j4⟩ := (HY2.out.belowAll hb3).cells5
  have HX3 := Lib.hid (HX2.out.belowAll hb3)
  have HY3 := Lib.hid (HY2.out.belowAll hb3)
  have HB3 := Lib.hid (HB2.out.trans (hb3.mono (Nat.le_of_lt HX2.out.lt)))
  clear hb3
  dsimp only
  go_wp2_with fail
  refine (HSM.out _ HB3.out).mono ?_
  rintro e w1 ⟨rfl, hb1⟩
  obtain ⟨i0, i1, i2, i3, i4⟩ := (HX3.out.belowAll hb1).cells5
  obtain ⟨j0, j1, j2, j3, j4⟩ := (HY3.out.belowAll hb1).cells5
  have HX1 := Lib.hid (HX3.out.belowAll hb1)
  have HY1 := Lib.hid (HY3.out.belowAll hb1)
  have HB1 := Lib.hid (HB3.out.trans (hb1.mono (Nat.le_of_lt HX3.out.lt)))
  clear hb1
  dsimp only
  go_upto_region 4 with fail
  have HX := Lib.hid (fun (W : World) (hW : Below w1.heap.size w1 W) => HX1.out.belowAll hW)
  have HY := Lib.hid (fun (W : World) (hW : Below w1.heap.size w1 W) => HY1.out.belowAll hW)
  have HBE := Lib.hid (fun (W : World) (hW : Below w1.heap.size w1 W) => HB1.out.trans (hW.mono HB1.out.size))
  have hB0 : Below w1.heap.size w1 w1.drew := below_drew _
  generalize hN : w.heap.size = N at *
  have HNN := Lib.hid hN
  clear hN
  go_cut [32] from 16 to 32 (RelZ w1)
  case first =>
    by_cases hrx : rx = 0
    · have QX := Lib.hid (show (rx == 0) = true by simpa using hrx)
      by_cases hry : ry = 0
      · have QY := Lib.hid (show (ry == 0) = true by simpa using hry)
        have QT := Lib.hid (HTT.out hrx hry)
        clear hrx hry
        refine wp_region_inv (by kernel_rfl) (fun W => Below w1.heap.size w1 W) (fun W W' => Below W.heap.size W W') (VA N op n op2 n2 rx ry k k2 s s2 A A2 ln c ln2 c2 tx ty sm) [[], [16], [17], [18], [19], [20, 19], [21, 19], [19, 22], [23], [24], [25, 24], [24], [27, 24], [26, 28, 24], [24], [29, 30, 24], [24, 31]] (by kernel_rfl) (fun W => Below.refl _ _) (fun d W W' v => VA.keep N op n op2 n2 rx ry k k2 s s2 A A2 ln c ln2 c2 tx ty sm d W W' v) hB0 ?_ ?_
        · refine ⟨?_, ?_, ?_, ?_, ?_, ?_, ?_, ?_, ?_, ?_, ?_, ?_, ?_, ?_, ?_, ?_, ?_, trivial⟩
          · intro a W hI hsame ht
            have h2 := hsame 2 (by decide)
            change a.tmps.getD 2 undef = .pointer (some ⟨N, 0, none⟩) at h2
            rw [if_pos (by rfl)]
            clear hsame
            obtain ⟨x0, x1, x2, x3, x4⟩ := (HX.out W hI).cells5
            unfold Oper.wp
            go_simp
            exact ⟨_, rfl, hI, Below.refl _ _, fun d hd => by cases hd; exact rfl⟩
          · intro a W hI hsame ht
            obtain ⟨h16, _⟩ := ht
            change a.tmps.getD 16 undef = .agg #[.int .i64 op, .int .u8 k, .int .i64 n, .string s, .slice A ln c] at h16
            rw [if_pos (by rfl)]
            clear hsame
            unfold Oper.wp
            go_simp
            refine (HRX.out W (HBE.out W hI)).mono ?_
            rintro e' W' ⟨rfl, hb⟩
            exact ⟨_, rfl, Below.on hI hb, hb, fun d hd => by cases hd; exact rfl⟩
          · intro a W hI hsame ht
            obtain ⟨h17, _⟩ := ht
            change a.tmps.getD 17 undef = .int .i64 rx at h17
            rw [if_pos (by rfl)]
            clear hsame
            have q1 := QX.out
            unfold Oper.wp
            go_simp
            exact ⟨_, rfl, hI, Below.refl _ _, fun d hd => by cases hd; exact rfl⟩
          · intro a W hI hsame ht
            obtain ⟨h18, _⟩ := ht
            change a.tmps.getD 18 undef = .bool true at h18
            rw [if_pos (by rfl)]
            clear hsame
            unfold Oper.wp
            go_simp
            exact ⟨_, rfl, hI, Below.refl _ _, fun d hd => by cases hd; exact rfl⟩
          · intro a W hI hsame ht
            obtain ⟨h19, _⟩ := ht
            change a.tmps.getD 19 undef = .bool true at h19
            have h3 := hsame 3 (by decide)
            change a.tmps.getD 3 undef = .pointer (some ⟨N + 1, 0, none⟩) at h3
            rw [if_pos (wanted_true (j := 3) (d := 19) rfl rfl h19)]
            clear hsame
            obtain ⟨x0, x1, x2, x3, x4⟩ := (HY.out W hI).cells5
            unfold Oper.wp
            go_simp
            exact ⟨_, rfl, hI, Below.refl _ _, fun d hd => by cases hd; exact rfl⟩
          · intro a W hI hsame ht
            obtain ⟨h20, h19, _⟩ := ht
            change a.tmps.getD 20 undef = .agg #[.int .i64 op2, .int .u8 k2, .int .i64 n2, .string s2, .slice A2 ln2 c2] at h20
            change a.tmps.getD 19 undef = .bool true at h19
            rw [if_pos (wanted_true (j := 3) (d := 19) rfl rfl h19)]
            clear hsame
            unfold Oper.wp
            go_simp
            refine (HRY.out W (HBE.out W hI)).mono ?_
            rintro e' W' ⟨rfl, hb⟩
            exact ⟨_, rfl, Below.on hI hb, hb, fun d hd => by cases hd; exact rfl⟩
          · intro a W hI hsame ht
            obtain ⟨h21, h19, _⟩ := ht
            change a.tmps.getD 21 undef = .int .i64 ry at h21
            change a.tmps.getD 19 undef = .bool true at h19
            rw [if_pos (wanted_true (j := 3) (d := 19) rfl rfl h19)]
            clear hsame
            have q1 := QY.out
            unfold Oper.wp
            go_simp
            exact ⟨_, rfl, hI, Below.refl _ _, fun d hd => by cases hd; exact rfl⟩
          · intro a W hI hsame ht
            obtain ⟨h19, h22, _⟩ := ht
            change a.tmps.getD 19 undef = .bool true at h19
            change a.tmps.getD 22 undef = .bool true at h22
            rw [if_pos (by rfl)]
            clear hsame
            unfold Oper.wp
            go_simp
            exact ⟨_, rfl, hI, Below.refl _ _, fun d hd => by cases hd; exact rfl⟩
          · intro a W hI hsame ht
            obtain ⟨h23, _⟩ := ht
            change a.tmps.getD 23 undef = .bool true at h23
            rw [if_pos (by rfl)]
            clear hsame
            unfold Oper.wp
            go_simp
            exact ⟨_, rfl, hI, Below.refl _ _, fun d hd => by cases hd; exact rfl⟩
          · intro a W hI hsame ht
            obtain ⟨h24, _⟩ := ht
            change a.tmps.getD 24 undef = .bool true at h24
            have h2 := hsame 2 (by decide)
            change a.tmps.getD 2 undef = .pointer (some ⟨N, 0, none⟩) at h2
            rw [if_pos (wanted_true (j := 8) (d := 24) rfl rfl h24)]
            clear hsame
            obtain ⟨x0, x1, x2, x3, x4⟩ := (HX.out W hI).cells5
            unfold Oper.wp
            go_simp
            exact ⟨_, rfl, hI, Below.refl _ _, fun d hd => by cases hd; exact rfl⟩
          · intro a W hI hsame ht
            obtain ⟨h25, h24, _⟩ := ht
            change a.tmps.getD 25 undef = .agg #[.int .i64 op, .int .u8 k, .int .i64 n, .string s, .slice A ln c] at h25
            change a.tmps.getD 24 undef = .bool true at h24
            rw [if_pos (wanted_true (j := 8) (d := 24) rfl rfl h24)]
            clear hsame
            unfold Oper.wp
            go_simp
            refine (HTX.out W (HBE.out W hI)).mono ?_
            rintro e' W' ⟨rfl, hb⟩
            exact ⟨_, rfl, Below.on hI hb, hb, fun d hd => by cases hd; exact rfl⟩
          · intro a W hI hsame ht
            obtain ⟨h24, _⟩ := ht
            change a.tmps.getD 24 undef = .bool true at h24
            have h3 := hsame 3 (by decide)
            change a.tmps.getD 3 undef = .pointer (some ⟨N + 1, 0, none⟩) at h3
            rw [if_pos (wanted_true (j := 8) (d := 24) rfl rfl h24)]
            clear hsame
            obtain ⟨x0, x1, x2, x3, x4⟩ := (HY.out W hI).cells5
            unfold Oper.wp
            go_simp
            exact ⟨_, rfl, hI, Below.refl _ _, fun d hd => by cases hd; exact rfl⟩
          · intro a W hI hsame ht
            obtain ⟨h27, h24, _⟩ := ht
            change a.tmps.getD 27 undef = .agg #[.int .i64 op2, .int .u8 k2, .int .i64 n2, .string s2, .slice A2 ln2 c2] at h27
            change a.tmps.getD 24 undef = .bool true at h24
            rw [if_pos (wanted_true (j := 8) (d := 24) rfl rfl h24)]
            clear hsame
            unfold Oper.wp
            go_simp
            refine (HTY.out W (HBE.out W hI)).mono ?_
            rintro e' W' ⟨rfl, hb⟩
            exact ⟨_, rfl, Below.on hI hb, hb, fun d hd => by cases hd; exact rfl⟩
          · intro a W hI hsame ht
            obtain ⟨h26, h28, h24, _⟩ := ht
            change a.tmps.getD 26 undef = .string (str tx) at h26
            change a.tmps.getD 28 undef = .string (str ty) at h28
            change a.tmps.getD 24 undef = .bool true at h24
            rw [if_pos (wanted_true (j := 8) (d := 24) rfl rfl h24)]
            clear hsame
            have q1 := QT.out
            unfold Oper.wp
            go_simp
            exact ⟨_, rfl, hI, Below.refl _ _, fun d hd => by cases hd; exact rfl⟩
          · intro a W hI hsame ht
            obtain ⟨h24, _⟩ := ht
            change a.tmps.getD 24 undef = .bool true at h24
            have h5 := hsame 5 (by decide)
            change a.tmps.getD 5 undef = .bool sm at h5
            rw [if_pos (wanted_true (j := 8) (d := 24) rfl rfl h24)]
            clear hsame
            unfold Oper.wp
            go_simp
            exact ⟨_, rfl, hI, Below.refl _ _, fun d hd => by cases hd; exact rfl⟩
          · intro a W hI hsame ht
            obtain ⟨h29, h30, h24, _⟩ := ht
            change a.tmps.getD 29 undef = .bool sm at h29
            change a.tmps.getD 30 undef = .bool sm at h30
            change a.tmps.getD 24 undef = .bool true at h24
            rw [if_pos (wanted_true (j := 8) (d := 24) rfl rfl h24)]
            clear hsame
            have q1 : (sm != sm) = false := by simp
            unfold Oper.wp
            go_simp
            exact ⟨_, rfl, hI, Below.refl _ _, fun d hd => by cases hd; exact rfl⟩
          · intro a W hI hsame ht
            obtain ⟨h24, h31, _⟩ := ht
            change a.tmps.getD 24 undef = .bool true at h24
            change a.tmps.getD 31 undef = .bool false at h31
            rw [if_pos (by rfl)]
            clear hsame
            unfold Oper.wp
            go_simp
            exact ⟨_, rfl, hI, Below.refl _ _, fun d hd => by cases hd; exact rfl⟩
        · intro a W hI hsz hdef hsame hall
          have h16 := hall 16 (by decide)
          change a.tmps.getD 16 undef = .agg #[.int .i64 op, .int .u8 k, .int .i64 n, .string s, .slice A ln c] at h16
          have h17 := hall 17 (by decide)
          change a.tmps.getD 17 undef = .int .i64 rx at h17
          have h18 := hall 18 (by decide)
          change a.tmps.getD 18 undef = .bool true at h18
          have h19 := hall 19 (by decide)
          change a.tmps.getD 19 undef = .bool true at h19
          have h20 := hall 20 (by decide)
          change a.tmps.getD 20 undef = .agg #[.int .i64 op2, .int .u8 k2, .int .i64 n2, .string s2, .slice A2 ln2 c2] at h20
          have h21 := hall 21 (by decide)
          change a.tmps.getD 21 undef = .int .i64 ry at h21
          have h22 := hall 22 (by decide)
          change a.tmps.getD 22 undef = .bool true at h22
          have h23 := hall 23 (by decide)
          change a.tmps.getD 23 undef = .bool true at h23
          have h24 := hall 24 (by decide)
          change a.tmps.getD 24 undef = .bool true at h24
          have h25 := hall 25 (by decide)
          change a.tmps.getD 25 undef = .agg #[.int .i64 op, .int .u8 k, .int .i64 n, .string s, .slice A ln c] at h25
          have h26 := hall 26 (by decide)
          change a.tmps.getD 26 undef = .string (str tx) at h26
          have h27 := hall 27 (by decide)
          change a.tmps.getD 27 undef = .agg #[.int .i64 op2, .int .u8 k2, .int .i64 n2, .string s2, .slice A2 ln2 c2] at h27
          have h28 := hall 28 (by decide)
          change a.tmps.getD 28 undef = .string (str ty) at h28
          have h29 := hall 29 (by decide)
          change a.tmps.getD 29 undef = .bool sm at h29
          have h30 := hall 30 (by decide)
          change a.tmps.getD 30 undef = .bool sm at h30
          have h31 := hall 31 (by decide)
          change a.tmps.getD 31 undef = .bool false at h31
          have h32 := hall 32 (by decide)
          change a.tmps.getD 32 undef = .bool false at h32
          have hact := act_of (l := [_, _, _, _, _, _, _, _, _, _, _, _, _, _, _, _, _, _, _, _, _, _, _, _, _, _, _, _, _, _, _, _, _, _, _, _, _, _, _, _, _, _, _, _, _, _]) (ds := []) (by exact hsz) hdef ⟨hsame 0 (by decide), hsame 1 (by decide), hsame 2 (by decide), hsame 3 (by decide), hsame 4 (by decide), hsame 5 (by decide), hsame 6 (by decide), hsame 7 (by decide), hsame 8 (by decide), hsame 9 (by decide), hsame 10 (by decide), hsame 11 (by decide), hsame 12 (by decide), hsame 13 (by decide), hsame 14 (by decide), hsame 15 (by decide), h16, h17, h18, h19, h20, h21, h22, h23, h24, h25, h26, h27, h28, h29, h30, h31, h32, hsame 33 (by decide), hsame 34 (by decide), hsame 35 (by decide), hsame 36 (by decide), hsame 37 (by decide), hsame 38 (by decide), hsame 39 (by decide), hsame 40 (by decide), hsame 41 (by decide), hsame 42 (by decide), hsame 43 (by decide), hsame 44 (by decide), hsame 45 (by decide), trivial⟩
          clear hall hsame hsz hdef h16 h17 h18 h19 h20 h21 h22 h23 h24 h25 h26 h27 h28 h29 h30 h31 h32
          subst hact
          go_wp2
          go_meet
          exact ⟨rfl, hI⟩
      · have QY := Lib.hid (show (ry == 0) = false by simpa using hry)
        clear hrx hry
        refine wp_region_inv (by kernel_rfl) (fun W => Below w1.heap.size w1 W) (fun W W' => Below W.heap.size W W') (VB N op n op2 n2 rx ry k k2 s s2 A A2 ln c ln2 c2 tx ty sm) [[], [16], [17], [18], [19], [20, 19], [21, 19], [19, 22], [23], [24], [25, 24], [24], [27, 24], [26, 28, 24], [24], [29, 30, 24], [24, 31]] (by kernel_rfl) (fun W => Below.refl _ _) (fun d W W' v => VB.keep N op n op2 n2 rx ry k k2 s s2 A A2 ln c ln2 c2 tx ty sm d W W' v) hB0 ?_ ?_
        · refine ⟨?_, ?_, ?_, ?_, ?_, ?_, ?_, ?_, ?_, ?_, ?_, ?_, ?_, ?_, ?_, ?_, ?_, trivial⟩
          · intro a W hI hsame ht
            have h2 := hsame 2 (by decide)
            change a.tmps.getD 2 undef = .pointer (some ⟨N, 0, none⟩) at h2
            rw [if_pos (by rfl)]
            clear hsame
            obtain ⟨x0, x1, x2, x3, x4⟩ := (HX.out W hI).cells5
            unfold Oper.wp
            go_simp
            exact ⟨_, rfl, hI, Below.refl _ _, fun d hd => by cases hd; exact rfl⟩
          · intro a W hI hsame ht
            obtain ⟨h16, _⟩ := ht
            change a.tmps.getD 16 undef = .agg #[.int .i64 op, .int .u8 k, .int .i64 n, .string s, .slice A ln c] at h16
            rw [if_pos (by rfl)]
            clear hsame
            unfold Oper.wp
            go_simp
            refine (HRX.out W (HBE.out W hI)).mono ?_
            rintro e' W' ⟨rfl, hb⟩
            exact ⟨_, rfl, Below.on hI hb, hb, fun d hd => by cases hd; exact rfl⟩
          · intro a W hI hsame ht
            obtain ⟨h17, _⟩ := ht
            change a.tmps.getD 17 undef = .int .i64 rx at h17
            rw [if_pos (by rfl)]
            clear hsame
            have q1 := QX.out
            unfold Oper.wp
            go_simp
            exact ⟨_, rfl, hI, Below.refl _ _, fun d hd => by cases hd; exact rfl⟩
          · intro a W hI hsame ht
            obtain ⟨h18, _⟩ := ht
            change a.tmps.getD 18 undef = .bool true at h18
            rw [if_pos (by rfl)]
            clear hsame
            unfold Oper.wp
            go_simp
            exact ⟨_, rfl, hI, Below.refl _ _, fun d hd => by cases hd; exact rfl⟩
          · intro a W hI hsame ht
            obtain ⟨h19, _⟩ := ht
            change a.tmps.getD 19 undef = .bool true at h19
            have h3 := hsame 3 (by decide)
            change a.tmps.getD 3 undef = .pointer (some ⟨N + 1, 0, none⟩) at h3
            rw [if_pos (wanted_true (j := 3) (d := 19) rfl rfl h19)]
            clear hsame
            obtain ⟨x0, x1, x2, x3, x4⟩ := (HY.out W hI).cells5
            unfold Oper.wp
            go_simp
            exact ⟨_, rfl, hI, Below.refl _ _, fun d hd => by cases hd; exact rfl⟩
          · intro a W hI hsame ht
            obtain ⟨h20, h19, _⟩ := ht
            change a.tmps.getD 20 undef = .agg #[.int .i64 op2, .int .u8 k2, .int .i64 n2, .string s2, .slice A2 ln2 c2] at h20
            change a.tmps.getD 19 undef = .bool true at h19
            rw [if_pos (wanted_true (j := 3) (d := 19) rfl rfl h19)]
            clear hsame
            unfold Oper.wp
            go_simp
            refine (HRY.out W (HBE.out W hI)).mono ?_
            rintro e' W' ⟨rfl, hb⟩
            exact ⟨_, rfl, Below.on hI hb, hb, fun d hd => by cases hd; exact rfl⟩
          · intro a W hI hsame ht
            obtain ⟨h21, h19, _⟩ := ht
            change a.tmps.getD 21 undef = .int .i64 ry at h21
            change a.tmps.getD 19 undef = .bool true at h19
            rw [if_pos (wanted_true (j := 3) (d := 19) rfl rfl h19)]
            clear hsame
            have q1 := QY.out
            unfold Oper.wp
            go_simp
            exact ⟨_, rfl, hI, Below.refl _ _, fun d hd => by cases hd; exact rfl⟩
          · intro a W hI hsame ht
            obtain ⟨h19, h22, _⟩ := ht
            change a.tmps.getD 19 undef = .bool true at h19
            change a.tmps.getD 22 undef = .bool false at h22
            rw [if_pos (by rfl)]
            clear hsame
            unfold Oper.wp
            go_simp
            exact ⟨_, rfl, hI, Below.refl _ _, fun d hd => by cases hd; exact rfl⟩
          · intro a W hI hsame ht
            obtain ⟨h23, _⟩ := ht
            change a.tmps.getD 23 undef = .bool false at h23
            rw [if_pos (by rfl)]
            clear hsame
            unfold Oper.wp
            go_simp
            exact ⟨_, rfl, hI, Below.refl _ _, fun d hd => by cases hd; exact rfl⟩
          · intro a W hI hsame ht
            obtain ⟨h24, _⟩ := ht
            change a.tmps.getD 24 undef = .bool false at h24
            have h2 := hsame 2 (by decide)
            change a.tmps.getD 2 undef = .pointer (some ⟨N, 0, none⟩) at h2
            rw [if_neg (unwanted_true (j := 8) (d := 24) rfl rfl h24)]
            exact fun d hd => by cases hd; exact rfl
          · intro a W hI hsame ht
            obtain ⟨h25, h24, _⟩ := ht
            change a.tmps.getD 25 undef = undef at h25
            change a.tmps.getD 24 undef = .bool false at h24
            rw [if_neg (unwanted_true (j := 8) (d := 24) rfl rfl h24)]
            exact fun d hd => by cases hd; exact rfl
          · intro a W hI hsame ht
            obtain ⟨h24, _⟩ := ht
            change a.tmps.getD 24 undef = .bool false at h24
            have h3 := hsame 3 (by decide)
            change a.tmps.getD 3 undef = .pointer (some ⟨N + 1, 0, none⟩) at h3
            rw [if_neg (unwanted_true (j := 8) (d := 24) rfl rfl h24)]
            exact fun d hd => by cases hd; exact rfl
          · intro a W hI hsame ht
            obtain ⟨h27, h24, _⟩ := ht
            change a.tmps.getD 27 undef = undef at h27
            change a.tmps.getD 24 undef = .bool false at h24
            rw [if_neg (unwanted_true (j := 8) (d := 24) rfl rfl h24)]
            exact fun d hd => by cases hd; exact rfl
          · intro a W hI hsame ht
            obtain ⟨h26, h28, h24, _⟩ := ht
            change a.tmps.getD 26 undef = undef at h26
            change a.tmps.getD 28 undef = undef at h28
            change a.tmps.getD 24 undef = .bool false at h24
            rw [if_neg (unwanted_true (j := 8) (d := 24) rfl rfl h24)]
            exact fun d hd => by cases hd; exact rfl
          · intro a W hI hsame ht
            obtain ⟨h24, _⟩ := ht
            change a.tmps.getD 24 undef = .bool false at h24
            have h5 := hsame 5 (by decide)
            change a.tmps.getD 5 undef = .bool sm at h5
            rw [if_neg (unwanted_true (j := 8) (d := 24) rfl rfl h24)]
            exact fun d hd => by cases hd; exact rfl
          · intro a W hI hsame ht
            obtain ⟨h29, h30, h24, _⟩ := ht
            change a.tmps.getD 29 undef = undef at h29
            change a.tmps.getD 30 undef = undef at h30
            change a.tmps.getD 24 undef = .bool false at h24
            rw [if_neg (unwanted_true (j := 8) (d := 24) rfl rfl h24)]
            exact fun d hd => by cases hd; exact rfl
          · intro a W hI hsame ht
            obtain ⟨h24, h31, _⟩ := ht
            change a.tmps.getD 24 undef = .bool false at h24
            change a.tmps.getD 31 undef = undef at h31
            rw [if_pos (by rfl)]
            clear hsame
            unfold Oper.wp
            go_simp
            exact ⟨_, rfl, hI, Below.refl _ _, fun d hd => by cases hd; exact rfl⟩
        · intro a W hI hsz hdef hsame hall
          have h16 := hall 16 (by decide)
          change a.tmps.getD 16 undef = .agg #[.int .i64 op, .int .u8 k, .int .i64 n, .string s, .slice A ln c] at h16
          have h17 := hall 17 (by decide)
          change a.tmps.getD 17 undef = .int .i64 rx at h17
          have h18 := hall 18 (by decide)
          change a.tmps.getD 18 undef = .bool true at h18
          have h19 := hall 19 (by decide)
          change a.tmps.getD 19 undef = .bool true at h19
          have h20 := hall 20 (by decide)
          change a.tmps.getD 20 undef = .agg #[.int .i64 op2, .int .u8 k2, .int .i64 n2, .string s2, .slice A2 ln2 c2] at h20
          have h21 := hall 21 (by decide)
          change a.tmps.getD 21 undef = .int .i64 ry at h21
          have h22 := hall 22 (by decide)
          change a.tmps.getD 22 undef = .bool false at h22
          have h23 := hall 23 (by decide)
          change a.tmps.getD 23 undef = .bool false at h23
          have h24 := hall 24 (by decide)
          change a.tmps.getD 24 undef = .bool false at h24
          have h25 := hall 25 (by decide)
          change a.tmps.getD 25 undef = undef at h25
          have h26 := hall 26 (by decide)
          change a.tmps.getD 26 undef = undef at h26
          have h27 := hall 27 (by decide)
          change a.tmps.getD 27 undef = undef at h27
          have h28 := hall 28 (by decide)
          change a.tmps.getD 28 undef = undef at h28
          have h29 := hall 29 (by decide)
          change a.tmps.getD 29 undef = undef at h29
          have h30 := hall 30 (by decide)
          change a.tmps.getD 30 undef = undef at h30
          have h31 := hall 31 (by decide)
          change a.tmps.getD 31 undef = undef at h31
          have h32 := hall 32 (by decide)
          change a.tmps.getD 32 undef = .bool false at h32
          have hact := act_of (l := [_, _, _, _, _, _, _, _, _, _, _, _, _, _, _, _, _, _, _, _, _, _, _, _, _, _, _, _, _, _, _, _, _, _, _, _, _, _, _, _, _, _, _, _, _, _]) (ds := []) (by exact hsz) hdef ⟨hsame 0 (by decide), hsame 1 (by decide), hsame 2 (by decide), hsame 3 (by decide), hsame 4 (by decide), hsame 5 (by decide), hsame 6 (by decide), hsame 7 (by decide), hsame 8 (by decide), hsame 9 (by decide), hsame 10 (by decide), hsame 11 (by decide), hsame 12 (by decide), hsame 13 (by decide), hsame 14 (by decide), hsame 15 (by decide), h16, h17, h18, h19, h20, h21, h22, h23, h24, h25, h26, h27, h28, h29, h30, h31, h32, hsame 33 (by decide), hsame 34 (by decide), hsame 35 (by decide), hsame 36 (by decide), hsame 37 (by decide), hsame 38 (by decide), hsame 39 (by decide), hsame 40 (by decide), hsame 41 (by decide), hsame 42 (by decide), hsame 43 (by decide), hsame 44 (by decide), hsame 45 (by decide), trivial⟩
          clear hall hsame hsz hdef h16 h17 h18 h19 h20 h21 h22 h23 h24 h25 h26 h27 h28 h29 h30 h31 h32
          subst hact
          go_wp2
          go_meet
          exact ⟨rfl, hI⟩
    · have QX := Lib.hid (show (rx == 0) = false by simpa using hrx)
      clear hrx
      refine wp_region_inv (by kernel_rfl) (fun W => Below w1.heap.size w1 W) (fun W W' => Below W.heap.size W W') (VC N op n op2 n2 rx ry k k2 s s2 A A2 ln c ln2 c2 tx ty sm) [[], [16], [17], [18], [19], [20, 19], [21, 19], [19, 22], [23], [24], [25, 24], [24], [27, 24], [26, 28, 24], [24], [29, 30, 24], [24, 31]] (by kernel_rfl) (fun W => Below.refl _ _) (fun d W W' v => VC.keep N op n op2 n2 rx ry k k2 s s2 A A2 ln c ln2 c2 tx ty sm d W W' v) hB0 ?_ ?_
      · refine ⟨?_, ?_, ?_, ?_, ?_, ?_, ?_, ?_, ?_, ?_, ?_, ?_, ?_, ?_, ?_, ?_, ?_, trivial⟩
        · intro a W hI hsame ht
          have h2 := hsame 2 (by decide)
          change a.tmps.getD 2 undef = .pointer (some ⟨N, 0, none⟩) at h2
          rw [if_pos (by rfl)]
          clear hsame
          obtain ⟨x0, x1, x2, x3, x4⟩ := (HX.out W hI).cells5
          unfold Oper.wp
          go_simp
          exact ⟨_, rfl, hI, Below.refl _ _, fun d hd => by cases hd; exact rfl⟩
        · intro a W hI hsame ht
          obtain ⟨h16, _⟩ := ht
          change a.tmps.getD 16 undef = .agg #[.int .i64 op, .int .u8 k, .int .i64 n, .string s, .slice A ln c] at h16
          rw [if_pos (by rfl)]
          clear hsame
          unfold Oper.wp
          go_simp
          refine (HRX.out W (HBE.out W hI)).mono ?_
          rintro e' W' ⟨rfl, hb⟩
          exact ⟨_, rfl, Below.on hI hb, hb, fun d hd => by cases hd; exact rfl⟩
        · intro a W hI hsame ht
          obtain ⟨h17, _⟩ := ht
          change a.tmps.getD 17 undef = .int .i64 rx at h17
          rw [if_pos (by rfl)]
          clear hsame
          have q1 := QX.out
          unfold Oper.wp
          go_simp
          exact ⟨_, rfl, hI, Below.refl _ _, fun d hd => by cases hd; exact rfl⟩
        · intro a W hI hsame ht
          obtain ⟨h18, _⟩ := ht
          change a.tmps.getD 18 undef = .bool false at h18
          rw [if_pos (by rfl)]
          clear hsame
          unfold Oper.wp
          go_simp
          exact ⟨_, rfl, hI, Below.refl _ _, fun d hd => by cases hd; exact rfl⟩
        · intro a W hI hsame ht
          obtain ⟨h19, _⟩ := ht
          change a.tmps.getD 19 undef = .bool false at h19
          have h3 := hsame 3 (by decide)
          change a.tmps.getD 3 undef = .pointer (some ⟨N + 1, 0, none⟩) at h3
          rw [if_neg (unwanted_true (j := 3) (d := 19) rfl rfl h19)]
          exact fun d hd => by cases hd; exact rfl
        · intro a W hI hsame ht
          obtain ⟨h20, h19, _⟩ := ht
          change a.tmps.getD 20 undef = undef at h20
          change a.tmps.getD 19 undef = .bool false at h19
          rw [if_neg (unwanted_true (j := 3) (d := 19) rfl rfl h19)]
          exact fun d hd => by cases hd; exact rfl
        · intro a W hI hsame ht
          obtain ⟨h21, h19, _⟩ := ht
          change a.tmps.getD 21 undef = undef at h21
          change a.tmps.getD 19 undef = .bool false at h19
          rw [if_neg (unwanted_true (j := 3) (d := 19) rfl rfl h19)]
          exact fun d hd => by cases hd; exact rfl
        · intro a W hI hsame ht
          obtain ⟨h19, h22, _⟩ := ht
          change a.tmps.getD 19 undef = .bool false at h19
          change a.tmps.getD 22 undef = undef at h22
          rw [if_pos (by rfl)]
          clear hsame
          unfold Oper.wp
          go_simp
          exact ⟨_, rfl, hI, Below.refl _ _, fun d hd => by cases hd; exact rfl⟩
        · intro a W hI hsame ht
          obtain ⟨h23, _⟩ := ht
          change a.tmps.getD 23 undef = .bool false at h23
          rw [if_pos (by rfl)]
          clear hsame
          unfold Oper.wp
          go_simp
          exact ⟨_, rfl, hI, Below.refl _ _, fun d hd => by cases hd; exact rfl⟩
        · intro a W hI hsame ht
          obtain ⟨h24, _⟩ := ht
          change a.tmps.getD 24 undef = .bool false at h24
          have h2 := hsame 2 (by decide)
          change a.tmps.getD 2 undef = .pointer (some ⟨N, 0, none⟩) at h2
          rw [if_neg (unwanted_true (j := 8) (d := 24) rfl rfl h24)]
          exact fun d hd => by cases hd; exact rfl
        · intro a W hI hsame ht
          obtain ⟨h25, h24, _⟩ := ht
          change a.tmps.getD 25 undef = undef at h25
          change a.tmps.getD 24 undef = .bool false at h24
          rw [if_neg (unwanted_true (j := 8) (d := 24) rfl rfl h24)]
          exact fun d hd => by cases hd; exact rfl
        · intro a W hI hsame ht
          obtain ⟨h24, _⟩ := ht
          change a.tmps.getD 24 undef = .bool false at h24
          have h3 := hsame 3 (by decide)
          change a.tmps.getD 3 undef = .pointer (some ⟨N + 1, 0, none⟩) at h3
          rw [if_neg (unwanted_true (j := 8) (d := 24) rfl rfl h24)]
          exact fun d hd => by cases hd; exact rfl
        · intro a W hI hsame ht
          obtain ⟨h27, h24, _⟩ := ht
          change a.tmps.getD 27 undef = undef at h27
          change a.tmps.getD 24 undef = .bool false at h24
          rw [if_neg (unwanted_true (j := 8) (d := 24) rfl rfl h24)]
          exact fun d hd => by cases hd; exact rfl
        · intro a W hI hsame ht
          obtain ⟨h26, h28, h24, _⟩ := ht
          change a.tmps.getD 26 undef = undef at h26
          change a.tmps.getD 28 undef = undef at h28
          change a.tmps.getD 24 undef = .bool false at h24
          rw [if_neg (unwanted_true (j := 8) (d := 24) rfl rfl h24)]
          exact fun d hd => by cases hd; exact rfl
        · intro a W hI hsame ht
          obtain ⟨h24, _⟩ := ht
          change a.tmps.getD 24 undef = .bool false at h24
          have h5 := hsame 5 (by decide)
          change a.tmps.getD 5 undef = .bool sm at h5
          rw [if_neg (unwanted_true (j := 8) (d := 24) rfl rfl h24)]
          exact fun d hd => by cases hd; exact rfl
        · intro a W hI hsame ht
          obtain ⟨h29, h30, h24, _⟩ := ht
          change a.tmps.getD 29 undef = undef at h29
          change a.tmps.getD 30 undef = undef at h30
          change a.tmps.getD 24 undef = .bool false at h24
          rw [if_neg (unwanted_true (j := 8) (d := 24) rfl rfl h24)]
          exact fun d hd => by cases hd; exact rfl
        · intro a W hI hsame ht
          obtain ⟨h24, h31, _⟩ := ht
          change a.tmps.getD 24 undef = .bool false at h24
          change a.tmps.getD 31 undef = undef at h31
          rw [if_pos (by rfl)]
          clear hsame
          unfold Oper.wp
          go_simp
          exact ⟨_, rfl, hI, Below.refl _ _, fun d hd => by cases hd; exact rfl⟩
      · intro a W hI hsz hdef hsame hall
        have h16 := hall 16 (by decide)
        change a.tmps.getD 16 undef = .agg #[.int .i64 op, .int .u8 k, .int .i64 n, .string s, .slice A ln c] at h16
        have h17 := hall 17 (by decide)
        change a.tmps.getD 17 undef = .int .i64 rx at h17
        have h18 := hall 18 (by decide)
        change a.tmps.getD 18 undef = .bool false at h18
        have h19 := hall 19 (by decide)
        change a.tmps.getD 19 undef = .bool false at h19
        have h20 := hall 20 (by decide)
        change a.tmps.getD 20 undef = undef at h20
        have h21 := hall 21 (by decide)
        change a.tmps.getD 21 undef = undef at h21
        have h22 := hall 22 (by decide)
        change a.tmps.getD 22 undef = undef at h22
        have h23 := hall 23 (by decide)
        change a.tmps.getD 23 undef = .bool false at h23
        have h24 := hall 24 (by decide)
        change a.tmps.getD 24 undef = .bool false at h24
        have h25 := hall 25 (by decide)
        change a.tmps.getD 25 undef = undef at h25
        have h26 := hall 26 (by decide)
        change a.tmps.getD 26 undef = undef at h26
        have h27 := hall 27 (by decide)
        change a.tmps.getD 27 undef = undef at h27
        have h28 := hall 28 (by decide)
        change a.tmps.getD 28 undef = undef at h28
        have h29 := hall 29 (by decide)
        change a.tmps.getD 29 undef = undef at h29
        have h30 := hall 30 (by decide)
        change a.tmps.getD 30 undef = undef at h30
        have h31 := hall 31 (by decide)
        change a.tmps.getD 31 undef = undef at h31
        have h32 := hall 32 (by decide)
        change a.tmps.getD 32 undef = .bool false at h32
        have hact := act_of (l := [_, _, _, _, _, _, _, _, _, _, _, _, _, _, _, _, _, _, _, _, _, _, _, _, _, _, _, _, _, _, _, _, _, _, _, _, _, _, _, _, _, _, _, _, _, _]) (ds := []) (by exact hsz) hdef ⟨hsame 0 (by decide), hsame 1 (by decide), hsame 2 (by decide), hsame 3 (by decide), hsame 4 (by decide), hsame 5 (by decide), hsame 6 (by decide), hsame 7 (by decide), hsame 8 (by decide), hsame 9 (by decide), hsame 10 (by decide), hsame 11 (by decide), hsame 12 (by decide), hsame 13 (by decide), hsame 14 (by decide), hsame 15 (by decide), h16, h17, h18, h19, h20, h21, h22, h23, h24, h25, h26, h27, h28, h29, h30, h31, h32, hsame 33 (by decide), hsame 34 (by decide), hsame 35 (by decide), hsame 36 (by decide), hsame 37 (by decide), hsame 38 (by decide), hsame 39 (by decide), hsame 40 (by decide), hsame 41 (by decide), hsame 42 (by decide), hsame 43 (by decide), hsame 44 (by decide), hsame 45 (by decide), trivial⟩
        clear hall hsame hsz hdef h16 h17 h18 h19 h20 h21 h22 h23 h24 h25 h26 h27 h28 h29 h30 h31 h32
        subst hact
        go_wp2
        go_meet
        exact ⟨rfl, hI⟩
  case rest =>
    obtain ⟨rfl, hbc⟩ := hcut
    have HBc := Lib.hid (HBE.out _ hbc)
    have HXc := Lib.hid (HX.out _ hbc)
    have HYc := Lib.hid (HY.out _ hbc)
    obtain ⟨i0, i1, i2, i3, i4⟩ := HXc.out.cells5
    obtain ⟨j0, j1, j2, j3, j4⟩ := HYc.out.cells5
    have hss : (sm == sm) = true := by simp
    clear hbc
    go_wp2_with fail
    refine (HPS.out _ HBc.out).mono ?_
    rintro e w5 ⟨rfl, hb5⟩
    obtain ⟨i0, i1, i2, i3, i4⟩ := (HXc.out.belowAll hb5).cells5
    obtain ⟨j0, j1, j2, j3, j4⟩ := (HYc.out.belowAll hb5).cells5
    have HX5 := Lib.hid (HXc.out.belowAll hb5)
    have HY5 := Lib.hid (HYc.out.belowAll hb5)
    have HB5 := Lib.hid (HBc.out.trans (hb5.mono (Nat.le_of_lt HXc.out.lt)))
    clear hb5
    dsimp only
    go_wp2_with fail
    refine (HPR.out _ HB5.out).mono ?_
    rintro e w6 ⟨rfl, hb6⟩
    obtain ⟨i0, i1, i2, i3, i4⟩ := (HX5.out.belowAll hb6).cells5
    obtain ⟨j0, j1, j2, j3, j4⟩ := (HY5.out.belowAll hb6).cells5
    have HX6 := Lib.hid (HX5.out.belowAll hb6)
    have HY6 := Lib.hid (HY5.out.belowAll hb6)
    have HB6 := Lib.hid (HB5.out.trans (hb6.mono (Nat.le_of_lt HX5.out.lt)))
    clear hb6
    dsimp only
    go_wp2_with fail
    refine (HLV.out _ HB6.out).mono ?_
    rintro e w9 ⟨rfl, hb9⟩
    dsimp only
    have hs6 : N ≤ w6.heap.size := Nat.le_of_lt HX6.out.lt
    go_wp2
    go_ret
    exact ⟨rfl, by rw [HNN.out]; exact HB6.out.trans (hb9.mono hs6)⟩
end Go.Proofs.YtkaapfakalojaaaDoor
namespace Go.Proofs.YtkaapfakalojaaaDoor
open Go.ChangeShapes Go.WideShapes Go.ChangeAt Go.RowKit
set_option linter.unusedVariables false
set_option maxRecDepth 20000
def wantK (op : Int) (j : Nat) : List Int := if 0 ≤ op ∧ op < (j : Int) then names.getD op.toNat [] else []
def findK (s : List Int) : Nat → Int × Bool | 0 => (0, false) | j + 1 => if names.getD j [] = s then ((j : Int), true) else findK s j
theorem wantK_next (op : Int) (j : Nat) : wantK op (j + 1) = if (j : Int) = op then names.getD j [] else wantK op j := by
  unfold wantK
  by_cases h : (j : Int) = op
  · rw [if_pos (by omega), if_pos h, ← h, Int.toNat_natCast]
  · rw [if_neg h]
    by_cases h2 : 0 ≤ op ∧ op < (j : Int)
    · rw [if_pos (by omega), if_pos h2]
    · rw [if_neg (by omega), if_neg h2]
theorem wantK_end (op : Int) : wantK op 28 = nameOf op := by
  unfold wantK nameOf
  by_cases h : 0 ≤ op
  · rw [if_pos h]
    by_cases h2 : op < 28
    · rw [if_pos (by omega)]
    · rw [if_neg (by omega), List.getD, List.getElem?_eq_none (by show 28 ≤ op.toNat; omega)]; rfl
  · rw [if_neg (by omega), if_neg h]
theorem find_at : ∀ k : Fin 28, findK (names.getD k.val []) 28 = findN (names.getD k.val []) := by decide +kernel
theorem findK_none (s : List Int) (h : s ∉ names) : ∀ j, j ≤ 28 → findK s j = (0, false)
  | 0, _ => rfl
  | j + 1, hj => by
    have hne : names.getD j [] ≠ s := fun e => h (by
      have : j < names.length := by show j < 28; omega
      rw [List.getD, List.getElem?_eq_getElem this] at e
      rw [← e]; exact List.getElem_mem _)
    rw [findK, if_neg hne]
    exact findK_none s h j (by omega)
theorem findK_end (s : List Int) : findK s 28 = findN s := by
  by_cases h : s ∈ names
  · obtain ⟨k, hk, he⟩ := List.getElem_of_mem h
    have hk28 : k < 28 := hk
    have : s = names.getD k [] := by rw [List.getD, List.getElem?_eq_getElem hk]; exact he.symm
    rw [this]
    exact find_at ⟨k, hk28⟩
  · rw [findK_none s h 28 (Nat.le_refl _)]
    unfold findN
    have : names.idxOf? s = none := by
      rw [List.idxOf?_eq_none_iff]; exact h
    rw [this]
def RelNm (op : Int) (s : List Int) (w : World) (want at_ has i : Value) (wr : World) : Prop := ∃ (j : Nat) (L : List Int) (a : Int) (b : Bool), want = .string (str L) ∧ at_ = .int .i64 a ∧ has = .bool b ∧ i = .int .i64 j ∧ j ≤ 28 ∧ Hid (L = wantK op j) ∧ Hid ((a, b) = findK s j) ∧ Below w.heap.size w wr
theorem name_isB (j : Nat) : IsB (names.getD j []) := by
  by_cases h : j < 28
  · have h9 : ∀ k : Fin 28, ∀ x ∈ names.getD k.val [], 0 ≤ x ∧ x ≤ 255 := by decide +kernel
    exact h9 ⟨j, h⟩
  · intro x hx
    rw [List.getD, List.getElem?_eq_none (by show 28 ≤ j; omega)] at hx; cases hx
set_option maxRecDepth 100000 in
set_option maxHeartbeats 8000000 in
theorem names_walk (op : Int) (s : ByteArray) (w : World) (ho : I64 op) (hs : s.size ≤ reachBytes) (hP : P9 w) : Calls Tryd.prog 5 #[.int .i64 op, .string s] w fun e w' => e = .returned (.bool true) ∧ Below w.heap.size w w' := by
  have hs2 : s.size ≤ 140737488351232 := hs
  have HLV := Lib.hid (fun W (hW : Below w.heap.size w W) => hP.live W hW)
  by_cases hbig : 2000 < s.size
  · clear hP hs ho
    go_enter Tryd.func5, Tryd.ntmps5
    go_wp2_with fail
    refine (HLV.out _ (Below.refl _ _)).mono ?_
    rintro e w2 ⟨rfl, hb2⟩
    dsimp only
    go_wp2
    go_ret
    exact ⟨rfl, hb2⟩
  · have hs3 : s.size ≤ 2000 := by omega
    have HFI := Lib.hid (fun W (hW : Below w.heap.size w W) => hP.find s W hW hs3)
    have HNA := Lib.hid (fun W (hW : Below w.heap.size w W) => hP.name op W hW)
    have HAR := Lib.hid (fun W (hW : Below w.heap.size w W) => hP.arity op W hW)
    have HAR2 := Lib.hid (fun W => rarity_calls op W)
    have HQU := Lib.hid (fun W (hW : Below w.heap.size w W) => hP.quote s W hW hs3)
    have HQU2 := Lib.hid (fun W => rquote_calls s (by omega) W)
    obtain ⟨nm, hnm⟩ : ∃ nm, nm = nameOf op := ⟨_, rfl⟩
    have HNM := Lib.hid hnm
    rw [← hnm] at HNA
    obtain ⟨fn, hfn⟩ : ∃ fn, fn = findN (sl s) := ⟨_, rfl⟩
    have HFN := Lib.hid hfn
    rw [← hfn] at HFI
    generalize arity op = ar at *
    generalize quote (sl s) = qs at *
    obtain ⟨S, hS⟩ : ∃ S, S = sl s := ⟨_, rfl⟩
    have HS := Lib.hid hS
    clear hP hs ho hnm hfn hS
    go_enter Tryd.func5, Tryd.ntmps5
    go_wp2_with fail
    go_loopw [5, 6, 7, 8] (RelNm op S w) (fun _ _ _ i _ => 29 - (intOf i).toNat)
    case atStart => exact ⟨0, [], 0, false, rfl, rfl, rfl, rfl, by omega, Lib.hid (by unfold wantK; rw [if_neg (by omega)]), Lib.hid rfl, Below.refl _ _⟩
    case round =>
      obtain ⟨j, L, a, b, rfl, rfl, rfl, rfl, hj, hL, hab, hbr⟩ := hrel
      have HBR := Lib.hid hbr
      clear hbr
      by_cases hlt : j < 28
      · have h1i : (j : Int) < 28 := by omega
        have hWN := wantK_next op j
        have hFK : findK S (j + 1) = if names.getD j [] = S then ((j : Int), true) else findK S j := rfl
        obtain ⟨x, hx⟩ : ∃ x, x = names.getD j [] := ⟨_, rfl⟩
        rw [← hx] at hWN hFK
        have hxb : IsB x := by rw [hx]; exact name_isB j
        have HB1 := Lib.hid (show Below w.heap.size w (wr.alloc (.cells nameCs 9)) from HBR.out.alloc HBR.out.size _)
        have HB2 := Lib.hid (show Below w.heap.size w ((wr.alloc (.cells nameCs 9)).alloc (.cells nameCs 9)) from HB1.out.alloc HB1.out.size _)
        have HB3 := Lib.hid (show Below w.heap.size w (((wr.alloc (.cells nameCs 9)).alloc (.cells nameCs 9)).alloc (.cells nameCs 9)) from HB2.out.alloc HB2.out.size _)
        have q2 := names_cell (wr.alloc (.cells nameCs 9)) j hlt
        have q3 := names_cell ((wr.alloc (.cells nameCs 9)).alloc (.cells nameCs 9)) j hlt
        rw [← hx] at q2 q3
        simp only [World.size_alloc] at q2 q3
        have heq : ((str x).toList == s.toList) = decide (x = S) := by
          by_cases hxs : x = S
          · rw [hxs, HS.out, str_sl]; simp
          · rw [toList_beq_false (fun e => hxs (by rw [HS.out]; apply str_inj hxb (sl_bytes _); rw [str_sl]; exact e)), decide_eq_false hxs]
        clear hx hxb
        by_cases hop : (j : Int) = op
        · have d1 : ((j : Int) == op) = true := beq_iff_eq.2 hop
          rw [if_pos hop] at hWN
          have HW9 := Lib.hid hWN
          clear hWN hop hL
          by_cases hxs : x = S
          · rw [decide_eq_true hxs] at heq
            rw [if_pos hxs] at hFK
            have HF9 := Lib.hid hFK
            clear hFK hxs hab
            go_wp2_with (go_at_call 19; refine (rnames_calls _).mono ?_; rintro e w1 ⟨rfl, hq⟩; subst w1)
            go_roundw
            case rel => exact ⟨j + 1, x, (j : Int), true, rfl, rfl, rfl, by go_num, by omega, Lib.hid HW9.out.symm, Lib.hid HF9.out.symm, HB3.out⟩
            case measure => simp [intOf]; omega
          · rw [decide_eq_false hxs] at heq
            rw [if_neg hxs, ← hab.out] at hFK
            have HF9 := Lib.hid hFK
            clear hFK hxs hab
            go_wp2_with (go_at_call 19; refine (rnames_calls _).mono ?_; rintro e w1 ⟨rfl, hq⟩; subst w1)
            go_roundw
            case rel => exact ⟨j + 1, x, a, b, rfl, rfl, rfl, by go_num, by omega, Lib.hid HW9.out.symm, Lib.hid HF9.out.symm, HB3.out⟩
            case measure => simp [intOf]; omega
        · have d1 : ((j : Int) == op) = false := beq_eq_false_iff_ne.2 hop
          rw [if_neg hop, ← hL.out] at hWN
          have HW9 := Lib.hid hWN
          clear hWN hop hL
          by_cases hxs : x = S
          · rw [decide_eq_true hxs] at heq
            rw [if_pos hxs] at hFK
            have HF9 := Lib.hid hFK
            clear hFK hxs hab
            go_wp2_with (go_at_call 19; refine (rnames_calls _).mono ?_; rintro e w1 ⟨rfl, hq⟩; subst w1)
            go_roundw
            case rel => exact ⟨j + 1, L, (j : Int), true, rfl, rfl, rfl, by go_num, by omega, Lib.hid HW9.out.symm, Lib.hid HF9.out.symm, HB2.out⟩
            case measure => simp [intOf]; omega
          · rw [decide_eq_false hxs] at heq
            rw [if_neg hxs, ← hab.out] at hFK
            have HF9 := Lib.hid hFK
            clear hFK hxs hab
            go_wp2_with (go_at_call 19; refine (rnames_calls _).mono ?_; rintro e w1 ⟨rfl, hq⟩; subst w1)
            go_roundw
            case rel => exact ⟨j + 1, L, a, b, rfl, rfl, rfl, by go_num, by omega, Lib.hid HW9.out.symm, Lib.hid HF9.out.symm, HB2.out⟩
            case measure => simp [intOf]; omega
      · obtain rfl : j = 28 := by omega
        have hL2 : L = nm := by rw [hL.out, wantK_end, HNM.out]
        have hab2 : (a, b) = fn := by rw [hab.out, findK_end, HFN.out, HS.out]
        subst hL2
        subst hab2
        have e1 : ((str L).toList == (str L).toList) = true := by simp
        have HB1 := Lib.hid (show Below w.heap.size w (wr.alloc (.cells nameCs 9)) from HBR.out.alloc HBR.out.size _)
        dsimp only at HFI
        clear hL hab
        go_wp2_with (go_at_call 19; refine (rnames_calls _).mono ?_; rintro e w1 ⟨rfl, hq⟩; subst w1)
        refine (HFI.out _ HB1.out).mono ?_
        rintro e w2 ⟨rfl, hb2⟩
        have HB2 := Lib.hid (HB1.out.trans (hb2.mono HB1.out.size))
        clear hb2
        dsimp only
        go_wp2_with fail
        refine (HNA.out _ HB2.out).mono ?_
        rintro e w3 ⟨rfl, hb3⟩
        have HB3 := Lib.hid (HB2.out.trans (hb3.mono HB2.out.size))
        clear hb3
        dsimp only
        go_wp2_with fail
        refine (HAR.out _ HB3.out).mono ?_
        rintro e w4 ⟨rfl, hb4⟩
        have HB4 := Lib.hid (HB3.out.trans (hb4.mono HB3.out.size))
        clear hb4
        dsimp only
        go_wp2_with fail
        refine (HAR2.out _).mono ?_
        rintro e w5 ⟨rfl, hq5⟩
        have HB5 := Lib.hid (HB4.out.trans ((draws_below hq5).mono HB4.out.size))
        clear hq5
        dsimp only
        go_wp2_with fail
        refine (HQU.out _ HB5.out).mono ?_
        rintro e w6 ⟨rfl, hb6⟩
        have HB6 := Lib.hid (HB5.out.trans (hb6.mono HB5.out.size))
        clear hb6
        dsimp only
        go_wp2_with fail
        refine (HQU2.out _).mono ?_
        rintro e w7 ⟨rfl, hq7⟩
        have HB7 := Lib.hid (HB6.out.trans ((draws_below hq7).mono HB6.out.size))
        clear hq7
        dsimp only
        go_wp2_with fail
        refine (HLV.out _ HB7.out).mono ?_
        rintro e w8 ⟨rfl, hb8⟩
        have HB8 := Lib.hid (HB7.out.trans (hb8.mono HB7.out.size))
        clear hb8
        dsimp only
        go_wp2
        go_ret
        exact ⟨rfl, HB8.out⟩
end Go.Proofs.YtkaapfakalojaaaDoor
namespace Go.Proofs.YtkaapfakalojaaaDoor
open Go.ChangeShapes Go.WideShapes Go.RowKit
set_option linter.unusedVariables false
def Laid (W : World) : Prop := laidMetH Tryd.prog Rows.exprShapesRow.laid W
theorem Laid.plain {W : World} (h : Laid W) : laidMet Tryd.prog Rows.exprShapesRow.laid W := by
  unfold Laid at h
  rw [MakeChecks.laidMetH_plain _ _ _ (by kernel_rfl)] at h
  exact h
/-- The table of powers of ten. -/
theorem tab_of_laid {W : World} (h : Laid W) : Lib.TabIs Tryd.prog W "internal/strconv.uint64pow10" .u64 Lib.pow10Tab := by
  obtain ⟨ps, ⟨_, _, _, _, _, _, _, _, _, _, ⟨_, _, _, _, _, _, _, _, _, _, ⟨g', t', cs, fuel, p, q, hg', ht', hvar, hd, _, _⟩, _⟩, _⟩, _⟩ := h.plain
  have hg : Tryd.prog.globalNamed "internal/strconv.uint64pow10" = some 2 := by kernel_rfl
  obtain rfl := Option.some.inj (hg.symm.trans hg')
  have hty : (Tryd.prog.globals[2]?).map (·.type) = some 92 := by kernel_rfl
  obtain rfl := Option.some.inj (hty.symm.trans ht')
  unfold Lib.TabIs
  rw [hvar, ← Lib.cells_of_tab (zs := Lib.pow10Tab) Tryd.underlying92 Tryd.underlying86 (by kernel_rfl) (by kernel_rfl) hd]
/-- What the table holds of an operation. -/
def rowD (k : Nat) : DataW Unit := .agg [.lit (.string ((str (names.getD k [])).data.toList)), .lit (.int .i64 (arity k))]
theorem datum_rows : Rows.laid_gristmill_expr_operations (H := Unit) = .agg ((List.range 28).map rowD) := by kernel_rfl
/-- The table of the operations lies in memory. -/
structure OpTab (W : World) : Prop where
  lt : 0 < W.heap.size
  name : ∀ k : Nat, k < 28 → W.cell? ⟨0, k * 2, none⟩ = some (.string (str (names.getD k [])))
  ar : ∀ k : Nat, k < 28 → W.cell? ⟨0, k * 2 + 1, none⟩ = some (.int .i64 (arity k))
theorem OpTab.below {W W' : World} (h : OpTab W) (hb : Below W.heap.size W W') : OpTab W' :=
  ⟨Nat.lt_of_lt_of_le h.lt hb.size, fun k hk => (hb.cell (p := ⟨0, k * 2, none⟩) h.lt).trans (h.name k hk), fun k hk => (hb.cell (p := ⟨0, k * 2 + 1, none⟩) h.lt).trans (h.ar k hk)⟩
theorem byteArray_of_list {s t : ByteArray} (h : s.data.toList = t.data.toList) : s = t := by
  cases s with | mk a => cases t with | mk b => simp only at h; cases a; cases b; simp only at h; rw [h]
theorem optab_of_laid {W : World} (h : Laid W) : OpTab W := by
  obtain ⟨ps, ⟨_, _, _, _, _, _, _, _, _, _, ⟨_, _, _, _, _, _, _, _, _, _, ⟨_, _, _, _, _, _, _, _, _, _, ⟨g', t', cs, fuel, p, q, hg', ht', hvar, hd, _, _⟩, _⟩, _⟩, _⟩, _⟩ := h.plain
  have hg : Tryd.prog.globalNamed "gristmill/expr.operations" = some 0 := by kernel_rfl
  obtain rfl := Option.some.inj (hg.symm.trans hg')
  have hty : (Tryd.prog.globals[0]?).map (·.type) = some 59 := by kernel_rfl
  obtain rfl := Option.some.inj (hty.symm.trans ht')
  have hcl := World.var?_cell hg hvar
  rw [datum_rows] at hd
  obtain ⟨xs, m, rfl, hx, hlen, hxl, hall⟩ := DataW.trod_array Tryd.underlying59 hd
  have hc58 : Tryd.prog.cellsOf 58 = 2 := by kernel_rfl
  have hc59 : Tryd.prog.cellsOf 59 = 56 := by kernel_rfl
  have hc9 : Tryd.prog.cellsOf 9 = 1 := by kernel_rfl
  have hc3 : Tryd.prog.cellsOf 3 = 1 := by kernel_rfl
  rw [hc58] at hall
  rw [hc59] at hlen
  have hxs : xs.map (·.1) = (List.range 28).map rowD := by
    have := congrArg Prod.fst hx
    simpa using this.symm
  have key : ∀ k : Nat, k < 28 → cs[k * 2]? = some (.string (str (names.getD k []))) ∧ cs[k * 2 + 1]? = some (.int .i64 (arity k)) := by
    intro k hk
    have h1 := hall k hk
    obtain ⟨x, hxk⟩ : ∃ x, xs[k]? = some x := ⟨xs[k]'(by omega), List.getElem?_eq_getElem (by omega)⟩
    rw [hxk] at h1
    have hx1 : x.1 = rowD k := by
      have h2 : (xs.map (·.1))[k]? = some x.1 := by simp [hxk]
      rw [hxs] at h2
      simp [hk] at h2
      exact h2.symm
    obtain ⟨y0, y1, n, hy, hl2, ha, hb⟩ := trod_struct2 Tryd.underlying58 h1
    dsimp only at ha hb
    rw [hc9] at ha
    rw [hc3] at hb
    obtain ⟨s, e0, e1, _⟩ := DataW.trod_string Tryd.underlying9 ha
    obtain ⟨z, e2, e3, _⟩ := DataW.trod_int Tryd.underlying3 hb
    subst hy
    subst e1
    subst e3
    simp only [rowD, DataW.agg.injEq, List.cons.injEq, DataW.lit.injEq, Lit.string.injEq, Lit.int.injEq, and_true, true_and] at hx1
    obtain ⟨hs, hz⟩ := hx1
    have hs' := byteArray_of_list hs
    subst hs'
    subst hz
    have q0 := congrArg (·[0]?) e0
    have q1 := congrArg (·[0]?) e2
    simp [List.getElem?_drop] at q0 q1
    exact ⟨q0, q1⟩
  have hsz : 0 < W.heap.size := by
    rcases Nat.lt_or_ge 0 W.heap.size with h0 | h0
    · exact h0
    · have := hcl 0
      have hk := (key 0 (by omega)).1
      simp at hk
      rw [hk] at this
      simp [World.cell?, Array.getElem?_eq_none h0] at this
  refine ⟨hsz, fun k hk => ?_, fun k hk => ?_⟩
  · rw [hcl]; exact (key k hk).1
  · rw [hcl]; exact (key k hk).2
noncomputable def laidW (os : Os) : World := World.laidAll Tryd.prog os Rows.exprShapesRow.laid
theorem laidW_met (os : Os) (args : Array Value) : laidMetH Tryd.prog Rows.exprShapesRow.laid ((laidW os).forCall (fun _ _ => 0) ⟨#[], args, []⟩).memory := by
  rw [MakeChecks.laidMetH_plain _ _ _ (by kernel_rfl)]
  exact laidMet_laidAll _ (by kernel_rfl) (by kernel_rfl)
end Go.Proofs.YtkaapfakalojaaaDoor
namespace Go.Proofs.YtkaapfakalojaaaDoor
open Go.ChangeShapes Go.WideShapes Go.ChangeAt Go.RowKit
set_option linter.unusedVariables false
set_option maxRecDepth 20000
def isOp (op : Int) : Bool := decide (0 ≤ op) && decide (op ≤ 27)
theorem isop_calls (op : Int) (w : World) : Calls Tryd.prog 39 #[.int .i64 op] w fun e w' => e = .returned (.bool (isOp op)) ∧ w' = w := by
  by_cases h0 : 0 ≤ op
  · have d0 : decide (0 ≤ op) = true := decide_eq_true h0
    have e : isOp op = decide (op < 28) := by unfold isOp; rw [d0, Bool.true_and]; apply decide_eq_decide.2; omega
    rw [e]
    go_enter Tryd.func39, Tryd.ntmps39
    go_wp2
    go_ret
    exact ⟨rfl, rfl⟩
  · have d0 : decide (0 ≤ op) = false := decide_eq_false h0
    have e : isOp op = false := by unfold isOp; rw [d0, Bool.false_and]
    rw [e]
    go_enter Tryd.func39, Tryd.ntmps39
    go_wp2
    go_ret
    exact ⟨rfl, rfl⟩
theorem isop_in {op : Int} (h : isOp op = true) : ∃ k : Nat, op = k ∧ k < 28 := by
  unfold isOp at h
  simp at h
  exact ⟨op.toNat, by omega, by omega⟩
theorem nameOf_out {op : Int} (h : isOp op = false) : nameOf op = [] := by
  unfold isOp at h
  unfold nameOf
  split
  · have hl : names.length ≤ op.toNat := by
      have : names.length = 28 := by decide
      simp at h; omega
    rw [List.getD_eq_getElem?_getD, List.getElem?_eq_none hl]; rfl
  · rfl
theorem arity_out {op : Int} (h : isOp op = false) : arity op = -1 := by
  unfold isOp at h
  unfold arity
  rw [if_pos]
  simp at h; omega
theorem name_calls (op : Int) (w : World) (hT : OpTab w) : Calls Tryd.prog 21 #[.int .i64 op] w fun e w' => e = .returned (.string (str (nameOf op))) ∧ w' = w := by
  by_cases h : isOp op = true
  · have HI := Lib.hid (isop_calls op w)
    rw [h] at HI
    obtain ⟨k, rfl, hk⟩ := isop_in h
    have hc := hT.name k hk
    have e : nameOf (k : Int) = names.getD k [] := by unfold nameOf; rw [if_pos (by omega)]; rfl
    rw [e]
    generalize hn : str (names.getD k []) = s at *
    clear h hT hn e
    have hk9 : (k : Int) < 28 := by omega
    go_enter Tryd.func21, Tryd.ntmps21
    go_wp2_with fail
    refine HI.out.mono ?_
    rintro e w' ⟨rfl, h9⟩
    obtain rfl := h9
    dsimp only
    go_wp2
    go_ret
    exact ⟨rfl, rfl⟩
  · have h' : isOp op = false := by simpa using h
    have HI := Lib.hid (isop_calls op w)
    rw [h'] at HI
    rw [nameOf_out h']
    clear h hT h'
    go_enter Tryd.func21, Tryd.ntmps21
    go_wp2_with fail
    refine HI.out.mono ?_
    rintro e w' ⟨rfl, h9⟩
    obtain rfl := h9
    dsimp only
    go_wp2
    go_ret
    exact ⟨rfl, rfl⟩
theorem arity_calls (op : Int) (w : World) (hT : OpTab w) : Calls Tryd.prog 22 #[.int .i64 op] w fun e w' => e = .returned (.int .i64 (arity op)) ∧ w' = w := by
  by_cases h : isOp op = true
  · have HI := Lib.hid (isop_calls op w)
    rw [h] at HI
    obtain ⟨k, rfl, hk⟩ := isop_in h
    have hc := hT.ar k hk
    generalize arity (k : Int) = s at *
    clear h hT
    have hk9 : (k : Int) < 28 := by omega
    go_enter Tryd.func22, Tryd.ntmps22
    go_wp2_with fail
    refine HI.out.mono ?_
    rintro e w' ⟨rfl, h9⟩
    obtain rfl := h9
    dsimp only
    go_wp2
    go_ret
    exact ⟨rfl, rfl⟩
  · have h' : isOp op = false := by simpa using h
    have HI := Lib.hid (isop_calls op w)
    rw [h'] at HI
    rw [arity_out h']
    clear h hT h'
    go_enter Tryd.func22, Tryd.ntmps22
    go_wp2_with fail
    refine HI.out.mono ?_
    rintro e w' ⟨rfl, h9⟩
    obtain rfl := h9
    dsimp only
    go_wp2
    go_ret
    exact ⟨rfl, rfl⟩
/-- Is a value a text? -/
theorem isstr_calls (k n : Int) (s : ByteArray) (w : World) : Calls Tryd.prog 45 #[.agg #[.int .u8 k, .int .i64 n, .string s]] w fun e w' => e = .returned (.bool (k != 0)) ∧ w' = w.alloc (.cells #[.int .u8 k, .int .i64 n, .string s] 23) := by
  obtain ⟨x0, x1, x2⟩ := (Blk.new w #[.int .u8 k, .int .i64 n, .string s] 23).cells3
  go_enter Tryd.func45, Tryd.ntmps45
  go_wp2
  go_ret
  exact ⟨rfl, rfl⟩
/-- The table, cell for cell. -/
def tabL : List Value := [.string (str (names.getD 0 [])), .int .i64 (arity 0), .string (str (names.getD 1 [])), .int .i64 (arity 1), .string (str (names.getD 2 [])), .int .i64 (arity 2), .string (str (names.getD 3 [])), .int .i64 (arity 3), .string (str (names.getD 4 [])), .int .i64 (arity 4), .string (str (names.getD 5 [])), .int .i64 (arity 5), .string (str (names.getD 6 [])), .int .i64 (arity 6), .string (str (names.getD 7 [])), .int .i64 (arity 7), .string (str (names.getD 8 [])), .int .i64 (arity 8), .string (str (names.getD 9 [])), .int .i64 (arity 9), .string (str (names.getD 10 [])), .int .i64 (arity 10), .string (str (names.getD 11 [])), .int .i64 (arity 11), .string (str (names.getD 12 [])), .int .i64 (arity 12), .string (str (names.getD 13 [])), .int .i64 (arity 13), .string (str (names.getD 14 [])), .int .i64 (arity 14), .string (str (names.getD 15 [])), .int .i64 (arity 15), .string (str (names.getD 16 [])), .int .i64 (arity 16), .string (str (names.getD 17 [])), .int .i64 (arity 17), .string (str (names.getD 18 [])), .int .i64 (arity 18), .string (str (names.getD 19 [])), .int .i64 (arity 19), .string (str (names.getD 20 [])), .int .i64 (arity 20), .string (str (names.getD 21 [])), .int .i64 (arity 21), .string (str (names.getD 22 [])), .int .i64 (arity 22), .string (str (names.getD 23 [])), .int .i64 (arity 23), .string (str (names.getD 24 [])), .int .i64 (arity 24), .string (str (names.getD 25 [])), .int .i64 (arity 25), .string (str (names.getD 26 [])), .int .i64 (arity 26), .string (str (names.getD 27 [])), .int .i64 (arity 27)]
theorem tabL_at : ∀ k : Fin 28, tabL[k.val * 2]? = some (.string (str (names.getD k.val []))) ∧ tabL[k.val * 2 + 1]? = some (.int .i64 (arity k.val)) := by
  intro k
  have hk : k = 0 ∨ k = 1 ∨ k = 2 ∨ k = 3 ∨ k = 4 ∨ k = 5 ∨ k = 6 ∨ k = 7 ∨ k = 8 ∨ k = 9 ∨ k = 10 ∨ k = 11 ∨ k = 12 ∨ k = 13 ∨ k = 14 ∨ k = 15 ∨ k = 16 ∨ k = 17 ∨ k = 18 ∨ k = 19 ∨ k = 20 ∨ k = 21 ∨ k = 22 ∨ k = 23 ∨ k = 24 ∨ k = 25 ∨ k = 26 ∨ k = 27 := by revert k; decide
  rcases hk with rfl | rfl | rfl | rfl | rfl | rfl | rfl | rfl | rfl | rfl | rfl | rfl | rfl | rfl | rfl | rfl | rfl | rfl | rfl | rfl | rfl | rfl | rfl | rfl | rfl | rfl | rfl | rfl <;> exact ⟨rfl, rfl⟩
theorem lv59 {W : World} (hT : OpTab W) : (loadVar 59 ⟨0, 0, none⟩).run Tryd.prog W = .ok (.agg tabL.toArray) W := by
  have hl := run_loadCells_list (P := Tryd.prog) W ⟨0, 0, none⟩ tabL (fun j u hu => by
    have e1 : (⟨0, 0, none⟩ : Addr).add j = ⟨0, j, none⟩ := by
      unfold Addr.add
      split
      · rename_i hz; rw [hz]
      · simp
    rw [e1]
    have hj : j < 56 := (List.getElem?_eq_some_iff.1 hu).1
    rcases Nat.mod_two_eq_zero_or_one j with hm | hm
    · have hk : j = j / 2 * 2 := by omega
      rw [hk] at hu ⊢
      rw [hT.name (j / 2) (by omega), ← hu]
      exact (tabL_at ⟨j / 2, by omega⟩).1.symm
    · have hk : j = j / 2 * 2 + 1 := by omega
      rw [hk] at hu ⊢
      rw [hT.ar (j / 2) (by omega), ← hu]
      exact (tabL_at ⟨j / 2, by omega⟩).2.symm)
  have h56 : tabL.length = 56 := rfl
  rw [h56] at hl
  have hs : (Go.sizeOf 59).run Tryd.prog W = .ok 56 W := by simp
  simp [loadVar, isAgg, underlying, Tryd.underlying59, hl]
theorem tabL_two (k : Nat) (hk : k < 28) : List.take 2 (List.drop (k * 2) tabL) = [.string (str (names.getD k [])), .int .i64 (arity k)] := by
  have h := tabL_at ⟨k, hk⟩
  apply List.ext_getElem?
  intro i
  match i with
  | 0 => simpa using h.1
  | 1 => simpa using h.2
  | i + 2 => rw [List.getElem?_take, if_neg (by omega)]; rfl
theorem index59 (k : Nat) (hk : k < 28) (x : ByteArray) (y : Int) (hx : str (names.getD k []) = x) (hy : arity k = y) (w : World) : (Instr.index 59 (.agg tabL.toArray) (.int .i64 k)).run Tryd.prog w = .ok (.agg #[.string x, .int .i64 y]) w := by
  have e := tabL_two k hk
  rw [hx, hy] at e
  simp [Instr.index, run_underlying Tryd.underlying59, asIntOf, go_sem, e, part, hk]
/-- A load whose value is known. -/
theorem wpList_load {w : World} {ops : Array Oper} {rest : List Oper} {o : Oper} {a : Act} {Q : Exit → Act → World → Prop} (hgd : o.guard = none) (ty : TypeId) (x : Operand) (ad : Addr) (v : Value)
    (ho : o.op = .load ty x) (hx : a.eval x = .pointer (some ad)) (hl : (loadVar ty ad).run Tryd.prog w = .ok v w) (h : wpList Tryd.prog ops Q rest (a.put o.dst v) w) : wpList Tryd.prog ops Q (o :: rest) a w := by
  refine wpList_plain hgd fun K hK => ?_
  have hr : (Instr.loadAt ty (.pointer (some ad))).run Tryd.prog w = .ok v w := by simp [Instr.loadAt, Instr.sureAddr, hl]
  unfold Oper.wp execOp
  simp only [ho, Sem.run_bind, Sem.run_pure, Result.andThen_ok, hx, hr]
  exact hK _ _ h
/-- An element of an array that is known. -/
theorem wpList_index {w : World} {ops : Array Oper} {rest : List Oper} {o : Oper} {a : Act} {Q : Exit → Act → World → Prop} (hgd : o.guard = none) (ty : TypeId) (x y : Operand) (vx vy v : Value)
    (ho : o.op = .index ty x y) (hx : a.eval x = vx) (hy : a.eval y = vy) (hl : (Instr.index ty vx vy).run Tryd.prog w = .ok v w) (h : wpList Tryd.prog ops Q rest (a.put o.dst v) w) : wpList Tryd.prog ops Q (o :: rest) a w := by
  refine wpList_plain hgd fun K hK => ?_
  unfold Oper.wp execOp
  simp only [ho, Sem.run_bind, Sem.run_pure, Result.andThen_ok, hx, hy, hl]
  exact hK _ _ h
theorem find_hit : ∀ k : Fin 28, findN (names.getD k.val []) = ((k.val : Int), true) := by decide +kernel
theorem find_none (s : List Int) (h : ∀ j, j < 28 → names.getD j [] ≠ s) : findN s = (0, false) := by
  have h9 : s ∉ names := fun hm => by
    obtain ⟨k, hk, he⟩ := List.getElem_of_mem hm
    exact h k hk (by rw [List.getD, List.getElem?_eq_getElem hk]; exact he)
  unfold findN
  rw [List.idxOf?_eq_none_iff.2 h9]
def RelFd (s : List Int) (w : World) (i : Value) (wr : World) : Prop := ∃ j : Nat, i = .int .i64 j ∧ j ≤ 28 ∧ Hid (∀ k, k < j → names.getD k [] ≠ s) ∧ Below w.heap.size w wr
set_option maxHeartbeats 4000000 in
theorem find_calls (s : ByteArray) (w : World) (hT : OpTab w) : Calls Tryd.prog 20 #[.string s] w fun q w' => q = .returned (.tuple #[.int .i64 (findN (sl s)).1, .bool (findN (sl s)).2]) ∧ Below w.heap.size w w' := by
  have hl := lv59 hT
  have HI := Lib.hid (fun k hk x y hx hy W => index59 k hk x y hx hy W)
  obtain ⟨A, hA⟩ : ∃ A, A = tabL.toArray := ⟨_, rfl⟩
  rw [← hA] at hl HI
  clear hA
  obtain ⟨S, hS⟩ : ∃ S, S = sl s := ⟨_, rfl⟩
  rw [← hS]
  have HS := Lib.hid hS
  clear hS hT
  go_enter Tryd.func20, Tryd.ntmps20
  go_upto_region 1 with fail
  refine wp_region_lit ?_
  refine wpList_load rfl 59 _ ⟨0, 0, none⟩ (.agg A) rfl rfl hl ?_
  go_wp2_with fail
  go_loopw [7] (RelFd S w) (fun i _ => 29 - (intOf i).toNat)
  case atStart => exact ⟨0, rfl, by omega, Lib.hid (fun k hk => by omega), Below.refl _ _⟩
  case round =>
    obtain ⟨j, rfl, hj, hno, hbr⟩ := hrel
    have HBR := Lib.hid hbr
    have HNO := Lib.hid hno.out
    clear hbr hno
    by_cases hlt : j < 28
    · have h1i : (j : Int) < 28 := by omega
      obtain ⟨x, hx⟩ : ∃ x, x = names.getD j [] := ⟨_, rfl⟩
      obtain ⟨y, hy⟩ : ∃ y, y = arity j := ⟨_, rfl⟩
      have hxb : IsB x := by rw [hx]; exact name_isB j
      have hix := HI.out j hlt (str x) y (by rw [hx]) hy.symm wr
      have bo := Blk.new wr #[.string (str x), .int .i64 y] 58
      have b0 : (wr.alloc (.cells #[.string (str x), .int .i64 y] 58)).cell? ⟨wr.heap.size, 0, none⟩ = some (.string (str x)) := bo.cell 0
      have HB1 := Lib.hid (show Below w.heap.size w (wr.alloc (.cells #[.string (str x), .int .i64 y] 58)) from HBR.out.alloc HBR.out.size _)
      have heq : ((str x).toList == s.toList) = decide (x = S) := by
        by_cases hxs : x = S
        · rw [hxs, HS.out, str_sl]; simp
        · rw [toList_beq_false (fun e => hxs (by rw [HS.out]; apply str_inj hxb (sl_bytes _); rw [str_sl]; exact e)), decide_eq_false hxs]
      have HX := Lib.hid hx
      clear hx hy hxb bo
      by_cases hxs : x = S
      · rw [decide_eq_true hxs] at heq
        have hf : findN S = ((j : Int), true) := by rw [← hxs, HX.out]; exact find_hit ⟨j, hlt⟩
        have HF := Lib.hid hf
        clear hxs hf
        go_wp2_with (refine wpList_index rfl 59 _ _ _ _ _ rfl rfl rfl hix ?_)
        go_ret2
        exact ⟨by rw [HF.out]; rfl, HB1.out⟩
      · rw [decide_eq_false hxs] at heq
        have HNE := Lib.hid hxs
        clear hxs
        go_wp2_with (refine wpList_index rfl 59 _ _ _ _ _ rfl rfl rfl hix ?_)
        go_roundw
        case rel => exact ⟨j + 1, by go_num, by omega, Lib.hid (fun k hk => by
          by_cases hkj : k = j
          · subst hkj; rw [← HX.out]; exact HNE.out
          · exact HNO.out k (by omega)), HB1.out⟩
        case measure => simp [intOf]; omega
    · have h1i : ¬ (j : Int) < 28 := by omega
      have hf : findN S = (0, false) := find_none S (fun k hk => HNO.out k (by omega))
      have HF := Lib.hid hf
      clear hf
      go_wp2
      go_ret2
      exact ⟨by rw [HF.out]; rfl, HBR.out⟩
end Go.Proofs.YtkaapfakalojaaaDoor
