/-
  Blocks of three cells: what they hold, what three stores leave, what a struct variable of three cells is loaded as; results in a cell. No function of the program in sight. Conditions: as in the premises.
  What it means that an expression lies in memory. Conditions: as in the premises.
  Contract of the document's Size. Conditions: the expression lies in memory; at most 3,000 parts.
  Contract of the document's Arity. No conditions.
  Contracts of the document's Deep, shaped and wide. Conditions: the expression lies in memory; at most 3,000 parts.
  Contracts of the document's wide, weigh and Big. Conditions: the expression lies in memory, its numbers and texts are such as an input can have.
  Contracts of the document's weigh and Big. Conditions: the expression lies in memory, its numbers and texts are such as an input can have.
  Contract of the document's Quote. Conditions: a text of at most 1,000,000 bytes.
  Contract of the document's Names. No conditions.
-/
import Derived.Deep.RegionLaw
import Derived.Deep.Cut
import Derived.Deep.CutBlock
import Derived.Deep.CutRange
import Derived.Test.YtkaapfakalojaaaDoorC2
namespace Go.Proofs.YtkaapfakalojaaaDoor
open Go.ChangeShapes Go.WideShapes Go.ChangeAt Go.RowKit
set_option linter.unusedVariables false
theorem results_cell1 {fn : Func} {p : Tmp} {ty : TypeId} (h : fn.results = #[.cell p ty]) (tmps : Array Value) (P : Program) (w : World) (a1 : Addr) (x : Value)
    (hp : tmps.getD p undef = .pointer (some a1)) (l1 : (loadVar ty a1).run P w = .ok x w) :
    (results fn tmps).run P w = .ok x w := by
  rw [Array.getD_eq_getD_getElem?] at hp
  simp only [results, h]
  simp [hp, asAddr, l1]
theorem results_cell_tmp2 {fn : Func} {p u v : Tmp} {ty : TypeId} (h : fn.results = #[.cell p ty, .tmp u, .tmp v]) (tmps : Array Value) (P : Program) (w : World) (a1 : Addr) (x : Value)
    (hp : tmps.getD p undef = .pointer (some a1)) (l1 : (loadVar ty a1).run P w = .ok x w) :
    (results fn tmps).run P w = .ok (.tuple #[x, tmps.getD u undef, tmps.getD v undef]) w := by
  rw [Array.getD_eq_getD_getElem?] at hp
  simp only [results, h]
  simp [Result.andThen, hp, asAddr, l1]
theorem below_one (w : World) (o : Obj) : Below w.heap.size w (w.alloc o) := (Below.refl _ _).alloc (Nat.le_refl _) _
theorem below_two (w : World) (o p : Obj) : Below w.heap.size w ((w.alloc o).alloc p) := ((Below.refl _ _).alloc (Nat.le_refl _) _).alloc (by simp) _
theorem below_drew (w : World) : Below w.heap.size w w.drew := (Below.refl _ _).drew
theorem Blk.cells3 {W : World} {g : Nat} {a b c : Value} {t : TypeId} (h : Blk W g #[a, b, c] t) : W.cell? ⟨g, 0, none⟩ = some a ∧ W.cell? ⟨g, 1, none⟩ = some b ∧ W.cell? ⟨g, 2, none⟩ = some c := ⟨h.cell 0, h.cell 1, h.cell 2⟩
theorem Blk.free3 {W : World} {g : Nat} {cs : Array Value} {t : TypeId} (h : Blk W g cs t) : W.frozen? ⟨g, 0, none⟩ = false ∧ W.frozen? ⟨g, 1, none⟩ = false ∧ W.frozen? ⟨g, 2, none⟩ = false := ⟨h.free 0, h.free 1, h.free 2⟩
theorem Blk.set3 {W : World} {g : Nat} {a b c : Value} {t : TypeId} (h : Blk W g #[a, b, c] t) (x y z : Value) : Blk (((W.setCell ⟨g, 0, none⟩ x).setCell ⟨g, 1, none⟩ y).setCell ⟨g, 2, none⟩ z) g #[x, y, z] t := by
  have := ((h.set 0 x).set 1 y).set 2 z
  simpa using this
theorem below_set3 {n : Nat} {w W : World} {g : Nat} (h : Below n w W) (hg : n ≤ g) (x y z : Value) : Below n w (((W.setCell ⟨g, 0, none⟩ x).setCell ⟨g, 1, none⟩ y).setCell ⟨g, 2, none⟩ z) := ((h.setCell (p := ⟨g, 0, none⟩) hg x).setCell (p := ⟨g, 1, none⟩) hg y).setCell (p := ⟨g, 2, none⟩) hg z
theorem lv23 {W : World} {g : Nat} {a b c : Value} (h : Blk W g #[a, b, c] 23) : (loadVar 23 ⟨g, 0, none⟩).run Tryd.prog W = .ok (.agg #[a, b, c]) W := by
  have hl := run_loadCells_list (P := Tryd.prog) W ⟨g, 0, none⟩ [a, b, c] (fun j u hu => by
    have e1 : (⟨g, 0, none⟩ : Addr).add j = ⟨g, j, none⟩ := by
      unfold Addr.add
      split
      · rename_i hz; rw [hz]
      · simp
    rw [e1, h.cell j, ← Array.getElem?_toList]
    exact hu)
  simp at hl
  simp [loadVar, isAgg, underlying, Tryd.underlying23, hl]
end Go.Proofs.YtkaapfakalojaaaDoor
namespace Go.Proofs.YtkaapfakalojaaaDoor
open Go.ChangeShapes Go.WideShapes Go.ChangeAt Go.RowKit
set_option linter.unusedVariables false
/-- An expression's cells. -/
def enX (e : Ex) : List Value := [.int .i64 e.op, .int .u8 e.vl.k, .int .i64 e.vl.n, .string e.vl.s, .slice e.adr e.args.length e.cp]
def Ex.v (e : Ex) : Value := .agg #[.int .i64 e.op, .int .u8 e.vl.k, .int .i64 e.vl.n, .string e.vl.s, .slice e.adr e.args.length e.cp]
theorem elX : El 26 5 64 (.agg #[.int .i64 0, .int .u8 0, .int .i64 0, .string ⟨#[]⟩, .slice none 0 0]) enX where
  info := by kernel_rfl
  zero := rfl
  pos := by decide
  len := fun _ => rfl
  one := fun x u hu => by
    simp only [enX, List.mem_cons, List.not_mem_nil, or_false] at hu
    rcases hu with rfl | rfl | rfl | rfl | rfl <;> rfl
mutual
def Ex.At (W : World) : Ex → Prop | .node _ _ A c l => CellsG enX W A c l ∧ atL W l
def atL (W : World) : List Ex → Prop | [] => True | e :: l => e.At W ∧ atL W l
end
theorem atL_mem {W : World} : ∀ {l : List Ex}, atL W l → ∀ e ∈ l, e.At W
  | [], _, e, he => by cases he
  | a :: l, h, e, he => by
    simp only [atL] at h
    rcases List.mem_cons.1 he with rfl | he
    · exact h.1
    · exact atL_mem h.2 e he
theorem atL_of {W : World} : ∀ {l : List Ex}, (∀ e ∈ l, e.At W) → atL W l
  | [], _ => trivial
  | a :: l, h => by
    simp only [atL]
    exact ⟨h a (by simp), atL_of fun e he => h e (by simp [he])⟩
theorem Ex.At.below {W W' : World} (hb : Below W.heap.size W W') : ∀ e : Ex, e.At W → e.At W' := by
  intro e
  induction e using Ex.ind with
  | h op v A c l ih =>
    intro h
    simp only [Ex.At] at h ⊢
    exact ⟨h.1.below hb, atL_of fun e he => ih e he (atL_mem h.2 e he)⟩
/-- A block that holds an expression alone. -/
theorem Blk.cells5 {W : World} {g : Nat} {a b c d e : Value} {t : TypeId} (h : Blk W g #[a, b, c, d, e] t) : W.cell? ⟨g, 0, none⟩ = some a ∧ W.cell? ⟨g, 1, none⟩ = some b ∧ W.cell? ⟨g, 2, none⟩ = some c ∧ W.cell? ⟨g, 3, none⟩ = some d ∧ W.cell? ⟨g, 4, none⟩ = some e := ⟨h.cell 0, h.cell 1, h.cell 2, h.cell 3, h.cell 4⟩
/-- The five cells of the argument at index k. -/
def ArgC (W : World) (b o : Nat) (e : Ex) : Prop := W.cell? ⟨b, o, none⟩ = some (.int .i64 e.op) ∧ W.cell? ⟨b, o + 1, none⟩ = some (.int .u8 e.vl.k) ∧ W.cell? ⟨b, o + 2, none⟩ = some (.int .i64 e.vl.n) ∧ W.cell? ⟨b, o + 3, none⟩ = some (.string e.vl.s) ∧ W.cell? ⟨b, o + 4, none⟩ = some (.slice e.adr e.args.length e.cp)
theorem arg_cells {W : World} {A : Option Addr} {c : Nat} {l : List Ex} (h : CellsG enX W A c l) (hl : 0 < l.length) :
    ∃ b o, A = some ⟨b, o, none⟩ ∧ b < W.heap.size ∧ ∀ k e, l[k]? = some e → ∀ W', Below W.heap.size W W' → ArgC W' b (o + k * 5) e := by
  obtain ⟨b, o, hA, hb, hc⟩ := h.at_ elX hl
  refine ⟨b, o, hA, hb, fun k e he W' hW => ?_⟩
  have q : ∀ j, j < 5 → W'.cell? ⟨b, o + (k * 5 + j), none⟩ = (enX e)[j]? := fun j hj => (hW.cell (p := ⟨b, o + (k * 5 + j), none⟩) hb).trans (hc k j e he hj)
  exact ⟨q 0 (by omega), by have := q 1 (by omega); rwa [← Nat.add_assoc] at this, by have := q 2 (by omega); rwa [← Nat.add_assoc] at this, by have := q 3 (by omega); rwa [← Nat.add_assoc] at this, by have := q 4 (by omega); rwa [← Nat.add_assoc] at this⟩
theorem size_pos : ∀ e : Ex, 1 ≤ e.size := by
  intro e
  induction e using Ex.ind with
  | h op v A c l ih =>
    have : ∀ l : List Ex, (∀ e ∈ l, 1 ≤ e.size) → (l.length : Int) ≤ sizeL l := by
      intro l
      induction l with
      | nil => intro _; simp [sizeL]
      | cons e l ihl => intro h; have h1 := h e (by simp); have h2 := ihl fun x hx => h x (by simp [hx]); simp only [sizeL, List.length_cons]; omega
    simp only [Ex.size]
    have := this l ih
    omega
theorem sizeL_len : ∀ l : List Ex, (l.length : Int) ≤ sizeL l
  | [] => by simp [sizeL]
  | e :: l => by have h1 := size_pos e; have h2 := sizeL_len l; simp only [sizeL, List.length_cons]; omega
theorem sizeL_take (l : List Ex) (k : Nat) : sizeL (l.take k) ≤ sizeL l := by
  have h := sizeL_append (l.take k) (l.drop k)
  rw [List.take_append_drop] at h
  have h2 := sizeL_len (l.drop k)
  omega
theorem take_snoc {l : List Ex} {k : Nat} {e : Ex} (h : l[k]? = some e) : l.take (k + 1) = l.take k ++ [e] := by rw [List.take_add_one, h]; rfl
theorem sizeL_next {l : List Ex} {k : Nat} {e : Ex} (h : l[k]? = some e) : sizeL (l.take (k + 1)) = sizeL (l.take k) + e.size := by rw [take_snoc h, sizeL_append]; simp [sizeL]
end Go.Proofs.YtkaapfakalojaaaDoor
namespace Go.Proofs.YtkaapfakalojaaaDoor
open Go.ChangeShapes Go.WideShapes Go.ChangeAt Go.RowKit
set_option linter.unusedVariables false
set_option maxRecDepth 20000
def RelS (f : List Ex → Int) (l : List Ex) (w1 : World) (n i : Value) (wr : World) : Prop := ∃ (k : Nat) (x : Int), n = .int .i64 x ∧ i = .int .i64 k ∧ k ≤ l.length ∧ Hid (x = f (l.take k)) ∧ Below w1.heap.size w1 wr
set_option maxHeartbeats 2000000 in
theorem rsize_calls : ∀ (e : Ex) (w : World), e.At w → e.size ≤ 3000 → Calls Tryd.prog 9 #[e.v] w fun q w' => q = .returned (.int .i64 e.size) ∧ Below w.heap.size w w' := by
  intro e
  induction e using Ex.ind with
  | h op v A c l ih =>
    intro w hAt hs
    simp only [Ex.At] at hAt
    simp only [Ex.size] at hs ⊢
    obtain ⟨hcl, hal⟩ := hAt
    have hlen := sizeL_len l
    unfold Ex.v
    simp only [Ex.op, Ex.vl, Ex.adr, Ex.args, Ex.cp]
    obtain ⟨k, n, s⟩ := v
    dsimp only
    obtain ⟨ln, hln⟩ : ∃ ln, ln = l.length := ⟨_, rfl⟩
    have HLN := Lib.hid hln
    rw [← hln]
    have hB1 := below_one w (.cells #[.int .i64 op, .int .u8 k, .int .i64 n, .string s, .slice A ln c] 26)
    have bx := Blk.new w #[.int .i64 op, .int .u8 k, .int .i64 n, .string s, .slice A ln c] 26
    obtain ⟨W1, hW1⟩ : ∃ W1, W1 = w.alloc (.cells #[.int .i64 op, .int .u8 k, .int .i64 n, .string s, .slice A ln c] 26) := ⟨_, rfl⟩
    rw [← hW1] at hB1 bx
    have HB1 := Lib.hid hB1
    have HX := Lib.hid bx
    have HIH := Lib.hid (fun e he W hW => ih e he W (Ex.At.below hW e (atL_mem hal e he)))
    have HCL := Lib.hid hcl
    have HTK := Lib.hid (sizeL_take l)
    have HSL := Lib.hid hs
    have HNX := Lib.hid (fun k e => sizeL_next (l := l) (k := k) (e := e))
    have HEND := Lib.hid (show sizeL (l.take l.length) = sizeL l by rw [List.take_length])
    have hl3 : ln ≤ 3000 := by omega
    have HW1 := Lib.hid hW1
    clear hlen ih hal hcl hs hB1 bx hln hW1
    go_enter Tryd.func9, Tryd.ntmps9
    go_wp2_with fail
    rw [← HW1.out]
    go_loopw [3, 4] (RelS (fun t => 1 + sizeL t) l W1) (fun _ i _ => 3001 - (intOf i).toNat)
    case atStart => exact ⟨0, 1, rfl, rfl, Nat.zero_le _, Lib.hid (by simp [sizeL]), Below.refl _ _⟩
    case round =>
      obtain ⟨j, x, rfl, rfl, hj, hx, hbr⟩ := hrel
      rw [← HLN.out] at hj
      have HBR := Lib.hid hbr
      have HJ := Lib.hid hj
      obtain ⟨c0, c1, c2, c3, c4⟩ := (HX.out.belowAll hbr).cells5
      have HBW := Lib.hid (HB1.out.trans (hbr.mono HB1.out.size))
      clear hbr
      by_cases hlt : j < ln
      · obtain ⟨e, he⟩ : ∃ e, l[j]? = some e := ⟨l[j]'(by rw [← HLN.out]; exact hlt), by simp⟩
        obtain ⟨b, o, hA, hb, hck⟩ := arg_cells HCL.out (by rw [← HLN.out]; omega)
        subst hA
        obtain ⟨a0, a1, a2, a3, a4⟩ := hck j e he wr HBW.out
        have hmem := List.mem_of_getElem? he
        have hnx := HNX.out j e he
        have htk := HTK.out (j + 1)
        have hsz1 := size_pos e
        have hx2 := hx.out
        dsimp only at hx2
        have hsl := HSL.out
        obtain ⟨y, hy⟩ : ∃ y, y = e.size := ⟨_, rfl⟩
        have HC := Lib.hid (HIH.out e hmem wr HBW.out (by have := sizeL_len (l.take j); omega))
        rw [← hy] at HC hnx hsz1
        unfold Ex.v at HC
        have hx0 : 0 ≤ x := by have := sizeL_len (l.take j); omega
        have hxy : x + y ≤ 3001 := by omega
        have HNEW := Lib.hid (show x + y = 1 + sizeL (l.take (j + 1)) by rw [hnx]; omega)
        have hw1 : wrap64 (x + y) = x + y := by unfold wrap64; omega
        have h1i : (j : Int) < (ln : Int) := by omega
        generalize e.op = p0 at *
        generalize e.vl.k = p1 at *
        generalize e.vl.n = p2 at *
        generalize e.vl.s = p3 at *
        generalize e.adr = p4 at *
        generalize e.args.length = p5 at *
        generalize e.cp = p6 at *
        clear hck he hmem hnx htk hx hx2 hsl hy hb hj
        go_wp2_with fail
        refine HC.out.mono ?_
        rintro q w2 ⟨rfl, hb2⟩
        have HB2 := Lib.hid (HBR.out.trans (hb2.mono HBR.out.size))
        clear hb2
        dsimp only
        go_wp2
        go_roundw
        case rel => exact ⟨j + 1, x + y, by rfl, by go_num, by rw [← HLN.out]; omega, Lib.hid HNEW.out, HB2.out⟩
        case measure => simp [intOf]; omega
      · obtain rfl : j = ln := by omega
        have hd2 : decide ((j : Int) < (j : Int)) = false := by simp
        have hx2 : x = 1 + sizeL l := by rw [hx.out, HLN.out]; show 1 + sizeL (l.take l.length) = _; rw [HEND.out]
        clear hx
        go_wp2
        go_ret
        exact ⟨by rw [← hx2]; rfl, HBW.out⟩
end Go.Proofs.YtkaapfakalojaaaDoor
namespace Go.Proofs.YtkaapfakalojaaaDoor
open Go.ChangeShapes Go.WideShapes Go.ChangeAt Go.RowKit
set_option linter.unusedVariables false
set_option maxRecDepth 20000
def RelS2 (f : List Ex → Int) (l : List Ex) (w1 : World) (n i : Value) (wr : World) : Prop := ∃ (k : Nat) (x : Int), n = .int .i64 x ∧ i = .int .i64 k ∧ k ≤ l.length ∧ Hid (x = f (l.take k)) ∧ 0 ≤ x ∧ x ≤ 3000 ∧ Below w1.heap.size w1 wr
def RelBx (f : List Ex → Bool) (v : Bool) (l : List Ex) (w1 : World) (i : Value) (wr : World) : Prop := ∃ k : Nat, i = .int .i64 k ∧ k ≤ l.length ∧ Hid (f (l.take k) = v) ∧ Below w1.heap.size w1 wr
set_option maxHeartbeats 4000000 in
theorem rarity_calls (op : Int) (w : World) : Calls Tryd.prog 23 #[.int .i64 op] w fun q w' => q = .returned (.int .i64 (arity op)) ∧ ∃ p, w' = w.drewN p := by
  have hcase : op < 0 ∨ 27 < op ∨ (0 ≤ op ∧ op ≤ 27) := by omega
  rcases hcase with h | h | ⟨h0, h1⟩
  · have d : decide (op < 0) = true := decide_eq_true h
    have e : arity op = -1 := by unfold arity; rw [if_pos (.inl h)]
    rw [e]
    go_enter Tryd.func23, Tryd.ntmps23
    go_wp2
    go_ret
    exact ⟨rfl, 0, rfl⟩
  · have d : decide (op < 0) = false := decide_eq_false (by omega)
    have d2 : decide (27 < op) = true := decide_eq_true h
    have e : arity op = -1 := by unfold arity; rw [if_pos (.inr h)]
    rw [e]
    go_enter Tryd.func23, Tryd.ntmps23
    go_wp2
    go_ret
    exact ⟨rfl, 0, rfl⟩
  · by_cases h8 : op < 8
    · have d : decide (op < 0) = false := decide_eq_false (by omega)
      have d2 : decide (27 < op) = false := decide_eq_false (by omega)
      have d3 : decide (op < 8) = true := decide_eq_true h8
      have e : arity op = 0 := by unfold arity; rw [if_neg (by omega), if_pos h8]
      rw [e]
      go_enter Tryd.func23, Tryd.ntmps23
      go_wp2
      go_ret
      exact ⟨rfl, 0, rfl⟩
    · have hk : op = 8 ∨ op = 9 ∨ op = 10 ∨ op = 11 ∨ op = 12 ∨ op = 13 ∨ op = 14 ∨ op = 15 ∨ op = 16 ∨ op = 17 ∨ op = 18 ∨ op = 19 ∨ op = 20 ∨ op = 21 ∨ op = 22 ∨ op = 23 ∨ op = 24 ∨ op = 25 ∨ op = 26 ∨ op = 27 := by omega
      clear h0 h1 h8
      rcases hk with rfl | rfl | rfl | rfl | rfl | rfl | rfl | rfl | rfl | rfl | rfl | rfl | rfl | rfl | rfl | rfl | rfl | rfl | rfl | rfl
      all_goals
        rw [show arity _ = _ from rfl]
        go_enter Tryd.func23, Tryd.ntmps23
        go_wp2
        go_ret
        exact ⟨rfl, 0, rfl⟩
end Go.Proofs.YtkaapfakalojaaaDoor
namespace Go.Proofs.YtkaapfakalojaaaDoor
open Go.ChangeShapes Go.WideShapes Go.ChangeAt Go.RowKit
set_option linter.unusedVariables false
set_option maxRecDepth 20000
theorem deepL_nonneg : ∀ l : List Ex, 0 ≤ deepL l
  | [] => by simp [deepL]
  | e :: l => by have := deepL_nonneg l; simp only [deepL]; omega
theorem deep_le : ∀ e : Ex, 1 ≤ e.deep ∧ e.deep ≤ e.size := by
  intro e
  induction e using Ex.ind with
  | h op v A c l ih =>
    have key : ∀ l : List Ex, (∀ e ∈ l, 1 ≤ e.deep ∧ e.deep ≤ e.size) → deepL l ≤ sizeL l := by
      intro l
      induction l with
      | nil => intro _; simp [deepL, sizeL]
      | cons e l ihl =>
        intro h
        have h1 := h e (by simp)
        have h2 := ihl fun x hx => h x (by simp [hx])
        have h3 := size_pos e
        have h4 := sizeL_len l
        simp only [deepL, sizeL]; omega
    have h1 := key l ih
    have h2 := deepL_nonneg l
    simp only [Ex.deep, Ex.size]; omega
theorem size_arg {op : Int} {v : Vl} {A : Option Addr} {c : Nat} {l : List Ex} {e : Ex} (he : e ∈ l) : e.size < (Ex.node op v A c l).size := by
  have key : ∀ l : List Ex, e ∈ l → e.size ≤ sizeL l := by
    intro l
    induction l with
    | nil => intro h; cases h
    | cons a l ih =>
      intro h
      have h1 := sizeL_len l
      have h2 := size_pos a
      simp only [sizeL]
      rcases List.mem_cons.1 h with rfl | h
      · omega
      · have := ih h; omega
  have := key l he
  simp only [Ex.size]; omega
set_option maxHeartbeats 2000000 in
theorem rdeep_calls : ∀ (e : Ex) (w : World), e.size ≤ 3000 → e.At w → Calls Tryd.prog 11 #[e.v] w fun q w' => q = .returned (.int .i64 e.deep) ∧ Below w.heap.size w w' := by
  intro e
  induction e using Ex.ind with
  | h op v A c l ih =>
    intro w hsz hAt
    simp only [Ex.At] at hAt
    simp only [Ex.deep]
    obtain ⟨hcl, hal⟩ := hAt
    have hlen := sizeL_len l
    unfold Ex.v
    simp only [Ex.op, Ex.vl, Ex.adr, Ex.args, Ex.cp]
    obtain ⟨k, n, s⟩ := v
    dsimp only
    obtain ⟨ln, hln⟩ : ∃ ln, ln = l.length := ⟨_, rfl⟩
    have HLN := Lib.hid hln
    have HALL := Lib.hid (fun e he => atL_mem hal e he)
    rw [← hln]
    have hB1 := below_one w (.cells #[.int .i64 op, .int .u8 k, .int .i64 n, .string s, .slice A ln c] 26)
    have bx := Blk.new w #[.int .i64 op, .int .u8 k, .int .i64 n, .string s, .slice A ln c] 26
    obtain ⟨w0, w1, w2, w3, w4⟩ := bx.cells5
    obtain ⟨W1, hW1⟩ : ∃ W1, W1 = w.alloc (.cells #[.int .i64 op, .int .u8 k, .int .i64 n, .string s, .slice A ln c] 26) := ⟨_, rfl⟩
    rw [← hW1] at hB1 bx
    have HB1 := Lib.hid hB1
    have HX := Lib.hid bx
    have HIH := Lib.hid (fun e he W hW => ih e he W (by have := size_arg (op := op) (v := ⟨k, n, s⟩) (A := A) (c := c) he; omega) (Ex.At.below hW e (HALL.out e he)))
    have HCL := Lib.hid hcl
    have HEND := Lib.hid (show l.take l.length = l from List.take_length)
    have hl3 : ln ≤ 3000 := by
      have := hsz
      simp only [Ex.size] at this; omega
    have HDM := Lib.hid (fun e (he : e ∈ l) => show e.deep ≤ 3000 from Int.le_trans (deep_le e).2 (by have := size_arg (op := op) (v := ⟨k, n, s⟩) (A := A) (c := c) he; omega))
    have HW1 := Lib.hid hW1
    clear hlen ih hal hcl hB1 bx hln hW1 hsz
    go_enter Tryd.func11, Tryd.ntmps11
    go_wp2_with fail
    rw [← HW1.out]
    clear w0 w1 w2 w3 w4
    go_loopw [3, 4] (RelS2 deepL l W1) (fun _ i _ => 3001 - (intOf i).toNat)
    case atStart => exact ⟨0, 0, rfl, rfl, Nat.zero_le _, Lib.hid (by simp [deepL]), by omega, by omega, Below.refl _ _⟩
    case round =>
      obtain ⟨j, x, rfl, rfl, hj, hx, hx0, hx1, hbr⟩ := hrel
      have HBR := Lib.hid hbr
      obtain ⟨c0, c1, c2, c3, c4⟩ := (HX.out.belowAll hbr).cells5
      have HBW := Lib.hid (HB1.out.trans (hbr.mono HB1.out.size))
      have HJL := Lib.hid (show j ≤ ln by rw [HLN.out]; exact hj)
      clear hbr hj
      by_cases hlt : j < ln
      · obtain ⟨e, he⟩ : ∃ e, l[j]? = some e := ⟨l[j]'(by rw [← HLN.out]; exact hlt), by simp⟩
        obtain ⟨b, o, hA, hb, hck⟩ := arg_cells HCL.out (by rw [← HLN.out]; omega)
        subst hA
        obtain ⟨a0, a1, a2, a3, a4⟩ := hck j e he wr HBW.out
        have hmem := List.mem_of_getElem? he
        have hsn := take_snoc he
        have h1i : (j : Int) < (ln : Int) := by omega
        have HC := Lib.hid (HIH.out e hmem wr HBW.out)
        obtain ⟨y, hy⟩ : ∃ y, y = e.deep := ⟨_, rfl⟩
        have hy1 := HDM.out e hmem
        have hy0 := (deep_le e).1
        rw [← hy] at HC hy1 hy0
        have HNEW := Lib.hid (show max x y = deepL (l.take (j + 1)) by rw [hsn, deepL_append, hx.out]; simp only [deepL]; rw [← hy]; omega)
        unfold Ex.v at HC
        generalize e.op = p0 at *
        generalize e.vl.k = p1 at *
        generalize e.vl.n = p2 at *
        generalize e.vl.s = p3 at *
        generalize e.adr = p4 at *
        generalize e.args.length = p5 at *
        generalize e.cp = p6 at *
        clear hck he hmem hsn hb hx hy
        go_wp2_with fail
        refine HC.out.mono ?_
        rintro q w2 ⟨rfl, hb2⟩
        have HB2 := Lib.hid (HBR.out.trans (hb2.mono HBR.out.size))
        have HBW2 := Lib.hid (HBW.out.trans (hb2.mono HBW.out.size))
        clear hb2
        dsimp only
        by_cases hgt : x < y
        · have d1 : decide (x < y) = true := decide_eq_true hgt
          go_wp2
          go_roundw
          case rel => exact ⟨j + 1, y, by rfl, by go_num, by rw [← HLN.out]; omega, Lib.hid (by rw [← HNEW.out]; omega), by omega, by omega, HB2.out⟩
          case measure => simp [intOf]; omega
        · have d1 : decide (x < y) = false := decide_eq_false hgt
          go_wp2
          go_roundw
          case rel => exact ⟨j + 1, x, by rfl, by go_num, by rw [← HLN.out]; omega, Lib.hid (by rw [← HNEW.out]; omega), by omega, by omega, HB2.out⟩
          case measure => simp [intOf]; omega
      · obtain rfl : j = ln := by have := HJL.out; omega
        have hd2 : decide ((j : Int) < (j : Int)) = false := by simp
        have hx2 : x = deepL l := by rw [hx.out, HLN.out, HEND.out]
        have hw1 : wrap64 (x + 1) = x + 1 := by unfold wrap64; omega
        clear hx
        go_wp2
        go_ret
        exact ⟨by rw [← hx2]; rfl, HBW.out⟩
set_option maxHeartbeats 2000000 in
theorem rshaped_calls : ∀ (e : Ex) (w : World), e.size ≤ 3000 → e.At w → Calls Tryd.prog 31 #[e.v] w fun q w' => q = .returned (.bool e.shaped) ∧ Below w.heap.size w w' := by
  intro e
  induction e using Ex.ind with
  | h op v A c l ih =>
    intro w hsz hAt
    simp only [Ex.At] at hAt
    simp only [Ex.shaped]
    obtain ⟨hcl, hal⟩ := hAt
    have hlen := sizeL_len l
    unfold Ex.v
    simp only [Ex.op, Ex.vl, Ex.adr, Ex.args, Ex.cp]
    obtain ⟨k, n, s⟩ := v
    dsimp only
    obtain ⟨ln, hln⟩ : ∃ ln, ln = l.length := ⟨_, rfl⟩
    have HLN := Lib.hid hln
    have HALL := Lib.hid (fun e he => atL_mem hal e he)
    rw [← hln]
    have hB1 := below_one w (.cells #[.int .i64 op, .int .u8 k, .int .i64 n, .string s, .slice A ln c] 26)
    have bx := Blk.new w #[.int .i64 op, .int .u8 k, .int .i64 n, .string s, .slice A ln c] 26
    obtain ⟨w0, w1, w2, w3, w4⟩ := bx.cells5
    obtain ⟨W1, hW1⟩ : ∃ W1, W1 = w.alloc (.cells #[.int .i64 op, .int .u8 k, .int .i64 n, .string s, .slice A ln c] 26) := ⟨_, rfl⟩
    rw [← hW1] at hB1 bx
    have HB1 := Lib.hid hB1
    have HX := Lib.hid bx
    have HIH := Lib.hid (fun e he W hW => ih e he W (by have := size_arg (op := op) (v := ⟨k, n, s⟩) (A := A) (c := c) he; omega) (Ex.At.below hW e (HALL.out e he)))
    have HCL := Lib.hid hcl
    have HEND := Lib.hid (show l.take l.length = l from List.take_length)
    have hl3 : ln ≤ 3000 := by
      have := hsz
      simp only [Ex.size] at this; omega
    have HAR := Lib.hid (fun W => rarity_calls op W)
    have HW1 := Lib.hid hW1
    clear hlen ih hal hcl hB1 bx hln hW1 hsz
    by_cases har : (ln : Int) = arity op
    · rw [show decide ((ln : Int) = arity op) = true by simpa using har, Bool.true_and]
      have hne : ((ln : Int) != arity op) = false := by simpa using har
      clear har
      go_enter Tryd.func31, Tryd.ntmps31
      go_wp2_with fail
      go_quiet ((go_at_call 23; refine Calls.quiet_of (HAR.out _)))
      go_wp2_with fail
      rw [← HW1.out]
      clear w0 w1 w2 w3 w4
      go_loopw [3] (RelBx shapedL true l W1) (fun i _ => 3001 - (intOf i).toNat)
      case atStart => exact ⟨0, rfl, Nat.zero_le _, Lib.hid (by simp [shapedL]), ⟨rfl, rfl, rfl, Nat.le_refl _, fun _ _ => rfl⟩⟩
      case round =>
        obtain ⟨j, rfl, hj, hx, hbr⟩ := hrel
        have HBR := Lib.hid hbr
        obtain ⟨c0, c1, c2, c3, c4⟩ := (HX.out.belowAll hbr).cells5
        have HBW := Lib.hid (HB1.out.trans (hbr.mono HB1.out.size))
        have HJL := Lib.hid (show j ≤ ln by rw [HLN.out]; exact hj)
        clear hbr hj
        by_cases hlt : j < ln
        · obtain ⟨e, he⟩ : ∃ e, l[j]? = some e := ⟨l[j]'(by rw [← HLN.out]; exact hlt), by simp⟩
          obtain ⟨b, o, hA, hb, hck⟩ := arg_cells HCL.out (by rw [← HLN.out]; omega)
          subst hA
          obtain ⟨a0, a1, a2, a3, a4⟩ := hck j e he wr HBW.out
          have hmem := List.mem_of_getElem? he
          have hsn := take_snoc he
          have h1i : (j : Int) < (ln : Int) := by omega
          have HC := Lib.hid (HIH.out e hmem wr HBW.out)
          obtain ⟨y, hy⟩ : ∃ y, y = e.shaped := ⟨_, rfl⟩
          rw [← hy] at HC
          have HNEW := Lib.hid (show y = shapedL (l.take (j + 1)) by rw [hsn, shapedL_append, hx.out]; simp only [shapedL]; rw [← hy]; simp)
          have HNOT := Lib.hid (show y = false → shapedL l = false from fun h => by
            have h9 := shapedL_append (l.take (j + 1)) (l.drop (j + 1))
            rw [List.take_append_drop, ← HNEW.out, h] at h9
            simpa using h9)
          unfold Ex.v at HC
          generalize e.op = p0 at *
          generalize e.vl.k = p1 at *
          generalize e.vl.n = p2 at *
          generalize e.vl.s = p3 at *
          generalize e.adr = p4 at *
          generalize e.args.length = p5 at *
          generalize e.cp = p6 at *
          clear hck he hmem hsn hb hx hy
          go_wp2_with fail
          refine HC.out.mono ?_
          rintro q w2 ⟨rfl, hb2⟩
          have HB2 := Lib.hid (HBR.out.trans (hb2.mono HBR.out.size))
          have HBW2 := Lib.hid (HBW.out.trans (hb2.mono HBW.out.size))
          clear hb2
          dsimp only
          cases y with
          | true =>
            go_wp2
            go_roundw
            case rel => exact ⟨j + 1, by go_num, by rw [← HLN.out]; omega, Lib.hid HNEW.out.symm, HB2.out⟩
            case measure => simp [intOf]; omega
          | false =>
            go_wp2
            go_ret
            exact ⟨by rw [HNOT.out (by first | rfl | trivial)]; rfl, HBW2.out⟩
        · obtain rfl : j = ln := by have := HJL.out; omega
          have hd2 : decide ((j : Int) < (j : Int)) = false := by simp
          have hx2 : shapedL l = true := by rw [← hx.out, HLN.out, HEND.out]
          clear hx
          go_wp2
          go_ret
          exact ⟨by rw [hx2]; rfl, HBW.out⟩
    · rw [show decide ((ln : Int) = arity op) = false by simpa using har, Bool.false_and]
      have hne : ((ln : Int) != arity op) = true := by simpa using har
      clear har
      go_enter Tryd.func31, Tryd.ntmps31
      go_wp2_with fail
      go_quiet ((go_at_call 23; refine Calls.quiet_of (HAR.out _)))
      go_wp2
      go_ret
      refine ⟨rfl, ?_⟩
      rw [← HW1.out]
      exact HB1.out.trans ⟨rfl, rfl, rfl, Nat.le_refl _, fun _ _ => rfl⟩
end Go.Proofs.YtkaapfakalojaaaDoor
namespace Go.Proofs.YtkaapfakalojaaaDoor
open Go.ChangeShapes Go.WideShapes Go.ChangeAt Go.RowKit
set_option linter.unusedVariables false
set_option maxRecDepth 20000
mutual
def Ex.Good : Ex → Prop | .node op v _ _ l => (I64 op ∧ v.Good) ∧ l.length ≤ maxLen ∧ goodL l
def goodL : List Ex → Prop | [] => True | e :: l => e.Good ∧ goodL l
end
theorem goodL_mem : ∀ {l : List Ex}, goodL l → ∀ e ∈ l, e.Good
  | [], _, e, he => by cases he
  | a :: l, h, e, he => by
    simp only [goodL] at h
    rcases List.mem_cons.1 he with rfl | he
    · exact h.1
    · exact goodL_mem h.2 e he
theorem goodL_of : ∀ {l : List Ex}, (∀ e ∈ l, e.Good) → goodL l
  | [], _ => trivial
  | a :: l, h => by
    simp only [goodL]
    exact ⟨h a (by simp), goodL_of fun e he => h e (by simp [he])⟩
set_option maxHeartbeats 4000000 in
theorem rwide_calls : ∀ (e : Ex) (w : World), e.size ≤ 3000 → e.Good → e.At w → Calls Tryd.prog 32 #[e.v] w fun q w' => q = .returned (.bool e.wide) ∧ Below w.heap.size w w' := by
  intro e
  induction e using Ex.ind with
  | h op v A c l ih =>
    intro w hsz hgd hAt
    simp only [Ex.At] at hAt
    simp only [Ex.wide]
    obtain ⟨hcl, hal⟩ := hAt
    have hlen := sizeL_len l
    unfold Ex.v
    simp only [Ex.op, Ex.vl, Ex.adr, Ex.args, Ex.cp]
    obtain ⟨k, n, s⟩ := v
    dsimp only
    obtain ⟨ln, hln⟩ : ∃ ln, ln = l.length := ⟨_, rfl⟩
    have HLN := Lib.hid hln
    simp only [Ex.Good] at hgd
    have HGL := Lib.hid hgd.2.2
    have HALL := Lib.hid (fun e he => atL_mem hal e he)
    rw [← hln]
    have hB1 := below_one w (.cells #[.int .i64 op, .int .u8 k, .int .i64 n, .string s, .slice A ln c] 26)
    have bx := Blk.new w #[.int .i64 op, .int .u8 k, .int .i64 n, .string s, .slice A ln c] 26
    obtain ⟨w0, w1, w2, w3, w4⟩ := bx.cells5
    obtain ⟨W1, hW1⟩ : ∃ W1, W1 = w.alloc (.cells #[.int .i64 op, .int .u8 k, .int .i64 n, .string s, .slice A ln c] 26) := ⟨_, rfl⟩
    rw [← hW1] at hB1 bx
    have HB1 := Lib.hid hB1
    have HX := Lib.hid bx
    have HIH := Lib.hid (fun e he W hW => ih e he W (by have := size_arg (op := op) (v := ⟨k, n, s⟩) (A := A) (c := c) he; omega) (goodL_mem HGL.out e he) (Ex.At.below hW e (HALL.out e he)))
    have HCL := Lib.hid hcl
    have HEND := Lib.hid (show l.take l.length = l from List.take_length)
    have hl3 : ln ≤ 3000 := by
      have := hsz
      simp only [Ex.size] at this; omega
    have hs2 : s.size ≤ 140737488351232 := hgd.1.2.s1
    have HW1 := Lib.hid hW1
    clear hlen ih hal hcl hB1 bx hln hW1 hsz hgd
    by_cases h0 : op = 0
    · have e0 : (op == 0) = true := by simpa using h0
      by_cases hk : k = 0
      · have e1 : (k != 0) = false := by simpa using hk
        rw [show (decide (op = 0) && (decide (k ≠ 0) && decide (65536 < s.size))) = false by simp; omega, Bool.false_or]
        clear h0 hk
        go_enter Tryd.func32, Tryd.ntmps32
        go_wp2_with fail
        rw [← HW1.out]
        clear w0 w1 w2 w3 w4
        go_loopw [3] (RelBx wideL false l W1) (fun i _ => 3001 - (intOf i).toNat)
        case atStart => exact ⟨0, rfl, Nat.zero_le _, Lib.hid (by simp [wideL]), Below.refl _ _⟩
        case round =>
          obtain ⟨j, rfl, hj, hx, hbr⟩ := hrel
          have HBR := Lib.hid hbr
          obtain ⟨c0, c1, c2, c3, c4⟩ := (HX.out.belowAll hbr).cells5
          have HBW := Lib.hid (HB1.out.trans (hbr.mono HB1.out.size))
          have HJL := Lib.hid (show j ≤ ln by rw [HLN.out]; exact hj)
          clear hbr hj
          by_cases hlt : j < ln
          · obtain ⟨e, he⟩ : ∃ e, l[j]? = some e := ⟨l[j]'(by rw [← HLN.out]; exact hlt), by simp⟩
            obtain ⟨b, o, hA, hb, hck⟩ := arg_cells HCL.out (by rw [← HLN.out]; omega)
            subst hA
            obtain ⟨a0, a1, a2, a3, a4⟩ := hck j e he wr HBW.out
            have hmem := List.mem_of_getElem? he
            have hsn := take_snoc he
            have h1i : (j : Int) < (ln : Int) := by omega
            have HC := Lib.hid (HIH.out e hmem wr HBW.out)
            obtain ⟨y, hy⟩ : ∃ y, y = e.wide := ⟨_, rfl⟩
            rw [← hy] at HC
            have HNEW := Lib.hid (show y = wideL (l.take (j + 1)) by rw [hsn, wideL_append, hx.out]; simp only [wideL]; rw [← hy]; simp)
            have HNOT := Lib.hid (show y = true → wideL l = true from fun h => by
              have h9 := wideL_append (l.take (j + 1)) (l.drop (j + 1))
              rw [List.take_append_drop, ← HNEW.out, h] at h9
              simpa using h9)
            unfold Ex.v at HC
            generalize e.op = p0 at *
            generalize e.vl.k = p1 at *
            generalize e.vl.n = p2 at *
            generalize e.vl.s = p3 at *
            generalize e.adr = p4 at *
            generalize e.args.length = p5 at *
            generalize e.cp = p6 at *
            clear hck he hmem hsn hb hx hy
            go_wp2_with fail
            refine HC.out.mono ?_
            rintro q w2 ⟨rfl, hb2⟩
            have HB2 := Lib.hid (HBR.out.trans (hb2.mono HBR.out.size))
            have HBW2 := Lib.hid (HBW.out.trans (hb2.mono HBW.out.size))
            clear hb2
            dsimp only
            cases y with
            | false =>
              go_wp2
              go_roundw
              case rel => exact ⟨j + 1, by go_num, by rw [← HLN.out]; omega, Lib.hid HNEW.out.symm, HB2.out⟩
              case measure => simp [intOf]; omega
            | true =>
              go_wp2
              go_ret
              exact ⟨by rw [HNOT.out (by first | rfl | trivial)]; rfl, HBW2.out⟩
          · obtain rfl : j = ln := by have := HJL.out; omega
            have hd2 : decide ((j : Int) < (j : Int)) = false := by simp
            have hx2 : wideL l = false := by rw [← hx.out, HLN.out, HEND.out]
            clear hx
            go_wp2
            go_ret
            exact ⟨by rw [hx2]; rfl, HBW.out⟩
      · have e1 : (k != 0) = true := by simpa using hk
        by_cases hs : 65536 < s.size
        · rw [show (decide (op = 0) && (decide (k ≠ 0) && decide (65536 < s.size))) = true by simp; exact ⟨h0, hk, hs⟩, Bool.true_or]
          clear h0 hk
          go_enter Tryd.func32, Tryd.ntmps32
          go_wp2
          go_ret
          exact ⟨rfl, by rw [← HW1.out]; exact HB1.out⟩
        · have hsd : decide ((65536 : Int) < (s.size : Int)) = false := decide_eq_false (by omega)
          rw [show (decide (op = 0) && (decide (k ≠ 0) && decide (65536 < s.size))) = false by simp; omega, Bool.false_or]
          clear h0 hk
          go_enter Tryd.func32, Tryd.ntmps32
          go_wp2_with fail
          rw [← HW1.out]
          clear w0 w1 w2 w3 w4
          go_loopw [3] (RelBx wideL false l W1) (fun i _ => 3001 - (intOf i).toNat)
          case atStart => exact ⟨0, rfl, Nat.zero_le _, Lib.hid (by simp [wideL]), Below.refl _ _⟩
          case round =>
            obtain ⟨j, rfl, hj, hx, hbr⟩ := hrel
            have HBR := Lib.hid hbr
            obtain ⟨c0, c1, c2, c3, c4⟩ := (HX.out.belowAll hbr).cells5
            have HBW := Lib.hid (HB1.out.trans (hbr.mono HB1.out.size))
            have HJL := Lib.hid (show j ≤ ln by rw [HLN.out]; exact hj)
            clear hbr hj
            by_cases hlt : j < ln
            · obtain ⟨e, he⟩ : ∃ e, l[j]? = some e := ⟨l[j]'(by rw [← HLN.out]; exact hlt), by simp⟩
              obtain ⟨b, o, hA, hb, hck⟩ := arg_cells HCL.out (by rw [← HLN.out]; omega)
              subst hA
              obtain ⟨a0, a1, a2, a3, a4⟩ := hck j e he wr HBW.out
              have hmem := List.mem_of_getElem? he
              have hsn := take_snoc he
              have h1i : (j : Int) < (ln : Int) := by omega
              have HC := Lib.hid (HIH.out e hmem wr HBW.out)
              obtain ⟨y, hy⟩ : ∃ y, y = e.wide := ⟨_, rfl⟩
              rw [← hy] at HC
              have HNEW := Lib.hid (show y = wideL (l.take (j + 1)) by rw [hsn, wideL_append, hx.out]; simp only [wideL]; rw [← hy]; simp)
              have HNOT := Lib.hid (show y = true → wideL l = true from fun h => by
                have h9 := wideL_append (l.take (j + 1)) (l.drop (j + 1))
                rw [List.take_append_drop, ← HNEW.out, h] at h9
                simpa using h9)
              unfold Ex.v at HC
              generalize e.op = p0 at *
              generalize e.vl.k = p1 at *
              generalize e.vl.n = p2 at *
              generalize e.vl.s = p3 at *
              generalize e.adr = p4 at *
              generalize e.args.length = p5 at *
              generalize e.cp = p6 at *
              clear hck he hmem hsn hb hx hy
              go_wp2_with fail
              refine HC.out.mono ?_
              rintro q w2 ⟨rfl, hb2⟩
              have HB2 := Lib.hid (HBR.out.trans (hb2.mono HBR.out.size))
              have HBW2 := Lib.hid (HBW.out.trans (hb2.mono HBW.out.size))
              clear hb2
              dsimp only
              cases y with
              | false =>
                go_wp2
                go_roundw
                case rel => exact ⟨j + 1, by go_num, by rw [← HLN.out]; omega, Lib.hid HNEW.out.symm, HB2.out⟩
                case measure => simp [intOf]; omega
              | true =>
                go_wp2
                go_ret
                exact ⟨by rw [HNOT.out (by first | rfl | trivial)]; rfl, HBW2.out⟩
            · obtain rfl : j = ln := by have := HJL.out; omega
              have hd2 : decide ((j : Int) < (j : Int)) = false := by simp
              have hx2 : wideL l = false := by rw [← hx.out, HLN.out, HEND.out]
              clear hx
              go_wp2
              go_ret
              exact ⟨by rw [hx2]; rfl, HBW.out⟩
    · have e0 : (op == 0) = false := by simpa using h0
      rw [show (decide (op = 0) && (decide (k ≠ 0) && decide (65536 < s.size))) = false by simp; omega, Bool.false_or]
      clear h0
      go_enter Tryd.func32, Tryd.ntmps32
      go_wp2_with fail
      rw [← HW1.out]
      clear w0 w1 w2 w3 w4
      go_loopw [3] (RelBx wideL false l W1) (fun i _ => 3001 - (intOf i).toNat)
      case atStart => exact ⟨0, rfl, Nat.zero_le _, Lib.hid (by simp [wideL]), Below.refl _ _⟩
      case round =>
        obtain ⟨j, rfl, hj, hx, hbr⟩ := hrel
        have HBR := Lib.hid hbr
        obtain ⟨c0, c1, c2, c3, c4⟩ := (HX.out.belowAll hbr).cells5
        have HBW := Lib.hid (HB1.out.trans (hbr.mono HB1.out.size))
        have HJL := Lib.hid (show j ≤ ln by rw [HLN.out]; exact hj)
        clear hbr hj
        by_cases hlt : j < ln
        · obtain ⟨e, he⟩ : ∃ e, l[j]? = some e := ⟨l[j]'(by rw [← HLN.out]; exact hlt), by simp⟩
          obtain ⟨b, o, hA, hb, hck⟩ := arg_cells HCL.out (by rw [← HLN.out]; omega)
          subst hA
          obtain ⟨a0, a1, a2, a3, a4⟩ := hck j e he wr HBW.out
          have hmem := List.mem_of_getElem? he
          have hsn := take_snoc he
          have h1i : (j : Int) < (ln : Int) := by omega
          have HC := Lib.hid (HIH.out e hmem wr HBW.out)
          obtain ⟨y, hy⟩ : ∃ y, y = e.wide := ⟨_, rfl⟩
          rw [← hy] at HC
          have HNEW := Lib.hid (show y = wideL (l.take (j + 1)) by rw [hsn, wideL_append, hx.out]; simp only [wideL]; rw [← hy]; simp)
          have HNOT := Lib.hid (show y = true → wideL l = true from fun h => by
            have h9 := wideL_append (l.take (j + 1)) (l.drop (j + 1))
            rw [List.take_append_drop, ← HNEW.out, h] at h9
            simpa using h9)
          unfold Ex.v at HC
          generalize e.op = p0 at *
          generalize e.vl.k = p1 at *
          generalize e.vl.n = p2 at *
          generalize e.vl.s = p3 at *
          generalize e.adr = p4 at *
          generalize e.args.length = p5 at *
          generalize e.cp = p6 at *
          clear hck he hmem hsn hb hx hy
          go_wp2_with fail
          refine HC.out.mono ?_
          rintro q w2 ⟨rfl, hb2⟩
          have HB2 := Lib.hid (HBR.out.trans (hb2.mono HBR.out.size))
          have HBW2 := Lib.hid (HBW.out.trans (hb2.mono HBW.out.size))
          clear hb2
          dsimp only
          cases y with
          | false =>
            go_wp2
            go_roundw
            case rel => exact ⟨j + 1, by go_num, by rw [← HLN.out]; omega, Lib.hid HNEW.out.symm, HB2.out⟩
            case measure => simp [intOf]; omega
          | true =>
            go_wp2
            go_ret
            exact ⟨by rw [HNOT.out (by first | rfl | trivial)]; rfl, HBW2.out⟩
        · obtain rfl : j = ln := by have := HJL.out; omega
          have hd2 : decide ((j : Int) < (j : Int)) = false := by simp
          have hx2 : wideL l = false := by rw [← hx.out, HLN.out, HEND.out]
          clear hx
          go_wp2
          go_ret
          exact ⟨by rw [hx2]; rfl, HBW.out⟩
end Go.Proofs.YtkaapfakalojaaaDoor
namespace Go.Proofs.YtkaapfakalojaaaDoor
open Go.ChangeShapes Go.WideShapes Go.ChangeAt Go.RowKit
set_option linter.unusedVariables false
set_option maxRecDepth 20000
theorem weighL_neg : ∀ (l : List Ex) (x : Int), x < 0 → weighL l x = x
  | [], x, _ => by simp [weighL]
  | e :: l, x, h => by rw [weighL, if_pos h]
theorem weighL_append : ∀ (a b : List Ex) (x : Int), weighL (a ++ b) x = weighL b (weighL a x)
  | [], b, x => by simp [weighL]
  | e :: a, b, x => by
    rw [List.cons_append, weighL, weighL]
    by_cases h : x < 0
    · rw [if_pos h, if_pos h, weighL_neg b x h]
    · rw [if_neg h, if_neg h, weighL_append a b]
mutual
def Ex.txt : Ex → Int | .node _ v _ _ l => v.s.size + txtL l
def txtL : List Ex → Int | [] => 0 | e :: l => e.txt + txtL l
end
theorem txt_nonneg : ∀ e : Ex, 0 ≤ e.txt := by
  intro e
  induction e using Ex.ind with
  | h op v A c l ih =>
    have key : ∀ l : List Ex, (∀ e ∈ l, 0 ≤ e.txt) → 0 ≤ txtL l := by
      intro l
      induction l with
      | nil => intro _; simp [txtL]
      | cons e l ihl => intro h; have h1 := h e (by simp); have h2 := ihl fun x hx => h x (by simp [hx]); simp only [txtL]; omega
    have := key l ih
    simp only [Ex.txt]; omega
/-- The least that weigh comes to, and what is left. -/
theorem weigh_bounds : ∀ (e : Ex), e.Good → ∀ x : Int, 0 ≤ x → -140737488351233 ≤ e.weigh x ∧ e.weigh x ≤ x := by
  intro e
  induction e using Ex.ind with
  | h op v A c l ih =>
    intro hg x hx
    simp only [Ex.Good] at hg
    have hs : v.s.size ≤ 140737488351232 := hg.1.2.s1
    have key : ∀ l : List Ex, (∀ e ∈ l, ∀ x : Int, 0 ≤ x → -140737488351233 ≤ e.weigh x ∧ e.weigh x ≤ x) → ∀ x : Int, -140737488351233 ≤ x → -140737488351233 ≤ weighL l x ∧ weighL l x ≤ x := by
      intro l
      induction l with
      | nil => intro _ x hx; simp only [weighL]; omega
      | cons e l ihl =>
        intro h x hx
        rw [weighL]
        split
        · omega
        · rename_i hn
          have h1 := h e (by simp) x (by omega)
          have h2 := ihl (fun y hy => h y (by simp [hy])) (e.weigh x) h1.1
          omega
    have h1 := key l (fun e he => ih e he (goodL_mem hg.2.2 e he)) (x - 1 - v.s.size) (by omega)
    simp only [Ex.weigh]; omega
theorem weigh_eq : ∀ (e : Ex) (x : Int), 0 ≤ e.weigh x → e.weigh x = x - e.size - e.txt := by
  intro e
  induction e using Ex.ind with
  | h op v A c l ih =>
    intro x hx
    have key : ∀ l : List Ex, (∀ e ∈ l, ∀ x : Int, 0 ≤ e.weigh x → e.weigh x = x - e.size - e.txt) → ∀ x : Int, 0 ≤ weighL l x → weighL l x = x - sizeL l - txtL l := by
      intro l
      induction l with
      | nil => intro _ x hx; simp [weighL, sizeL, txtL]
      | cons e l ihl =>
        intro h x hx
        rw [weighL] at hx ⊢
        split at hx
        · omega
        · rename_i hn
          rw [if_neg hn]
          have h2 := ihl (fun y hy => h y (by simp [hy])) (e.weigh x) hx
          have h3 : 0 ≤ e.weigh x := by
            rcases Int.lt_or_le (e.weigh x) 0 with h9 | h9
            · rw [weighL_neg l _ h9] at hx; omega
            · exact h9
          have h1 := h e (by simp) x h3
          simp only [sizeL, txtL]; omega
    simp only [Ex.weigh] at hx ⊢
    have := key l ih _ hx
    simp only [Ex.size, Ex.txt]; omega
theorem not_big {e : Ex} (h : ¬ e.weigh 3000 < 0) : e.size + e.txt ≤ 3000 := by
  have h1 := weigh_eq e 3000 (by omega)
  omega
def RelW (l : List Ex) (S : Int) (w1 : World) (n i : Value) (wr : World) : Prop := ∃ (k : Nat) (x : Int), n = .int .i64 x ∧ i = .int .i64 k ∧ k ≤ l.length ∧ Hid (x = weighL (l.take k) S) ∧ -140737488351233 ≤ x ∧ x ≤ 3000 ∧ Below w1.heap.size w1 wr
set_option maxHeartbeats 4000000 in
theorem rweigh_calls : ∀ (e : Ex) (w : World) (left : Int), 0 ≤ left → left ≤ 3000 → e.Good → e.At w → Calls Tryd.prog 26 #[e.v, .int .i64 left] w fun q w' => q = .returned (.int .i64 (e.weigh left)) ∧ Below w.heap.size w w' := by
  intro e
  induction e using Ex.ind with
  | h op v A c l ih =>
    intro w left hl0 hl9 hgd hAt
    simp only [Ex.At] at hAt
    simp only [Ex.weigh]
    obtain ⟨hcl, hal⟩ := hAt
    have hlen := sizeL_len l
    unfold Ex.v
    simp only [Ex.op, Ex.vl, Ex.adr, Ex.args, Ex.cp]
    obtain ⟨k, n, s⟩ := v
    dsimp only
    obtain ⟨ln, hln⟩ : ∃ ln, ln = l.length := ⟨_, rfl⟩
    have HLN := Lib.hid hln
    simp only [Ex.Good] at hgd
    have HGL := Lib.hid hgd.2.2
    have HALL := Lib.hid (fun e he => atL_mem hal e he)
    rw [← hln]
    have hB1 := below_one w (.cells #[.int .i64 op, .int .u8 k, .int .i64 n, .string s, .slice A ln c] 26)
    have bx := Blk.new w #[.int .i64 op, .int .u8 k, .int .i64 n, .string s, .slice A ln c] 26
    obtain ⟨w0, w1, w2, w3, w4⟩ := bx.cells5
    obtain ⟨W1, hW1⟩ : ∃ W1, W1 = w.alloc (.cells #[.int .i64 op, .int .u8 k, .int .i64 n, .string s, .slice A ln c] 26) := ⟨_, rfl⟩
    rw [← hW1] at hB1 bx
    have HB1 := Lib.hid hB1
    have HX := Lib.hid bx
    have HIH := Lib.hid (fun e he W hW (x : Int) hx0 hx1 => ih e he W x hx0 hx1 (goodL_mem HGL.out e he) (Ex.At.below hW e (HALL.out e he)))
    have HCL := Lib.hid hcl
    have HEND := Lib.hid (show l.take l.length = l from List.take_length)
    have hm : ln ≤ 9223372036854775807 := by have := hgd.2.1; unfold maxLen at this; omega
    have hs2 : s.size ≤ 140737488351232 := hgd.1.2.s1
    have HWB := Lib.hid (fun e he => weigh_bounds e (goodL_mem HGL.out e he))
    obtain ⟨S, hS⟩ : ∃ S : Int, S = left - 1 - s.size := ⟨_, rfl⟩
    rw [← hS]
    have HS := Lib.hid hS
    have hS0 : -140737488351233 ≤ S := by omega
    have hS1 : S ≤ 3000 := by omega
    have HW1 := Lib.hid hW1
    clear hlen ih hal hcl hB1 bx hln hW1 hgd hS
    go_enter Tryd.func26, Tryd.ntmps26
    go_wp2_with fail
    rw [← HW1.out]

    clear w0 w1 w2 w3 w4
    go_loopw [1, 5] (RelW l S W1) (fun _ i _ => ln + 1 - (intOf i).toNat)
    case atStart => exact ⟨0, S, by rw [HS.out], rfl, Nat.zero_le _, Lib.hid (by simp [weighL]), hS0, hS1, Below.refl _ _⟩
    case round =>
      obtain ⟨j, x, rfl, rfl, hj, hx, hx0, hx1, hbr⟩ := hrel
      have HBR := Lib.hid hbr
      obtain ⟨c0, c1, c2, c3, c4⟩ := (HX.out.belowAll hbr).cells5
      have HBW := Lib.hid (HB1.out.trans (hbr.mono HB1.out.size))
      have HJL := Lib.hid (show j ≤ ln by rw [HLN.out]; exact hj)
      clear hbr hj
      by_cases hlt : j < ln
      · by_cases hneg : x < 0
        · have h1i : (j : Int) < (ln : Int) := by omega
          have d1 : decide (0 ≤ x) = false := decide_eq_false (by omega)
          have hfin : weighL l S = x := by
            have h9 := weighL_append (l.take j) (l.drop j) S
            rw [List.take_append_drop, ← hx.out, weighL_neg _ x hneg] at h9
            exact h9
          clear hx
          go_wp2
          go_ret
          exact ⟨by rw [hfin]; rfl, HBW.out⟩
        · have d1 : decide (0 ≤ x) = true := decide_eq_true (by omega)
          obtain ⟨e, he⟩ : ∃ e, l[j]? = some e := ⟨l[j]'(by rw [← HLN.out]; exact hlt), by simp⟩
          obtain ⟨b, o, hA, hb, hck⟩ := arg_cells HCL.out (by rw [← HLN.out]; omega)
          subst hA
          obtain ⟨a0, a1, a2, a3, a4⟩ := hck j e he wr HBW.out
          have hmem := List.mem_of_getElem? he
          have hsn := take_snoc he
          have h1i : (j : Int) < (ln : Int) := by omega
          have HC := Lib.hid (HIH.out e hmem wr HBW.out x (by omega) hx1)
          obtain ⟨y, hy⟩ : ∃ y, y = e.weigh x := ⟨_, rfl⟩
          have hyb := HWB.out e hmem x (by omega)
          rw [← hy] at HC hyb
          have HNEW := Lib.hid (show y = weighL (l.take (j + 1)) S by rw [hsn, weighL_append, ← hx.out]; simp only [weighL]; rw [if_neg hneg, hy])
          obtain ⟨hy0, hy1⟩ := hyb
          unfold Ex.v at HC
          generalize e.op = p0 at *
          generalize e.vl.k = p1 at *
          generalize e.vl.n = p2 at *
          generalize e.vl.s = p3 at *
          generalize e.adr = p4 at *
          generalize e.args.length = p5 at *
          generalize e.cp = p6 at *
          clear hck he hmem hsn hb hx hy
          go_wp2_with fail
          refine HC.out.mono ?_
          rintro q w2 ⟨rfl, hb2⟩
          have HB2 := Lib.hid (HBR.out.trans (hb2.mono HBR.out.size))
          have HBW2 := Lib.hid (HBW.out.trans (hb2.mono HBW.out.size))
          clear hb2
          dsimp only
          go_wp2
          go_roundw
          case rel => exact ⟨j + 1, y, by rfl, by go_num, by rw [← HLN.out]; omega, Lib.hid HNEW.out, hy0, by omega, HB2.out⟩
          case measure => simp [intOf]; omega
      · obtain rfl : j = ln := by have := HJL.out; omega
        have hd2 : decide ((j : Int) < (j : Int)) = false := by simp
        have hx2 : weighL l S = x := by rw [hx.out, HLN.out, HEND.out]
        clear hx
        go_wp2
        go_ret
        exact ⟨by rw [hx2]; rfl, HBW.out⟩
theorem rbig_calls (e : Ex) (w : World) (hg : e.Good) (hA : e.At w) : Calls Tryd.prog 6 #[e.v] w fun q w' => q = .returned (.bool (decide (e.weigh 3000 < 0))) ∧ Below w.heap.size w w' := by
  have hb := weigh_bounds e hg 3000 (by omega)
  have hB1 := below_one w (.cells #[.int .i64 e.op, .int .u8 e.vl.k, .int .i64 e.vl.n, .string e.vl.s, .slice e.adr e.args.length e.cp] 26)
  have bx := Blk.new w #[.int .i64 e.op, .int .u8 e.vl.k, .int .i64 e.vl.n, .string e.vl.s, .slice e.adr e.args.length e.cp] 26
  obtain ⟨x0, x1, x2, x3, x4⟩ := bx.cells5
  have HC := Lib.hid (rweigh_calls e (w.alloc (.cells #[.int .i64 e.op, .int .u8 e.vl.k, .int .i64 e.vl.n, .string e.vl.s, .slice e.adr e.args.length e.cp] 26)) 3000 (by omega) (by omega) hg (hA.below hB1))
  have HB1 := Lib.hid hB1
  unfold Ex.v at HC ⊢
  generalize e.weigh 3000 = y at *
  generalize e.op = p0 at *
  generalize e.vl.k = p1 at *
  generalize e.vl.n = p2 at *
  generalize e.vl.s = p3 at *
  generalize e.adr = p4 at *
  generalize e.args.length = p5 at *
  generalize e.cp = p6 at *
  clear hg hA hB1 bx
  go_enter Tryd.func6, Tryd.ntmps6
  go_wp2_with fail
  refine HC.out.mono ?_
  rintro q w2 ⟨rfl, hb2⟩
  have HB2 := Lib.hid (HB1.out.trans (hb2.mono HB1.out.size))
  clear hb2
  dsimp only
  go_wp2
  go_ret
  exact ⟨rfl, HB2.out⟩
end Go.Proofs.YtkaapfakalojaaaDoor
namespace Go.Proofs.YtkaapfakalojaaaDoor
open Go.ChangeShapes Go.WideShapes Go.ChangeAt Go.RowKit
set_option linter.unusedVariables false
set_option maxRecDepth 20000
theorem sl_get (a : ByteArray) (k : Nat) (h : k < a.size) : (sl a)[k]? = some ((a[k].toNat : Nat) : Int) := by
  have : k < a.data.toList.length := by simpa using h
  simp only [sl, List.getElem?_map, List.getElem?_eq_getElem this]
  rfl
def hexs : ByteArray := ⟨#[48, 49, 50, 51, 52, 53, 54, 55, 56, 57, 97, 98, 99, 100, 101, 102]⟩
theorem hexc0 (w : World) : (Instr.slice 9 (.string ⟨#[48, 49, 50, 51, 52, 53, 54, 55, 56, 57, 97, 98, 99, 100, 101, 102]⟩) (some (.int .i64 0)) (some (.int .i64 1)) none).run Tryd.prog w = .ok (.string (str [48])) w := by kernel_rfl
theorem hexc1 (w : World) : (Instr.slice 9 (.string ⟨#[48, 49, 50, 51, 52, 53, 54, 55, 56, 57, 97, 98, 99, 100, 101, 102]⟩) (some (.int .i64 1)) (some (.int .i64 2)) none).run Tryd.prog w = .ok (.string (str [49])) w := by kernel_rfl
theorem hexc2 (w : World) : (Instr.slice 9 (.string ⟨#[48, 49, 50, 51, 52, 53, 54, 55, 56, 57, 97, 98, 99, 100, 101, 102]⟩) (some (.int .i64 2)) (some (.int .i64 3)) none).run Tryd.prog w = .ok (.string (str [50])) w := by kernel_rfl
theorem hexc3 (w : World) : (Instr.slice 9 (.string ⟨#[48, 49, 50, 51, 52, 53, 54, 55, 56, 57, 97, 98, 99, 100, 101, 102]⟩) (some (.int .i64 3)) (some (.int .i64 4)) none).run Tryd.prog w = .ok (.string (str [51])) w := by kernel_rfl
theorem hexc4 (w : World) : (Instr.slice 9 (.string ⟨#[48, 49, 50, 51, 52, 53, 54, 55, 56, 57, 97, 98, 99, 100, 101, 102]⟩) (some (.int .i64 4)) (some (.int .i64 5)) none).run Tryd.prog w = .ok (.string (str [52])) w := by kernel_rfl
theorem hexc5 (w : World) : (Instr.slice 9 (.string ⟨#[48, 49, 50, 51, 52, 53, 54, 55, 56, 57, 97, 98, 99, 100, 101, 102]⟩) (some (.int .i64 5)) (some (.int .i64 6)) none).run Tryd.prog w = .ok (.string (str [53])) w := by kernel_rfl
theorem hexc6 (w : World) : (Instr.slice 9 (.string ⟨#[48, 49, 50, 51, 52, 53, 54, 55, 56, 57, 97, 98, 99, 100, 101, 102]⟩) (some (.int .i64 6)) (some (.int .i64 7)) none).run Tryd.prog w = .ok (.string (str [54])) w := by kernel_rfl
theorem hexc7 (w : World) : (Instr.slice 9 (.string ⟨#[48, 49, 50, 51, 52, 53, 54, 55, 56, 57, 97, 98, 99, 100, 101, 102]⟩) (some (.int .i64 7)) (some (.int .i64 8)) none).run Tryd.prog w = .ok (.string (str [55])) w := by kernel_rfl
theorem hexc8 (w : World) : (Instr.slice 9 (.string ⟨#[48, 49, 50, 51, 52, 53, 54, 55, 56, 57, 97, 98, 99, 100, 101, 102]⟩) (some (.int .i64 8)) (some (.int .i64 9)) none).run Tryd.prog w = .ok (.string (str [56])) w := by kernel_rfl
theorem hexc9 (w : World) : (Instr.slice 9 (.string ⟨#[48, 49, 50, 51, 52, 53, 54, 55, 56, 57, 97, 98, 99, 100, 101, 102]⟩) (some (.int .i64 9)) (some (.int .i64 10)) none).run Tryd.prog w = .ok (.string (str [57])) w := by kernel_rfl
theorem hexc10 (w : World) : (Instr.slice 9 (.string ⟨#[48, 49, 50, 51, 52, 53, 54, 55, 56, 57, 97, 98, 99, 100, 101, 102]⟩) (some (.int .i64 10)) (some (.int .i64 11)) none).run Tryd.prog w = .ok (.string (str [97])) w := by kernel_rfl
theorem hexc11 (w : World) : (Instr.slice 9 (.string ⟨#[48, 49, 50, 51, 52, 53, 54, 55, 56, 57, 97, 98, 99, 100, 101, 102]⟩) (some (.int .i64 11)) (some (.int .i64 12)) none).run Tryd.prog w = .ok (.string (str [98])) w := by kernel_rfl
theorem hexc12 (w : World) : (Instr.slice 9 (.string ⟨#[48, 49, 50, 51, 52, 53, 54, 55, 56, 57, 97, 98, 99, 100, 101, 102]⟩) (some (.int .i64 12)) (some (.int .i64 13)) none).run Tryd.prog w = .ok (.string (str [99])) w := by kernel_rfl
theorem hexc13 (w : World) : (Instr.slice 9 (.string ⟨#[48, 49, 50, 51, 52, 53, 54, 55, 56, 57, 97, 98, 99, 100, 101, 102]⟩) (some (.int .i64 13)) (some (.int .i64 14)) none).run Tryd.prog w = .ok (.string (str [100])) w := by kernel_rfl
theorem hexc14 (w : World) : (Instr.slice 9 (.string ⟨#[48, 49, 50, 51, 52, 53, 54, 55, 56, 57, 97, 98, 99, 100, 101, 102]⟩) (some (.int .i64 14)) (some (.int .i64 15)) none).run Tryd.prog w = .ok (.string (str [101])) w := by kernel_rfl
theorem hexc15 (w : World) : (Instr.slice 9 (.string ⟨#[48, 49, 50, 51, 52, 53, 54, 55, 56, 57, 97, 98, 99, 100, 101, 102]⟩) (some (.int .i64 15)) (some (.int .i64 16)) none).run Tryd.prog w = .ok (.string (str [102])) w := by kernel_rfl
theorem hex_cut (d : Int) (h0 : 0 ≤ d) (h1 : d < 16) (w : World) : (Instr.slice 9 (.string ⟨#[48, 49, 50, 51, 52, 53, 54, 55, 56, 57, 97, 98, 99, 100, 101, 102]⟩) (some (.int .i64 d)) (some (.int .i64 (d + 1))) none).run Tryd.prog w = .ok (.string (str [hexd d])) w := by
  have h : d = 0 ∨ d = 1 ∨ d = 2 ∨ d = 3 ∨ d = 4 ∨ d = 5 ∨ d = 6 ∨ d = 7 ∨ d = 8 ∨ d = 9 ∨ d = 10 ∨ d = 11 ∨ d = 12 ∨ d = 13 ∨ d = 14 ∨ d = 15 := by omega
  rcases h with rfl | rfl | rfl | rfl | rfl | rfl | rfl | rfl | rfl | rfl | rfl | rfl | rfl | rfl | rfl | rfl
  · exact hexc0 w
  · exact hexc1 w
  · exact hexc2 w
  · exact hexc3 w
  · exact hexc4 w
  · exact hexc5 w
  · exact hexc6 w
  · exact hexc7 w
  · exact hexc8 w
  · exact hexc9 w
  · exact hexc10 w
  · exact hexc11 w
  · exact hexc12 w
  · exact hexc13 w
  · exact hexc14 w
  · exact hexc15 w
/-- One byte of a string. -/
theorem cut_one (s : ByteArray) (k : Nat) (h : k < s.size) (w : World) : (Instr.slice 9 (.string s) (some (.int .i64 (k : Int))) (some (.int .i64 ((k : Int) + 1))) none).run Tryd.prog w = .ok (.string (str [((s[k].toNat : Nat) : Int)])) w := by
  rw [run_slice_string w 9 s .i64 .i64 (k : Int) ((k : Int) + 1) Tryd.underlying9 (by omega) (by omega) (by omega)]
  congr 2
  apply ByteArray.ext
  apply Array.toList_inj.1
  rw [str_data, ByteArray.data_extract, Array.toList_extract]
  have e1 : ((k : Int) + 1).toNat = k + 1 := by omega
  have e2 : (k : Int).toNat = k := by omega
  rw [e1, e2]
  have e3 : s.data.toList[k]? = some s[k] := by
    have : k < s.data.toList.length := by simpa using h
    rw [List.getElem?_eq_getElem this]; rfl
  simp only [List.extract, show k + 1 - k = 1 by omega, List.map_cons, List.map_nil]
  have e4 : s.data.toList.drop k = s[k] :: s.data.toList.drop (k + 1) := by
    have : k < s.data.toList.length := by simpa using h
    rw [List.drop_eq_getElem_cons this]; rfl
  rw [e4]
  simp
/-- The loop: what is written so far. -/
def RelQ (s : ByteArray) (w : World) (t i : Value) (wr : World) : Prop := ∃ (k : Nat) (L : List Int), t = .string (str L) ∧ i = .int .i64 k ∧ k ≤ s.size ∧ Hid (L = 34 :: ((sl s).take k).flatMap qch) ∧ L.length ≤ 1 + 4 * k ∧ ∃ p, wr = w.drewN p
theorem qch_len (c : Int) : (qch c).length ≤ 4 := by unfold qch; split <;> (try split) <;> simp
theorem relQ_next {s : ByteArray} {k : Nat} {L : List Int} (h : k < s.size) (hL : L = 34 :: ((sl s).take k).flatMap qch) : L ++ qch ((s[k].toNat : Nat) : Int) = 34 :: ((sl s).take (k + 1)).flatMap qch := by
  rw [List.take_add_one, sl_get s k h, hL]
  simp
set_option maxHeartbeats 4000000 in
theorem rquote_calls (s : ByteArray) (hs : s.size ≤ 1000000) (w : World) : Calls Tryd.prog 25 #[.string s] w fun q w' => q = .returned (.string (str (quote (sl s)))) ∧ ∃ p, w' = w.drewN p := by
  go_enter Tryd.func25, Tryd.ntmps25
  go_wp2
  go_loopw [3, 4] (RelQ s w) (fun _ i _ => s.size - (intOf i).toNat)
  case atStart => exact ⟨0, [34], rfl, rfl, Nat.zero_le _, Lib.hid (by simp), by simp, 0, rfl⟩
  case round =>
    obtain ⟨j, L, rfl, rfl, hj, hL, hlen, p, rfl⟩ := hrel
    by_cases hlt : j < s.size
    · have h1i : (j : Int) < (s.size : Int) := by omega
      have HNX := Lib.hid (relQ_next hlt hL.out)
      have hq4 := qch_len ((s[j].toNat : Nat) : Int)
      have hcut := cut_one s j hlt
      have hb255 : (s[j].toNat : Int) ≤ 255 := by have := s[j].toNat_lt; omega
      obtain ⟨c, hc⟩ : ∃ c : Int, c = ((s[j].toNat : Nat) : Int) := ⟨_, rfl⟩
      have hwc : wrap64 ((s[j].toNat : Nat) : Int) = c := by rw [hc]; unfold wrap64; omega
      have hc0 : 0 ≤ c := by omega
      have hc1 : c ≤ 255 := by omega
      rw [← hc] at HNX hcut hq4
      have hsz : (str L).size = L.length := str_size L
      have hz0 : (str L).size ≤ 4000001 := by rw [hsz]; omega
      by_cases hbad : c < 32 ∨ 126 < c
      · have hqc : qch c = [92, 120] ++ ([hexd (c / 16)] ++ [hexd (c % 16)]) := by unfold qch; rw [if_pos hbad]; rfl
        rw [hqc] at HNX hq4
        obtain ⟨d, hd⟩ : ∃ d, d = c / 16 := ⟨_, rfl⟩
        obtain ⟨m, hm⟩ : ∃ m, m = c % 16 := ⟨_, rfl⟩
        have ht1 : c.tdiv 16 = d := by rw [hd]; exact Int.tdiv_eq_ediv_of_nonneg hc0
        have ht2 : c.tmod 16 = m := by rw [hm]; exact Int.tmod_eq_emod_of_nonneg hc0
        have hd0 : 0 ≤ d ∧ d < 16 := by omega
        have hm0 : 0 ≤ m ∧ m < 16 := by omega
        rw [← hd, ← hm] at HNX
        have k1 := hex_cut d hd0.1 hd0.2
        have k2 := hex_cut m hm0.1 hm0.2
        obtain ⟨hd1, hd2⟩ := hd0
        obtain ⟨hm1, hm2⟩ := hm0
        have z1 : (str [hexd d]).size = 1 := str_size _
        have z2 : (str [hexd m]).size = 1 := str_size _
        have HX := Lib.hid (show str L ++ (⟨#[92, 120]⟩ : ByteArray) ++ str [hexd d] ++ str [hexd m] = str (L ++ ([92, 120] ++ ([hexd d] ++ [hexd m]))) by
          rw [show (⟨#[92, 120]⟩ : ByteArray) = str [92, 120] from rfl, str_append, str_append, str_append]; simp)
        clear hL hc hd hm hqc hq4 hsz hcut
        have hwd : wrap64 (d + 1) = d + 1 := by unfold wrap64; omega
        have hwm : wrap64 (m + 1) = m + 1 := by unfold wrap64; omega
        clear hb255
        by_cases h32 : c < 32
        · have d1 : decide (c < 32) = true := decide_eq_true h32
          clear hbad
          go_wp2_with fail
          go_quiet (fail)
          go_wp2
          go_roundw
          case rel => exact ⟨j + 1, L ++ ([92, 120] ++ ([hexd d] ++ [hexd m])), by rw [← HX.out], by go_num, by omega, Lib.hid HNX.out, by simp; omega, _, rfl⟩
          case measure => simp [intOf]; omega
        · have d1 : decide (c < 32) = false := decide_eq_false h32
          have d2 : decide (126 < c) = true := decide_eq_true (by omega)
          clear hbad
          go_wp2_with fail
          go_quiet (fail)
          go_wp2
          go_roundw
          case rel => exact ⟨j + 1, L ++ ([92, 120] ++ ([hexd d] ++ [hexd m])), by rw [← HX.out], by go_num, by omega, Lib.hid HNX.out, by simp; omega, _, rfl⟩
          case measure => simp [intOf]; omega
      · have d1 : decide (c < 32) = false := decide_eq_false (by omega)
        have d2 : decide (126 < c) = false := decide_eq_false (by omega)
        have zc : (str [c]).size = 1 := str_size _
        clear hb255 hc hsz
        by_cases h34 : c = 34
        · have hqc : qch c = [92] ++ [c] := by unfold qch; rw [if_neg hbad, if_pos (.inl h34)]; rfl
          rw [hqc] at HNX
          have HX := Lib.hid (show str L ++ (⟨#[92]⟩ : ByteArray) ++ str [c] = str (L ++ ([92] ++ [c])) by
            rw [show (⟨#[92]⟩ : ByteArray) = str [92] from rfl, str_append, str_append]; simp)
          have e1 : (c == 34) = true := by simpa using h34
          clear hL hqc hq4 hbad h34
          go_wp2
          go_roundw
          case rel => exact ⟨j + 1, L ++ ([92] ++ [c]), by rw [← HX.out], by go_num, by omega, Lib.hid HNX.out, by simp; omega, _, rfl⟩
          case measure => simp [intOf]; omega
        · have e1 : (c == 34) = false := by simpa using h34
          by_cases h92 : c = 92
          · have hqc : qch c = [92] ++ [c] := by unfold qch; rw [if_neg hbad, if_pos (.inr h92)]; rfl
            rw [hqc] at HNX
            have HX := Lib.hid (show str L ++ (⟨#[92]⟩ : ByteArray) ++ str [c] = str (L ++ ([92] ++ [c])) by
              rw [show (⟨#[92]⟩ : ByteArray) = str [92] from rfl, str_append, str_append]; simp)
            have e2 : (c == 92) = true := by simpa using h92
            clear hL hqc hq4 hbad h34 h92
            go_wp2
            go_roundw
            case rel => exact ⟨j + 1, L ++ ([92] ++ [c]), by rw [← HX.out], by go_num, by omega, Lib.hid HNX.out, by simp; omega, _, rfl⟩
            case measure => simp [intOf]; omega
          · have hqc : qch c = [c] := by unfold qch; rw [if_neg hbad, if_neg (by omega)]
            rw [hqc] at HNX
            have HX := Lib.hid (show str L ++ str [c] = str (L ++ [c]) by rw [str_append])
            have e2 : (c == 92) = false := by simpa using h92
            clear hL hqc hq4 hbad h34 h92
            go_wp2
            go_roundw
            case rel => exact ⟨j + 1, L ++ [c], by rw [← HX.out], by go_num, by omega, Lib.hid HNX.out, by simp; omega, _, rfl⟩
            case measure => simp [intOf]; omega
    · have hd2 : decide ((j : Int) < (s.size : Int)) = false := decide_eq_false (by omega)
      have hz0 : (str L).size ≤ 4000001 := by rw [str_size]; omega
      have HE := Lib.hid (show str L ++ (⟨#[34]⟩ : ByteArray) = str (quote (sl s)) by
        rw [show (⟨#[34]⟩ : ByteArray) = str [34] from rfl, str_append, hL.out, List.take_of_length_le (by rw [sl_length]; omega)]
        unfold quote
        simp)
      clear hL
      go_wp2
      go_ret
      exact ⟨by rw [← HE.out]; rfl, _, rfl⟩
end Go.Proofs.YtkaapfakalojaaaDoor
namespace Go.Proofs.YtkaapfakalojaaaDoor
open Go.ChangeShapes Go.WideShapes Go.ChangeAt Go.RowKit
set_option linter.unusedVariables false
set_option maxRecDepth 20000
def nameCs : Array Value := #[.string ⟨#[99, 111, 110, 115, 116]⟩, .string ⟨#[108, 105, 110, 101]⟩, .string ⟨#[111, 102, 102]⟩, .string ⟨#[119, 111, 114, 100]⟩, .string ⟨#[110, 117, 109]⟩, .string ⟨#[107, 101, 121]⟩, .string ⟨#[97, 99, 99]⟩, .string ⟨#[99, 111, 117, 110, 116]⟩, .string ⟨#[97, 100, 100]⟩, .string ⟨#[115, 117, 98]⟩, .string ⟨#[109, 117, 108]⟩, .string ⟨#[100, 105, 118]⟩, .string ⟨#[109, 111, 100]⟩, .string ⟨#[110, 101, 103]⟩, .string ⟨#[101, 113]⟩, .string ⟨#[108, 116]⟩, .string ⟨#[97, 110, 100]⟩, .string ⟨#[111, 114]⟩, .string ⟨#[110, 111, 116]⟩, .string ⟨#[105, 102]⟩, .string ⟨#[108, 101, 110]⟩, .string ⟨#[99, 97, 116]⟩, .string ⟨#[99, 117, 116]⟩, .string ⟨#[105, 110, 116]⟩, .string ⟨#[115, 116, 114]⟩, .string ⟨#[102, 105, 101, 108, 100]⟩, .string ⟨#[117, 112, 112, 101, 114]⟩, .string ⟨#[102, 105, 110, 100]⟩]
theorem rnames_calls (w : World) : Calls Tryd.prog 19 #[] w fun q w' => q = .returned (.slice (some ⟨w.heap.size, 0, none⟩) 28 28) ∧ w' = w.alloc (.cells nameCs 9) := by
  go_enter Tryd.func19, Tryd.ntmps19
  go_wp2
  go_ret
  exact ⟨rfl, rfl⟩
theorem nameCs_at : ∀ k : Fin 28, nameCs[k.val]? = some (.string (str (names.getD k.val []))) := by
  intro k
  have hk : k = 0 ∨ k = 1 ∨ k = 2 ∨ k = 3 ∨ k = 4 ∨ k = 5 ∨ k = 6 ∨ k = 7 ∨ k = 8 ∨ k = 9 ∨ k = 10 ∨ k = 11 ∨ k = 12 ∨ k = 13 ∨ k = 14 ∨ k = 15 ∨ k = 16 ∨ k = 17 ∨ k = 18 ∨ k = 19 ∨ k = 20 ∨ k = 21 ∨ k = 22 ∨ k = 23 ∨ k = 24 ∨ k = 25 ∨ k = 26 ∨ k = 27 := by revert k; decide
  rcases hk with rfl | rfl | rfl | rfl | rfl | rfl | rfl | rfl | rfl | rfl | rfl | rfl | rfl | rfl | rfl | rfl | rfl | rfl | rfl | rfl | rfl | rfl | rfl | rfl | rfl | rfl | rfl | rfl <;> rfl
/-- A world that holds the names. -/
theorem names_cell (w : World) (k : Nat) (h : k < 28) : (w.alloc (.cells nameCs 9)).cell? ⟨w.heap.size, k, none⟩ = some (.string (str (names.getD k []))) := by
  rw [(Blk.new w nameCs 9).cell k]
  exact nameCs_at ⟨k, h⟩
end Go.Proofs.YtkaapfakalojaaaDoor
