/-
  Decimal numbers: what the library's parse and the document's give at digits; plain, of no program.
  Trimming digits off both ends leaves nothing exactly where all are digits; plain, of no program.
  DERIVED: THE SHELF's CONTRACTS AT THIS DUMP, IN PLAIN WORDS (tools/lay-plain.mjs out of 'TrydMini.lean', which tools/lay-shelf.mjs wrote): THE SAME DECLARATIONS UNDER THE SAME NAMES: 'import', 'namespace', 'open', 'def', 'theorem' AND NOTHING ELSE: no command of the shelf's: FOR A HAND-IN. Each laying: the table of numbers ('.._ren') and one theorem, a field a fact of the dump's own or the kernel's comparison; each contract: ONE APPLICATION.
  What every layer shares: byte slices in memory as lists of bytes, slices of the call own, strings that bytes make, cuts, and the arguments of a law. No function of the program in sight. Conditions: each theorem names its own.
  Slices of the call own grow: append of whatever bytes, nil and empty ones let in; a slice of the call own stays while later calls make memory of theirs. No function of the program in sight. Conditions: the sizes that each theorem names.
  Cuts of byte slices: b[lo:hi], b[lo:], b[:hi], as lists of bytes, nil and empty ones let in. No function of the program in sight. Conditions: the bounds that each theorem names.
  The order of lists of numbers: the first that parts two lists, then the length. Plain, of no program. No conditions.
  The order of strings: what the model compares by is the order of their bytes; contracts of strings.Compare and of the document Less. No conditions.
  Contract of the program's Number. Conditions: the text is as long as an input can be; strconv.ErrRange reads as an error.
  What the package-level variables that the rows list read as when the call begins, and a world in which they do. Conditions: the row's own.
-/
import Derived.Lib.AtoiAll
import Derived.Lib.SlTrimSet
import Derived.Lib.Strings
import Derived.Shelf.Strings.SlTrimAscii
import Derived.Shelf.Strings.Prefix
import Derived.Shelf.Small.Strs
import Derived.Shelf.Strings.Builder1
import Derived.Shelf.Strings.BuilderK
import Derived.Shelf.Strconv.Clone
import Derived.Shelf.Strconv.AtoiAll
import Derived.Shelf.Strconv.ErrVarAll
import Derived.Shelf.LaysM
import Derived.Shelf.LaysC
import Derived.Test.YtjignlemahdoeaaDoorProg
import Derived.Test.YtjignlemahdoeaaDoorRows
import Derived.WalkKit
import Derived.ProofKit
import Derived.OpenShut
import Derived.ShutString
import Derived.ChangeOld
import Derived.Below
import Derived.Lib.Hide
import Derived.Lib.AppendStr
import Derived.Deep.AppendLies
import Derived.Laws.AppendOwnNone
import Derived.Laws.BytesString
import Derived.Laws.OwnMore
import Derived.Deep.Draws
import Derived.WalkLawsBesides
import Derived.WalkSpells
import Derived.Deep.RegionHeld3
import Derived.StillTailTactics
import Derived.Deep.QuietTactic
import Derived.BigQuiet
import Derived.Lib.Bytealg
import Derived.Laws.Cover1
import Derived.Lay
import Derived.Lib.SmallJoins
import Derived.LaidMore
import Derived.LaidLaws
import Derived.LaidHandle
import Derived.ChangeSame
import Derived.ChangeVars
import Derived.JoinedOf
import Derived.RowKit
import Derived.RowKitTokens
import Derived.Stop.Joined
namespace Go.Proofs.YtjignlemahdoeaaDoor
set_option linter.unusedVariables false

/-- A digit. -/
def isDig (c : UInt8) : Bool := decide (48 ≤ c.toNat) && decide (c.toNat ≤ 57)
/-- The number that digits spell behind a number. -/
def dval : Nat → List UInt8 → Nat
  | a, [] => a
  | a, c :: r => dval (a * 10 + (c.toNat - 48)) r
theorem dval_le : ∀ (l : List UInt8) (a : Nat), a ≤ dval a l
  | [], a => Nat.le_refl a
  | c :: r, a => Nat.le_trans (by omega) (dval_le r (a * 10 + (c.toNat - 48)))
theorem parse_digits (l : List UInt8) : ∀ (a : Nat), (∀ c ∈ l, isDig c = true) → a < 18446744073709551616 → Lib.parseUint10 a l = if dval a l < 18446744073709551616 then .ok (dval a l) else .range := by
  induction l with
  | nil =>
    intro a _ h
    show Lib.NumEnd.ok a = if a < 18446744073709551616 then .ok a else .range
    rw [if_pos h]
  | cons c r ih =>
    intro a hd h
    have hc := hd c (List.mem_cons_self)
    unfold isDig at hc
    simp only [Bool.and_eq_true, decide_eq_true_eq] at hc
    have hle := dval_le r (a * 10 + (c.toNat - 48))
    show Lib.parseUint10 a (c :: r) = if dval (a * 10 + (c.toNat - 48)) r < 18446744073709551616 then .ok (dval (a * 10 + (c.toNat - 48)) r) else .range
    have e : Lib.parseUint10 a (c :: r) = if 48 ≤ c.toNat ∧ c.toNat ≤ 57 then
      if 1844674407370955162 ≤ a then .range
      else if 18446744073709551616 ≤ a * 10 + (c.toNat - 48) then .range
      else Lib.parseUint10 (a * 10 + (c.toNat - 48)) r
    else .syntax := by rw [Lib.parseUint10]
    rw [e, if_pos hc]
    by_cases h1 : 1844674407370955162 ≤ a
    · rw [if_pos h1, if_neg (by omega)]
    · rw [if_neg h1]
      by_cases h2 : 18446744073709551616 ≤ a * 10 + (c.toNat - 48)
      · rw [if_pos h2, if_neg (by omega)]
      · rw [if_neg h2]
        exact ih _ (fun x hx => hd x (List.mem_cons_of_mem _ hx)) (by omega)
/-- The digits behind an optional minus sign. -/
def digitsOf (l : List UInt8) : List UInt8 := match l with
  | [] => []
  | c :: r => if c.toNat = 45 then r else c :: r
def minusOf (l : List UInt8) : Bool := match l with
  | [] => false
  | c :: _ => decide (c.toNat = 45)
/-- The number of a text, and the error's number: by the document. -/
def numD (l : List UInt8) : Int × Int :=
  if digitsOf l = [] ∨ (digitsOf l).all isDig = false then (0, 3)
  else if minusOf l = true then (if dval 0 (digitsOf l) ≤ 9223372036854775808 then (-(dval 0 (digitsOf l) : Int), 0) else (0, 8))
  else (if dval 0 (digitsOf l) < 9223372036854775808 then ((dval 0 (digitsOf l) : Int), 0) else (0, 8))
/-- The library's parse at a text that is a number by its form. -/
theorem atoi_num (l : List UInt8) (h0 : digitsOf l ≠ []) (h1 : (digitsOf l).all isDig = true) :
    Lib.atoiAll l = if minusOf l = true then (if dval 0 (digitsOf l) ≤ 9223372036854775808 then .ok (-(dval 0 (digitsOf l) : Int)) else .range) else (if dval 0 (digitsOf l) < 9223372036854775808 then .ok ((dval 0 (digitsOf l) : Int)) else .range) := by
  cases l with
  | nil => exact absurd rfl h0
  | cons c r =>
    have hall : ∀ x ∈ digitsOf (c :: r), isDig x = true := fun x hx => List.all_eq_true.1 h1 x hx
    unfold Lib.atoiAll
    by_cases hm : c.toNat = 45
    · have hd : digitsOf (c :: r) = r := by show (if c.toNat = 45 then r else c :: r) = r; rw [if_pos hm]
      have hmin : minusOf (c :: r) = true := by unfold minusOf; simpa using hm
      rw [hd] at h0 hall ⊢
      rw [hmin]
      simp only [hm, or_true, if_true, not_true_eq_false, false_and, if_false, true_and]
      unfold Lib.parseMag
      rw [if_neg h0, parse_digits r 0 hall (by omega)]
      by_cases h2 : dval 0 r < 18446744073709551616
      · rw [if_pos h2]
        by_cases h3 : dval 0 r ≤ 9223372036854775808
        · simp [h3, Nat.not_lt.2 h3]
        · simp [h3, Nat.not_le.1 h3]
      · rw [if_neg h2, if_neg (by omega)]
    · have hd : digitsOf (c :: r) = c :: r := by show (if c.toNat = 45 then r else c :: r) = c :: r; rw [if_neg hm]
      have hmin : minusOf (c :: r) = false := by unfold minusOf; simpa using hm
      rw [hd] at h0 hall ⊢
      rw [hmin]
      have hc := hall c (List.mem_cons_self)
      unfold isDig at hc
      simp only [Bool.and_eq_true, decide_eq_true_eq] at hc
      have hp : ¬ c.toNat = 43 := by omega
      simp only [hm, hp, or_self, if_false, Bool.false_eq_true, not_false_eq_true, true_and, false_and]
      unfold Lib.parseMag
      rw [if_neg h0, parse_digits (c :: r) 0 hall (by omega)]
      by_cases h2 : dval 0 (c :: r) < 18446744073709551616
      · rw [if_pos h2]
        by_cases h3 : dval 0 (c :: r) < 9223372036854775808
        · simp [h3, Nat.not_le.2 h3]
        · simp [h3, Nat.not_lt.1 h3]
      · rw [if_neg h2, if_neg (by omega)]
end Go.Proofs.YtjignlemahdoeaaDoor
namespace Go.Proofs.YtjignlemahdoeaaDoor
set_option linter.unusedVariables false
def digs : List UInt8 := [48, 49, 50, 51, 52, 53, 54, 55, 56, 57]
theorem digs_isDig (b : UInt8) : digs.contains b = isDig b := by
  have h : ∀ n : Fin 256, digs.contains (UInt8.ofFin n) = isDig (UInt8.ofFin n) := by decide +kernel
  exact h b.toFin
theorem dropWhile_nil {p : UInt8 → Bool} : ∀ {l : List UInt8}, l.dropWhile p = [] ↔ l.all p = true
  | [] => by simp
  | c :: r => by
    rw [List.dropWhile_cons, List.all_cons]
    cases hc : p c with
    | true => simpa using dropWhile_nil (l := r)
    | false => simp
theorem dropWhile_head {p : UInt8 → Bool} : ∀ {l r : List UInt8} {c : UInt8}, l.dropWhile p = c :: r → p c = false
  | [], _, _, h => by cases h
  | x :: l, r, c, h => by
    rw [List.dropWhile_cons] at h
    cases hx : p x with
    | true => rw [hx] at h; exact dropWhile_head (l := l) (by simpa using h)
    | false =>
      rw [hx] at h
      simp only [Bool.false_eq_true, if_false] at h
      injection h with h1 h2
      rw [← h1]; exact hx
theorem trim_empty (l : List UInt8) : Lib.trimS l digs = [] ↔ l.all isDig = true := by
  have hp : (fun b => digs.contains b) = isDig := funext digs_isDig
  unfold Lib.trimS Lib.trimLeftS Lib.trimRightS
  rw [hp, dropWhile_nil, List.all_reverse]
  constructor
  · intro h
    cases hd : l.reverse.dropWhile isDig with
    | nil =>
      have := dropWhile_nil.1 hd
      rwa [List.all_reverse] at this
    | cons c r =>
      rw [hd, List.all_cons, dropWhile_head hd] at h
      cases h
  · intro h
    have : l.reverse.dropWhile isDig = [] := dropWhile_nil.2 (by rwa [List.all_reverse])
    rw [this]; rfl
/-- What strings.TrimPrefix leaves behind a minus sign. -/
theorem trim_minus (l : List UInt8) : Lib.trimPrefix l [45] = digitsOf l := by
  cases l with
  | nil => rfl
  | cons c r =>
    unfold Lib.trimPrefix Lib.hasPrefix
    show _ = if c.toNat = 45 then r else c :: r
    have e : ([45] : List UInt8).isPrefixOf (c :: r) = (45 == c) := by simp [List.isPrefixOf]
    rw [e]
    by_cases hc : c.toNat = 45
    · have : c = 45 := UInt8.toNat_inj.1 hc
      subst this
      simp
    · have : (45 == c) = false := by
        simp only [beq_eq_false_iff_ne]
        intro h; exact hc (by rw [← h]; rfl)
      rw [this, if_neg hc]; rfl
end Go.Proofs.YtjignlemahdoeaaDoor
namespace Go.Proofs.YtjignlemahdoeaaDoor
open Go.Shelf
def Tryd.lays170_ren : Go.Shelf.Ren := ⟨fun | 170 => 48 | n => n, fun | 70 => 73 | 3 => 3 | 0 => 0 | 72 => 75 | 37 => 65 | 5 => 5 | n => n, fun | n => n⟩
theorem Tryd.lays170 : Go.Proofs.Lays.n170 Tryd.prog Tryd.lays170_ren := {
  mixed := by kernel_rfl
  f170 := Tryd.func48.trans (congrArg some (by kernel_rfl))
  t0 := Tryd.underlying0
  a0 := Tryd.isAgg0
  z0 := Tryd.sizeOf0
  v0 := Tryd.zeroValue0
  t3 := Tryd.underlying3
  a3 := Tryd.isAgg3
  z3 := Tryd.sizeOf3
  v3 := Tryd.zeroValue3
  t37 := Tryd.underlying65
  a37 := Tryd.isAgg65
  z37 := Tryd.sizeOf65
  v37 := Tryd.zeroValue65
  t70 := Tryd.underlying73
  a70 := Tryd.isAgg73
  z70 := Tryd.sizeOf73
  v70 := Tryd.zeroValue73
  t72 := Tryd.underlying75
  a72 := Tryd.isAgg75
  z72 := Tryd.sizeOf75
  v72 := Tryd.zeroValue75 }
open Go.RowKit in
/-- (*strings.Builder).Len: "Len returns the number of accumulated bytes; b.Len() == len(b.String()).": the world is as it was. (LAID: no walk: one application.) -/
theorem Tryd.Builder_Len (B b : Nat) (bs : List Value) (w : World) (h : Lib.IsBuilder 75 5 B b bs w) :
    Calls Tryd.prog 48 #[.pointer (some ⟨b, 0, none⟩)] w fun e w' => e = .returned (.int .i64 bs.length) ∧ w' = w := Any.Builder_Len Tryd.lays170 B b bs w h
def Tryd.lays169_ren : Go.Shelf.Ren := ⟨fun | 169 => 50 | n => n, fun | 70 => 73 | 9 => 9 | 0 => 0 | 72 => 75 | 37 => 65 | 127 => 85 | 3 => 3 | 5 => 5 | n => n, fun | n => n⟩
theorem Tryd.lays169 : Go.Proofs.Lays.n169 Tryd.prog Tryd.lays169_ren := {
  mixed := by kernel_rfl
  f169 := Tryd.func50.trans (congrArg some (by kernel_rfl))
  t0 := Tryd.underlying0
  a0 := Tryd.isAgg0
  z0 := Tryd.sizeOf0
  v0 := Tryd.zeroValue0
  t3 := Tryd.underlying3
  a3 := Tryd.isAgg3
  z3 := Tryd.sizeOf3
  v3 := Tryd.zeroValue3
  t9 := Tryd.underlying9
  a9 := Tryd.isAgg9
  z9 := Tryd.sizeOf9
  v9 := Tryd.zeroValue9
  t37 := Tryd.underlying65
  a37 := Tryd.isAgg65
  z37 := Tryd.sizeOf65
  v37 := Tryd.zeroValue65
  t70 := Tryd.underlying73
  a70 := Tryd.isAgg73
  z70 := Tryd.sizeOf73
  v70 := Tryd.zeroValue73
  t72 := Tryd.underlying75
  a72 := Tryd.isAgg75
  z72 := Tryd.sizeOf75
  v72 := Tryd.zeroValue75
  t127 := Tryd.underlying85
  a127 := Tryd.isAgg85
  z127 := Tryd.sizeOf85
  v127 := Tryd.zeroValue85 }
theorem Tryd.Builder_Extra_169 : Builder.Extra Tryd.prog Tryd.lays169_ren := {
  sizeBuilder := by kernel_rfl
  liesBuilder := by kernel_rfl
  t5 := Tryd.underlying5
  a5 := Tryd.isAgg5
  z5 := Tryd.sizeOf5
  v5 := Tryd.zeroValue5
  infoByte := by kernel_rfl
  cellsByte := by kernel_rfl
  sizeByte := by kernel_rfl
  neB5 := by decide }
def Tryd.lays160_ren : Go.Shelf.Ren := ⟨fun | 160 => 53 | 232 => 60 | 231 => 59 | 227 => 61 | 234 => 63 | 233 => 62 | 236 => 65 | 235 => 64 | 228 => 71 | 271 => 74 | 151 => 73 | 197 => 72 | 120 => 83 | 152 => 82 | 260 => 81 | 137 => 56 | 119 => 87 | 224 => 88 | 225 => 89 | 217 => 69 | 266 => 80 | n => n, fun | 9 => 9 | 4 => 4 | 3 => 3 | 5 => 5 | 117 => 94 | 116 => 93 | 0 => 0 | 124 => 97 | 21 => 21 | 105 => 101 | 46 => 90 | 119 => 117 | 139 => 120 | 138 => 119 | n => n, fun | 3 => 3 | 4 => 4 | n => n⟩
theorem Tryd.lays160 : Go.Proofs.Lays.n160 Tryd.prog Tryd.lays160_ren := {
  mixed := by kernel_rfl
  f119 := Tryd.func87.trans (congrArg some (by kernel_rfl))
  f120 := Tryd.func83.trans (congrArg some (by kernel_rfl))
  f137 := Tryd.func56.trans (congrArg some (by kernel_rfl))
  f151 := Tryd.func73.trans (congrArg some (by kernel_rfl))
  f152 := Tryd.func82.trans (congrArg some (by kernel_rfl))
  f160 := Tryd.func53.trans (congrArg some (by kernel_rfl))
  f197 := Tryd.func72.trans (congrArg some (by kernel_rfl))
  f217 := Tryd.func69.trans (congrArg some (by kernel_rfl))
  f224 := Tryd.func88.trans (congrArg some (by kernel_rfl))
  f225 := Tryd.func89.trans (congrArg some (by kernel_rfl))
  f227 := Tryd.func61.trans (congrArg some (by kernel_rfl))
  f228 := Tryd.func71.trans (congrArg some (by kernel_rfl))
  f231 := Tryd.func59.trans (congrArg some (by kernel_rfl))
  f232 := Tryd.func60.trans (congrArg some (by kernel_rfl))
  f233 := Tryd.func62.trans (congrArg some (by kernel_rfl))
  f234 := Tryd.func63.trans (congrArg some (by kernel_rfl))
  f235 := Tryd.func64.trans (congrArg some (by kernel_rfl))
  f236 := Tryd.func65.trans (congrArg some (by kernel_rfl))
  f260 := Tryd.func81.trans (congrArg some (by kernel_rfl))
  f266 := Tryd.func80.trans (congrArg some (by kernel_rfl))
  f271 := Tryd.func74.trans (congrArg some (by kernel_rfl))
  t0 := Tryd.underlying0
  a0 := Tryd.isAgg0
  z0 := Tryd.sizeOf0
  v0 := Tryd.zeroValue0
  t3 := Tryd.underlying3
  a3 := Tryd.isAgg3
  z3 := Tryd.sizeOf3
  v3 := Tryd.zeroValue3
  t4 := Tryd.underlying4
  a4 := Tryd.isAgg4
  z4 := Tryd.sizeOf4
  v4 := Tryd.zeroValue4
  t5 := Tryd.underlying5
  a5 := Tryd.isAgg5
  z5 := Tryd.sizeOf5
  v5 := Tryd.zeroValue5
  t9 := Tryd.underlying9
  a9 := Tryd.isAgg9
  z9 := Tryd.sizeOf9
  v9 := Tryd.zeroValue9
  t21 := Tryd.underlying21
  a21 := Tryd.isAgg21
  z21 := Tryd.sizeOf21
  v21 := Tryd.zeroValue21
  t46 := Tryd.underlying90
  a46 := Tryd.isAgg90
  z46 := Tryd.sizeOf90
  v46 := Tryd.zeroValue90
  t105 := Tryd.underlying101
  a105 := Tryd.isAgg101
  z105 := Tryd.sizeOf101
  v105 := Tryd.zeroValue101
  t116 := Tryd.underlying93
  a116 := Tryd.isAgg93
  z116 := Tryd.sizeOf93
  t117 := Tryd.underlying94
  a117 := Tryd.isAgg94
  z117 := Tryd.sizeOf94
  v117 := Tryd.zeroValue94
  t119 := Tryd.underlying117
  a119 := Tryd.isAgg117
  z119 := Tryd.sizeOf117
  t124 := Tryd.underlying97
  a124 := Tryd.isAgg97
  z124 := Tryd.sizeOf97
  v124 := Tryd.zeroValue97
  t138 := Tryd.underlying119
  a138 := Tryd.isAgg119
  z138 := Tryd.sizeOf119
  v138 := Tryd.zeroValue119
  t139 := Tryd.underlying120
  a139 := Tryd.isAgg120
  z139 := Tryd.sizeOf120
  v139 := Tryd.zeroValue120
  g3 := by kernel_rfl
  g4 := by kernel_rfl }
def Tryd.lays137_ren : Go.Shelf.Ren := ⟨fun | 137 => 56 | 217 => 69 | 266 => 80 | n => n, fun | 9 => 9 | 5 => 5 | 3 => 3 | n => n, fun | n => n⟩
theorem Tryd.lays137 : Go.Proofs.Lays.n137 Tryd.prog Tryd.lays137_ren := {
  mixed := by kernel_rfl
  f137 := Tryd.func56.trans (congrArg some (by kernel_rfl))
  f217 := Tryd.func69.trans (congrArg some (by kernel_rfl))
  f266 := Tryd.func80.trans (congrArg some (by kernel_rfl))
  t3 := Tryd.underlying3
  a3 := Tryd.isAgg3
  z3 := Tryd.sizeOf3
  v3 := Tryd.zeroValue3
  t5 := Tryd.underlying5
  a5 := Tryd.isAgg5
  z5 := Tryd.sizeOf5
  v5 := Tryd.zeroValue5
  t9 := Tryd.underlying9
  a9 := Tryd.isAgg9
  z9 := Tryd.sizeOf9
  v9 := Tryd.zeroValue9 }
open Go.RowKit in
/-- strings.IndexByte: "IndexByte returns the index of the first instance of c in s, or -1 if c is not present in s.": IT RETURNS 'Lib.indexByte s c'; the world is as it was. (LAID: no walk: one application.) -/
theorem Tryd.strings_IndexByte (s : ByteArray) (c : Int) (w : World) :
    Calls Tryd.prog 56 #[.string s, .int .u8 c] w fun e w' => e = .returned (.int .i64 (Lib.indexByte s.data.toList c.toNat.toUInt8)) ∧ w' = w := Any.strings_IndexByte Tryd.lays137 s c w
open Go.RowKit in
/-- (*strings.Builder).String: "String returns the accumulated string.": WHATEVER THE BUILDER HOLDS; THE FORM '_k': OVER 'Lib.IsBuilderF' (a builder that 'String()' may have read), AND WITH THE FRAME THAT REACHES ABOVE THE BUILDER: 'Lib.OthersKept': every block that is not b and is no row of uint8's stands as it stood: the iterator of a range among them. (LAID: no walk: one application.) -/
theorem Tryd.Builder_String_any_k (B b : Nat) (l : List UInt8) (w : World) (h : Lib.IsBuilderF 75 5 B b (Lib.byteCells l) w) (hBw : B ≤ w.heap.size) :
    Calls Tryd.prog 50 #[.pointer (some ⟨b, 0, none⟩)] w fun e w' => e = .returned (.string ⟨l.toArray⟩) ∧ (Lib.IsBuilderF 75 5 B b (Lib.byteCells l) w' ∧ Below B w w' ∧ Lib.OthersKept 5 (some b) w w') := Any.Builder_String_any_k Tryd.lays169 Tryd.Builder_Extra_169 B b l w h hBw
def Tryd.laysM316_ren : Go.Shelf.Ren := ⟨fun | 316 => 43 | n => n, fun | 9 => 9 | 3 => 3 | 4 => 4 | 37 => 65 | 0 => 0 | 127 => 85 | 5 => 5 | n => n, fun | n => n⟩
theorem Tryd.laysM316 : Go.Proofs.LaysM.n316 Tryd.prog Tryd.laysM316_ren := {
  mixed := by kernel_rfl
  f316 := Tryd.func43.trans (congrArg some (by kernel_rfl))
  t0 := Tryd.underlying0
  a0 := Tryd.isAgg0
  z0 := Tryd.sizeOf0
  v0 := Tryd.zeroValue0
  t3 := Tryd.underlying3
  a3 := Tryd.isAgg3
  z3 := Tryd.sizeOf3
  v3 := Tryd.zeroValue3
  t4 := Tryd.underlying4
  a4 := Tryd.isAgg4
  z4 := Tryd.sizeOf4
  v4 := Tryd.zeroValue4
  t9 := Tryd.underlying9
  a9 := Tryd.isAgg9
  z9 := Tryd.sizeOf9
  v9 := Tryd.zeroValue9
  t37 := Tryd.underlying65
  a37 := Tryd.isAgg65
  z37 := Tryd.sizeOf65
  v37 := Tryd.zeroValue65
  t127 := Tryd.underlying85
  a127 := Tryd.isAgg85
  z127 := Tryd.sizeOf85
  v127 := Tryd.zeroValue85
  t5 := Tryd.underlying5
  a5 := Tryd.isAgg5
  z5 := Tryd.sizeOf5
  v5 := Tryd.zeroValue5
  i0 := by kernel_rfl
  i3 := by kernel_rfl
  i4 := by kernel_rfl
  i5 := by kernel_rfl
  i9 := by kernel_rfl
  i37 := by kernel_rfl
  i127 := by kernel_rfl }
open Go.RowKit in
/-- internal/stringslite.Clone (what strings.Clone calls): "Clone returns a fresh copy of s.": THE SAME BYTES. Of what was there nothing has turned (a new row is laid, and frozen, where s is not empty). (LAID: no walk: one application.) -/
theorem Tryd.stringslite_Clone (s : ByteArray) (w : World) (hlim : s.size ≤ 281474976710656) :
    Calls Tryd.prog 43 #[.string s] w fun e w' => e = .returned (.string s) ∧ Below w.heap.size w w' := Any.stringslite_Clone Tryd.laysM316 s w hlim
def Tryd.laysC172_ren : Go.Shelf.Ren := ⟨fun | 172 => 54 | 244 => 66 | 245 => 67 | 247 => 75 | 279 => 76 | 280 => 77 | 281 => 78 | 282 => 79 | 287 => 84 | 316 => 43 | 171 => 86 | 205 => 85 | 321 => 90 | 322 => 91 | 243 => 92 | 246 => 93 | 283 => 94 | 284 => 95 | 285 => 96 | 286 => 97 | 129 => 99 | 317 => 98 | 318 => 100 | 319 => 101 | 320 => 102 | 337 => 103 | 338 => 104 | n => n, fun | 9 => 9 | 3 => 3 | 75 => 79 | 76 => 87 | 4 => 4 | 5 => 5 | 167 => 104 | 37 => 65 | 0 => 0 | 85 => 105 | 2 => 2 | 168 => 107 | 53 => 111 | 175 => 112 | 46 => 90 | 210 => 115 | 127 => 85 | 145 => 126 | 143 => 124 | 21 => 21 | 171 => 128 | 173 => 131 | 212 => 134 | 51 => 135 | 20 => 20 | 213 => 136 | 232 => 140 | 233 => 141 | 80 => 83 | n => n, fun | 15 => 0 | 16 => 1 | 17 => 5 | 18 => 6 | 19 => 7 | n => n⟩
theorem Tryd.laysC172 : Go.Proofs.LaysC.n172 Tryd.prog Tryd.laysC172_ren := {
  mixed := by kernel_rfl
  f129 := Tryd.func99.trans (congrArg some (by kernel_rfl))
  f171 := Tryd.func86.trans (congrArg some (by kernel_rfl))
  f172 := Tryd.func54.trans (congrArg some (by kernel_rfl))
  f205 := Tryd.func85.trans (congrArg some (by kernel_rfl))
  f243 := Tryd.func92.trans (congrArg some (by kernel_rfl))
  f244 := Tryd.func66.trans (congrArg some (by kernel_rfl))
  f245 := Tryd.func67.trans (congrArg some (by kernel_rfl))
  f246 := Tryd.func93.trans (congrArg some (by kernel_rfl))
  f247 := Tryd.func75.trans (congrArg some (by kernel_rfl))
  f279 := Tryd.func76.trans (congrArg some (by kernel_rfl))
  f280 := Tryd.func77.trans (congrArg some (by kernel_rfl))
  f281 := Tryd.func78.trans (congrArg some (by kernel_rfl))
  f282 := Tryd.func79.trans (congrArg some (by kernel_rfl))
  f283 := Tryd.func94.trans (congrArg some (by kernel_rfl))
  f284 := Tryd.func95.trans (congrArg some (by kernel_rfl))
  f285 := Tryd.func96.trans (congrArg some (by kernel_rfl))
  f286 := Tryd.func97.trans (congrArg some (by kernel_rfl))
  f287 := Tryd.func84.trans (congrArg some (by kernel_rfl))
  f316 := Tryd.func43.trans (congrArg some (by kernel_rfl))
  f317 := Tryd.func98.trans (congrArg some (by kernel_rfl))
  f318 := Tryd.func100.trans (congrArg some (by kernel_rfl))
  f319 := Tryd.func101.trans (congrArg some (by kernel_rfl))
  f320 := Tryd.func102.trans (congrArg some (by kernel_rfl))
  f321 := Tryd.func90.trans (congrArg some (by kernel_rfl))
  f322 := Tryd.func91.trans (congrArg some (by kernel_rfl))
  f337 := Tryd.func103.trans (congrArg some (by kernel_rfl))
  f338 := Tryd.func104.trans (congrArg some (by kernel_rfl))
  t0 := Tryd.underlying0
  a0 := Tryd.isAgg0
  z0 := Tryd.sizeOf0
  v0 := Tryd.zeroValue0
  t2 := Tryd.underlying2
  a2 := Tryd.isAgg2
  z2 := Tryd.sizeOf2
  v2 := Tryd.zeroValue2
  t3 := Tryd.underlying3
  a3 := Tryd.isAgg3
  z3 := Tryd.sizeOf3
  v3 := Tryd.zeroValue3
  t4 := Tryd.underlying4
  a4 := Tryd.isAgg4
  z4 := Tryd.sizeOf4
  v4 := Tryd.zeroValue4
  t5 := Tryd.underlying5
  a5 := Tryd.isAgg5
  z5 := Tryd.sizeOf5
  v5 := Tryd.zeroValue5
  t9 := Tryd.underlying9
  a9 := Tryd.isAgg9
  z9 := Tryd.sizeOf9
  v9 := Tryd.zeroValue9
  t20 := Tryd.underlying20
  a20 := Tryd.isAgg20
  z20 := Tryd.sizeOf20
  v20 := Tryd.zeroValue20
  t21 := Tryd.underlying21
  a21 := Tryd.isAgg21
  z21 := Tryd.sizeOf21
  v21 := Tryd.zeroValue21
  t37 := Tryd.underlying65
  a37 := Tryd.isAgg65
  z37 := Tryd.sizeOf65
  v37 := Tryd.zeroValue65
  t46 := Tryd.underlying90
  a46 := Tryd.isAgg90
  z46 := Tryd.sizeOf90
  v46 := Tryd.zeroValue90
  t51 := Tryd.underlying135
  a51 := Tryd.isAgg135
  z51 := Tryd.sizeOf135
  v51 := Tryd.zeroValue135
  t53 := Tryd.underlying111
  a53 := Tryd.isAgg111
  z53 := Tryd.sizeOf111
  v53 := Tryd.zeroValue111
  t75 := Tryd.underlying79
  a75 := Tryd.isAgg79
  z75 := Tryd.sizeOf79
  v75 := Tryd.zeroValue79
  t76 := Tryd.underlying87
  a76 := Tryd.isAgg87
  z76 := Tryd.sizeOf87
  v76 := Tryd.zeroValue87
  t85 := Tryd.underlying105
  a85 := Tryd.isAgg105
  z85 := Tryd.sizeOf105
  v85 := Tryd.zeroValue105
  t127 := Tryd.underlying85
  a127 := Tryd.isAgg85
  z127 := Tryd.sizeOf85
  v127 := Tryd.zeroValue85
  t143 := Tryd.underlying124
  a143 := Tryd.isAgg124
  z143 := Tryd.sizeOf124
  v143 := Tryd.zeroValue124
  t145 := Tryd.underlying126
  a145 := Tryd.isAgg126
  z145 := Tryd.sizeOf126
  v145 := Tryd.zeroValue126
  t167 := Tryd.underlying104
  a167 := Tryd.isAgg104
  z167 := Tryd.sizeOf104
  v167 := Tryd.zeroValue104
  t168 := Tryd.underlying107
  a168 := Tryd.isAgg107
  z168 := Tryd.sizeOf107
  v168 := Tryd.zeroValue107
  t171 := Tryd.underlying128
  a171 := Tryd.isAgg128
  z171 := Tryd.sizeOf128
  v171 := Tryd.zeroValue128
  t173 := Tryd.underlying131
  a173 := Tryd.isAgg131
  z173 := Tryd.sizeOf131
  v173 := Tryd.zeroValue131
  t175 := Tryd.underlying112
  a175 := Tryd.isAgg112
  z175 := Tryd.sizeOf112
  v175 := Tryd.zeroValue112
  t210 := Tryd.underlying115
  a210 := Tryd.isAgg115
  z210 := Tryd.sizeOf115
  v210 := Tryd.zeroValue115
  t212 := Tryd.underlying134
  a212 := Tryd.isAgg134
  z212 := Tryd.sizeOf134
  v212 := Tryd.zeroValue134
  t213 := Tryd.underlying136
  a213 := Tryd.isAgg136
  z213 := Tryd.sizeOf136
  t232 := Tryd.underlying140
  a232 := Tryd.isAgg140
  z232 := Tryd.sizeOf140
  v232 := Tryd.zeroValue140
  t233 := Tryd.underlying141
  a233 := Tryd.isAgg141
  z233 := Tryd.sizeOf141
  v233 := Tryd.zeroValue141
  g15 := by kernel_rfl
  g16 := by kernel_rfl
  g17 := by kernel_rfl
  g18 := by kernel_rfl
  g19 := by kernel_rfl
  t80 := Tryd.underlying83
  a80 := Tryd.isAgg83
  z80 := Tryd.sizeOf83
  v80 := Tryd.zeroValue83
  i0 := by kernel_rfl
  i2 := by kernel_rfl
  i3 := by kernel_rfl
  i4 := by kernel_rfl
  i5 := by kernel_rfl
  i9 := by kernel_rfl
  i20 := by kernel_rfl
  i21 := by kernel_rfl
  i37 := by kernel_rfl
  i46 := by kernel_rfl
  i51 := by kernel_rfl
  i53 := by kernel_rfl
  i75 := by kernel_rfl
  i76 := by kernel_rfl
  i80 := by kernel_rfl
  i85 := by kernel_rfl
  i127 := by kernel_rfl
  i143 := by kernel_rfl
  i145 := by kernel_rfl
  i167 := by kernel_rfl
  i168 := by kernel_rfl
  i171 := by kernel_rfl
  i173 := by kernel_rfl
  i175 := by kernel_rfl
  i210 := by kernel_rfl
  i212 := by kernel_rfl
  i232 := by kernel_rfl
  i233 := by kernel_rfl
  m15 := by kernel_rfl
  m16 := by kernel_rfl
  m17 := by kernel_rfl
  m18 := by kernel_rfl
  m19 := by kernel_rfl
  c0 := by kernel_rfl
  c2 := by kernel_rfl
  c3 := by kernel_rfl
  c4 := by kernel_rfl
  c5 := by kernel_rfl
  c9 := by kernel_rfl
  c20 := by kernel_rfl
  c21 := by kernel_rfl
  c37 := by kernel_rfl
  c46 := by kernel_rfl
  c51 := by kernel_rfl
  c53 := by kernel_rfl
  c75 := by kernel_rfl
  c76 := by kernel_rfl
  c80 := by kernel_rfl
  c85 := by kernel_rfl
  c127 := by kernel_rfl
  c143 := by kernel_rfl
  c145 := by kernel_rfl
  c167 := by kernel_rfl
  c168 := by kernel_rfl
  c171 := by kernel_rfl
  c173 := by kernel_rfl
  c175 := by kernel_rfl
  c210 := by kernel_rfl
  c212 := by kernel_rfl
  c213 := by kernel_rfl
  c232 := by kernel_rfl
  c233 := by kernel_rfl }
open Go.RowKit in
/-- strconv.Atoi, AT EVERY STRING THAT SPELLS AN int ('Lib.atoiAll .. = .ok v'; of whatever length: leading zeros count): v, AND NO ERROR. The world: as it was, or with the one new row that '[]byte(..)' lays. (LAID: no walk: one application.) -/
theorem Tryd.strconv_Atoi_ok (s : ByteArray) (hmax : s.size ≤ 9223372036854775806) (v : Int) (h : Lib.atoiAll s.data.toList = .ok v) (w : World) :
    Calls Tryd.prog 54 #[.string s] w fun e w' => e = .returned (.tuple #[.int .i64 v, .nilIface]) ∧ (w' = w ∨ ∃ t, w' = Lib.bytesWorld w 5 t) := Any.strconv_Atoi_ok Tryd.laysC172 s hmax v h w
open Go.RowKit in
theorem Tryd.strconv_Atoi_range_var (s : ByteArray) (hlim : s.size ≤ 281474976710656) (h : Lib.atoiAll s.data.toList = .range) (tp : TypeId) (p : Value) (w : World) (hvar : w.var? Tryd.prog "strconv.ErrRange" = some #[.iface tp p]) :
    Calls Tryd.prog 54 #[.string s] w fun e w' => ∃ N, e = .returned (.tuple #[.int .i64 (Lib.atoiSat s.data.toList), .iface 107 (.pointer (some ⟨N, 0, none⟩))]) ∧ w.heap.size ≤ N ∧ w'.heap[N]? = some (.cells #[.string ⟨#[65, 116, 111, 105]⟩, .string s, .iface tp p] 115 (0, 0)) ∧ Below w.heap.size w w' := Any.strconv_Atoi_range_var Tryd.laysC172 s hlim h tp p w hvar
def Tryd.lays99_ren : Go.Shelf.Ren := ⟨fun | 99 => 55 | 206 => 68 | n => n, fun | 9 => 9 | 4 => 4 | 3 => 3 | n => n, fun | n => n⟩
theorem Tryd.lays99 : Go.Proofs.Lays.n99 Tryd.prog Tryd.lays99_ren := {
  mixed := by kernel_rfl
  f99 := Tryd.func55.trans (congrArg some (by kernel_rfl))
  f206 := Tryd.func68.trans (congrArg some (by kernel_rfl))
  t3 := Tryd.underlying3
  a3 := Tryd.isAgg3
  z3 := Tryd.sizeOf3
  v3 := Tryd.zeroValue3
  t4 := Tryd.underlying4
  a4 := Tryd.isAgg4
  z4 := Tryd.sizeOf4
  v4 := Tryd.zeroValue4
  t9 := Tryd.underlying9
  a9 := Tryd.isAgg9
  z9 := Tryd.sizeOf9
  v9 := Tryd.zeroValue9 }
open Go.RowKit Go.Lib in
/-- strings.HasPrefix: "HasPrefix reports whether the string s begins with prefix.": IT RETURNS 'Lib.hasPrefix s prefix'; the world is as it was. (LAID: no walk: one application.) -/
theorem Tryd.strings_HasPrefix (s p : ByteArray) (w : World) :
    Calls Tryd.prog 55 #[.string s, .string p] w fun e w' => e = .returned (.bool (Lib.hasPrefix s.data.toList p.data.toList)) ∧ w' = w := Any.strings_HasPrefix Tryd.lays99 s p w
def Tryd.lays101_ren : Go.Shelf.Ren := ⟨fun | 101 => 52 | 208 => 58 | 206 => 68 | n => n, fun | 9 => 9 | 4 => 4 | 3 => 3 | n => n, fun | n => n⟩
theorem Tryd.lays101 : Go.Proofs.Lays.n101 Tryd.prog Tryd.lays101_ren := {
  mixed := by kernel_rfl
  f101 := Tryd.func52.trans (congrArg some (by kernel_rfl))
  f206 := Tryd.func68.trans (congrArg some (by kernel_rfl))
  f208 := Tryd.func58.trans (congrArg some (by kernel_rfl))
  t3 := Tryd.underlying3
  a3 := Tryd.isAgg3
  z3 := Tryd.sizeOf3
  v3 := Tryd.zeroValue3
  t4 := Tryd.underlying4
  a4 := Tryd.isAgg4
  z4 := Tryd.sizeOf4
  v4 := Tryd.zeroValue4
  t9 := Tryd.underlying9
  a9 := Tryd.isAgg9
  z9 := Tryd.sizeOf9
  v9 := Tryd.zeroValue9 }
open Go.RowKit Go.Lib in
/-- strings.TrimPrefix: "TrimPrefix returns s without the provided leading prefix string. If s doesn't start with prefix, s is returned unchanged.": IT RETURNS 'Lib.trimPrefix s prefix'; the world is as it was. (LAID: no walk: one application.) -/
theorem Tryd.strings_TrimPrefix (s p : ByteArray) (w : World) :
    Calls Tryd.prog 52 #[.string s, .string p] w fun e w' => e = .returned (.string ⟨(Lib.trimPrefix s.data.toList p.data.toList).toArray⟩) ∧ w' = w := Any.strings_TrimPrefix Tryd.lays101 s p w
open Go.RowKit in
theorem Tryd.strings_Trim_ascii (s cutset : ByteArray) (w : World) (hs : s.size ≤ 9223372036854775807) (hcs : cutset.size < 4294967281) (hascii : ∀ (j : Nat) (b : UInt8), cutset.data.toList[j]? = some b → b.toNat < 128) :
    Calls Tryd.prog 53 #[.string s, .string cutset] w fun e w' => e = .returned (.string ⟨(Lib.trimS s.data.toList cutset.data.toList).toArray⟩) ∧ Below w.heap.size w w' := Any.strings_Trim_laid Tryd.lays160 (by kernel_rfl) s cutset w hs hcs hascii
end Go.Proofs.YtjignlemahdoeaaDoor
namespace Go.Proofs.YtjignlemahdoeaaDoor
open Go.ChangeShapes Go.WideShapes Go.ChangeAt Go.RowKit
set_option linter.unusedVariables false

theorem ret_int {k : IntKind} {a b : Int} (h : a = b) : Ending.returned (.int k a) = .returned (.int k b) := by rw [h]

/-- Bytes as cells. -/
def cellsOf (l : List Int) : List Value := l.map (Value.int .u8)
theorem cellsOf_length (l : List Int) : (cellsOf l).length = l.length := by simp [cellsOf]
theorem cellsOf_one (l : List Int) : ∀ u ∈ cellsOf l, u.oneCell' = true := ints_oneCell _ _
theorem cellsOf_append (l r : List Int) : cellsOf (l ++ r) = cellsOf l ++ cellsOf r := by simp [cellsOf]
theorem cellsOf_get {l : List Int} {i : Nat} (h : i < l.length) : (cellsOf l)[i]? = some (.int .u8 (l.getD i 0)) := by simp [cellsOf, h]

/-- The bytes of a slice that came in: nil, or from an address on. -/
def Lies (w : World) (A : Option Addr) (c : Nat) (l : List Int) : Prop :=
  (A = none ∧ c = 0 ∧ l = []) ∨ ∃ a, A = some a ∧ ∀ j u, (cellsOf l)[j]? = some u → w.cell? (a.add j) = some u

theorem Lies.nil (w : World) : Lies w none 0 [] := .inl ⟨rfl, rfl, rfl⟩
theorem Lies.below {w w' : World} {A : Option Addr} {c : Nat} {l : List Int} (h : Lies w A c l) (hb : Below w.heap.size w w') : Lies w' A c l := by
  rcases h with h | ⟨a, rfl, h⟩
  · exact .inl h
  · refine .inr ⟨a, rfl, fun j u hu => ?_⟩
    have h1 := h j u hu
    rw [hb.cell (block_lt_of_cell h1)]
    exact h1
theorem Lies.at_ {w : World} {A : Option Addr} {c : Nat} {l : List Int} (h : Lies w A c l) (hl : 0 < l.length) :
    ∃ b o, A = some ⟨b, o, none⟩ ∧ b < w.heap.size ∧ ∀ i, i < l.length → w.cell? ⟨b, o + i, none⟩ = some (.int .u8 (l.getD i 0)) := by
  rcases h with ⟨_, _, rfl⟩ | ⟨⟨b, o, spot⟩, rfl, h⟩
  · simp at hl
  · have h0 := h 0 _ (cellsOf_get hl)
    have hs : spot = none := by simpa [Addr.add] using World.cell?_spot h0
    subst hs
    refine ⟨b, o, rfl, block_lt_of_cell (a := ⟨b, o, none⟩) (by simpa [Addr.add] using h0), fun i hi => ?_⟩
    have h1 := h i _ (cellsOf_get hi)
    by_cases e : i = 0
    · subst e; simpa [Addr.add] using h1
    · simpa [Addr.add, e] using h1
theorem Lies.of_own {w : World} {base : Nat} {A : Option Addr} {c : Nat} {l : List Int} (h : w.ownsRow base 5 1 (.slice A l.length c) l.length (cellsOf l)) : Lies w A c l := by
  rcases h.2 with ⟨hv, h0⟩ | ⟨g, cap, cur, hv, _⟩
  · simp only [Value.slice.injEq] at hv
    obtain ⟨rfl, _, rfl⟩ := hv
    exact .inl ⟨rfl, rfl, List.eq_nil_of_length_eq_zero h0⟩
  · simp only [Value.slice.injEq] at hv
    obtain ⟨rfl, _, rfl⟩ := hv
    exact .inr ⟨_, rfl, h.cells (g := g) rfl⟩

/-- The string that bytes make. -/
def str (l : List Int) : ByteArray := l.foldl (fun r n => r.push (UInt8.ofNat n.toNat)) ByteArray.empty
theorem push_data (r : ByteArray) (x : UInt8) : (r.push x).data = r.data.push x := rfl
theorem foldl_data (l : List Int) : ∀ r : ByteArray, (l.foldl (fun r n => r.push (UInt8.ofNat n.toNat)) r).data.toList = r.data.toList ++ l.map fun n => UInt8.ofNat n.toNat := by
  induction l with
  | nil => intro r; simp
  | cons n l ih => intro r; rw [List.foldl_cons, ih, push_data]; simp
theorem str_data (l : List Int) : (str l).data.toList = l.map fun n => UInt8.ofNat n.toNat := by
  unfold str; rw [foldl_data]; simp
theorem str_append (l r : List Int) : str l ++ str r = str (l ++ r) := by
  apply ByteArray.ext
  apply Array.toList_inj.1
  rw [ByteArray.data_append, Array.toList_append, str_data, str_data, str_data, List.map_append]
theorem str_size (l : List Int) : (str l).size = l.length := by
  have h : (str l).data.toList.length = l.length := by rw [str_data, List.length_map]
  simpa using h

/-- Conversion to a string. -/
theorem run_str {w : World} {A : Option Addr} {c : Nat} {l : List Int} (h : Lies w A c l) : (convert 65 9 (.slice A l.length c)).run Tryd.prog w = .ok (.string (str l)) w := by
  rw [run_convert_bytes_string w 65 9 5 A l.length c Tryd.underlying65 Tryd.underlying5 Tryd.underlying9]
  rcases h with ⟨rfl, _, rfl⟩ | ⟨a, rfl, h⟩
  · simp [Conv.bytesToString]; rfl
  · have e := run_loadCells_list (P := Tryd.prog) w a (cellsOf l) h
    rw [cellsOf_length] at e
    exact run_bytesToString w a l.length c l e

theorem Tryd.info5 : (Tryd.prog.info? 5).map (fun i => (i.zero, i.size, i.bytes)) = some (some (.int .u8 0), 1, 1) := by kernel_rfl

theorem ret_slice {A : Option Addr} {n m c : Nat} (h : n = m) : Ending.returned (.slice A n c) = .returned (.slice A m c) := by rw [h]

/-- The call hands back a slice of its own that holds the bytes l; below block B nothing has turned. -/
def Own (B : Nat) (w : World) (l : List Int) (e : Ending) (w' : World) : Prop :=
  ∃ A c, e = .returned (.slice A l.length c) ∧ w'.ownsRow B 5 1 (.slice A l.length c) l.length (cellsOf l) ∧ Below B w w'

def IsB (l : List Int) : Prop := ∀ x ∈ l, 0 ≤ x ∧ x ≤ 255

theorem getD_at {l : List Int} {i : Nat} (h : i < l.length) : l.getD i 0 = l[i] := by simp [h]

theorem size5 (w : World) : (Go.sizeOf 5).run Tryd.prog w = .ok 1 w := by kernel_rfl

/-- A cut from lo to lo + n: its address is known where it holds something; an empty one is not looked at. -/
theorem run_cut (A : Option Addr) (len c lo n : Nat) (L H : Int) (hL : L = lo) (hH : H = lo + n) (hc : lo + n ≤ c) :
    ∃ A' C', (∀ W, (Instr.slice 65 (.slice A len c) (some (.int .i64 L)) (some (.int .i64 H)) none).run Tryd.prog W = .ok (.slice A' n C') W) ∧ (0 < n → ∀ b o, A = some ⟨b, o, none⟩ → A' = some ⟨b, o + lo, none⟩) ∧ n ≤ C' := by
  have ht' : Tryd.prog.underlying 65 = some (.slice (Tryd.prog.elem 65)) := by simp [Program.elem, Tryd.underlying65]
  have he : Tryd.prog.elem 65 = 5 := by simp [Program.elem, Tryd.underlying65]
  subst hL hH
  refine ⟨if c = lo then A else A.map (·.add (lo * 1)), c - lo, fun W => ?_, ?_, by omega⟩
  · rw [run_slice_lh W 65 _ _ _ ht' .i64 .i64 _ _ (by omega) (by omega) (by omega), he, size5]
    simp only [Result.andThen, sliced]
    rw [show ((lo : Int) + n).toNat - (lo : Int).toNat = n by omega, show c - (lo : Int).toNat = c - lo by omega, Int.toNat_natCast]
  · intro hn b o hA
    subst hA
    have hne2 : ¬ c = lo := by omega
    by_cases h0 : lo = 0
    · subst h0
      simp [Addr.add]
    · simp [Addr.add, hne2, h0]

theorem own : ownKnob Tryd.prog.godebug = none := by kernel_rfl
theorem laidOut : laidOutB Tryd.prog = true := by kernel_rfl

/-- An argument []byte: nil, or a row of cap cells that hold zs, the first len of them its elements. -/
def IsRow (w : World) (a : Option Addr) (len cap : Nat) (zs : List Int) : Prop :=
  (a = none ∧ len = 0 ∧ cap = 0 ∧ zs = []) ∨
  ∃ x, a = some x ∧ len ≤ cap ∧ cap ≤ maxLen ∧ zs.length = cap ∧ (∀ i, i < zs.length → w.cell? (x.add i) = some (.int .u8 (zs.getD i 0))) ∧ ∀ n ∈ zs, (Lit.int .u8 n).wf = true

/-- The same, as the contracts take it. -/
theorem bytes_of_row {w : World} {a : Option Addr} {len cap : Nat} {zs : List Int} (h : IsRow w a len cap zs) :
    ∃ l : List Int, l.length = len ∧ l.length ≤ cap ∧ l.length ≤ maxLen ∧ Lies w a cap l ∧ IsB l := by
  rcases h with ⟨rfl, rfl, rfl, rfl⟩ | ⟨x, rfl, hl, hm, hz, hc, hw⟩
  · exact ⟨[], rfl, by simp, by simp, Lies.nil w, by intro x hx; simp at hx⟩
  · refine ⟨zs.take len, by simp; omega, by simp; omega, by simp; omega, .inr ⟨x, rfl, fun j u hu => ?_⟩, fun z hz' => ?_⟩
    · have hj : j < (zs.take len).length := by
        rcases Nat.lt_or_ge j (zs.take len).length with h | h
        · exact h
        · rw [List.getElem?_eq_none (by rw [cellsOf_length]; exact h)] at hu; cases hu
      have hj2 : j < zs.length := by simp at hj; omega
      have e : (zs.take len).getD j 0 = zs.getD j 0 := by
        have : j < len := by simp at hj; omega
        simp [List.getD, this]
      rw [cellsOf_get hj, e] at hu
      rw [hc j hj2, hu]
    · have := bounds_u8 (hw z (List.mem_of_mem_take hz'))
      omega

/-- Conversion to a string of a slice of a callee own, then and later. -/
theorem conv_later {w1 : World} {B c : Nat} {A : Option Addr} {l : List Int} (h : w1.ownsRow B 5 1 (.slice A l.length c) l.length (cellsOf l)) :
    ∀ W : World, Below w1.heap.size w1 W → (convert 65 9 (.slice A l.length c)).run Tryd.prog W = .ok (.string (str l)) W := fun W hb => run_str ((Lies.of_own h).below hb)
/-- .. of a slice that came in. -/
theorem conv_first {w : World} {c : Nat} {A : Option Addr} {l : List Int} (h : Lies w A c l) :
    ∀ W : World, Below w.heap.size w W → (convert 65 9 (.slice A l.length c)).run Tryd.prog W = .ok (.string (str l)) W := fun W hb => run_str (h.below hb)
/-- Two steps, the second from the first one end. -/
theorem Below.on {w w1 w2 : World} (h : Below w.heap.size w w1) (k : Below w1.heap.size w1 w2) : Below w.heap.size w w2 := h.trans (k.mono h.size)

theorem made_cells (q : Nat) : (madeCells (Value.int .u8 0).cells (q * 1)).toList = cellsOf (List.replicate q 0) := by
  rw [Nat.mul_one]
  show (madeCells #[Value.int .u8 0] q).toList = _
  rw [toList_madeCells_one]
  simp [cellsOf]

/-- A string bytes. -/
def sl (s : ByteArray) : List Int := s.data.toList.map fun b => (b.toNat : Int)
theorem sl_length (s : ByteArray) : (sl s).length = s.size := by unfold sl; rw [List.length_map]; simp
theorem sl_cells (s : ByteArray) : Lib.strCells s = cellsOf (sl s) := by simp [Lib.strCells, cellsOf, sl]
theorem sl_bytes (s : ByteArray) : IsB (sl s) := by
  intro x hx
  simp only [sl, List.mem_map] at hx
  obtain ⟨b, _, rfl⟩ := hx
  have := b.toNat_lt
  omega
theorem str_sl (s : ByteArray) : str (sl s) = s := by
  apply ByteArray.ext
  apply Array.toList_inj.1
  rw [str_data, sl, List.map_map]
  conv => rhs; rw [← List.map_id s.data.toList]
  apply List.map_congr_left
  intro x _
  simp

/-- A cut from lo to lo + n of a slice that reads as l, and the string that it makes. -/
theorem cut_str {w : World} {A : Option Addr} {c : Nat} {l : List Int} (h : Lies w A c l) (lo n : Nat) (L H : Int) (hL : L = lo) (hH : H = lo + n) (hn : lo + n ≤ l.length) (hc : l.length ≤ c) :
    ∃ A' C', (∀ W, (Instr.slice 65 (.slice A l.length c) (some (.int .i64 L)) (some (.int .i64 H)) none).run Tryd.prog W = .ok (.slice A' n C') W) ∧
      ∀ W, Below w.heap.size w W → (convert 65 9 (.slice A' n C')).run Tryd.prog W = .ok (.string (str ((l.drop lo).take n))) W := by
  obtain ⟨A', C', h1, h2, h3⟩ := run_cut A l.length c lo n L H hL hH (by omega)
  refine ⟨A', C', h1, fun W hb => ?_⟩
  have e : ((l.drop lo).take n).length = n := by rw [List.length_take, List.length_drop]; omega
  rcases Nat.eq_zero_or_pos n with h0 | h0
  · subst h0
    rw [List.take_zero]
    rcases A' with _ | a
    · rw [run_convert_bytes_string W 65 9 5 none 0 C' Tryd.underlying65 Tryd.underlying5 Tryd.underlying9]
      simp [Conv.bytesToString]; rfl
    · exact run_str (l := []) (.inr ⟨a, rfl, fun j u hu => by simp [cellsOf] at hu⟩)
  · obtain ⟨b, o, rfl, hbl, hcell⟩ := h.at_ (by omega)
    rw [h2 h0 b o rfl]
    have hl : Lies W (some ⟨b, o + lo, none⟩) C' ((l.drop lo).take n) := by
      refine .inr ⟨_, rfl, fun j u hu => ?_⟩
      have hj : j < n := by
        rcases Nat.lt_or_ge j n with h | h
        · exact h
        · rw [List.getElem?_eq_none (by rw [cellsOf_length, e]; exact h)] at hu; cases hu
      rw [cellsOf_get (by rw [e]; exact hj)] at hu
      have e2 : ((l.drop lo).take n).getD j 0 = l.getD (lo + j) 0 := by simp [List.getD, hj]
      rw [e2] at hu
      have e3 : (⟨b, o + lo, none⟩ : Addr).add j = ⟨b, o + (lo + j), none⟩ := by
        unfold Addr.add
        split
        · rename_i hz; subst hz; rfl
        · simp [Nat.add_assoc]
      rw [e3, hb.cell hbl, hcell (lo + j) (by omega), hu]
    have hr := run_str hl
    rw [e] at hr
    exact hr

/-- Appending a string bytes to a slice of the call own. -/
theorem own_text {B : Nat} {w w1 w2 : World} {A : Option Addr} {c : Nat} {l : List Int} {s : ByteArray} {v : Value} (hb : Below B w w1) (hB : B ≤ w1.heap.size) (h1 : w1.ownsRow B 5 1 (.slice A l.length c) l.length (cellsOf l)) (hl : 0 < l.length)
    (h2 : w2.ownsRow B 5 1 v (l.length + s.size) (cellsOf l ++ Lib.strCells s)) (hg : w1.grownBy w2 (Value.slice A l.length c).ownBlock) : Own B w (l ++ sl s) (.returned v) w2 := by
  obtain ⟨g, cap, rfl, _, _⟩ := h2.form (by omega)
  rw [sl_cells, ← cellsOf_append] at h2
  have e : l.length + s.size = (l ++ sl s).length := by rw [List.length_append, sl_length]
  rw [e] at h2 ⊢
  exact ⟨_, cap, rfl, h2, hb.grown hg hB (fun k hk => (h1.lt k hk).1)⟩


theorem take_one {l : List Int} {k : Nat} (h : k < l.length) : l.take (k + 1) = l.take k ++ [l.getD k 0] := by
  rw [List.take_succ_eq_append_getElem h]
  simp [h]

theorem IsB.take {l : List Int} (h : IsB l) (k : Nat) : IsB (l.take k) := fun x hx => h x (List.mem_of_mem_take hx)
theorem IsB.getD {l : List Int} (h : IsB l) {k : Nat} (hk : k < l.length) : 0 ≤ l.getD k 0 ∧ l.getD k 0 ≤ 255 := h _ (by rw [getD_at hk]; exact List.getElem_mem _)

theorem lies_one (w : World) (x : Int) : Lies (w.alloc (.cells #[.int .u8 x] 5)) (some ⟨w.heap.size, 0, none⟩) 1 [x] :=
  Lies.of_own (base := 0) (World.ownsRow_lit (size := 1) w #[.int .u8 x] 1 (Nat.zero_le _) (by unfold maxLen; omega) rfl)

/-- Strings that bytes make are alike just where the bytes are. -/
theorem str_inj {a b : List Int} (ha : IsB a) (hb : IsB b) (h : str a = str b) : a = b := by
  have h1 : (str a).data.toList = (str b).data.toList := by rw [h]
  rw [str_data, str_data] at h1
  have key : ∀ (a b : List Int), IsB a → IsB b → (a.map fun n => UInt8.ofNat n.toNat) = (b.map fun n => UInt8.ofNat n.toNat) → a = b := by
    intro a
    induction a with
    | nil => intro b _ _ h; cases b with | nil => rfl | cons y b => simp at h
    | cons x a ih =>
      intro b ha hb h
      cases b with
      | nil => simp at h
      | cons y b =>
        simp only [List.map_cons, List.cons.injEq] at h
        obtain ⟨x0, x1⟩ := ha x (by simp)
        obtain ⟨y0, y1⟩ := hb y (by simp)
        have e1 : (UInt8.ofNat x.toNat).toNat = (UInt8.ofNat y.toNat).toNat := by rw [h.1]
        simp only [UInt8.toNat_ofNat'] at e1
        rw [ih b (fun z hz => ha z (by simp [hz])) (fun z hz => hb z (by simp [hz])) h.2]
        congr 1
        omega
  exact key a b ha hb h1
theorem str_eq_iff {a b : List Int} (ha : IsB a) (hb : IsB b) : ((str a).toList == (str b).toList) = decide (a = b) := by
  by_cases h : a = b
  · subst h; simp
  · have : str a ≠ str b := fun e => h (str_inj ha hb e)
    have h2 : (str a).toList ≠ (str b).toList := fun e => this (ByteArray.ext (by
      apply Array.toList_inj.1
      rw [ByteArray.toList_eq, ByteArray.toList_eq] at e
      exact e))
    simp [h, h2]

/-- A value that is a slice which reads as l. -/
def Holds (W : World) (l : List Int) (v : Value) : Prop := ∃ A c, v = .slice A l.length c ∧ Lies W A c l

theorem bne_of {α : Type} [BEq α] {x y : α} {b : Bool} (h : (x == y) = b) : (x != y) = !b := by rw [bne, h]
theorem IsB.append {a b : List Int} (ha : IsB a) (hb : IsB b) : IsB (a ++ b) := fun x hx => (List.mem_append.1 hx).elim (ha x) (hb x)

theorem cellsOf_set (l : List Int) (i : Nat) (x : Int) : (cellsOf l).set i (.int .u8 x) = cellsOf (l.set i x) := by simp [cellsOf]
end Go.Proofs.YtjignlemahdoeaaDoor
namespace Go.Proofs.YtjignlemahdoeaaDoor
open Go.ChangeShapes Go.WideShapes Go.ChangeAt Go.RowKit
set_option linter.unusedVariables false

/-- A slice of the call own with the bytes l, no block of it below B. -/
def OwnS (B : Nat) (w : World) (A : Option Addr) (c : Nat) (l : List Int) : Prop := w.ownsRow B 5 1 (.slice A l.length c) l.length (cellsOf l)

theorem OwnS.lies {B : Nat} {w : World} {A : Option Addr} {c : Nat} {l : List Int} (h : OwnS B w A c l) : Lies w A c l := Lies.of_own h
theorem OwnS.nil (B : Nat) (w : World) : OwnS B w none 0 [] := World.ownsRow_nil w B 5 1
theorem OwnS.mono {B B' : Nat} {w : World} {A : Option Addr} {c : Nat} {l : List Int} (h : OwnS B w A c l) (hb : B' ≤ B) : OwnS B' w A c l :=
  ⟨h.1, h.2.elim Or.inl (fun ⟨g, cap, cur, hv, hg, r⟩ => Or.inr ⟨g, cap, cur, hv, Nat.le_trans hb hg, r⟩)⟩
theorem OwnS.below {B : Nat} {w w' : World} {A : Option Addr} {c : Nat} {l : List Int} (h : OwnS B w A c l) (hb : Below w.heap.size w w') : OwnS B w' A c l := by
  refine ⟨h.1, ?_⟩
  rcases h.2 with h2 | ⟨g, cap, cur, hv, hg, hh, r⟩
  · exact .inl h2
  · refine .inr ⟨g, cap, cur, hv, hg, ?_, r⟩
    rw [hb.block g (lt_of_block hh)]
    exact hh
/-- Its capacity holds it. -/
theorem OwnS.cap {B : Nat} {w : World} {A : Option Addr} {c : Nat} {l : List Int} (h : OwnS B w A c l) : l.length ≤ c := by
  rcases h.2 with ⟨hv, h0⟩ | ⟨g, cap, cur, hv, hg, hh, hn, r⟩
  · omega
  · simp only [Value.slice.injEq] at hv
    omega

theorem run_append_bytes (ty : TypeId) (w : World) (base : Nat) (A : Option Addr) (c : Nat) (l : List Int) (hown : OwnS base w A c l) (B : Option Addr) (d : Nat) (r : List Int) (hr : Lies w B d r)
    (h63 : l.length + r.length ≤ 100000000000) (hbase : base ≤ w.heap.size) :
    ∃ A' c' w', (Builtin.append_ #[65, 65] ty #[.slice A l.length c, .slice B r.length d]).run Tryd.prog w = .ok (.slice A' (l ++ r).length c') w' ∧ OwnS base w' A' c' (l ++ r) ∧ w.grownBy w' (Value.slice A l.length c).ownBlock := by
  obtain ⟨i0, hi, hz0, hz1, hz2⟩ := info_parts Tryd.info5
  unfold OwnS at *
  rw [List.length_append, cellsOf_append]
  rcases hr with ⟨rfl, rfl, rfl⟩ | ⟨a, rfl, hr⟩
  · refine ⟨A, c, w, run_append_owned_none w base 65 ty 5 i0 1 Tryd.underlying65 hi _ _ _ hown, ?_, World.grownBy.refl _ _⟩
    simpa [cellsOf] using hown
  · obtain ⟨v', w', hrun, h2, h3, _, h5⟩ := run_append_own_at (P := Tryd.prog) w base 65 ty 5 i0 (.int .u8 0) 1 1 Tryd.underlying65 hi hz0 hz1 hz2 rfl (by decide) _ _ _ hown a r.length d (cellsOf r) (by rw [cellsOf_length]; omega) hr (cellsOf_one r) (by unfold maxLen; omega) (by omega) hbase
    rcases h2.2 with ⟨hv, h0⟩ | ⟨g, cap, cur, hv, _⟩
    · subst hv
      refine ⟨none, 0, w', ?_, ?_, h3⟩
      · rw [h0]; exact hrun
      · rw [h0] at h2 ⊢; exact h2
    · subst hv
      exact ⟨_, cap, w', hrun, h2, h3⟩

/-- At an operation of a region that does not draw: what is appended is nil, empty or not. -/
theorem wpList_append_bytes {w : World} {ops : Array Oper} {rest : List Oper} {o : Oper} {a : Act} {Q : Exit → Act → World → Prop} (hgd : o.guard = none) (s x : Operand)
    (ho : o.op = .call { callee := .builtin .append, args := #[s, x], argTypes := #[65, 65] })
    (base : Nat) (A : Option Addr) (c : Nat) (l : List Int) (hs : a.eval s = .slice A l.length c) (hown : OwnS base w A c l)
    (B : Option Addr) (d : Nat) (r : List Int) (hx : a.eval x = .slice B r.length d) (hr : Lies w B d r) (h63 : l.length + r.length ≤ 100000000000) (hbase : base ≤ w.heap.size)
    (h : ∀ A' c' w' L, Hid (L = l ++ r) → OwnS base w' A' c' L → w.grownBy w' (Value.slice A l.length c).ownBlock → wpList Tryd.prog ops Q rest (a.put o.dst (.slice A' L.length c')) w') : wpList Tryd.prog ops Q (o :: rest) a w := by
  obtain ⟨A', c', w', hrun, h2, h3⟩ := run_append_bytes o.type w base A c l hown B d r hr h63 hbase
  refine wpList_plain hgd fun K hK => ?_
  unfold Oper.wp execOp
  simp only [ho, resolve, invoke, builtin, Sem.run_bind, Sem.run_pure, Result.andThen_ok, List.map_toArray, List.map_cons, List.map_nil, hs, hx, hrun]
  exact hK _ _ (h A' c' w' _ (Lib.hid rfl) h2 h3)

/-- What an append leaves below. -/
theorem OwnS.grow {B : Nat} {w0 w w' : World} {A : Option Addr} {c : Nat} {l : List Int} (h : OwnS B w A c l) (hb : Below B w0 w) (hg : w.grownBy w' (Value.slice A l.length c).ownBlock) (hB : B ≤ w.heap.size) : Below B w0 w' :=
  hb.grown hg hB (fun k hk => (World.ownsRow.lt h k hk).1)

/-- A slice of the call own and a number. -/
def OwnE (B : Nat) (w : World) (r : List Int × Int) (e : Ending) (w' : World) : Prop :=
  ∃ A c, e = .returned (.tuple #[.slice A r.1.length c, .int .i64 r.2]) ∧ OwnS B w' A c r.1 ∧ Below B w w'
/-- A slice that reads so, and a number. -/
def LiesE (w : World) (r : List Int × Int) (e : Ending) (w' : World) : Prop :=
  ∃ A c, e = .returned (.tuple #[.slice A r.1.length c, .int .i64 r.2]) ∧ Lies w' A c r.1 ∧ Below w.heap.size w w'
end Go.Proofs.YtjignlemahdoeaaDoor
namespace Go.Proofs.YtjignlemahdoeaaDoor
open Go.ChangeShapes Go.WideShapes Go.ChangeAt Go.RowKit
set_option linter.unusedVariables false

theorem Lies.sliced {w W : World} {A : Option Addr} {c : Nat} {l : List Int} (h : Lies w A c l) (hc : l.length ≤ c) (hb : Below w.heap.size w W) (lo n : Nat) (hn : lo + n ≤ l.length) :
    Lies W (if c = lo then A else A.map (·.add (lo * 1))) (c - lo) ((l.drop lo).take n) := by
  rcases A with _ | a
  · rcases h with ⟨_, rfl, rfl⟩ | ⟨a, ha, _⟩
    · have : lo = 0 := by simpa using (show lo ≤ 0 by simp at hn; omega)
      subst this
      simpa using Lies.nil W
    · cases ha
  · rcases Nat.eq_zero_or_pos n with h0 | h0
    · subst h0
      rw [List.take_zero]
      split
      · exact .inr ⟨a, rfl, fun j u hu => by simp [cellsOf] at hu⟩
      · exact .inr ⟨_, rfl, fun j u hu => by simp [cellsOf] at hu⟩
    · obtain ⟨b, o, ha, hbl, hcell⟩ := h.at_ (by omega)
      injection ha with ha
      subst ha
      rw [if_neg (by omega)]
      have e1 : (some (⟨b, o, none⟩ : Addr)).map (·.add (lo * 1)) = some ⟨b, o + lo, none⟩ := by
        rw [Nat.mul_one, Option.map_some]
        unfold Addr.add
        split
        · rename_i hz; subst hz; rfl
        · rfl
      rw [e1]
      have e : ((l.drop lo).take n).length = n := by rw [List.length_take, List.length_drop]; omega
      refine .inr ⟨_, rfl, fun j u hu => ?_⟩
      have hj : j < n := by
        rcases Nat.lt_or_ge j n with h | h
        · exact h
        · rw [List.getElem?_eq_none (by rw [cellsOf_length, e]; exact h)] at hu; cases hu
      rw [cellsOf_get (by rw [e]; exact hj)] at hu
      have e2 : ((l.drop lo).take n).getD j 0 = l.getD (lo + j) 0 := by simp [List.getD, hj]
      rw [e2] at hu
      have e3 : (⟨b, o + lo, none⟩ : Addr).add j = ⟨b, o + (lo + j), none⟩ := by
        unfold Addr.add
        split
        · rename_i hz; subst hz; rfl
        · simp [Nat.add_assoc]
      rw [e3, hb.cell hbl, hcell (lo + j) (by omega), hu]

theorem elem22 : Tryd.prog.elem 65 = 5 := by simp [Program.elem, Tryd.underlying65]
theorem under22 : Tryd.prog.underlying 65 = some (.slice (Tryd.prog.elem 65)) := by simp [Program.elem, Tryd.underlying65]

/-- b[lo:hi]. -/
theorem cut_lh {w : World} {A : Option Addr} {c : Nat} {l : List Int} (h : Lies w A c l) (hc : l.length ≤ c) (lo n : Nat) (L H : Int) (hL : L = lo) (hH : H = lo + n) (hn : lo + n ≤ l.length) :
    ∃ A' C', (∀ W, (Instr.slice 65 (.slice A l.length c) (some (.int .i64 L)) (some (.int .i64 H)) none).run Tryd.prog W = .ok (.slice A' n C') W) ∧ (∀ W, Below w.heap.size w W → Lies W A' C' ((l.drop lo).take n)) ∧ n ≤ C' := by
  subst hL hH
  refine ⟨_, c - lo, fun W => ?_, fun W hb => h.sliced hc hb lo n hn, by omega⟩
  rw [run_slice_lh W 65 _ _ _ under22 .i64 .i64 _ _ (by omega) (by omega) (by omega), elem22, size5]
  simp only [Result.andThen, Go.sliced]
  rw [show ((lo : Int) + n).toNat - (lo : Int).toNat = n by omega, show c - (lo : Int).toNat = c - lo by omega, Int.toNat_natCast]
/-- b[lo:]. -/
theorem cut_l {w : World} {A : Option Addr} {c : Nat} {l : List Int} (h : Lies w A c l) (hc : l.length ≤ c) (lo : Nat) (L : Int) (hL : L = lo) (hn : lo ≤ l.length) :
    ∃ A' C', (∀ W, (Instr.slice 65 (.slice A l.length c) (some (.int .i64 L)) none none).run Tryd.prog W = .ok (.slice A' (l.drop lo).length C') W) ∧ (∀ W, Below w.heap.size w W → Lies W A' C' (l.drop lo)) ∧ (l.drop lo).length ≤ C' := by
  subst hL
  have e : (l.drop lo).take (l.length - lo) = l.drop lo := List.take_of_length_le (by simp)
  refine ⟨_, c - lo, fun W => ?_, fun W hb => by have := h.sliced hc hb lo (l.length - lo) (by omega); rwa [e] at this, by rw [List.length_drop]; omega⟩
  rw [run_slice_l W 65 _ _ _ under22 .i64 _ (by omega) (by omega), elem22, size5]
  simp only [Result.andThen, Go.sliced]
  rw [List.length_drop, Int.toNat_natCast]
/-- b[:hi]. -/
theorem cut_h {w : World} {A : Option Addr} {c : Nat} {l : List Int} (h : Lies w A c l) (hc : l.length ≤ c) (hi : Nat) (H : Int) (hH : H = hi) (hn : hi ≤ l.length) :
    ∃ A' C', (∀ W, (Instr.slice 65 (.slice A l.length c) none (some (.int .i64 H)) none).run Tryd.prog W = .ok (.slice A' (l.take hi).length C') W) ∧ (∀ W, Below w.heap.size w W → Lies W A' C' (l.take hi)) ∧ (l.take hi).length ≤ C' := by
  subst hH
  have e : (l.take hi).length = hi := by rw [List.length_take]; omega
  refine ⟨_, c - 0, fun W => ?_, fun W hb => by have := h.sliced hc hb 0 hi (by omega); rwa [List.drop_zero] at this, by rw [e]; omega⟩
  rw [run_slice_h W 65 _ _ _ under22 .i64 _ (by omega) (by omega), elem22, size5]
  simp only [Result.andThen, Go.sliced]
  rw [e, Int.toNat_natCast, Nat.sub_zero]
end Go.Proofs.YtjignlemahdoeaaDoor
namespace Go.Proofs.YtjignlemahdoeaaDoor
open Go.ChangeShapes Go.WideShapes Go.ChangeAt Go.RowKit
set_option linter.unusedVariables false
def ltT : List Int → List Int → Bool
  | [], [] => false
  | [], _ :: _ => true
  | _ :: _, [] => false
  | x :: a, y :: b => if x = y then ltT a b else decide (x < y)
theorem ltT_irrefl : ∀ a, ltT a a = false
  | [] => rfl
  | x :: a => by simp [ltT, ltT_irrefl a]
theorem ltT_asymm : ∀ a b, ltT a b = true → ltT b a = false
  | [], [], h => by simp [ltT] at h
  | [], _ :: _, _ => rfl
  | _ :: _, [], h => by simp [ltT] at h
  | x :: a, y :: b, h => by
    unfold ltT at h ⊢
    by_cases e : x = y
    · subst e; simp only [if_true] at h ⊢; exact ltT_asymm a b h
    · rw [if_neg e] at h
      rw [if_neg (fun e' => e e'.symm)]
      simp at h ⊢
      omega
theorem ltT_total : ∀ a b, ltT a b = false → ltT b a = false → a = b
  | [], [], _, _ => rfl
  | [], _ :: _, h, _ => by simp [ltT] at h
  | _ :: _, [], _, h => by simp [ltT] at h
  | x :: a, y :: b, h1, h2 => by
    unfold ltT at h1 h2
    by_cases e : x = y
    · subst e
      simp only [if_true] at h1 h2
      rw [ltT_total a b h1 h2]
    · rw [if_neg e] at h1
      rw [if_neg (fun e' => e e'.symm)] at h2
      simp at h1 h2
      omega
/-- At the first place where they differ. -/
theorem ltT_at : ∀ (k : Nat) (a b : List Int), a.take k = b.take k → ∀ x y, a[k]? = some x → b[k]? = some y → x ≠ y → ltT a b = decide (x < y)
  | 0, x' :: a, y' :: b, _, x, y, hx, hy, hne => by
    simp at hx hy
    subst hx hy
    unfold ltT
    rw [if_neg hne]
  | k + 1, x' :: a, y' :: b, h, x, y, hx, hy, hne => by
    simp only [List.take_succ_cons, List.cons.injEq] at h
    simp only [List.getElem?_cons_succ] at hx hy
    obtain ⟨rfl, h⟩ := h
    unfold ltT
    rw [if_pos rfl]
    exact ltT_at k a b h x y hx hy hne
  | _, [], _, _, _, _, hx, _, _ => by simp at hx
  | _, _ :: _, [], _, _, _, _, hy, _ => by simp at hy
/-- Where one is a beginning of the other. -/
theorem ltT_prefix : ∀ (a b : List Int), (a.take b.length = b.take a.length) → ltT a b = decide (a.length < b.length)
  | [], [], _ => rfl
  | [], _ :: _, _ => by simp [ltT]
  | _ :: _, [], _ => by simp [ltT]
  | x :: a, y :: b, h => by
    simp only [List.length_cons, List.take_succ_cons, List.cons.injEq] at h
    obtain ⟨rfl, h⟩ := h
    unfold ltT
    rw [if_pos rfl, ltT_prefix a b h]
    simp
end Go.Proofs.YtjignlemahdoeaaDoor
namespace Go.Proofs.YtjignlemahdoeaaDoor
open Go.ChangeShapes Go.WideShapes Go.ChangeAt Go.RowKit
set_option linter.unusedVariables false
set_option maxRecDepth 20000

/-- Bytes as numbers. -/
def nums (l : List UInt8) : List Int := l.map fun b => (b.toNat : Int)
theorem sl_nums (s : ByteArray) : sl s = nums s.data.toList := rfl
theorem nums_inj : ∀ {a b : List UInt8}, nums a = nums b → a = b
  | [], [], _ => rfl
  | [], _ :: _, h => by simp [nums] at h
  | _ :: _, [], h => by simp [nums] at h
  | x :: a, y :: b, h => by
    simp only [nums, List.map_cons, List.cons.injEq] at h
    have h1 : x = y := UInt8.toNat_inj.1 (by omega)
    rw [h1, nums_inj (a := a) (b := b) h.2]
/-- Less, equal or greater. -/
def cmpT (a b : List Int) : Int := if ltT a b then -1 else if ltT b a then 1 else 0
theorem cmpT_neg (a b : List Int) : cmpT b a = - cmpT a b := by
  unfold cmpT
  by_cases h1 : ltT a b = true
  · have h2 := ltT_asymm a b h1
    simp [h1, h2]
  · have h1' : ltT a b = false := by simpa using h1
    by_cases h2 : ltT b a = true
    · simp [h1', h2]
    · have h2' : ltT b a = false := by simpa using h2
      simp [h1', h2']
theorem cmpT_same (a : List Int) : cmpT a a = 0 := by unfold cmpT; simp [ltT_irrefl]
theorem ltT_cons {x y : UInt8} {a b : List UInt8} : ltT (nums (x :: a)) (nums (y :: b)) = if x = y then ltT (nums a) (nums b) else decide (x < y) := by
  show (if (x.toNat : Int) = (y.toNat : Int) then ltT (nums a) (nums b) else decide ((x.toNat : Int) < (y.toNat : Int))) = _
  by_cases h : x = y
  · subst h; simp
  · have h1 : ¬ (x.toNat : Int) = (y.toNat : Int) := fun e => h (UInt8.toNat_inj.1 (by omega))
    rw [if_neg h1, if_neg h]
    exact decide_eq_decide.2 (by rw [UInt8.lt_iff_toNat_lt]; omega)
theorem compare_cmpT : ∀ (a b : List UInt8), Lib.compareBytes a b = cmpT (nums a) (nums b)
  | [], [] => rfl
  | [], _ :: _ => rfl
  | _ :: _, [] => rfl
  | x :: a, y :: b => by
    have ih := compare_cmpT a b
    unfold Lib.compareBytes
    unfold cmpT at ih ⊢
    rw [ltT_cons, ltT_cons]
    by_cases h : x = y
    · subst h
      simp only [UInt8.lt_irrefl, if_false, if_true]
      exact ih
    · have h' : ¬ y = x := fun e => h e.symm
      by_cases h1 : x < y
      · simp [h1, h]
      · have h2 : y < x := UInt8.lt_of_le_of_ne (UInt8.not_lt.1 h1) (Ne.symm h)
        simp [h1, h2, h, h']
theorem less_ltT : ∀ (a b : List UInt8), Op.bytesLess a b = ltT (nums a) (nums b)
  | [], [] => rfl
  | [], _ :: _ => rfl
  | _ :: _, [] => rfl
  | x :: a, y :: b => by
    rw [ltT_cons]
    have ih := less_ltT a b
    by_cases h : x = y
    · subst h; simp [Op.bytesLess, ih]
    · simp [Op.bytesLess, h]

/-- The loop of Less: the first k bytes are the same. -/
def RelK (a b : ByteArray) (w : World) (i : Value) (wr : World) : Prop := ∃ k : Nat, i = .int .i64 k ∧ k ≤ a.size ∧ k ≤ b.size ∧ (sl a).take k = (sl b).take k ∧ ∃ q, wr = w.drewN q
theorem sl_at (a : ByteArray) (k : Nat) (h : k < a.size) : (sl a)[k]? = some ((a[k].toNat : Nat) : Int) := by
  have : k < a.data.toList.length := by simpa using h
  simp only [sl, List.getElem?_map, List.getElem?_eq_getElem this]
  rfl

set_option maxRecDepth 20000 in
set_option maxHeartbeats 2000000 in
theorem less_calls (a b : ByteArray) (w : World) (ha : a.size ≤ reachBytes) (hb : b.size ≤ reachBytes) : Calls Tryd.prog 51 #[.string a, .string b] w fun e w' => e = .returned (.bool (ltT (sl a) (sl b))) ∧ ∃ q, w' = w.drewN q := by
  have ha2 : a.size ≤ 140737488351232 := ha
  have hb2 : b.size ≤ 140737488351232 := hb
  clear ha hb
  obtain ⟨r, hr⟩ : ∃ r, r = ltT (sl a) (sl b) := ⟨_, rfl⟩
  rw [← hr]
  have HR := Lib.hid hr
  clear hr
  go_enter Tryd.func51, Tryd.ntmps51
  go_wp2
  go_loopw [5] (RelK a b w) (fun i _ => a.size - (intOf i).toNat)
  case atStart => exact ⟨0, rfl, by omega, by omega, by simp, 0, rfl⟩
  case round =>
    obtain ⟨k, rfl, hka, hkb, htk, q, rfl⟩ := hrel
    have HT := Lib.hid htk
    clear htk
    by_cases hlt : k < a.size ∧ k < b.size
    · obtain ⟨h1, h2⟩ := hlt
      have h1i : (k : Int) < (a.size : Int) := by omega
      have h2i : (k : Int) < (b.size : Int) := by omega
      have HXa := Lib.hid (sl_at a k h1)
      have HXb := Lib.hid (sl_at b k h2)
      by_cases hxy : (a[k].toNat : Int) = (b[k].toNat : Int)
      · have hne : ((a[k].toNat : Int) != (b[k].toNat : Int)) = false := by simp [hxy]
        have HT2 := Lib.hid (show (sl a).take (k + 1) = (sl b).take (k + 1) by rw [List.take_add_one, List.take_add_one, HT.out, HXa.out, HXb.out, hxy])
        clear hxy
        go_wp2_with fail
        go_quiet (fail)
        go_wp2
        go_roundw
        case rel => exact ⟨k + 1, by go_num, by omega, by omega, HT2.out, _, rfl⟩
        case measure => simp [intOf]; omega
      · have hne : ((a[k].toNat : Int) != (b[k].toNat : Int)) = true := by simp; exact fun e => hxy (by omega)
        have HRR := Lib.hid (show r = decide (a[k].toNat < b[k].toNat) by rw [HR.out, ltT_at k _ _ HT.out _ _ HXa.out HXb.out hxy]; exact decide_eq_decide.2 (by omega))
        clear hxy
        go_wp2_with fail
        go_quiet (fail)
        go_wp2_with fail
        go_quiet (fail)
        go_wp2
        go_ret
        exact ⟨by rw [HRR.out]; rfl, _, by rw [World.drewN_drewN, World.drewN_drewN]⟩
    · have HRR := Lib.hid (show r = decide (a.size < b.size) by
        rw [HR.out, ltT_prefix (sl a) (sl b) (by
          rw [sl_length, sl_length]
          rcases Nat.lt_or_ge k a.size with h | h
          · have e : k = b.size := by omega
            rw [← e, HT.out, List.take_of_length_le (by rw [sl_length]; omega), List.take_of_length_le (by rw [sl_length]; omega)]
          · have e : k = a.size := by omega
            rw [← e, ← HT.out, List.take_of_length_le (by rw [sl_length]; omega), List.take_of_length_le (by rw [sl_length]; omega)]), sl_length, sl_length])
      by_cases h1 : k < a.size
      · have h2 : ¬ k < b.size := fun h => hlt ⟨h1, h⟩
        have h1i : decide ((k : Int) < (a.size : Int)) = true := by simp; omega
        have h2i : decide ((k : Int) < (b.size : Int)) = false := by simp; omega
        go_wp2
        go_ret
        exact ⟨by rw [HRR.out]; rfl, q, rfl⟩
      · have h1i : decide ((k : Int) < (a.size : Int)) = false := by simp; omega
        go_wp2
        go_ret
        exact ⟨by rw [HRR.out]; rfl, q, rfl⟩

/-- The order of pairs. -/
def ordP (a b : ByteArray × ByteArray) : Int := if a.1 = b.1 then cmpT (sl a.2) (sl b.2) else cmpT (sl a.1) (sl b.1)
theorem sl_inj {a b : ByteArray} (h : sl a = sl b) : a = b := by rw [← str_sl a, ← str_sl b, h]
theorem ordP_neg (a b : ByteArray × ByteArray) : ordP b a = - ordP a b := by
  unfold ordP
  by_cases h : a.1 = b.1
  · rw [if_pos h, if_pos h.symm]; exact cmpT_neg _ _
  · rw [if_neg h, if_neg (fun e => h e.symm)]; exact cmpT_neg _ _
theorem toList_inj {a b : ByteArray} (h : a.toList = b.toList) : a = b := ByteArray.ext (Array.toList_inj.1 (by rw [ByteArray.toList_eq, ByteArray.toList_eq] at h; exact h))
theorem toList_beq_false {a b : ByteArray} (h : a ≠ b) : (a.toList == b.toList) = false := by
  rw [beq_eq_false_iff_ne]; exact fun e => h (toList_inj e)

/-- Whether each key is greater than the one before it. -/
def upP : List (ByteArray × ByteArray) → Bool
  | a :: b :: r => ltT (sl a.1) (sl b.1) && upP (b :: r)
  | _ => true
theorem upP_stop : ∀ (k : Nat) (ps : List (ByteArray × ByteArray)) (a b : ByteArray × ByteArray), ps[k]? = some a → ps[k + 1]? = some b → ltT (sl a.1) (sl b.1) = false → upP ps = false
  | 0, x :: y :: r, a, b, h1, h2, h => by simp at h1 h2; subst h1 h2; simp [upP, h]
  | k + 1, x :: y :: r, a, b, h1, h2, h => by
    simp only [List.getElem?_cons_succ] at h1
    have := upP_stop k (y :: r) a b h1 (by simpa using h2) h
    simp [upP, this]
  | _, [], _, _, h1, _, _ => by simp at h1
  | k, [x], _, _, _, h2, _ => by simp at h2
theorem upP_all : ∀ (ps : List (ByteArray × ByteArray)), (∀ k a b, ps[k]? = some a → ps[k + 1]? = some b → ltT (sl a.1) (sl b.1) = true) → upP ps = true
  | [], _ => rfl
  | [_], _ => rfl
  | x :: y :: r, h => by
    have h1 := h 0 x y rfl rfl
    have h2 := upP_all (y :: r) (fun k a b ha hb => h (k + 1) a b (by simpa using ha) (by simpa using hb))
    simp [upP, h1, h2]
end Go.Proofs.YtjignlemahdoeaaDoor
namespace Go.Proofs.YtjignlemahdoeaaDoor
open Go.ChangeShapes Go.WideShapes Go.ChangeAt Go.RowKit
set_option linter.unusedVariables false
set_option maxRecDepth 20000
/-- strconv.ErrRange reads as an error in this world and in each later one. -/
def ErrV (w : World) : Prop := ∃ (tp : TypeId) (p : Value), ∀ V, Below w.heap.size w V → V.var? Tryd.prog "strconv.ErrRange" = some #[.iface tp p]
set_option maxHeartbeats 2000000 in
theorem number_calls (s : ByteArray) (hs : s.size ≤ reachBytes) (w : World) (hv : ErrV w) : Calls Tryd.prog 44 #[.string s] w fun e w' => e = .returned (.tuple #[.int .i64 (numD s.data.toList).1, .int .i64 (numD s.data.toList).2]) ∧ Below w.heap.size w w' := by
  have hs2 : s.size ≤ 140737488351232 := hs
  obtain ⟨t, ht⟩ : ∃ t : ByteArray, t = ⟨(digitsOf s.data.toList).toArray⟩ := ⟨_, rfl⟩
  have HTP := Lib.hid (show ∀ V, Calls Tryd.prog 52 #[.string s, .string ⟨#[45]⟩] V fun e w' => e = .returned (.string t) ∧ w' = V from fun V => by
    rw [ht, ← trim_minus]
    exact Tryd.strings_TrimPrefix s ⟨#[45]⟩ V)
  obtain ⟨tp, p, hvv⟩ := hv
  by_cases h0 : digitsOf s.data.toList = []
  · have hn : numD s.data.toList = (0, 3) := by unfold numD; rw [if_pos (.inl h0)]
    rw [hn]
    have ht0 : t = ⟨#[]⟩ := by rw [ht, h0]
    subst ht0
    clear ht hvv
    go_enter Tryd.func44, Tryd.ntmps44
    go_wp2_with (go_at_call 52; refine (HTP.out _).mono ?_; rintro e w1 ⟨rfl, h1⟩; subst w1)
    go_ret2
    exact ⟨rfl, Below.refl _ _⟩
  · have hne : t ≠ ⟨#[]⟩ := fun h => h0 (by have h9 := congrArg (fun x : ByteArray => x.data.toList) h; rw [ht] at h9; simpa using h9)
    have htl : t.toList = digitsOf s.data.toList := by rw [ByteArray.toList_eq, ht]
    have hb0' : ¬ t.toList = [] := by rw [htl]; exact h0
    have hb0 : t.toList.isEmpty = false := by rw [htl]; simpa using h0
    have hts : t.size ≤ 9223372036854775807 := by
      have h9 : (digitsOf s.data.toList).length ≤ s.data.toList.length := by
        cases s.data.toList with
        | nil => exact Nat.le_refl _
        | cons c r =>
          show (if c.toNat = 45 then r else c :: r).length ≤ _
          split <;> simp
      have h8 : s.data.toList.length = s.size := by simp
      rw [ht]
      show (digitsOf s.data.toList).toArray.size ≤ _
      rw [List.size_toArray]
      omega
    have HTR := Lib.hid (show ∀ V, Calls Tryd.prog 53 #[.string t, .string ⟨#[48, 49, 50, 51, 52, 53, 54, 55, 56, 57]⟩] V fun e w' => e = .returned (.string ⟨(Lib.trimS (digitsOf s.data.toList) digs).toArray⟩) ∧ Below V.heap.size V w' from fun V => by
      have h9 := Tryd.strings_Trim_ascii t ⟨#[48, 49, 50, 51, 52, 53, 54, 55, 56, 57]⟩ V hts (by decide) (fun j b hb => by
        have : b ∈ digs := List.mem_of_getElem? hb
        revert this
        unfold digs
        simp only [List.mem_cons, List.not_mem_nil, or_false]
        rintro (rfl | rfl | rfl | rfl | rfl | rfl | rfl | rfl | rfl | rfl) <;> decide)
      rw [show t.data.toList = digitsOf s.data.toList by rw [ht]] at h9
      exact h9)
    obtain ⟨r, hr⟩ : ∃ r : ByteArray, r = ⟨(Lib.trimS (digitsOf s.data.toList) digs).toArray⟩ := ⟨_, rfl⟩
    rw [← hr] at HTR
    cases h1 : (digitsOf s.data.toList).all isDig with
    | false =>
      have hn : numD s.data.toList = (0, 3) := by unfold numD; rw [if_pos (.inr h1)]
      rw [hn]
      have hrne : r ≠ ⟨#[]⟩ := fun h => by
        have h9 := congrArg (fun x : ByteArray => x.data.toList) h
        rw [hr] at h9
        have h8 := (trim_empty _).1 (by simpa using h9)
        rw [h1] at h8; cases h8
      have hrl : r.toList = Lib.trimS (digitsOf s.data.toList) digs := by rw [ByteArray.toList_eq, hr]
      have hb1' : ¬ r.toList = [] := by rw [hrl]; exact fun h => by have h8 := (trim_empty _).1 h; rw [h1] at h8; cases h8
      have hb1 : r.toList.isEmpty = false := by simpa using hb1'
      clear ht hvv hr hne hrne h0 h1 hn hts htl hrl
      go_enter Tryd.func44, Tryd.ntmps44
      go_wp2_with (first | (go_at_call 52; refine (HTP.out _).mono ?_; rintro e w1 ⟨rfl, h1⟩; subst w1) | (go_at_call 53; refine (HTR.out _).mono ?_; rintro e w2 ⟨rfl, hb2⟩; have HB2 := Lib.hid hb2; clear hb2))
      go_ret2
      exact ⟨rfl, HB2.out⟩
    | true =>
      have hrl : r.toList = [] := by rw [ByteArray.toList_eq, hr]; exact (trim_empty _).2 h1
      have hb1 : r.toList.isEmpty = true := by rw [hrl]; rfl
      have hat := atoi_num s.data.toList h0 h1
      have hn : numD s.data.toList = match Lib.atoiAll s.data.toList with | .ok v => (v, 0) | _ => (0, 8) := by
        rw [hat]
        unfold numD
        rw [if_neg (fun h => by rcases h with h | h; exact h0 h; rw [h1] at h; cases h)]
        by_cases hm : minusOf s.data.toList = true
        · rw [if_pos hm, if_pos hm]
          by_cases h2 : dval 0 (digitsOf s.data.toList) ≤ 9223372036854775808
          · rw [if_pos h2, if_pos h2]
          · rw [if_neg h2, if_neg h2]
        · rw [if_neg hm, if_neg hm]
          by_cases h2 : dval 0 (digitsOf s.data.toList) < 9223372036854775808
          · rw [if_pos h2, if_pos h2]
          · rw [if_neg h2, if_neg h2]
      rw [hn]
      cases hA : Lib.atoiAll s.data.toList with
      | «syntax» =>
        rw [hA] at hat
        exfalso
        split at hat <;> split at hat <;> cases hat
      | ok v =>
        have HAT := Lib.hid (fun V => Tryd.strconv_Atoi_ok s (by omega) v hA V)
        clear ht hvv hr hne h0 h1 hn hts htl hrl hat hA
        dsimp only
        go_enter Tryd.func44, Tryd.ntmps44
        go_wp2_with (first | (go_at_call 52; refine (HTP.out _).mono ?_; rintro e w1 ⟨rfl, h1⟩; subst w1) | (go_at_call 53; refine (HTR.out _).mono ?_; rintro e w2 ⟨rfl, hb2⟩; have HB2 := Lib.hid hb2; clear hb2) | (go_at_call 54; refine (HAT.out _).mono ?_; rintro e w3 ⟨rfl, hb3⟩; have HB3 := Lib.hid hb3; clear hb3))
        go_ret2
        refine ⟨rfl, ?_⟩
        rcases HB3.out with rfl | ⟨q, rfl⟩
        · exact HB2.out
        · exact HB2.out.trans ((Lib.bytesWorld_below _ _ _).mono HB2.out.size)
      | range =>
        have HAT := Lib.hid (fun V (hV : Below w.heap.size w V) => Tryd.strconv_Atoi_range_var s (by omega) hA tp p V (hvv V hV))
        clear ht hvv hr hne h0 h1 hn hts htl hrl hat hA
        dsimp only
        go_enter Tryd.func44, Tryd.ntmps44
        go_wp2_with (first | (go_at_call 52; refine (HTP.out _).mono ?_; rintro e w1 ⟨rfl, h1⟩; subst w1) | (go_at_call 53; refine (HTR.out _).mono ?_; rintro e w2 ⟨rfl, hb2⟩; have HB2 := Lib.hid hb2; clear hb2) | (go_at_call 54; refine (HAT.out _ HB2.out).mono ?_; rintro e w3 ⟨N, rfl, _, _, hb3⟩; have HB3 := Lib.hid hb3; clear hb3))
        go_ret2
        exact ⟨rfl, HB2.out.trans (HB3.out.mono HB2.out.size)⟩
end Go.Proofs.YtjignlemahdoeaaDoor
namespace Go.Proofs.YtjignlemahdoeaaDoor
open Go.ChangeShapes Go.WideShapes Go.RowKit
set_option linter.unusedVariables false
def Laid (W : World) : Prop := laidMetH Tryd.prog Rows.tokenReadsRow.laid W
theorem Laid.plain {W : World} (h : Laid W) : laidMet Tryd.prog Rows.tokenReadsRow.laid W := by
  unfold Laid at h
  rw [MakeChecks.laidMetH_plain _ _ _ (by kernel_rfl)] at h
  exact h
theorem g_range : Tryd.prog.globalNamed "strconv.ErrRange" = some 1 := by kernel_rfl
theorem errV_of_laid {W : World} (h : Laid W) : ErrV W := by
  obtain ⟨ps, ⟨_, _, _, _, _, _, _, _, _, _, ⟨_, _, _, _, _, _, _, _, _, _, ⟨_, _, _, _, _, _, _, _, _, _, ⟨_, _, _, _, _, _, _, _, _, _, ⟨g, t, cs, fuel, p, q, hg, ht, hvar, hd, _, _⟩, _⟩, _⟩, _⟩, _⟩, _⟩ := h.plain
  obtain rfl := Option.some.inj (g_range.symm.trans hg)
  have hty : (Tryd.prog.globals[1]?).map (·.type) = some 79 := by kernel_rfl
  obtain rfl := Option.some.inj (hty.symm.trans ht)
  obtain ⟨f, u, v, hcs, _, _⟩ := iface_of_trod Tryd.underlying79 hd
  have he : cs = #[.iface u v] := by apply Array.toList_inj.1; simpa using hcs
  subst he
  exact ⟨u, v, fun V hV => Go.Joins.var_stays g_range hvar hV (Nat.le_refl _)⟩
/-- A world in which the variables read so. -/
noncomputable def laidW (os : Os) : World := World.laidAll Tryd.prog os Rows.tokenReadsRow.laid
theorem laidW_met (os : Os) (args : Array Value) : laidMetH Tryd.prog Rows.tokenReadsRow.laid ((laidW os).forCall (fun _ _ => 0) ⟨#[], args, []⟩).memory := by
  rw [MakeChecks.laidMetH_plain _ _ _ (by kernel_rfl)]
  exact laidMet_laidAll _ (by kernel_rfl) (by kernel_rfl)
end Go.Proofs.YtjignlemahdoeaaDoor
