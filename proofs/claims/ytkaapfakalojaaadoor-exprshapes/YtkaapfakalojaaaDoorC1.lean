/-
  DERIVED: THE SHELF's CONTRACTS AT THIS DUMP, IN PLAIN WORDS (tools/lay-plain.mjs out of 'TrydMini.lean', which tools/lay-shelf.mjs wrote): THE SAME DECLARATIONS UNDER THE SAME NAMES: 'import', 'namespace', 'open', 'def', 'theorem' AND NOTHING ELSE: no command of the shelf's: FOR A HAND-IN. Each laying: the table of numbers ('.._ren') and one theorem, a field a fact of the dump's own or the kernel's comparison; each contract: ONE APPLICATION.
  What every layer shares: byte slices in memory as lists of bytes, slices of the call own, strings that bytes make, cuts, and the arguments of a law. No function of the program in sight. Conditions: each theorem names its own.
  Slices of the call own grow: append of whatever bytes, nil and empty ones let in; a slice of the call own stays while later calls make memory of theirs. No function of the program in sight. Conditions: the sizes that each theorem names.
  Cuts of byte slices: b[lo:hi], b[lo:], b[:hi], as lists of bytes, nil and empty ones let in. No function of the program in sight. Conditions: the bounds that each theorem names.
  Slices of byte slices in memory, as lists of lists of bytes: they stay, grow, and are cut. No function of the program in sight; T is the number of the type of slices of byte slices. Conditions: each theorem names its own.
  Slices of values of any element type (of one cell or several), told as a list: what it means that one lies in memory, or is the call's own; append, index, cut. Conditions: as in the premises.
  Blocks of the call's own: what they hold, and what leaves them as they are. No function of the program in sight. Conditions: as in the premises.
  A block that has just been made. No conditions.
  The statement 'for x := range seq' over an iterator that makes memory as it goes and whose values point into it: a law of any program. The iterator is told what the body keeps of its own memory, and that all blocks that are not the body's own (C) stand as they stood, those among them that the iterator makes as it goes; the body is told what the value that it is handed reads as. Conditions: as in the premises.
-/
import Derived.Shelf.Strings.BuilderK
import Derived.Shelf.LaysM
import Derived.Shelf.Strconv.Itoa3
import Derived.Test.YtkaapfakalojaaaDoorProg
import Derived.Test.YtkaapfakalojaaaDoorRows
import Derived.WalkKit
import Derived.ProofKit
import Derived.OpenShut
import Derived.ShutString
import Derived.ChangeOld
import Derived.Below
import Derived.Lib.Hide
import Derived.Lib.AppendStr
import Derived.Deep.AppendLies
import Derived.Laws.AppendOwnNone
import Derived.Laws.BytesString
import Derived.Laws.OwnMore
import Derived.Deep.Draws
import Derived.WalkLawsBesides
import Derived.WalkSpells
import Derived.Deep.RegionHeld3
import Derived.StillTailTactics
import Derived.Deep.QuietTactic
import Derived.BigQuiet
import Derived.Deep.Matrix
import Derived.OwnWalkIn
import Derived.Lib.OthersKept
import Derived.RangeFuncNested
import Derived.RangeFuncLeaves
import Derived.RangeFuncCalls
namespace Go.Proofs.YtkaapfakalojaaaDoor
open Go.Shelf
def Tryd.lays169_ren : Go.Shelf.Ren := ⟨fun | 169 => 34 | n => n, fun | 70 => 48 | 9 => 9 | 0 => 0 | 72 => 51 | 37 => 49 | 127 => 72 | 3 => 3 | 5 => 5 | n => n, fun | n => n⟩
theorem Tryd.lays169 : Go.Proofs.Lays.n169 Tryd.prog Tryd.lays169_ren := {
  mixed := by kernel_rfl
  f169 := Tryd.func34.trans (congrArg some (by kernel_rfl))
  t0 := Tryd.underlying0
  a0 := Tryd.isAgg0
  z0 := Tryd.sizeOf0
  v0 := Tryd.zeroValue0
  t3 := Tryd.underlying3
  a3 := Tryd.isAgg3
  z3 := Tryd.sizeOf3
  v3 := Tryd.zeroValue3
  t9 := Tryd.underlying9
  a9 := Tryd.isAgg9
  z9 := Tryd.sizeOf9
  v9 := Tryd.zeroValue9
  t37 := Tryd.underlying49
  a37 := Tryd.isAgg49
  z37 := Tryd.sizeOf49
  v37 := Tryd.zeroValue49
  t70 := Tryd.underlying48
  a70 := Tryd.isAgg48
  z70 := Tryd.sizeOf48
  v70 := Tryd.zeroValue48
  t72 := Tryd.underlying51
  a72 := Tryd.isAgg51
  z72 := Tryd.sizeOf51
  v72 := Tryd.zeroValue51
  t127 := Tryd.underlying72
  a127 := Tryd.isAgg72
  z127 := Tryd.sizeOf72
  v127 := Tryd.zeroValue72 }
theorem Tryd.Builder_Extra_169 : Builder.Extra Tryd.prog Tryd.lays169_ren := {
  sizeBuilder := by kernel_rfl
  liesBuilder := by kernel_rfl
  t5 := Tryd.underlying5
  a5 := Tryd.isAgg5
  z5 := Tryd.sizeOf5
  v5 := Tryd.zeroValue5
  infoByte := by kernel_rfl
  cellsByte := by kernel_rfl
  sizeByte := by kernel_rfl
  neB5 := by decide }
open Go.RowKit in
/-- (*strings.Builder).String: "String returns the accumulated string.": WHATEVER THE BUILDER HOLDS; THE FORM '_k': OVER 'Lib.IsBuilderF' (a builder that 'String()' may have read), AND WITH THE FRAME THAT REACHES ABOVE THE BUILDER: 'Lib.OthersKept': every block that is not b and is no row of uint8's stands as it stood: the iterator of a range among them. (LAID: no walk: one application.) -/
theorem Tryd.Builder_String_any_k (B b : Nat) (l : List UInt8) (w : World) (h : Lib.IsBuilderF 51 5 B b (Lib.byteCells l) w) (hBw : B ≤ w.heap.size) :
    Calls Tryd.prog 34 #[.pointer (some ⟨b, 0, none⟩)] w fun e w' => e = .returned (.string ⟨l.toArray⟩) ∧ (Lib.IsBuilderF 51 5 B b (Lib.byteCells l) w' ∧ Below B w w' ∧ Lib.OthersKept 5 (some b) w w') := Any.Builder_String_any_k Tryd.lays169 Tryd.Builder_Extra_169 B b l w h hBw
def Tryd.laysM171_ren : Go.Shelf.Ren := ⟨fun | 171 => 56 | 243 => 62 | 246 => 64 | 283 => 65 | 284 => 66 | 285 => 67 | 286 => 68 | 129 => 70 | 317 => 69 | 318 => 71 | 319 => 72 | 320 => 73 | 337 => 74 | 338 => 75 | n => n, fun | 3 => 3 | 9 => 9 | 2 => 2 | 4 => 4 | 171 => 85 | 0 => 0 | 53 => 86 | 37 => 49 | 5 => 5 | 173 => 89 | 212 => 92 | 51 => 93 | 20 => 20 | 213 => 94 | 46 => 78 | 232 => 97 | 233 => 98 | n => n, fun | 17 => 2 | 18 => 3 | 19 => 4 | n => n⟩
theorem Tryd.laysM171 : Go.Proofs.LaysM.n171 Tryd.prog Tryd.laysM171_ren := {
  mixed := by kernel_rfl
  f129 := Tryd.func70.trans (congrArg some (by kernel_rfl))
  f171 := Tryd.func56.trans (congrArg some (by kernel_rfl))
  f243 := Tryd.func62.trans (congrArg some (by kernel_rfl))
  f246 := Tryd.func64.trans (congrArg some (by kernel_rfl))
  f283 := Tryd.func65.trans (congrArg some (by kernel_rfl))
  f284 := Tryd.func66.trans (congrArg some (by kernel_rfl))
  f285 := Tryd.func67.trans (congrArg some (by kernel_rfl))
  f286 := Tryd.func68.trans (congrArg some (by kernel_rfl))
  f317 := Tryd.func69.trans (congrArg some (by kernel_rfl))
  f318 := Tryd.func71.trans (congrArg some (by kernel_rfl))
  f319 := Tryd.func72.trans (congrArg some (by kernel_rfl))
  f320 := Tryd.func73.trans (congrArg some (by kernel_rfl))
  f337 := Tryd.func74.trans (congrArg some (by kernel_rfl))
  f338 := Tryd.func75.trans (congrArg some (by kernel_rfl))
  t0 := Tryd.underlying0
  a0 := Tryd.isAgg0
  z0 := Tryd.sizeOf0
  v0 := Tryd.zeroValue0
  t2 := Tryd.underlying2
  a2 := Tryd.isAgg2
  z2 := Tryd.sizeOf2
  v2 := Tryd.zeroValue2
  t3 := Tryd.underlying3
  a3 := Tryd.isAgg3
  z3 := Tryd.sizeOf3
  v3 := Tryd.zeroValue3
  t4 := Tryd.underlying4
  a4 := Tryd.isAgg4
  z4 := Tryd.sizeOf4
  v4 := Tryd.zeroValue4
  t5 := Tryd.underlying5
  a5 := Tryd.isAgg5
  z5 := Tryd.sizeOf5
  v5 := Tryd.zeroValue5
  t9 := Tryd.underlying9
  a9 := Tryd.isAgg9
  z9 := Tryd.sizeOf9
  v9 := Tryd.zeroValue9
  t20 := Tryd.underlying20
  a20 := Tryd.isAgg20
  z20 := Tryd.sizeOf20
  v20 := Tryd.zeroValue20
  t37 := Tryd.underlying49
  a37 := Tryd.isAgg49
  z37 := Tryd.sizeOf49
  v37 := Tryd.zeroValue49
  t46 := Tryd.underlying78
  a46 := Tryd.isAgg78
  z46 := Tryd.sizeOf78
  v46 := Tryd.zeroValue78
  t51 := Tryd.underlying93
  a51 := Tryd.isAgg93
  z51 := Tryd.sizeOf93
  v51 := Tryd.zeroValue93
  t53 := Tryd.underlying86
  a53 := Tryd.isAgg86
  z53 := Tryd.sizeOf86
  v53 := Tryd.zeroValue86
  t171 := Tryd.underlying85
  a171 := Tryd.isAgg85
  z171 := Tryd.sizeOf85
  v171 := Tryd.zeroValue85
  t173 := Tryd.underlying89
  a173 := Tryd.isAgg89
  z173 := Tryd.sizeOf89
  v173 := Tryd.zeroValue89
  t212 := Tryd.underlying92
  a212 := Tryd.isAgg92
  z212 := Tryd.sizeOf92
  v212 := Tryd.zeroValue92
  t213 := Tryd.underlying94
  a213 := Tryd.isAgg94
  z213 := Tryd.sizeOf94
  t232 := Tryd.underlying97
  a232 := Tryd.isAgg97
  z232 := Tryd.sizeOf97
  v232 := Tryd.zeroValue97
  t233 := Tryd.underlying98
  a233 := Tryd.isAgg98
  z233 := Tryd.sizeOf98
  v233 := Tryd.zeroValue98
  g17 := by kernel_rfl
  g18 := by kernel_rfl
  g19 := by kernel_rfl
  i0 := by kernel_rfl
  i2 := by kernel_rfl
  i3 := by kernel_rfl
  i4 := by kernel_rfl
  i5 := by kernel_rfl
  i9 := by kernel_rfl
  i20 := by kernel_rfl
  i37 := by kernel_rfl
  i46 := by kernel_rfl
  i51 := by kernel_rfl
  i53 := by kernel_rfl
  i171 := by kernel_rfl
  i173 := by kernel_rfl
  i212 := by kernel_rfl
  i232 := by kernel_rfl
  i233 := by kernel_rfl
  m17 := by kernel_rfl
  m18 := by kernel_rfl
  m19 := by kernel_rfl }
open Go.RowKit Go.Sort Go.Lib in
/-- strconv.Itoa: "Itoa is equivalent to FormatInt(int64(i), 10).": i's DECIMAL NUMERAL ('Lib.itoa': a '-' where i is negative, then the digits), FOR EVERY int. The world behind the call: the world before it, new blocks behind the heap (the library's 'var a [24]byte'), draws. (LAID: no walk: one application.) -/
theorem Tryd.strconv_Itoa (n : Int) (h0 : -9223372036854775808 ≤ n) (h1 : n ≤ 9223372036854775807) (w : World) (htab : Lib.TabIs Tryd.prog w "internal/strconv.uint64pow10" .u64 Lib.pow10Tab) :
    Calls Tryd.prog 56 #[.int .i64 n] w fun e w' => e = .returned (.string ⟨(Lib.itoa n).toArray⟩) ∧ ∃ k os, w' = grow (w.drewN k) os := Any.strconv_Itoa Tryd.laysM171 n h0 h1 w htab
end Go.Proofs.YtkaapfakalojaaaDoor
namespace Go.Proofs.YtkaapfakalojaaaDoor
open Go.ChangeShapes Go.WideShapes Go.ChangeAt Go.RowKit
set_option linter.unusedVariables false

theorem ret_int {k : IntKind} {a b : Int} (h : a = b) : Ending.returned (.int k a) = .returned (.int k b) := by rw [h]

/-- Bytes as cells. -/
def cellsOf (l : List Int) : List Value := l.map (Value.int .u8)
theorem cellsOf_length (l : List Int) : (cellsOf l).length = l.length := by simp [cellsOf]
theorem cellsOf_one (l : List Int) : ∀ u ∈ cellsOf l, u.oneCell' = true := ints_oneCell _ _
theorem cellsOf_append (l r : List Int) : cellsOf (l ++ r) = cellsOf l ++ cellsOf r := by simp [cellsOf]
theorem cellsOf_get {l : List Int} {i : Nat} (h : i < l.length) : (cellsOf l)[i]? = some (.int .u8 (l.getD i 0)) := by simp [cellsOf, h]

/-- The bytes of a slice that came in: nil, or from an address on. -/
def Lies (w : World) (A : Option Addr) (c : Nat) (l : List Int) : Prop :=
  (A = none ∧ c = 0 ∧ l = []) ∨ ∃ a, A = some a ∧ ∀ j u, (cellsOf l)[j]? = some u → w.cell? (a.add j) = some u

theorem Lies.nil (w : World) : Lies w none 0 [] := .inl ⟨rfl, rfl, rfl⟩
theorem Lies.below {w w' : World} {A : Option Addr} {c : Nat} {l : List Int} (h : Lies w A c l) (hb : Below w.heap.size w w') : Lies w' A c l := by
  rcases h with h | ⟨a, rfl, h⟩
  · exact .inl h
  · refine .inr ⟨a, rfl, fun j u hu => ?_⟩
    have h1 := h j u hu
    rw [hb.cell (block_lt_of_cell h1)]
    exact h1
theorem Lies.at_ {w : World} {A : Option Addr} {c : Nat} {l : List Int} (h : Lies w A c l) (hl : 0 < l.length) :
    ∃ b o, A = some ⟨b, o, none⟩ ∧ b < w.heap.size ∧ ∀ i, i < l.length → w.cell? ⟨b, o + i, none⟩ = some (.int .u8 (l.getD i 0)) := by
  rcases h with ⟨_, _, rfl⟩ | ⟨⟨b, o, spot⟩, rfl, h⟩
  · simp at hl
  · have h0 := h 0 _ (cellsOf_get hl)
    have hs : spot = none := by simpa [Addr.add] using World.cell?_spot h0
    subst hs
    refine ⟨b, o, rfl, block_lt_of_cell (a := ⟨b, o, none⟩) (by simpa [Addr.add] using h0), fun i hi => ?_⟩
    have h1 := h i _ (cellsOf_get hi)
    by_cases e : i = 0
    · subst e; simpa [Addr.add] using h1
    · simpa [Addr.add, e] using h1
theorem Lies.of_own {w : World} {base : Nat} {A : Option Addr} {c : Nat} {l : List Int} (h : w.ownsRow base 5 1 (.slice A l.length c) l.length (cellsOf l)) : Lies w A c l := by
  rcases h.2 with ⟨hv, h0⟩ | ⟨g, cap, cur, hv, _⟩
  · simp only [Value.slice.injEq] at hv
    obtain ⟨rfl, _, rfl⟩ := hv
    exact .inl ⟨rfl, rfl, List.eq_nil_of_length_eq_zero h0⟩
  · simp only [Value.slice.injEq] at hv
    obtain ⟨rfl, _, rfl⟩ := hv
    exact .inr ⟨_, rfl, h.cells (g := g) rfl⟩

/-- The string that bytes make. -/
def str (l : List Int) : ByteArray := l.foldl (fun r n => r.push (UInt8.ofNat n.toNat)) ByteArray.empty
theorem push_data (r : ByteArray) (x : UInt8) : (r.push x).data = r.data.push x := rfl
theorem foldl_data (l : List Int) : ∀ r : ByteArray, (l.foldl (fun r n => r.push (UInt8.ofNat n.toNat)) r).data.toList = r.data.toList ++ l.map fun n => UInt8.ofNat n.toNat := by
  induction l with
  | nil => intro r; simp
  | cons n l ih => intro r; rw [List.foldl_cons, ih, push_data]; simp
theorem str_data (l : List Int) : (str l).data.toList = l.map fun n => UInt8.ofNat n.toNat := by
  unfold str; rw [foldl_data]; simp
theorem str_append (l r : List Int) : str l ++ str r = str (l ++ r) := by
  apply ByteArray.ext
  apply Array.toList_inj.1
  rw [ByteArray.data_append, Array.toList_append, str_data, str_data, str_data, List.map_append]
theorem str_size (l : List Int) : (str l).size = l.length := by
  have h : (str l).data.toList.length = l.length := by rw [str_data, List.length_map]
  simpa using h

/-- Conversion to a string. -/
theorem run_str {w : World} {A : Option Addr} {c : Nat} {l : List Int} (h : Lies w A c l) : (convert 49 9 (.slice A l.length c)).run Tryd.prog w = .ok (.string (str l)) w := by
  rw [run_convert_bytes_string w 49 9 5 A l.length c Tryd.underlying49 Tryd.underlying5 Tryd.underlying9]
  rcases h with ⟨rfl, _, rfl⟩ | ⟨a, rfl, h⟩
  · simp [Conv.bytesToString]; rfl
  · have e := run_loadCells_list (P := Tryd.prog) w a (cellsOf l) h
    rw [cellsOf_length] at e
    exact run_bytesToString w a l.length c l e

theorem Tryd.info5 : (Tryd.prog.info? 5).map (fun i => (i.zero, i.size, i.bytes)) = some (some (.int .u8 0), 1, 1) := by kernel_rfl

theorem ret_slice {A : Option Addr} {n m c : Nat} (h : n = m) : Ending.returned (.slice A n c) = .returned (.slice A m c) := by rw [h]

/-- The call hands back a slice of its own that holds the bytes l; below block B nothing has turned. -/
def Own (B : Nat) (w : World) (l : List Int) (e : Ending) (w' : World) : Prop :=
  ∃ A c, e = .returned (.slice A l.length c) ∧ w'.ownsRow B 5 1 (.slice A l.length c) l.length (cellsOf l) ∧ Below B w w'

def IsB (l : List Int) : Prop := ∀ x ∈ l, 0 ≤ x ∧ x ≤ 255

theorem getD_at {l : List Int} {i : Nat} (h : i < l.length) : l.getD i 0 = l[i] := by simp [h]

theorem size5 (w : World) : (Go.sizeOf 5).run Tryd.prog w = .ok 1 w := by kernel_rfl

/-- A cut from lo to lo + n: its address is known where it holds something; an empty one is not looked at. -/
theorem run_cut (A : Option Addr) (len c lo n : Nat) (L H : Int) (hL : L = lo) (hH : H = lo + n) (hc : lo + n ≤ c) :
    ∃ A' C', (∀ W, (Instr.slice 49 (.slice A len c) (some (.int .i64 L)) (some (.int .i64 H)) none).run Tryd.prog W = .ok (.slice A' n C') W) ∧ (0 < n → ∀ b o, A = some ⟨b, o, none⟩ → A' = some ⟨b, o + lo, none⟩) ∧ n ≤ C' := by
  have ht' : Tryd.prog.underlying 49 = some (.slice (Tryd.prog.elem 49)) := by simp [Program.elem, Tryd.underlying49]
  have he : Tryd.prog.elem 49 = 5 := by simp [Program.elem, Tryd.underlying49]
  subst hL hH
  refine ⟨if c = lo then A else A.map (·.add (lo * 1)), c - lo, fun W => ?_, ?_, by omega⟩
  · rw [run_slice_lh W 49 _ _ _ ht' .i64 .i64 _ _ (by omega) (by omega) (by omega), he, size5]
    simp only [Result.andThen, sliced]
    rw [show ((lo : Int) + n).toNat - (lo : Int).toNat = n by omega, show c - (lo : Int).toNat = c - lo by omega, Int.toNat_natCast]
  · intro hn b o hA
    subst hA
    have hne2 : ¬ c = lo := by omega
    by_cases h0 : lo = 0
    · subst h0
      simp [Addr.add]
    · simp [Addr.add, hne2, h0]

theorem own : ownKnob Tryd.prog.godebug = none := by kernel_rfl
theorem laidOut : laidOutB Tryd.prog = true := by kernel_rfl

/-- An argument []byte: nil, or a row of cap cells that hold zs, the first len of them its elements. -/
def IsRow (w : World) (a : Option Addr) (len cap : Nat) (zs : List Int) : Prop :=
  (a = none ∧ len = 0 ∧ cap = 0 ∧ zs = []) ∨
  ∃ x, a = some x ∧ len ≤ cap ∧ cap ≤ maxLen ∧ zs.length = cap ∧ (∀ i, i < zs.length → w.cell? (x.add i) = some (.int .u8 (zs.getD i 0))) ∧ ∀ n ∈ zs, (Lit.int .u8 n).wf = true

/-- The same, as the contracts take it. -/
theorem bytes_of_row {w : World} {a : Option Addr} {len cap : Nat} {zs : List Int} (h : IsRow w a len cap zs) :
    ∃ l : List Int, l.length = len ∧ l.length ≤ cap ∧ l.length ≤ maxLen ∧ Lies w a cap l ∧ IsB l := by
  rcases h with ⟨rfl, rfl, rfl, rfl⟩ | ⟨x, rfl, hl, hm, hz, hc, hw⟩
  · exact ⟨[], rfl, by simp, by simp, Lies.nil w, by intro x hx; simp at hx⟩
  · refine ⟨zs.take len, by simp; omega, by simp; omega, by simp; omega, .inr ⟨x, rfl, fun j u hu => ?_⟩, fun z hz' => ?_⟩
    · have hj : j < (zs.take len).length := by
        rcases Nat.lt_or_ge j (zs.take len).length with h | h
        · exact h
        · rw [List.getElem?_eq_none (by rw [cellsOf_length]; exact h)] at hu; cases hu
      have hj2 : j < zs.length := by simp at hj; omega
      have e : (zs.take len).getD j 0 = zs.getD j 0 := by
        have : j < len := by simp at hj; omega
        simp [List.getD, this]
      rw [cellsOf_get hj, e] at hu
      rw [hc j hj2, hu]
    · have := bounds_u8 (hw z (List.mem_of_mem_take hz'))
      omega

/-- Conversion to a string of a slice of a callee own, then and later. -/
theorem conv_later {w1 : World} {B c : Nat} {A : Option Addr} {l : List Int} (h : w1.ownsRow B 5 1 (.slice A l.length c) l.length (cellsOf l)) :
    ∀ W : World, Below w1.heap.size w1 W → (convert 49 9 (.slice A l.length c)).run Tryd.prog W = .ok (.string (str l)) W := fun W hb => run_str ((Lies.of_own h).below hb)
/-- .. of a slice that came in. -/
theorem conv_first {w : World} {c : Nat} {A : Option Addr} {l : List Int} (h : Lies w A c l) :
    ∀ W : World, Below w.heap.size w W → (convert 49 9 (.slice A l.length c)).run Tryd.prog W = .ok (.string (str l)) W := fun W hb => run_str (h.below hb)
/-- Two steps, the second from the first one end. -/
theorem Below.on {w w1 w2 : World} (h : Below w.heap.size w w1) (k : Below w1.heap.size w1 w2) : Below w.heap.size w w2 := h.trans (k.mono h.size)

theorem made_cells (q : Nat) : (madeCells (Value.int .u8 0).cells (q * 1)).toList = cellsOf (List.replicate q 0) := by
  rw [Nat.mul_one]
  show (madeCells #[Value.int .u8 0] q).toList = _
  rw [toList_madeCells_one]
  simp [cellsOf]

/-- A string bytes. -/
def sl (s : ByteArray) : List Int := s.data.toList.map fun b => (b.toNat : Int)
theorem sl_length (s : ByteArray) : (sl s).length = s.size := by unfold sl; rw [List.length_map]; simp
theorem sl_cells (s : ByteArray) : Lib.strCells s = cellsOf (sl s) := by simp [Lib.strCells, cellsOf, sl]
theorem sl_bytes (s : ByteArray) : IsB (sl s) := by
  intro x hx
  simp only [sl, List.mem_map] at hx
  obtain ⟨b, _, rfl⟩ := hx
  have := b.toNat_lt
  omega
theorem str_sl (s : ByteArray) : str (sl s) = s := by
  apply ByteArray.ext
  apply Array.toList_inj.1
  rw [str_data, sl, List.map_map]
  conv => rhs; rw [← List.map_id s.data.toList]
  apply List.map_congr_left
  intro x _
  simp

/-- A cut from lo to lo + n of a slice that reads as l, and the string that it makes. -/
theorem cut_str {w : World} {A : Option Addr} {c : Nat} {l : List Int} (h : Lies w A c l) (lo n : Nat) (L H : Int) (hL : L = lo) (hH : H = lo + n) (hn : lo + n ≤ l.length) (hc : l.length ≤ c) :
    ∃ A' C', (∀ W, (Instr.slice 49 (.slice A l.length c) (some (.int .i64 L)) (some (.int .i64 H)) none).run Tryd.prog W = .ok (.slice A' n C') W) ∧
      ∀ W, Below w.heap.size w W → (convert 49 9 (.slice A' n C')).run Tryd.prog W = .ok (.string (str ((l.drop lo).take n))) W := by
  obtain ⟨A', C', h1, h2, h3⟩ := run_cut A l.length c lo n L H hL hH (by omega)
  refine ⟨A', C', h1, fun W hb => ?_⟩
  have e : ((l.drop lo).take n).length = n := by rw [List.length_take, List.length_drop]; omega
  rcases Nat.eq_zero_or_pos n with h0 | h0
  · subst h0
    rw [List.take_zero]
    rcases A' with _ | a
    · rw [run_convert_bytes_string W 49 9 5 none 0 C' Tryd.underlying49 Tryd.underlying5 Tryd.underlying9]
      simp [Conv.bytesToString]; rfl
    · exact run_str (l := []) (.inr ⟨a, rfl, fun j u hu => by simp [cellsOf] at hu⟩)
  · obtain ⟨b, o, rfl, hbl, hcell⟩ := h.at_ (by omega)
    rw [h2 h0 b o rfl]
    have hl : Lies W (some ⟨b, o + lo, none⟩) C' ((l.drop lo).take n) := by
      refine .inr ⟨_, rfl, fun j u hu => ?_⟩
      have hj : j < n := by
        rcases Nat.lt_or_ge j n with h | h
        · exact h
        · rw [List.getElem?_eq_none (by rw [cellsOf_length, e]; exact h)] at hu; cases hu
      rw [cellsOf_get (by rw [e]; exact hj)] at hu
      have e2 : ((l.drop lo).take n).getD j 0 = l.getD (lo + j) 0 := by simp [List.getD, hj]
      rw [e2] at hu
      have e3 : (⟨b, o + lo, none⟩ : Addr).add j = ⟨b, o + (lo + j), none⟩ := by
        unfold Addr.add
        split
        · rename_i hz; subst hz; rfl
        · simp [Nat.add_assoc]
      rw [e3, hb.cell hbl, hcell (lo + j) (by omega), hu]
    have hr := run_str hl
    rw [e] at hr
    exact hr

/-- Appending a string bytes to a slice of the call own. -/
theorem own_text {B : Nat} {w w1 w2 : World} {A : Option Addr} {c : Nat} {l : List Int} {s : ByteArray} {v : Value} (hb : Below B w w1) (hB : B ≤ w1.heap.size) (h1 : w1.ownsRow B 5 1 (.slice A l.length c) l.length (cellsOf l)) (hl : 0 < l.length)
    (h2 : w2.ownsRow B 5 1 v (l.length + s.size) (cellsOf l ++ Lib.strCells s)) (hg : w1.grownBy w2 (Value.slice A l.length c).ownBlock) : Own B w (l ++ sl s) (.returned v) w2 := by
  obtain ⟨g, cap, rfl, _, _⟩ := h2.form (by omega)
  rw [sl_cells, ← cellsOf_append] at h2
  have e : l.length + s.size = (l ++ sl s).length := by rw [List.length_append, sl_length]
  rw [e] at h2 ⊢
  exact ⟨_, cap, rfl, h2, hb.grown hg hB (fun k hk => (h1.lt k hk).1)⟩


theorem take_one {l : List Int} {k : Nat} (h : k < l.length) : l.take (k + 1) = l.take k ++ [l.getD k 0] := by
  rw [List.take_succ_eq_append_getElem h]
  simp [h]

theorem IsB.take {l : List Int} (h : IsB l) (k : Nat) : IsB (l.take k) := fun x hx => h x (List.mem_of_mem_take hx)
theorem IsB.getD {l : List Int} (h : IsB l) {k : Nat} (hk : k < l.length) : 0 ≤ l.getD k 0 ∧ l.getD k 0 ≤ 255 := h _ (by rw [getD_at hk]; exact List.getElem_mem _)

theorem lies_one (w : World) (x : Int) : Lies (w.alloc (.cells #[.int .u8 x] 5)) (some ⟨w.heap.size, 0, none⟩) 1 [x] :=
  Lies.of_own (base := 0) (World.ownsRow_lit (size := 1) w #[.int .u8 x] 1 (Nat.zero_le _) (by unfold maxLen; omega) rfl)

/-- Strings that bytes make are alike just where the bytes are. -/
theorem str_inj {a b : List Int} (ha : IsB a) (hb : IsB b) (h : str a = str b) : a = b := by
  have h1 : (str a).data.toList = (str b).data.toList := by rw [h]
  rw [str_data, str_data] at h1
  have key : ∀ (a b : List Int), IsB a → IsB b → (a.map fun n => UInt8.ofNat n.toNat) = (b.map fun n => UInt8.ofNat n.toNat) → a = b := by
    intro a
    induction a with
    | nil => intro b _ _ h; cases b with | nil => rfl | cons y b => simp at h
    | cons x a ih =>
      intro b ha hb h
      cases b with
      | nil => simp at h
      | cons y b =>
        simp only [List.map_cons, List.cons.injEq] at h
        obtain ⟨x0, x1⟩ := ha x (by simp)
        obtain ⟨y0, y1⟩ := hb y (by simp)
        have e1 : (UInt8.ofNat x.toNat).toNat = (UInt8.ofNat y.toNat).toNat := by rw [h.1]
        simp only [UInt8.toNat_ofNat'] at e1
        rw [ih b (fun z hz => ha z (by simp [hz])) (fun z hz => hb z (by simp [hz])) h.2]
        congr 1
        omega
  exact key a b ha hb h1
theorem str_eq_iff {a b : List Int} (ha : IsB a) (hb : IsB b) : ((str a).toList == (str b).toList) = decide (a = b) := by
  by_cases h : a = b
  · subst h; simp
  · have : str a ≠ str b := fun e => h (str_inj ha hb e)
    have h2 : (str a).toList ≠ (str b).toList := fun e => this (ByteArray.ext (by
      apply Array.toList_inj.1
      rw [ByteArray.toList_eq, ByteArray.toList_eq] at e
      exact e))
    simp [h, h2]

/-- A value that is a slice which reads as l. -/
def Holds (W : World) (l : List Int) (v : Value) : Prop := ∃ A c, v = .slice A l.length c ∧ Lies W A c l

theorem bne_of {α : Type} [BEq α] {x y : α} {b : Bool} (h : (x == y) = b) : (x != y) = !b := by rw [bne, h]
theorem IsB.append {a b : List Int} (ha : IsB a) (hb : IsB b) : IsB (a ++ b) := fun x hx => (List.mem_append.1 hx).elim (ha x) (hb x)

theorem cellsOf_set (l : List Int) (i : Nat) (x : Int) : (cellsOf l).set i (.int .u8 x) = cellsOf (l.set i x) := by simp [cellsOf]
end Go.Proofs.YtkaapfakalojaaaDoor
namespace Go.Proofs.YtkaapfakalojaaaDoor
open Go.ChangeShapes Go.WideShapes Go.ChangeAt Go.RowKit
set_option linter.unusedVariables false

/-- A slice of the call own with the bytes l, no block of it below B. -/
def OwnS (B : Nat) (w : World) (A : Option Addr) (c : Nat) (l : List Int) : Prop := w.ownsRow B 5 1 (.slice A l.length c) l.length (cellsOf l)

theorem OwnS.lies {B : Nat} {w : World} {A : Option Addr} {c : Nat} {l : List Int} (h : OwnS B w A c l) : Lies w A c l := Lies.of_own h
theorem OwnS.nil (B : Nat) (w : World) : OwnS B w none 0 [] := World.ownsRow_nil w B 5 1
theorem OwnS.mono {B B' : Nat} {w : World} {A : Option Addr} {c : Nat} {l : List Int} (h : OwnS B w A c l) (hb : B' ≤ B) : OwnS B' w A c l :=
  ⟨h.1, h.2.elim Or.inl (fun ⟨g, cap, cur, hv, hg, r⟩ => Or.inr ⟨g, cap, cur, hv, Nat.le_trans hb hg, r⟩)⟩
theorem OwnS.below {B : Nat} {w w' : World} {A : Option Addr} {c : Nat} {l : List Int} (h : OwnS B w A c l) (hb : Below w.heap.size w w') : OwnS B w' A c l := by
  refine ⟨h.1, ?_⟩
  rcases h.2 with h2 | ⟨g, cap, cur, hv, hg, hh, r⟩
  · exact .inl h2
  · refine .inr ⟨g, cap, cur, hv, hg, ?_, r⟩
    rw [hb.block g (lt_of_block hh)]
    exact hh
/-- Its capacity holds it. -/
theorem OwnS.cap {B : Nat} {w : World} {A : Option Addr} {c : Nat} {l : List Int} (h : OwnS B w A c l) : l.length ≤ c := by
  rcases h.2 with ⟨hv, h0⟩ | ⟨g, cap, cur, hv, hg, hh, hn, r⟩
  · omega
  · simp only [Value.slice.injEq] at hv
    omega

theorem run_append_bytes (ty : TypeId) (w : World) (base : Nat) (A : Option Addr) (c : Nat) (l : List Int) (hown : OwnS base w A c l) (B : Option Addr) (d : Nat) (r : List Int) (hr : Lies w B d r)
    (h63 : l.length + r.length ≤ 100000000000) (hbase : base ≤ w.heap.size) :
    ∃ A' c' w', (Builtin.append_ #[49, 49] ty #[.slice A l.length c, .slice B r.length d]).run Tryd.prog w = .ok (.slice A' (l ++ r).length c') w' ∧ OwnS base w' A' c' (l ++ r) ∧ w.grownBy w' (Value.slice A l.length c).ownBlock := by
  obtain ⟨i0, hi, hz0, hz1, hz2⟩ := info_parts Tryd.info5
  unfold OwnS at *
  rw [List.length_append, cellsOf_append]
  rcases hr with ⟨rfl, rfl, rfl⟩ | ⟨a, rfl, hr⟩
  · refine ⟨A, c, w, run_append_owned_none w base 49 ty 5 i0 1 Tryd.underlying49 hi _ _ _ hown, ?_, World.grownBy.refl _ _⟩
    simpa [cellsOf] using hown
  · obtain ⟨v', w', hrun, h2, h3, _, h5⟩ := run_append_own_at (P := Tryd.prog) w base 49 ty 5 i0 (.int .u8 0) 1 1 Tryd.underlying49 hi hz0 hz1 hz2 rfl (by decide) _ _ _ hown a r.length d (cellsOf r) (by rw [cellsOf_length]; omega) hr (cellsOf_one r) (by unfold maxLen; omega) (by omega) hbase
    rcases h2.2 with ⟨hv, h0⟩ | ⟨g, cap, cur, hv, _⟩
    · subst hv
      refine ⟨none, 0, w', ?_, ?_, h3⟩
      · rw [h0]; exact hrun
      · rw [h0] at h2 ⊢; exact h2
    · subst hv
      exact ⟨_, cap, w', hrun, h2, h3⟩

/-- At an operation of a region that does not draw: what is appended is nil, empty or not. -/
theorem wpList_append_bytes {w : World} {ops : Array Oper} {rest : List Oper} {o : Oper} {a : Act} {Q : Exit → Act → World → Prop} (hgd : o.guard = none) (s x : Operand)
    (ho : o.op = .call { callee := .builtin .append, args := #[s, x], argTypes := #[49, 49] })
    (base : Nat) (A : Option Addr) (c : Nat) (l : List Int) (hs : a.eval s = .slice A l.length c) (hown : OwnS base w A c l)
    (B : Option Addr) (d : Nat) (r : List Int) (hx : a.eval x = .slice B r.length d) (hr : Lies w B d r) (h63 : l.length + r.length ≤ 100000000000) (hbase : base ≤ w.heap.size)
    (h : ∀ A' c' w' L, Hid (L = l ++ r) → OwnS base w' A' c' L → w.grownBy w' (Value.slice A l.length c).ownBlock → wpList Tryd.prog ops Q rest (a.put o.dst (.slice A' L.length c')) w') : wpList Tryd.prog ops Q (o :: rest) a w := by
  obtain ⟨A', c', w', hrun, h2, h3⟩ := run_append_bytes o.type w base A c l hown B d r hr h63 hbase
  refine wpList_plain hgd fun K hK => ?_
  unfold Oper.wp execOp
  simp only [ho, resolve, invoke, builtin, Sem.run_bind, Sem.run_pure, Result.andThen_ok, List.map_toArray, List.map_cons, List.map_nil, hs, hx, hrun]
  exact hK _ _ (h A' c' w' _ (Lib.hid rfl) h2 h3)

/-- What an append leaves below. -/
theorem OwnS.grow {B : Nat} {w0 w w' : World} {A : Option Addr} {c : Nat} {l : List Int} (h : OwnS B w A c l) (hb : Below B w0 w) (hg : w.grownBy w' (Value.slice A l.length c).ownBlock) (hB : B ≤ w.heap.size) : Below B w0 w' :=
  hb.grown hg hB (fun k hk => (World.ownsRow.lt h k hk).1)

/-- A slice of the call own and a number. -/
def OwnE (B : Nat) (w : World) (r : List Int × Int) (e : Ending) (w' : World) : Prop :=
  ∃ A c, e = .returned (.tuple #[.slice A r.1.length c, .int .i64 r.2]) ∧ OwnS B w' A c r.1 ∧ Below B w w'
/-- A slice that reads so, and a number. -/
def LiesE (w : World) (r : List Int × Int) (e : Ending) (w' : World) : Prop :=
  ∃ A c, e = .returned (.tuple #[.slice A r.1.length c, .int .i64 r.2]) ∧ Lies w' A c r.1 ∧ Below w.heap.size w w'
end Go.Proofs.YtkaapfakalojaaaDoor
namespace Go.Proofs.YtkaapfakalojaaaDoor
open Go.ChangeShapes Go.WideShapes Go.ChangeAt Go.RowKit
set_option linter.unusedVariables false

theorem Lies.sliced {w W : World} {A : Option Addr} {c : Nat} {l : List Int} (h : Lies w A c l) (hc : l.length ≤ c) (hb : Below w.heap.size w W) (lo n : Nat) (hn : lo + n ≤ l.length) :
    Lies W (if c = lo then A else A.map (·.add (lo * 1))) (c - lo) ((l.drop lo).take n) := by
  rcases A with _ | a
  · rcases h with ⟨_, rfl, rfl⟩ | ⟨a, ha, _⟩
    · have : lo = 0 := by simpa using (show lo ≤ 0 by simp at hn; omega)
      subst this
      simpa using Lies.nil W
    · cases ha
  · rcases Nat.eq_zero_or_pos n with h0 | h0
    · subst h0
      rw [List.take_zero]
      split
      · exact .inr ⟨a, rfl, fun j u hu => by simp [cellsOf] at hu⟩
      · exact .inr ⟨_, rfl, fun j u hu => by simp [cellsOf] at hu⟩
    · obtain ⟨b, o, ha, hbl, hcell⟩ := h.at_ (by omega)
      injection ha with ha
      subst ha
      rw [if_neg (by omega)]
      have e1 : (some (⟨b, o, none⟩ : Addr)).map (·.add (lo * 1)) = some ⟨b, o + lo, none⟩ := by
        rw [Nat.mul_one, Option.map_some]
        unfold Addr.add
        split
        · rename_i hz; subst hz; rfl
        · rfl
      rw [e1]
      have e : ((l.drop lo).take n).length = n := by rw [List.length_take, List.length_drop]; omega
      refine .inr ⟨_, rfl, fun j u hu => ?_⟩
      have hj : j < n := by
        rcases Nat.lt_or_ge j n with h | h
        · exact h
        · rw [List.getElem?_eq_none (by rw [cellsOf_length, e]; exact h)] at hu; cases hu
      rw [cellsOf_get (by rw [e]; exact hj)] at hu
      have e2 : ((l.drop lo).take n).getD j 0 = l.getD (lo + j) 0 := by simp [List.getD, hj]
      rw [e2] at hu
      have e3 : (⟨b, o + lo, none⟩ : Addr).add j = ⟨b, o + (lo + j), none⟩ := by
        unfold Addr.add
        split
        · rename_i hz; subst hz; rfl
        · simp [Nat.add_assoc]
      rw [e3, hb.cell hbl, hcell (lo + j) (by omega), hu]

theorem elem22 : Tryd.prog.elem 49 = 5 := by simp [Program.elem, Tryd.underlying49]
theorem under22 : Tryd.prog.underlying 49 = some (.slice (Tryd.prog.elem 49)) := by simp [Program.elem, Tryd.underlying49]

/-- b[lo:hi]. -/
theorem cut_lh {w : World} {A : Option Addr} {c : Nat} {l : List Int} (h : Lies w A c l) (hc : l.length ≤ c) (lo n : Nat) (L H : Int) (hL : L = lo) (hH : H = lo + n) (hn : lo + n ≤ l.length) :
    ∃ A' C', (∀ W, (Instr.slice 49 (.slice A l.length c) (some (.int .i64 L)) (some (.int .i64 H)) none).run Tryd.prog W = .ok (.slice A' n C') W) ∧ (∀ W, Below w.heap.size w W → Lies W A' C' ((l.drop lo).take n)) ∧ n ≤ C' := by
  subst hL hH
  refine ⟨_, c - lo, fun W => ?_, fun W hb => h.sliced hc hb lo n hn, by omega⟩
  rw [run_slice_lh W 49 _ _ _ under22 .i64 .i64 _ _ (by omega) (by omega) (by omega), elem22, size5]
  simp only [Result.andThen, Go.sliced]
  rw [show ((lo : Int) + n).toNat - (lo : Int).toNat = n by omega, show c - (lo : Int).toNat = c - lo by omega, Int.toNat_natCast]
/-- b[lo:]. -/
theorem cut_l {w : World} {A : Option Addr} {c : Nat} {l : List Int} (h : Lies w A c l) (hc : l.length ≤ c) (lo : Nat) (L : Int) (hL : L = lo) (hn : lo ≤ l.length) :
    ∃ A' C', (∀ W, (Instr.slice 49 (.slice A l.length c) (some (.int .i64 L)) none none).run Tryd.prog W = .ok (.slice A' (l.drop lo).length C') W) ∧ (∀ W, Below w.heap.size w W → Lies W A' C' (l.drop lo)) ∧ (l.drop lo).length ≤ C' := by
  subst hL
  have e : (l.drop lo).take (l.length - lo) = l.drop lo := List.take_of_length_le (by simp)
  refine ⟨_, c - lo, fun W => ?_, fun W hb => by have := h.sliced hc hb lo (l.length - lo) (by omega); rwa [e] at this, by rw [List.length_drop]; omega⟩
  rw [run_slice_l W 49 _ _ _ under22 .i64 _ (by omega) (by omega), elem22, size5]
  simp only [Result.andThen, Go.sliced]
  rw [List.length_drop, Int.toNat_natCast]
/-- b[:hi]. -/
theorem cut_h {w : World} {A : Option Addr} {c : Nat} {l : List Int} (h : Lies w A c l) (hc : l.length ≤ c) (hi : Nat) (H : Int) (hH : H = hi) (hn : hi ≤ l.length) :
    ∃ A' C', (∀ W, (Instr.slice 49 (.slice A l.length c) none (some (.int .i64 H)) none).run Tryd.prog W = .ok (.slice A' (l.take hi).length C') W) ∧ (∀ W, Below w.heap.size w W → Lies W A' C' (l.take hi)) ∧ (l.take hi).length ≤ C' := by
  subst hH
  have e : (l.take hi).length = hi := by rw [List.length_take]; omega
  refine ⟨_, c - 0, fun W => ?_, fun W hb => by have := h.sliced hc hb 0 hi (by omega); rwa [List.drop_zero] at this, by rw [e]; omega⟩
  rw [run_slice_h W 49 _ _ _ under22 .i64 _ (by omega) (by omega), elem22, size5]
  simp only [Result.andThen, Go.sliced]
  rw [e, Int.toNat_natCast, Nat.sub_zero]
end Go.Proofs.YtkaapfakalojaaaDoor
namespace Go.Proofs.YtkaapfakalojaaaDoor
open Go.ChangeShapes Go.WideShapes Go.ChangeAt Go.RowKit
set_option linter.unusedVariables false

/-- A byte slice as an element: its address, its capacity, the bytes that it reads as. -/
abbrev Elt := Option Addr × Nat × List Int
def eltVal (r : Elt) : Value := .slice r.1 r.2.2.length r.2.1
def cellsL (rs : List Elt) : List Value := rs.map eltVal
/-- The bytes alone. -/
def listsOf (rs : List Elt) : List (List Int) := rs.map (·.2.2)
theorem cellsL_length (rs : List Elt) : (cellsL rs).length = rs.length := by simp [cellsL]
theorem cellsL_one (rs : List Elt) : ∀ u ∈ cellsL rs, u.oneCell' = true := by
  intro u hu
  obtain ⟨r, _, rfl⟩ := List.mem_map.1 hu
  rfl
theorem cellsL_append (a b : List Elt) : cellsL (a ++ b) = cellsL a ++ cellsL b := by simp [cellsL]
theorem cellsL_get {rs : List Elt} {i : Nat} (h : i < rs.length) : (cellsL rs)[i]? = some (eltVal rs[i]) := by simp [cellsL, h]
theorem listsOf_append (a b : List Elt) : listsOf (a ++ b) = listsOf a ++ listsOf b := by simp [listsOf]
theorem listsOf_length (rs : List Elt) : (listsOf rs).length = rs.length := by simp [listsOf]

/-- The elements of a slice of byte slices: where their values lie. -/
def CellsL (w : World) (A : Option Addr) (c : Nat) (rs : List Elt) : Prop :=
  (A = none ∧ c = 0 ∧ rs = []) ∨ ∃ a, A = some a ∧ ∀ j u, (cellsL rs)[j]? = some u → w.cell? (a.add j) = some u
/-- .. and that each reads as its bytes. -/
def EachL (w : World) (rs : List Elt) : Prop := ∀ r ∈ rs, Lies w r.1 r.2.1 r.2.2

theorem EachL.below {w w' : World} {rs : List Elt} (h : EachL w rs) (hb : Below w.heap.size w w') : EachL w' rs := fun r hr => (h r hr).below hb
theorem EachL.append {w : World} {a b : List Elt} (ha : EachL w a) (hb : EachL w b) : EachL w (a ++ b) := fun r hr => (List.mem_append.1 hr).elim (ha r) (hb r)
theorem EachL.nil (w : World) : EachL w [] := fun r hr => by simp at hr
theorem EachL.one {w : World} {A : Option Addr} {c : Nat} {l : List Int} (h : Lies w A c l) : EachL w [(A, c, l)] := fun r hr => by simp at hr; subst hr; exact h
theorem CellsL.nil (w : World) : CellsL w none 0 [] := .inl ⟨rfl, rfl, rfl⟩
theorem CellsL.below {w w' : World} {A : Option Addr} {c : Nat} {rs : List Elt} (h : CellsL w A c rs) (hb : Below w.heap.size w w') : CellsL w' A c rs := by
  rcases h with h | ⟨a, rfl, h⟩
  · exact .inl h
  · refine .inr ⟨a, rfl, fun j u hu => ?_⟩
    have h1 := h j u hu
    rw [hb.cell (block_lt_of_cell h1)]
    exact h1
theorem CellsL.at_ {w : World} {A : Option Addr} {c : Nat} {rs : List Elt} (h : CellsL w A c rs) (hl : 0 < rs.length) :
    ∃ b o, A = some ⟨b, o, none⟩ ∧ b < w.heap.size ∧ ∀ i (hi : i < rs.length), w.cell? ⟨b, o + i, none⟩ = some (eltVal rs[i]) := by
  rcases h with ⟨_, _, rfl⟩ | ⟨⟨b, o, spot⟩, rfl, h⟩
  · simp at hl
  · have h0 := h 0 _ (cellsL_get hl)
    have hs : spot = none := by simpa [Addr.add] using World.cell?_spot h0
    subst hs
    refine ⟨b, o, rfl, block_lt_of_cell (a := ⟨b, o, none⟩) (by simpa [Addr.add] using h0), fun i hi => ?_⟩
    have h1 := h i _ (cellsL_get hi)
    by_cases e : i = 0
    · subst e; simpa [Addr.add] using h1
    · simpa [Addr.add, e] using h1

theorem Tryd.info22 : (Tryd.prog.info? 49).map (fun i => (i.zero, i.size, i.bytes)) = some (some (.slice none 0 0), 1, 24) := by kernel_rfl
theorem size22 (w : World) : (Go.sizeOf 49).run Tryd.prog w = .ok 1 w := by kernel_rfl

/-- A slice of byte slices of the call own. -/
def OwnL (B : Nat) (w : World) (A : Option Addr) (c : Nat) (rs : List Elt) : Prop := w.ownsRow B 49 1 (.slice A rs.length c) rs.length (cellsL rs)
theorem OwnL.nil (B : Nat) (w : World) : OwnL B w none 0 [] := World.ownsRow_nil w B 49 1
theorem OwnL.cells {B : Nat} {w : World} {A : Option Addr} {c : Nat} {rs : List Elt} (h : OwnL B w A c rs) : CellsL w A c rs := by
  rcases h.2 with ⟨hv, h0⟩ | ⟨g, cap, cur, hv, _⟩
  · simp only [Value.slice.injEq] at hv
    obtain ⟨rfl, _, rfl⟩ := hv
    exact .inl ⟨rfl, rfl, List.eq_nil_of_length_eq_zero h0⟩
  · simp only [Value.slice.injEq] at hv
    obtain ⟨rfl, _, rfl⟩ := hv
    exact .inr ⟨_, rfl, World.ownsRow.cells h (g := g) rfl⟩
theorem OwnL.mono {B B' : Nat} {w : World} {A : Option Addr} {c : Nat} {rs : List Elt} (h : OwnL B w A c rs) (hb : B' ≤ B) : OwnL B' w A c rs :=
  ⟨h.1, h.2.elim Or.inl (fun ⟨g, cap, cur, hv, hg, r⟩ => Or.inr ⟨g, cap, cur, hv, Nat.le_trans hb hg, r⟩)⟩
theorem OwnL.below {B : Nat} {w w' : World} {A : Option Addr} {c : Nat} {rs : List Elt} (h : OwnL B w A c rs) (hb : Below w.heap.size w w') : OwnL B w' A c rs := by
  refine ⟨h.1, ?_⟩
  rcases h.2 with h2 | ⟨g, cap, cur, hv, hg, hh, r⟩
  · exact .inl h2
  · refine .inr ⟨g, cap, cur, hv, hg, ?_, r⟩
    rw [hb.block g (lt_of_block hh)]
    exact hh
theorem OwnL.alloc {B : Nat} {w : World} {A : Option Addr} {c : Nat} {rs : List Elt} (h : OwnL B w A c rs) (o : Obj) : OwnL B (w.alloc o) A c rs := World.ownsRow.alloc h o
theorem OwnL.grow {B : Nat} {w0 w w' : World} {A : Option Addr} {c : Nat} {rs : List Elt} (h : OwnL B w A c rs) (hb : Below B w0 w) (hg : w.grownBy w' (Value.slice A rs.length c).ownBlock) (hB : B ≤ w.heap.size) : Below B w0 w' :=
  hb.grown hg hB (fun k hk => (World.ownsRow.lt h k hk).1)
theorem OwnL.cap {B : Nat} {w : World} {A : Option Addr} {c : Nat} {rs : List Elt} (h : OwnL B w A c rs) : rs.length ≤ c := by
  rcases h.2 with ⟨hv, h0⟩ | ⟨g, cap, cur, hv, hg, hh, hn, r⟩
  · omega
  · simp only [Value.slice.injEq] at hv
    omega

theorem run_append_rows (T ty : TypeId) (hT : Tryd.prog.underlying T = some (.slice 49)) (w : World) (base : Nat) (A : Option Addr) (c : Nat) (rs : List Elt) (hown : OwnL base w A c rs) (B : Option Addr) (d : Nat) (ns : List Elt) (hr : CellsL w B d ns)
    (h63 : rs.length + ns.length ≤ 1000000000) (hbase : base ≤ w.heap.size) :
    ∃ A' c' w', (Builtin.append_ #[T, T] ty #[.slice A rs.length c, .slice B ns.length d]).run Tryd.prog w = .ok (.slice A' (rs ++ ns).length c') w' ∧ OwnL base w' A' c' (rs ++ ns) ∧ w.grownBy w' (Value.slice A rs.length c).ownBlock := by
  obtain ⟨i0, hi, hz0, hz1, hz2⟩ := info_parts Tryd.info22
  unfold OwnL at *
  rw [List.length_append, cellsL_append]
  rcases hr with ⟨rfl, rfl, rfl⟩ | ⟨a, rfl, hr⟩
  · refine ⟨A, c, w, run_append_owned_none w base T ty 49 i0 1 hT hi _ _ _ hown, ?_, World.grownBy.refl _ _⟩
    simpa [cellsL] using hown
  · obtain ⟨v', w', hrun, h2, h3, _, h5⟩ := run_append_own_at (P := Tryd.prog) w base T ty 49 i0 (.slice none 0 0) 1 24 hT hi hz0 hz1 hz2 rfl (by decide) _ _ _ hown a ns.length d (cellsL ns) (by rw [cellsL_length]; omega) hr (cellsL_one ns) (by unfold maxLen; omega) (by omega) hbase
    rcases h2.2 with ⟨hv, h0⟩ | ⟨g, cap, cur, hv, _⟩
    · subst hv
      refine ⟨none, 0, w', ?_, ?_, h3⟩
      · rw [h0]; exact hrun
      · rw [h0] at h2 ⊢; exact h2
    · subst hv
      exact ⟨_, cap, w', hrun, h2, h3⟩

/-- At an operation of a region that does not draw. -/
theorem wpList_append_rows {w : World} {ops : Array Oper} {rest : List Oper} {o : Oper} {a : Act} {Q : Exit → Act → World → Prop} (hgd : o.guard = none) (s x : Operand) (T : TypeId) (hT : Tryd.prog.underlying T = some (.slice 49))
    (ho : o.op = .call { callee := .builtin .append, args := #[s, x], argTypes := #[T, T] })
    (base : Nat) (A : Option Addr) (c : Nat) (rs : List Elt) (hs : a.eval s = .slice A rs.length c) (hown : OwnL base w A c rs)
    (B : Option Addr) (d : Nat) (ns : List Elt) (hx : a.eval x = .slice B ns.length d) (hr : CellsL w B d ns) (h63 : rs.length + ns.length ≤ 1000000000) (hbase : base ≤ w.heap.size)
    (h : ∀ A' c' w' R, Hid (R = rs ++ ns) → OwnL base w' A' c' R → w.grownBy w' (Value.slice A rs.length c).ownBlock → wpList Tryd.prog ops Q rest (a.put o.dst (.slice A' R.length c')) w') : wpList Tryd.prog ops Q (o :: rest) a w := by
  obtain ⟨A', c', w', hrun, h2, h3⟩ := run_append_rows T o.type hT w base A c rs hown B d ns hr h63 hbase
  refine wpList_plain hgd fun K hK => ?_
  unfold Oper.wp execOp
  simp only [ho, resolve, invoke, builtin, Sem.run_bind, Sem.run_pure, Result.andThen_ok, List.map_toArray, List.map_cons, List.map_nil, hs, hx, hrun]
  exact hK _ _ (h A' c' w' _ (Lib.hid rfl) h2 h3)

/-- The row that the literal of one element lays. -/
theorem cells_one_row (w : World) (r : Elt) : CellsL (w.alloc (.cells #[eltVal r] 49)) (some ⟨w.heap.size, 0, none⟩) 1 [r] := by
  refine .inr ⟨_, rfl, fun j u hu => ?_⟩
  cases j with
  | zero => simp [cellsL] at hu; subst hu; simp [Addr.add]
  | succ j => simp [cellsL] at hu

/-- l[:hi]. -/
theorem cut_rows_h (T : TypeId) (hT : Tryd.prog.underlying T = some (.slice 49)) {w : World} {A : Option Addr} {c : Nat} {rs : List Elt} (h : CellsL w A c rs) (hc : rs.length ≤ c) (hi : Nat) (H : Int) (hH : H = hi) (hn : hi ≤ rs.length) :
    ∃ A' C', (∀ W, (Instr.slice T (.slice A rs.length c) none (some (.int .i64 H)) none).run Tryd.prog W = .ok (.slice A' (rs.take hi).length C') W) ∧ (∀ W, Below w.heap.size w W → CellsL W A' C' (rs.take hi)) ∧ (rs.take hi).length ≤ C' := by
  subst hH
  have hel : Tryd.prog.elem T = 49 := by simp [Program.elem, hT]
  have hun : Tryd.prog.underlying T = some (.slice (Tryd.prog.elem T)) := by rw [hel]; exact hT
  have e : (rs.take hi).length = hi := by rw [List.length_take]; omega
  refine ⟨if c = 0 then A else A.map (·.add (0 * 1)), c - 0, fun W => ?_, fun W hb => ?_, by rw [e]; omega⟩
  · rw [run_slice_h W T _ _ _ hun .i64 _ (by omega) (by omega), hel, size22]
    simp only [Result.andThen, Go.sliced]
    rw [e, Int.toNat_natCast, Nat.sub_zero]
  · rcases A with _ | a
    · rcases h with ⟨_, rfl, rfl⟩ | ⟨a, ha, _⟩
      · simpa using CellsL.nil W
      · cases ha
    · have hcl := (h.below hb)
      have e2 : (if c = 0 then some a else (some a).map (·.add (0 * 1))) = some a := by split <;> simp [Addr.add]
      rw [e2]
      rcases hcl with ⟨ha, _⟩ | ⟨a', ha, hcl⟩
      · cases ha
      · injection ha with ha
        subst ha
        refine .inr ⟨_, rfl, fun j u hu => hcl j u ?_⟩
        have hj : j < (rs.take hi).length := by
          rcases Nat.lt_or_ge j (rs.take hi).length with h | h
          · exact h
          · rw [List.getElem?_eq_none (by rw [cellsL_length]; exact h)] at hu; cases hu
        rw [cellsL_get hj] at hu
        rw [cellsL_get (by rw [e] at hj; omega), ← hu]
        simp

/-- An argument [][]byte, as the contracts take it. -/
theorem rows_of_arg {H : Type} {encH : TypeId × Value → H} {W : World} {base : Nat} {held : Bool} (T : TypeId) (hT : Tryd.prog.underlying T = some (.slice 49)) {fuel : Nat} {a : Option Addr} {len cap : Nat} {x : DataW H × List MemPlace}
    (h : DataW.trod encH Tryd.prog W base (fun _ => true) held fuel T [.slice a len cap] = some x) :
    ∃ rs : List Elt, rs.length = len ∧ rs.length ≤ cap ∧ rs.length ≤ maxLen ∧ CellsL W a cap rs ∧ EachL W rs ∧ ∀ r ∈ rs, IsB r.2.2 ∧ r.2.2.length ≤ r.2.1 ∧ r.2.2.length ≤ maxLen := by
  rcases Deep.open_int_rows hT Tryd.underlying49 Tryd.underlying5 (by kernel_rfl) (by kernel_rfl) h with ⟨hcs, _⟩ | ⟨ad, l, c, A, L, C, Z, hcs, _, hl, hm, _, hrow⟩
  · simp only [List.cons.injEq, Value.slice.injEq, and_true] at hcs
    obtain ⟨rfl, rfl, rfl⟩ := hcs
    exact ⟨[], rfl, by simp, by simp, CellsL.nil W, EachL.nil W, by simp⟩
  · simp only [List.cons.injEq, Value.slice.injEq, and_true] at hcs
    obtain ⟨rfl, rfl, rfl⟩ := hcs
    have hlen : ∀ i, i < cap → ((Z i).take (L i)).length = L i := fun i hi => by
      obtain ⟨_, h1, _, h3, _⟩ := hrow i hi
      rw [List.length_take]; omega
    refine ⟨(List.range len).map fun i => (A i, C i, (Z i).take (L i)), by simp, by simp; omega, by simp; omega, .inr ⟨ad, rfl, fun j u hu => ?_⟩, fun r hr => ?_, fun r hr => ?_⟩
    · have hj : j < len := by
        rcases Nat.lt_or_ge j len with h | h
        · exact h
        · rw [List.getElem?_eq_none (by rw [cellsL_length]; simpa using h)] at hu; cases hu
      rw [cellsL_get (by simpa using hj)] at hu
      simp only [List.getElem_map, List.getElem_range, eltVal, Option.some.injEq] at hu
      rw [hlen j (by omega)] at hu
      rw [(hrow j (by omega)).1, hu]
    · obtain ⟨i, hi, rfl⟩ := List.mem_map.1 hr
      have hi' : i < len := by simpa using hi
      obtain ⟨_, h1, h2, h3, h4, h5, h6⟩ := hrow i (by omega)
      show Lies W (A i) (C i) ((Z i).take (L i))
      rcases hA : A i with _ | a'
      · have hc0 := h5 hA
        refine .inl ⟨rfl, hc0, ?_⟩
        have : (Z i).length = 0 := by omega
        rw [List.eq_nil_of_length_eq_zero this]
        simp
      · refine .inr ⟨a', rfl, fun j u hu => ?_⟩
        have hj : j < ((Z i).take (L i)).length := by
          rcases Nat.lt_or_ge j ((Z i).take (L i)).length with h | h
          · exact h
          · rw [List.getElem?_eq_none (by rw [cellsOf_length]; exact h)] at hu; cases hu
        have hj2 : j < L i := by rw [hlen i (by omega)] at hj; exact hj
        rw [cellsOf_get hj, show ((Z i).take (L i)).getD j 0 = (Z i).getD j 0 by simp [List.getD, hj2]] at hu
        rw [(h6 a' hA).2 j (by omega), hu]
    · obtain ⟨i, hi, rfl⟩ := List.mem_map.1 hr
      have hi' : i < len := by simpa using hi
      obtain ⟨_, h1, h2, h3, h4, h5, h6⟩ := hrow i (by omega)
      refine ⟨fun z hz => ?_, ?_, ?_⟩
      · have := bounds_u8 (h4 z (List.mem_of_mem_take hz))
        omega
      · show ((Z i).take (L i)).length ≤ C i
        rw [hlen i (by omega)]; exact h1
      · show ((Z i).take (L i)).length ≤ maxLen
        rw [hlen i (by omega)]; omega
end Go.Proofs.YtkaapfakalojaaaDoor
namespace Go.Proofs.YtkaapfakalojaaaDoor
open Go.ChangeShapes Go.WideShapes Go.ChangeAt Go.RowKit
set_option linter.unusedVariables false
variable {α : Type}

/-- An element type of the program: its zero value, its cells, its bytes; how an element is laid in cells. -/
structure El (e : TypeId) (sz bt : Nat) (z : Value) (en : α → List Value) : Prop where
  info : (Tryd.prog.info? e).map (fun i => (i.zero, i.size, i.bytes)) = some (some z, sz, bt)
  zero : z.cells.size = sz
  pos : 0 < sz
  len : ∀ x, (en x).length = sz
  one : ∀ x, ∀ u ∈ en x, u.oneCell' = true

def cellsG (en : α → List Value) (xs : List α) : List Value := xs.flatMap en
theorem cellsG_append (en : α → List Value) (a b : List α) : cellsG en (a ++ b) = cellsG en a ++ cellsG en b := by simp [cellsG]
theorem cellsG_nil (en : α → List Value) : cellsG en [] = [] := rfl
theorem cellsG_length {e : TypeId} {sz bt : Nat} {z : Value} {en : α → List Value} (E : El e sz bt z en) : ∀ xs : List α, (cellsG en xs).length = xs.length * sz
  | [] => by simp [cellsG]
  | x :: xs => by
    have ih := cellsG_length E xs
    simp only [cellsG] at ih
    simp only [cellsG, List.flatMap_cons, List.length_append, E.len x, ih, List.length_cons]
    rw [Nat.add_mul, Nat.one_mul, Nat.add_comm]
theorem cellsG_one {e : TypeId} {sz bt : Nat} {z : Value} {en : α → List Value} (E : El e sz bt z en) (xs : List α) : ∀ u ∈ cellsG en xs, u.oneCell' = true := fun u hu => by
  obtain ⟨x, _, h⟩ := List.mem_flatMap.1 hu
  exact E.one x u h
/-- The cells of element i. -/
theorem cellsG_get {e : TypeId} {sz bt : Nat} {z : Value} {en : α → List Value} (E : El e sz bt z en) : ∀ (xs : List α) (i j : Nat) (x : α), xs[i]? = some x → j < sz → (cellsG en xs)[i * sz + j]? = (en x)[j]?
  | [], i, j, x, h, _ => by simp at h
  | y :: xs, 0, j, x, h, hj => by
    simp at h
    subst h
    simp only [cellsG, List.flatMap_cons, Nat.zero_mul, Nat.zero_add]
    rw [List.getElem?_append_left (by rw [E.len]; exact hj)]
  | y :: xs, i + 1, j, x, h, hj => by
    simp only [List.getElem?_cons_succ] at h
    have ih := cellsG_get E xs i j x h hj
    simp only [cellsG] at ih
    simp only [cellsG, List.flatMap_cons]
    rw [List.getElem?_append_right (by rw [E.len, Nat.add_mul]; omega), E.len, show (i + 1) * sz + j - sz = i * sz + j by rw [Nat.add_mul]; omega, ih]

/-- A slice that holds these elements. -/
def CellsG (en : α → List Value) (w : World) (A : Option Addr) (c : Nat) (xs : List α) : Prop :=
  (A = none ∧ c = 0 ∧ xs = []) ∨ ∃ a, A = some a ∧ ∀ j u, (cellsG en xs)[j]? = some u → w.cell? (a.add j) = some u
theorem CellsG.nil (en : α → List Value) (w : World) : CellsG en w none 0 [] := .inl ⟨rfl, rfl, rfl⟩
theorem CellsG.below {en : α → List Value} {w w' : World} {A : Option Addr} {c : Nat} {xs : List α} (h : CellsG en w A c xs) (hb : Below w.heap.size w w') : CellsG en w' A c xs := by
  rcases h with h | ⟨a, ha, h⟩
  · exact .inl h
  · refine .inr ⟨a, ha, fun j u hu => ?_⟩
    have h1 := h j u hu
    exact (hb.cell (p := a.add j) (World.block_lt_of_cell? _ _ h1)).trans h1
theorem CellsG.at_ {e : TypeId} {sz bt : Nat} {z : Value} {en : α → List Value} (E : El e sz bt z en) {w : World} {A : Option Addr} {c : Nat} {xs : List α} (h : CellsG en w A c xs) (hl : 0 < xs.length) :
    ∃ b o, A = some ⟨b, o, none⟩ ∧ b < w.heap.size ∧ ∀ i j x, xs[i]? = some x → j < sz → w.cell? ⟨b, o + (i * sz + j), none⟩ = (en x)[j]? := by
  rcases h with ⟨_, _, rfl⟩ | ⟨a, rfl, h⟩
  · simp at hl
  · have hx0 : ∃ x, xs[0]? = some x := ⟨xs[0], by simp [hl]⟩
    obtain ⟨x0, hx0⟩ := hx0
    have h0 := cellsG_get E xs 0 0 x0 hx0 E.pos
    have hu0 : ∃ u, (en x0)[0]? = some u := ⟨(en x0)[0]'(by rw [E.len]; exact E.pos), by simp [E.len, E.pos]⟩
    obtain ⟨u0, hu0⟩ := hu0
    have hc0 := h 0 u0 (by rw [show (0 : Nat) = 0 * sz + 0 by simp, h0]; exact hu0)
    obtain ⟨b, o, hs⟩ : ∃ b o, a = ⟨b, o, none⟩ := by
      rw [show a.add 0 = a by unfold Addr.add; rw [if_pos rfl]] at hc0
      obtain ⟨b, o, sp⟩ := a
      cases sp with
      | none => exact ⟨b, o, rfl⟩
      | some q => exact absurd hc0 (by unfold World.cell?; split <;> simp)
    subst hs
    refine ⟨b, o, rfl, ?_, fun i j x hx hj => ?_⟩
    · have := World.block_lt_of_cell? _ _ hc0
      rw [show (⟨b, o, none⟩ : Addr).add 0 = ⟨b, o, none⟩ by unfold Addr.add; rw [if_pos rfl]] at this
      exact this
    · have hg := cellsG_get E xs i j x hx hj
      have hu : ∃ u, (en x)[j]? = some u := ⟨(en x)[j]'(by rw [E.len]; exact hj), by simp [E.len, hj]⟩
      obtain ⟨u, hu⟩ := hu
      have := h (i * sz + j) u (by rw [hg]; exact hu)
      rw [hu, ← this]
      unfold Addr.add
      split
      · rename_i hz; rw [hz]; rfl
      · rfl

/-- A slice of the call own that holds these elements. -/
def OwnG (e : TypeId) (sz : Nat) (en : α → List Value) (B : Nat) (w : World) (A : Option Addr) (c : Nat) (xs : List α) : Prop := w.ownsRow B e sz (.slice A xs.length c) xs.length (cellsG en xs)
variable {e : TypeId} {sz bt : Nat} {z : Value} {en : α → List Value}
theorem OwnG.nil (B : Nat) (w : World) : OwnG e sz en B w none 0 [] := World.ownsRow_nil w B e sz
theorem OwnG.cells {B : Nat} {w : World} {A : Option Addr} {c : Nat} {xs : List α} (h : OwnG e sz en B w A c xs) : CellsG en w A c xs := by
  rcases h.2 with ⟨hv, h0⟩ | ⟨g, cap, cur, hv, _⟩
  · simp only [Value.slice.injEq] at hv
    obtain ⟨rfl, _, rfl⟩ := hv
    exact .inl ⟨rfl, rfl, List.eq_nil_of_length_eq_zero h0⟩
  · simp only [Value.slice.injEq] at hv
    obtain ⟨rfl, _, rfl⟩ := hv
    exact .inr ⟨_, rfl, World.ownsRow.cells h (g := g) rfl⟩
theorem OwnG.mono {B B' : Nat} {w : World} {A : Option Addr} {c : Nat} {xs : List α} (h : OwnG e sz en B w A c xs) (hb : B' ≤ B) : OwnG e sz en B' w A c xs :=
  ⟨h.1, h.2.elim Or.inl (fun ⟨g, cap, cur, hv, hg, r⟩ => Or.inr ⟨g, cap, cur, hv, Nat.le_trans hb hg, r⟩)⟩
theorem OwnG.below {B : Nat} {w w' : World} {A : Option Addr} {c : Nat} {xs : List α} (h : OwnG e sz en B w A c xs) (hb : Below w.heap.size w w') : OwnG e sz en B w' A c xs := by
  refine ⟨h.1, ?_⟩
  rcases h.2 with h2 | ⟨g, cap, cur, hv, hg, hh, r⟩
  · exact .inl h2
  · refine .inr ⟨g, cap, cur, hv, hg, ?_, r⟩
    rw [hb.block g (lt_of_block hh)]
    exact hh
theorem OwnG.alloc {B : Nat} {w : World} {A : Option Addr} {c : Nat} {xs : List α} (h : OwnG e sz en B w A c xs) (o : Obj) : OwnG e sz en B (w.alloc o) A c xs := World.ownsRow.alloc h o
theorem OwnG.grow {B : Nat} {w0 w w' : World} {A : Option Addr} {c : Nat} {xs : List α} (h : OwnG e sz en B w A c xs) (hb : Below B w0 w) (hg : w.grownBy w' (Value.slice A xs.length c).ownBlock) (hB : B ≤ w.heap.size) : Below B w0 w' :=
  hb.grown hg hB (fun k hk => (World.ownsRow.lt h k hk).1)
theorem OwnG.cap {B : Nat} {w : World} {A : Option Addr} {c : Nat} {xs : List α} (h : OwnG e sz en B w A c xs) : xs.length ≤ c := by
  rcases h.2 with ⟨hv, h0⟩ | ⟨g, cap, cur, hv, hg, hh, hn, r⟩
  · omega
  · simp only [Value.slice.injEq] at hv
    omega
theorem OwnG.row {B : Nat} {W : World} {A : Option Addr} {c : Nat} {xs : List α} (h : OwnG e sz en B W A c xs) : ∀ g, (Value.slice A xs.length c).ownBlock = some g → B ≤ g ∧ ∃ cur q, W.heap[g]? = some (.cells cur e q) := fun g hg => by
  rcases h.2 with ⟨h1, _⟩ | ⟨g', cap, cur, h1, hb, hgg, _⟩
  · rw [h1] at hg; simp [Value.ownBlock] at hg
  · rw [h1] at hg
    simp [Value.ownBlock] at hg
    subst hg
    exact ⟨hb, cur, _, hgg⟩

theorem run_append_vals (E : El e sz bt z en) (T ty : TypeId) (hT : Tryd.prog.underlying T = some (.slice e)) (w : World) (base : Nat) (A : Option Addr) (c : Nat) (xs : List α) (hown : OwnG e sz en base w A c xs) (B : Option Addr) (d : Nat) (ns : List α) (hr : CellsG en w B d ns)
    (h63 : xs.length + ns.length ≤ 1000000000) (hbt : bt ≤ 1000) (hbase : base ≤ w.heap.size) :
    ∃ A' c' w', (Builtin.append_ #[T, T] ty #[.slice A xs.length c, .slice B ns.length d]).run Tryd.prog w = .ok (.slice A' (xs ++ ns).length c') w' ∧ OwnG e sz en base w' A' c' (xs ++ ns) ∧ w.grownBy w' (Value.slice A xs.length c).ownBlock := by
  obtain ⟨i0, hi, hz0, hz1, hz2⟩ := info_parts E.info
  have hmul : (xs.length + ns.length) * bt ≤ 1000000000 * 1000 := Nat.mul_le_mul h63 hbt
  unfold OwnG at *
  rw [List.length_append, cellsG_append]
  rcases hr with ⟨rfl, rfl, rfl⟩ | ⟨a, rfl, hr⟩
  · refine ⟨A, c, w, run_append_owned_none w base T ty e i0 sz hT hi _ _ _ hown, ?_, World.grownBy.refl _ _⟩
    simpa [cellsG] using hown
  · obtain ⟨v', w', hrun, h2, h3, _, h5⟩ := run_append_own_at (P := Tryd.prog) w base T ty e i0 z sz bt hT hi hz0 hz1 hz2 E.zero E.pos _ _ _ hown a ns.length d (cellsG en ns) (cellsG_length E ns) hr (cellsG_one E ns) (by unfold maxLen; omega) (by omega) hbase
    rcases h2.2 with ⟨hv, h0⟩ | ⟨g, cap, cur, hv, _⟩
    · subst hv
      refine ⟨none, 0, w', ?_, ?_, h3⟩
      · rw [h0]; exact hrun
      · rw [h0] at h2 ⊢; exact h2
    · subst hv
      exact ⟨_, cap, w', hrun, h2, h3⟩

theorem wpList_append_vals (E : El e sz bt z en) {w : World} {ops : Array Oper} {rest : List Oper} {o : Oper} {a : Act} {Q : Exit → Act → World → Prop} (hgd : o.guard = none) (s x : Operand) (T : TypeId) (hT : Tryd.prog.underlying T = some (.slice e))
    (ho : o.op = .call { callee := .builtin .append, args := #[s, x], argTypes := #[T, T] })
    (base : Nat) (A : Option Addr) (c : Nat) (xs : List α) (hs : a.eval s = .slice A xs.length c) (hown : OwnG e sz en base w A c xs)
    (B : Option Addr) (d : Nat) (ns : List α) (hx : a.eval x = .slice B ns.length d) (hr : CellsG en w B d ns) (h63 : xs.length + ns.length ≤ 1000000000) (hbt : bt ≤ 1000) (hbase : base ≤ w.heap.size)
    (h : ∀ A' c' w' R, Hid (R = xs ++ ns) → OwnG e sz en base w' A' c' R → w.grownBy w' (Value.slice A xs.length c).ownBlock → wpList Tryd.prog ops Q rest (a.put o.dst (.slice A' R.length c')) w') : wpList Tryd.prog ops Q (o :: rest) a w := by
  obtain ⟨A', c', w', hrun, h2, h3⟩ := run_append_vals E T o.type hT w base A c xs hown B d ns hr h63 hbt hbase
  refine wpList_plain hgd fun K hK => ?_
  unfold Oper.wp execOp
  simp only [ho, resolve, invoke, builtin, Sem.run_bind, Sem.run_pure, Result.andThen_ok, List.map_toArray, List.map_cons, List.map_nil, hs, hx, hrun]
  exact hK _ _ (h A' c' w' _ (Lib.hid rfl) h2 h3)

/-- The same inside a fence. -/
theorem wpListIn_append_vals (E : El e sz bt z en) {F : Fence} {n : Nat} {w : World} {ops : Array Oper} {rest : List Oper} {o : Oper} {a : Act} {Q : Exit → Act → World → Prop} (hgd : o.guard = none) (s x : Operand) (T : TypeId) (hT : Tryd.prog.underlying T = some (.slice e))
    (ho : o.op = .call { callee := .builtin .append, args := #[s, x], argTypes := #[T, T] })
    (base : Nat) (A : Option Addr) (c : Nat) (xs : List α) (hs : a.eval s = .slice A xs.length c) (hown : OwnG e sz en base w A c xs)
    (B : Option Addr) (d : Nat) (ns : List α) (hx : a.eval x = .slice B ns.length d) (hr : CellsG en w B d ns) (h63 : xs.length + ns.length ≤ 1000000000) (hbt : bt ≤ 1000) (hbase : base ≤ w.heap.size)
    (h : ∀ A' c' w' R, Hid (R = xs ++ ns) → OwnG e sz en base w' A' c' R → w.grownBy w' (Value.slice A xs.length c).ownBlock → wpListIn F n Tryd.prog ops Q rest (a.put o.dst (.slice A' R.length c')) w') : wpListIn F n Tryd.prog ops Q (o :: rest) a w := by
  obtain ⟨A', c', w', hrun, h2, h3⟩ := run_append_vals E T o.type hT w base A c xs hown B d ns hr h63 hbt hbase
  refine wpListIn_plain hgd fun K hK' => ?_
  unfold Oper.wpIn
  refine ⟨?_, ?_⟩
  · simp [Oper.about, ho, resolve, Target.leads, Sem.run_pure]
  · rw [Oper.semAt_plain F _ _ (by rw [ho]; intro c hc'; cases hc')]
    simp [execOp, ho, resolve, invoke, builtin, hs, hx, hrun, Result.andThen]
    have := h A' c' w' _ (Lib.hid rfl) h2 h3
    simp at this
    exact hK' _ _ this

/-- One element, laid by a literal. -/
theorem cells_one_val (E : El e sz bt z en) (w : World) (x : α) (cs : Array Value) (hcs : cs.toList = en x) : CellsG en (w.alloc (.cells cs e)) (some ⟨w.heap.size, 0, none⟩) 1 [x] := by
  refine .inr ⟨_, rfl, fun j u hu => ?_⟩
  simp only [cellsG, List.flatMap_cons, List.flatMap_nil, List.append_nil] at hu
  have hb := heap_alloc_new w (.cells cs e)
  have hc : cs[j]? = some u := by rw [← Array.getElem?_toList, hcs]; exact hu
  have e1 : (⟨w.heap.size, 0, none⟩ : Addr).add j = ⟨w.heap.size, j, none⟩ := by
    unfold Addr.add
    split
    · rename_i hz; rw [hz]
    · simp
  rw [e1]
  unfold World.cell?
  simp only [hb]
  simpa using hc
end Go.Proofs.YtkaapfakalojaaaDoor
namespace Go.Proofs.YtkaapfakalojaaaDoor
open Go.ChangeShapes Go.WideShapes Go.ChangeAt Go.RowKit
set_option linter.unusedVariables false

def Blk (W : World) (g : Nat) (cs : Array Value) (t : TypeId) : Prop := W.heap[g]? = some (.cells cs t (0, 0))
section
variable {W W' : World} {g : Nat} {cs : Array Value} {t e : TypeId}
theorem Blk.cell (h : Blk W g cs t) (k : Nat) : W.cell? ⟨g, k, none⟩ = cs[k]? := by simp [World.cell?, show W.heap[g]? = _ from h]
theorem Blk.free (h : Blk W g cs t) (k : Nat) : W.frozen? ⟨g, k, none⟩ = false := by simp [World.frozen?, show W.heap[g]? = _ from h]
theorem Blk.lt (h : Blk W g cs t) : g < W.heap.size := (Array.getElem?_eq_some_iff.1 h).1
theorem Blk.new (w : World) (cs : Array Value) (t : TypeId) : Blk (w.alloc (.cells cs t)) w.heap.size cs t := heap_alloc_new w _
theorem Blk.alloc (h : Blk W g cs t) (o : Obj) : Blk (W.alloc o) g cs t := (Below.heap_alloc W o g h.lt).trans h
theorem Blk.grown {row : Option Nat} (h : Blk W g cs t) (hg : W.grownBy W' row) (hr : row ≠ some g) : Blk W' g cs t := (hg.block g h.lt fun e => hr e.symm).trans h
theorem Blk.kept (h : Blk W g cs t) (hk : Lib.OthersKept e none W W') (hne : t ≠ e) : Blk W' g cs t := hk g _ h (by intro hc; cases hc) (fun c fz ho => by injection ho with _ h2; exact hne h2)
theorem Blk.below {n : Nat} (h : Blk W g cs t) (hb : Below n W W') (hg : g < n) : Blk W' g cs t := (hb.block g hg).trans h
theorem Blk.belowAll (h : Blk W g cs t) (hb : Below W.heap.size W W') : Blk W' g cs t := h.below hb h.lt
theorem Blk.other (h : Blk W g cs t) {a : Addr} (hne : g ≠ a.block) (v : Value) : Blk (W.setCell a v) g cs t := (Below.heap_setCell W a v g hne).trans h
theorem Blk.set (h : Blk W g cs t) (k : Nat) (v : Value) : Blk (W.setCell ⟨g, k, none⟩ v) g (cs.setIfInBounds k v) t := by
  unfold Blk at *
  have hl := (Array.getElem?_eq_some_iff.1 h).1
  have he := (Array.getElem?_eq_some_iff.1 h).2
  simp [World.setCell, hl, Array.getElem_modify, he]
theorem Blk.drew (h : Blk W g cs t) : Blk W.drew g cs t := h
end

theorem kept_alloc (e : TypeId) (W : World) (o : Obj) : Lib.OthersKept e none W (W.alloc o) := fun k x hk _ _ => (Below.heap_alloc W o k (Array.getElem?_eq_some_iff.1 hk).1).trans hk
theorem kept_grown {W W' : World} {row : Option Nat} {e : TypeId} (hg : W.grownBy W' row) (hr : ∀ g, row = some g → ∃ cur z, W.heap[g]? = some (.cells cur e z)) : Lib.OthersKept e none W W' := fun k x hk _ hx => by
  refine (hg.block k (Array.getElem?_eq_some_iff.1 hk).1 fun he => ?_).trans hk
  obtain ⟨cur, z, h2⟩ := hr k he.symm
  rw [hk] at h2
  exact hx cur z (Option.some.inj h2)
theorem kept_below {W W' : World} (e : TypeId) (hb : Below W.heap.size W W') : Lib.OthersKept e none W W' := fun k x hk _ _ => (hb.block k (Array.getElem?_eq_some_iff.1 hk).1).trans hk
theorem kept_set {W : World} {g : Nat} {cs : Array Value} {t : TypeId} (h : Blk W g cs t) (k : Nat) (v : Value) : Lib.OthersKept t none W (W.setCell ⟨g, k, none⟩ v) := fun i x hi _ hx => by
  refine (Below.heap_setCell W _ v i fun he => ?_).trans hi
  have he' : i = g := he
  subst he'
  rw [show W.heap[i]? = _ from h] at hi
  exact hx _ _ (Option.some.inj hi).symm

variable {α : Type} {e : TypeId} {sz bt : Nat} {z : Value} {en : α → List Value}
theorem OwnG.other {B : Nat} {w : World} {A : Option Addr} {c : Nat} {xs : List α} (h : OwnG e sz en B w A c xs) {g : Nat} {cs : Array Value} {t : TypeId} (hb : Blk w g cs t) (hne : t ≠ e) (k : Nat) (v : Value) : OwnG e sz en B (w.setCell ⟨g, k, none⟩ v) A c xs := by
  refine ⟨h.1, ?_⟩
  rcases h.2 with h2 | ⟨g', cap, cur, hv, hg, hh, r⟩
  · exact .inl h2
  · refine .inr ⟨g', cap, cur, hv, hg, ?_, r⟩
    rw [Below.heap_setCell w _ v g' (fun he => ?_)]
    · exact hh
    · have he' : g' = g := he
      subst he'
      rw [show w.heap[g']? = _ from hb] at hh
      injection hh with hh
      injection hh with _ h3
      exact hne h3
theorem OwnG.kept {B : Nat} {w w' : World} {A : Option Addr} {c : Nat} {xs : List α} (h : OwnG e sz en B w A c xs) {e' : TypeId} (hk : Lib.OthersKept e' none w w') (hne : e ≠ e') : OwnG e sz en B w' A c xs := by
  refine ⟨h.1, ?_⟩
  rcases h.2 with h2 | ⟨g', cap, cur, hv, hg, hh, r⟩
  · exact .inl h2
  · exact .inr ⟨g', cap, cur, hv, hg, hk g' _ hh (by intro hc; cases hc) (fun c fz ho => by injection ho with _ h2; exact hne h2), r⟩
theorem OwnS.kept {B : Nat} {w w' : World} {A : Option Addr} {c : Nat} {l : List Int} (h : OwnS B w A c l) {e' : TypeId} (hk : Lib.OthersKept e' none w w') (hne : 5 ≠ e') : OwnS B w' A c l := by
  refine ⟨h.1, ?_⟩
  rcases h.2 with h2 | ⟨g', cap, cur, hv, hg, hh, r⟩
  · exact .inl h2
  · exact .inr ⟨g', cap, cur, hv, hg, hk g' _ hh (by intro hc; cases hc) (fun c fz ho => by injection ho with _ h2; exact hne h2), r⟩
theorem OwnS.row {B : Nat} {W : World} {A : Option Addr} {c : Nat} {l : List Int} (h : OwnS B W A c l) : ∀ g, (Value.slice A l.length c).ownBlock = some g → ∃ cur q, W.heap[g]? = some (.cells cur 5 q) := fun g hg => by
  rcases h.2 with ⟨h1, _⟩ | ⟨g', cap, cur, h1, hb, hgg, _⟩
  · rw [h1] at hg; simp [Value.ownBlock] at hg
  · rw [h1] at hg
    simp [Value.ownBlock] at hg
    subst hg
    exact ⟨cur, _, hgg⟩
theorem OwnS.alloc {B : Nat} {w : World} {A : Option Addr} {c : Nat} {l : List Int} (h : OwnS B w A c l) (o : Obj) : OwnS B (w.alloc o) A c l := World.ownsRow.alloc h o
/-- A slice of the call own that was made with room. -/
theorem OwnG.room {B : Nat} {w : World} {g cap : Nat} {cs : Array Value} (h : Blk w g cs e) (hB : B ≤ g) (hc : cap ≤ maxLen) (hs : cs.size = cap * sz) : OwnG e sz en B w (some ⟨g, 0, none⟩) cap [] :=
  ⟨by simp [cellsG], .inr ⟨g, cap, cs, rfl, hB, h, Nat.zero_le _, hc, hs, by simp [cellsG]⟩⟩
/-- Where the elements of a slice of the call own lie. -/
theorem OwnG.at0 (E : El e sz bt z en) {B : Nat} {w : World} {A : Option Addr} {c : Nat} {xs : List α} (h : OwnG e sz en B w A c xs) (hl : 0 < xs.length) :
    ∃ g, A = some ⟨g, 0, none⟩ ∧ B ≤ g ∧ g < w.heap.size ∧ ∀ i j x, xs[i]? = some x → j < sz → w.cell? ⟨g, i * sz + j, none⟩ = (en x)[j]? := by
  rcases h.2 with ⟨_, h0⟩ | ⟨g, cap, cur, hv, hb, hg, _⟩
  · omega
  · have hA : A = some ⟨g, 0, none⟩ := by injection hv
    subst hA
    obtain ⟨b, o, hbo, hlt, hc⟩ := CellsG.at_ E h.cells hl
    obtain ⟨rfl, rfl⟩ : g = b ∧ 0 = o := by simpa using hbo
    exact ⟨g, rfl, hb, hlt, fun i j x hx hj => by have := hc i j x hx hj; rwa [Nat.zero_add] at this⟩
end Go.Proofs.YtkaapfakalojaaaDoor
namespace Go.Proofs.YtkaapfakalojaaaDoor
theorem Blk.newAt (w : World) (cs : Array Value) (t : TypeId) {g : Nat} (hg : g = w.heap.size) : Blk (w.alloc (.cells cs t)) g cs t := by subst hg; exact Blk.new w cs t
end Go.Proofs.YtkaapfakalojaaaDoor
namespace Go.Proofs.YtkaapfakalojaaaDoor
open Go.RowKit
set_option linter.unusedVariables false

/-- All cells lie as they lay, and so does all that lay below n. -/
structure Stays (n : Nat) (W W' : World) : Prop where
  below : Below n W W'
  cells : ∀ (k : Nat) (o : Obj), W.heap[k]? = some o → o.isCells = true → W'.heap[k]? = some o

theorem Stays.refl (n : Nat) (W : World) : Stays n W W := ⟨Below.refl _ _, fun _ _ h _ => h⟩
theorem Stays.trans {n : Nat} {A B C : World} (h : Stays n A B) (k : Stays n B C) : Stays n A C := ⟨h.below.trans k.below, fun i o hi ho => k.cells i o (h.cells i o hi ho) ho⟩
theorem Stays.of_below {n : Nat} {W W' : World} (h : Below W.heap.size W W') (hn : n ≤ W.heap.size) : Stays n W W' :=
  ⟨h.mono hn, fun k o hk _ => (h.block k (Array.getElem?_eq_some_iff.1 hk).1).trans hk⟩
theorem Stays.putObj {n : Nat} {W : World} {l : Nat} {o : Obj} (o' : Obj) (h : W.heap[l]? = some o) (ho : o.isCells = false) (hl : n ≤ l) : Stays n W (W.putObj l o') :=
  ⟨(Below.refl n W).grown (grownBy_putObj' W l o') (by have := (Array.getElem?_eq_some_iff.1 h).1; omega) (fun k e => by cases e; omega), fun k o2 hk hc => by
    by_cases e : k = l
    · subst e; rw [h] at hk; cases hk; rw [ho] at hc; cases hc
    · exact (World.putObj_heap_other e).trans hk⟩

variable {F : Fence} {n : Nat} {P : Program}

/-- All blocks that lie in A and are not C's stand in B as they stood, and are not C's there. -/
def KpC (C : World → Nat → Prop) (A B : World) : Prop := A.heap.size ≤ B.heap.size ∧ ∀ k, k < A.heap.size → ¬ C A k → B.heap[k]? = A.heap[k]? ∧ ¬ C B k
theorem KpC.refl (C : World → Nat → Prop) (A : World) : KpC C A A := ⟨Nat.le_refl _, fun k _ h => ⟨rfl, h⟩⟩
theorem KpC.trans {C : World → Nat → Prop} {A B D : World} (h : KpC C A B) (g : KpC C B D) : KpC C A D :=
  ⟨Nat.le_trans h.1 g.1, fun k hk hc => by
    obtain ⟨h1, h2⟩ := h.2 k hk hc
    obtain ⟨g1, g2⟩ := g.2 k (Nat.lt_of_lt_of_le hk h.1) h2
    exact ⟨g1.trans h1, g2⟩⟩
theorem KpC.of_below {C : World → Nat → Prop} {A B : World} (hb : Below A.heap.size A B) (hC : ∀ k, C B k → k < A.heap.size ∧ C A k) : KpC C A B :=
  ⟨hb.size, fun k hk hc => ⟨hb.block k hk, fun h => hc (hC k h).2⟩⟩

/-- What an iterator owes: for every loop body. J: between two rounds; Jx: a round has said no more; Kq: what the rounds keep; Fx: what is known of a value that is handed over; C: the blocks that the rounds may write. -/
def SeqK {α : Type} (F : Fence) (n : Nat) (P : Program) (g : Nat) (lb : Array Value) (encs : α → Array Value) (Kq : List α → World → Prop) (Fx : List α → α → World → Prop) (S Sp : List α → Prop) (w : World) : Prop :=
  ∀ (l : Nat) (C : World → Nat → Prop) (J Jx : List α → World → Prop) (W : World), Below w.heap.size w W →
    (∀ pre A B, Below A.heap.size A B → J pre A → J pre B) → (∀ pre A B, Below A.heap.size A B → Jx pre A → Jx pre B) → (∀ pre A, J pre A → Kq pre A) →
    (∀ pre A B k, J pre A → Below A.heap.size A B → C B k → k < A.heap.size ∧ C A k) →
    (∀ pre x W1, J pre W1 → Fx pre x W1 → YieldAt F (n - 1) P l (encs x) W1 fun e W' => (e = .returned (.bool true) ∧ J (pre ++ [x]) W' ∧ KpC C W1 W') ∨ (e = .returned (.bool false) ∧ Jx (pre ++ [x]) W')) →
    J [] W →
    CallsIn F n P g (#[.func (.yield l) #[] #[]] ++ lb) W fun e W' => (∃ v, e = .returned v) ∧ ((∃ xs, S xs ∧ J xs W') ∨ (∃ pre, Sp pre ∧ Jx pre W'))

/-- How the body of a round may be left. -/
def ownPostC {α : Type} (C : World → Nat → Prop) (I : List α → World → Prop) (Ix : Code → List α → World → Prop) (xs : List α) (W : World) : Exit → Act → World → Prop
  | .normal, _, W' => KeepsOthers W W' ∧ KpC C W W' ∧ I xs W'
  | .ret, _, W' => KeepsOthers W W' ∧ Ix .ret xs W'
  | .exit id, _, W' => KeepsOthers W W' ∧ Ix (.exit id) xs W'
  | .goto t, _, W' => KeepsOthers W W' ∧ Ix (.goto t) xs W'
  | .panic _, _, _ => False
  | .outgrown, _, _ => False

/-- Where the loop stands: the block of its deferred calls, and its record behind it. -/
structure Stands (d : Nat) (r : Loop) (W : World) : Prop where
  mark : W.heap[d]? = some (.deferred (some []))
  here : W.heap[d + 1]? = some (.loop r)

theorem Stands.lt {d : Nat} {r : Loop} {W : World} (h : Stands d r W) : d + 1 < W.heap.size := (Array.getElem?_eq_some_iff.1 h.here).1
theorem Stands.up {d : Nat} {r : Loop} {A B : World} (h : Stands d r A) (hb : Below A.heap.size A B) : Stands d r B :=
  ⟨(hb.block _ (Nat.lt_of_succ_lt h.lt)).trans h.mark, (hb.block _ h.lt).trans h.here⟩
theorem Stands.others {d : Nat} {r : Loop} {A B : World} (h : Stands d r A) (hk : KeepsOthers A B) : Stands d r B := ⟨hk.same _ _ h.mark rfl, hk.same _ _ h.here rfl⟩
theorem Stands.turn {d : Nat} {r : Loop} {W : World} (h : Stands d r W) (r' : Loop) : Stands d r' (W.putObj (d + 1) (.loop r')) :=
  ⟨(World.putObj_heap_other (Nat.ne_of_lt (Nat.lt_succ_self d))).trans h.mark, World.putObj_heap_same h.lt⟩
theorem Stands.stays {d m : Nat} {r : Loop} {W : World} (h : Stands d r W) (hm : m ≤ d) (r' : Loop) : Stays m W (W.putObj (d + 1) (.loop r')) := Stays.putObj _ h.here rfl (Nat.le_succ_of_le hm)
theorem Stands.new (w : World) (r : Loop) : Stands w.heap.size r ((w.alloc (.deferred (some []))).alloc (.loop r)) ∧ Below w.heap.size w ((w.alloc (.deferred (some []))).alloc (.loop r)) := by
  have h2 := World.alloc_heap_new (w.alloc (.deferred (some []))) (.loop r)
  rw [World.size_alloc] at h2
  exact ⟨⟨(Below.heap_alloc _ _ _ (by simp)).trans (World.alloc_heap_new w _), h2⟩, ((Below.refl _ w).alloc (Nat.le_refl _) _).alloc (by simp) _⟩

/-- The jump that a body's end leaves pending, if it is one that a round takes. -/
def leaves : Exit → Option (Option Code)
  | .normal => some none
  | .ret => some (some .ret)
  | .exit id => some (some (.exit id))
  | .goto t => some (some (.goto t))
  | _ => none

/-- The record behind a round. -/
def Loop.behind (r : Loop) (j : Option Code) : Loop := { r with state := if j.isNone then .ready else .done, pending := j }

/-- One round: the assignment, then the body, each walked once. -/
theorem one_round {d k : Nat} {r : Loop} {args : Array Value} {W : World} {R : Ending → World → Prop} {G : Act → World → Prop} (hr : r.state = .ready) (hF : F.fn r.fn) (hs : args.size = r.params.size) (hat : Stands d r W)
    (ha : r.assign.wpIn (F.inRound (d + 1)) k P (Exit.then G (fun _ _ _ => False)) { tmps := (r.params.zip args).foldl (fun t (p, v) => t.setIfInBounds p v) r.tmps, defers := [] } W)
    (hG : ∀ a A, G a A → Stands d r A ∧ r.body.wpIn (F.inRound (d + 1)) k P (fun e _ B => ∃ j, leaves e = some j ∧ Stands d { r with state := .busy } B ∧ R (.returned (.bool j.isNone)) (B.putObj (d + 1) (.loop (Loop.behind r j)))) a (A.putObj (d + 1) (.loop { r with state := .busy }))) :
    YieldAt F k P (d + 1) args W R := by
  refine ⟨_, _, _, _, run_yield hat.here hs, roundIn_of_wpIn hF (wpIn_mono ha ?_)⟩
  intro e a A h
  cases e with
  | normal =>
    obtain ⟨hst, hbody⟩ := hG a A h
    refine ⟨_, run_beginRound hst.here hr, wpIn_mono hbody ?_⟩
    rintro e _ B ⟨j, hj, hB, hR⟩
    have hend := run_endRound (P := P) j hB.here
    cases e with
    | normal => cases hj; exact ⟨_, _, hend, hR⟩
    | ret => cases hj; exact ⟨_, _, hend, hR⟩
    | exit id => cases hj; exact ⟨_, _, hend, hR⟩
    | goto t => cases hj; exact ⟨_, _, hend, hR⟩
    | panic c => cases hj
    | outgrown => cases hj
  | ret => exact h.elim
  | exit id => exact h.elim
  | goto t => exact h.elim
  | panic c => exact h.elim
  | outgrown => exact h.elim

/-- The statement: an invariant of the caller's cells, the assignment and the body walked once, what follows the loop. -/
theorem range_law {α : Type} {g : Operand} {ps : Array Tmp} {assign body : Code} {Q : Exit → Act → World → Prop} {a : Act} {w : World}
    (hro : F.round = none) (h1 : 1 ≤ n) {gf : Nat} {lb : Array Value} (hg : a.eval g = .func (.func gf) #[] lb) (hFg : F.fn gf) (eg : ∀ args w, (callFunc gf args).run P w = .ok (.enter gf args) w)
    {encs : α → Array Value} {Kq : List α → World → Prop} {Fx : List α → α → World → Prop} {S Sp : List α → Prop} (hseq : SeqK F (n - 1) P gf lb encs Kq Fx S Sp w) (hps : ∀ x, (encs x).size = ps.size)
    (m : Nat) (hm : m ≤ w.heap.size)
    (C : World → Nat → Prop) (I : List α → World → Prop) (Ix : Code → List α → World → Prop) (Ax : List α → α → Act → World → Prop)
    (hI : ∀ pre A B, Stays m A B → I pre A → I pre B) (hIx : ∀ c pre A B, Stays m A B → Ix c pre A → Ix c pre B) (hAx : ∀ pre x a' A B, Stays m A B → Ax pre x a' A → Ax pre x a' B) (hIK : ∀ pre A, I pre A → Kq pre A) (hCS : ∀ pre A B k, I pre A → Stays m A B → C B k → k < A.heap.size ∧ C A k) (h0 : I [] w)
    (hassign : ∀ (l : Nat) (pre : List α) (x : α) (W : World) (K : Act → World → Prop), I pre W → Fx pre x W → (∀ a' W', KeepsOthers W W' → KpC C W W' → I pre W' → Ax pre x a' W' → K a' W') →
      assign.wpIn (F.inRound l) (n - 1 - 1) P (Exit.then K (fun _ _ _ => False)) { tmps := (ps.zip (encs x)).foldl (fun t (p, v) => t.setIfInBounds p v) a.tmps, defers := [] } W)
    (hbody : ∀ (l : Nat) (pre : List α) (x : α) (a' : Act) (W : World), I pre W → Ax pre x a' W → body.wpIn (F.inRound l) (n - 1 - 1) P (ownPostC C I Ix (pre ++ [x]) W) a' W)
    (hdone : ∀ (D : Nat) (xs : List α) (W : World), w.heap.size ≤ D → S xs → I xs W → W.heap[D]? = some (.deferred (some [])) → Q .normal { a with defers := { target := .collected D, args := #[] } :: a.defers } W)
    (hstop : ∀ (D : Nat) (c : Code) (pre : List α) (W : World), w.heap.size ≤ D → Sp pre → Ix c pre W → W.heap[D]? = some (.deferred (some [])) → c.wpIn F n P Q { a with defers := { target := .collected D, args := #[] } :: a.defers } W) :
    (Code.rangeFunc g ps assign body).wpIn F n P Q a w := by
  refine wpIn_rangeFunc fun fn hfn => ?_
  obtain ⟨r, hr⟩ : ∃ r : Loop, r = { state := .ready, pending := none, fn := fn, tmps := a.tmps, params := ps, assign := assign, body := body, defers := w.heap.size } := ⟨_, rfl⟩
  obtain ⟨hat, hb⟩ := Stands.new w r
  obtain ⟨W0, hW0⟩ : ∃ W0, W0 = (w.alloc (.deferred (some []))).alloc (.loop r) := ⟨_, rfl⟩
  rw [← hW0] at hat hb
  refine ⟨w.heap.size + 1, [{ target := .collected w.heap.size, args := #[] }], W0, { target := .fn (.func gf) lb, args := #[.func (.yield (w.heap.size + 1)) #[] #[]] }, W0, gf, #[.func (.yield (w.heap.size + 1)) #[] #[]] ++ lb, W0,
    (by rw [hro, hW0, hr]; exact run_enterLoop_outer _ _ _ _ _), (by simp only [resolve, hg]; simp [go_sem]), (fun f' h => by simp [Target.leads] at h; subst h; exact hFg), (by simp [invoke, go_sem, eg]), fun _ => h1, ?_⟩
  obtain ⟨e0, e1, e2, e3, e4, e5, e6⟩ : r.state = .ready ∧ r.fn = fn ∧ r.params = ps ∧ r.tmps = a.tmps ∧ r.assign = assign ∧ r.body = body ∧ r.pending = none := by rw [hr]; exact ⟨rfl, rfl, rfl, rfl, rfl, rfl, rfl⟩
  have hup : ∀ {r' : Loop} {A B : World}, Stands w.heap.size r' A → Below A.heap.size A B → Stays m A B := fun h hb => Stays.of_below hb (by have := h.lt; omega)
  have hput : ∀ (pre : List α) (A : World) (r1 r2 : Loop), I pre A → Stands w.heap.size r1 A → KpC (fun W k => C W k ∨ k = w.heap.size + 1) A (A.putObj (w.heap.size + 1) (.loop r2)) := fun pre A r1 r2 hi hs =>
    ⟨by simp [World.putObj], fun k hk hc => ⟨World.putObj_heap_other (fun e => hc (.inr e)), fun h => h.elim (fun h => hc (.inl (hCS pre A _ k hi (hs.stays hm r2) h).2)) (fun h => hc (.inr h))⟩⟩
  have hup2 : ∀ {A B : World}, KpC C A B → KpC (fun W k => C W k ∨ k = w.heap.size + 1) A B := fun h => ⟨h.1, fun k hk hc => ⟨(h.2 k hk fun e => hc (.inl e)).1, fun e => e.elim (h.2 k hk fun e => hc (.inl e)).2 fun e => hc (.inr e)⟩⟩
  refine (hseq (w.heap.size + 1) (fun W k => C W k ∨ k = w.heap.size + 1) (fun pre W => I pre W ∧ Stands w.heap.size r W) (fun pre W => ∃ c, Ix c pre W ∧ Stands w.heap.size (Loop.behind r (some c)) W) _ hb
    (fun pre A B hb h => ⟨hI _ _ _ (hup h.2 hb) h.1, h.2.up hb⟩) (fun pre A B hb h => h.elim fun c h => ⟨c, hIx _ _ _ _ (hup h.2 hb) h.1, h.2.up hb⟩) (fun pre A h => hIK _ _ h.1)
    (fun pre A B k h hb hc => hc.elim (fun hc => (hCS pre A B k h.1 (hup h.2 hb) hc).imp id .inl) (fun e => by subst e; exact ⟨h.2.lt, .inr rfl⟩)) ?_
    ⟨hI _ _ _ (Stays.of_below hb hm) h0, hat⟩).mono ?_
  · rintro pre x W ⟨hi, hst⟩ hfx
    have hass := hassign (w.heap.size + 1) pre x W (fun a' A => I pre A ∧ Ax pre x a' A ∧ Stands w.heap.size r A ∧ KpC C W A) hi hfx (fun a' A hk hkc hiA hax => ⟨hiA, hax, hst.others hk, hkc⟩)
    refine one_round (r := r) (G := fun a' A => I pre A ∧ Ax pre x a' A ∧ Stands w.heap.size r A ∧ KpC C W A) e0 (by rw [e1]; exact hfn) (by rw [e2]; exact hps x) hst (by rw [e2, e3, e4]; exact hass) ?_
    rintro a' A ⟨hiA, hax, hstA, hkA⟩
    refine ⟨hstA, ?_⟩
    have hs1 := hstA.stays hm { r with state := .busy }
    have hbd := hbody (w.heap.size + 1) pre x a' _ (hI _ _ _ hs1 hiA) (hAx _ _ _ _ _ hs1 hax)
    rw [← e5] at hbd
    refine wpIn_mono hbd ?_
    have hgo : ∀ (B : World), KeepsOthers (A.putObj (w.heap.size + 1) (.loop { r with state := .busy })) B → Stands w.heap.size { r with state := .busy } B := fun B hk => (hstA.turn _).others hk
    have hno : Loop.behind r none = r := by rw [hr]; rfl
    rintro e a3 B hp
    cases e with
    | normal =>
      refine ⟨none, rfl, hgo B hp.1, .inl ⟨rfl, ?_⟩⟩
      have hB := hgo B hp.1
      have ht := hB.turn (Loop.behind r none)
      have hk2 := hput _ B _ (Loop.behind r none) hp.2.2 hB
      have hk1 := ((hup2 hkA).trans (hput _ A _ { r with state := .busy } hiA hstA)).trans (hup2 hp.2.1)
      rw [hno] at ht hk2 ⊢
      exact ⟨⟨hI _ _ _ (hB.stays hm _) hp.2.2, ht⟩, hk1.trans hk2⟩
    | ret => exact ⟨some .ret, rfl, hgo B hp.1, .inr ⟨rfl, .ret, hIx _ _ _ _ ((hgo B hp.1).stays hm _) hp.2, (hgo B hp.1).turn _⟩⟩
    | exit id => exact ⟨some (.exit id), rfl, hgo B hp.1, .inr ⟨rfl, .exit id, hIx _ _ _ _ ((hgo B hp.1).stays hm _) hp.2, (hgo B hp.1).turn _⟩⟩
    | goto t => exact ⟨some (.goto t), rfl, hgo B hp.1, .inr ⟨rfl, .goto t, hIx _ _ _ _ ((hgo B hp.1).stays hm _) hp.2, (hgo B hp.1).turn _⟩⟩
    | panic c => exact hp.elim
    | outgrown => exact hp.elim
  · rintro e W2 ⟨⟨v, rfl⟩, (⟨xs, hS, hi, hst⟩ | ⟨pre, hSp, c, hi, hst⟩)⟩
    · have he := run_endLoop (P := P) hst.here (by rw [e0]; simp)
      rw [e6] at he
      exact ⟨none, _, he, hdone _ xs _ (Nat.le_refl _) hS (hI _ _ _ (hst.stays hm _) hi) (hst.turn _).mark⟩
    · have he := run_endLoop (P := P) hst.here (by simp [Loop.behind])
      exact ⟨some c, _, he, hstop _ c pre _ (Nat.le_refl _) hSp (hIx _ _ _ _ (hst.stays hm _) hi) (hst.turn _).mark⟩

end Go.Proofs.YtkaapfakalojaaaDoor
