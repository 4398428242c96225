/-
  What every layer shares: byte slices in memory as lists of bytes, slices of the call own, strings that bytes make, cuts, and the arguments of a law. No function of the program in sight. Conditions: each theorem names its own.
-/
import Derived.Test.YtdgdkkapikopnaaDoorRows
import Derived.WalkKit
import Derived.ProofKit
import Derived.OpenShut
import Derived.ShutString
import Derived.ChangeOld
import Derived.Below
import Derived.Lib.Hide
import Derived.Lib.AppendStr
import Derived.Deep.AppendLies
import Derived.Laws.AppendOwnNone
import Derived.Laws.BytesString
import Derived.Laws.OwnMore
import Derived.Deep.Draws
import Derived.WalkLawsBesides
import Derived.WalkSpells
import Derived.Deep.RegionHeld3
import Derived.StillTailTactics
import Derived.Deep.QuietTactic
import Derived.BigQuiet
namespace Go.Proofs.YtdgdkkapikopnaaDoor
open Go.ChangeShapes Go.WideShapes Go.ChangeAt Go.RowKit
set_option linter.unusedVariables false

theorem ret_int {k : IntKind} {a b : Int} (h : a = b) : Ending.returned (.int k a) = .returned (.int k b) := by rw [h]

/-- Bytes as cells. -/
def cellsOf (l : List Int) : List Value := l.map (Value.int .u8)
theorem cellsOf_length (l : List Int) : (cellsOf l).length = l.length := by simp [cellsOf]
theorem cellsOf_one (l : List Int) : ∀ u ∈ cellsOf l, u.oneCell' = true := ints_oneCell _ _
theorem cellsOf_append (l r : List Int) : cellsOf (l ++ r) = cellsOf l ++ cellsOf r := by simp [cellsOf]
theorem cellsOf_get {l : List Int} {i : Nat} (h : i < l.length) : (cellsOf l)[i]? = some (.int .u8 (l.getD i 0)) := by simp [cellsOf, h]

/-- The bytes of a slice that came in: nil, or from an address on. -/
def Lies (w : World) (A : Option Addr) (c : Nat) (l : List Int) : Prop :=
  (A = none ∧ c = 0 ∧ l = []) ∨ ∃ a, A = some a ∧ ∀ j u, (cellsOf l)[j]? = some u → w.cell? (a.add j) = some u

theorem Lies.nil (w : World) : Lies w none 0 [] := .inl ⟨rfl, rfl, rfl⟩
theorem Lies.below {w w' : World} {A : Option Addr} {c : Nat} {l : List Int} (h : Lies w A c l) (hb : Below w.heap.size w w') : Lies w' A c l := by
  rcases h with h | ⟨a, rfl, h⟩
  · exact .inl h
  · refine .inr ⟨a, rfl, fun j u hu => ?_⟩
    have h1 := h j u hu
    rw [hb.cell (block_lt_of_cell h1)]
    exact h1
theorem Lies.at_ {w : World} {A : Option Addr} {c : Nat} {l : List Int} (h : Lies w A c l) (hl : 0 < l.length) :
    ∃ b o, A = some ⟨b, o, none⟩ ∧ b < w.heap.size ∧ ∀ i, i < l.length → w.cell? ⟨b, o + i, none⟩ = some (.int .u8 (l.getD i 0)) := by
  rcases h with ⟨_, _, rfl⟩ | ⟨⟨b, o, spot⟩, rfl, h⟩
  · simp at hl
  · have h0 := h 0 _ (cellsOf_get hl)
    have hs : spot = none := by simpa [Addr.add] using World.cell?_spot h0
    subst hs
    refine ⟨b, o, rfl, block_lt_of_cell (a := ⟨b, o, none⟩) (by simpa [Addr.add] using h0), fun i hi => ?_⟩
    have h1 := h i _ (cellsOf_get hi)
    by_cases e : i = 0
    · subst e; simpa [Addr.add] using h1
    · simpa [Addr.add, e] using h1
theorem Lies.of_own {w : World} {base : Nat} {A : Option Addr} {c : Nat} {l : List Int} (h : w.ownsRow base 5 1 (.slice A l.length c) l.length (cellsOf l)) : Lies w A c l := by
  rcases h.2 with ⟨hv, h0⟩ | ⟨g, cap, cur, hv, _⟩
  · simp only [Value.slice.injEq] at hv
    obtain ⟨rfl, _, rfl⟩ := hv
    exact .inl ⟨rfl, rfl, List.eq_nil_of_length_eq_zero h0⟩
  · simp only [Value.slice.injEq] at hv
    obtain ⟨rfl, _, rfl⟩ := hv
    exact .inr ⟨_, rfl, h.cells (g := g) rfl⟩

/-- The string that bytes make. -/
def str (l : List Int) : ByteArray := l.foldl (fun r n => r.push (UInt8.ofNat n.toNat)) ByteArray.empty
theorem push_data (r : ByteArray) (x : UInt8) : (r.push x).data = r.data.push x := rfl
theorem foldl_data (l : List Int) : ∀ r : ByteArray, (l.foldl (fun r n => r.push (UInt8.ofNat n.toNat)) r).data.toList = r.data.toList ++ l.map fun n => UInt8.ofNat n.toNat := by
  induction l with
  | nil => intro r; simp
  | cons n l ih => intro r; rw [List.foldl_cons, ih, push_data]; simp
theorem str_data (l : List Int) : (str l).data.toList = l.map fun n => UInt8.ofNat n.toNat := by
  unfold str; rw [foldl_data]; simp
theorem str_append (l r : List Int) : str l ++ str r = str (l ++ r) := by
  apply ByteArray.ext
  apply Array.toList_inj.1
  rw [ByteArray.data_append, Array.toList_append, str_data, str_data, str_data, List.map_append]
theorem str_size (l : List Int) : (str l).size = l.length := by
  have h : (str l).data.toList.length = l.length := by rw [str_data, List.length_map]
  simpa using h

/-- Conversion to a string. -/
theorem run_str {w : World} {A : Option Addr} {c : Nat} {l : List Int} (h : Lies w A c l) : (convert 24 9 (.slice A l.length c)).run Tryd.prog w = .ok (.string (str l)) w := by
  rw [run_convert_bytes_string w 24 9 5 A l.length c Tryd.underlying24 Tryd.underlying5 Tryd.underlying9]
  rcases h with ⟨rfl, _, rfl⟩ | ⟨a, rfl, h⟩
  · simp [Conv.bytesToString]; rfl
  · have e := run_loadCells_list (P := Tryd.prog) w a (cellsOf l) h
    rw [cellsOf_length] at e
    exact run_bytesToString w a l.length c l e

theorem Tryd.info5 : (Tryd.prog.info? 5).map (fun i => (i.zero, i.size, i.bytes)) = some (some (.int .u8 0), 1, 1) := by kernel_rfl

theorem ret_slice {A : Option Addr} {n m c : Nat} (h : n = m) : Ending.returned (.slice A n c) = .returned (.slice A m c) := by rw [h]

/-- The call hands back a slice of its own that holds the bytes l; below block B nothing has turned. -/
def Own (B : Nat) (w : World) (l : List Int) (e : Ending) (w' : World) : Prop :=
  ∃ A c, e = .returned (.slice A l.length c) ∧ w'.ownsRow B 5 1 (.slice A l.length c) l.length (cellsOf l) ∧ Below B w w'

def IsB (l : List Int) : Prop := ∀ x ∈ l, 0 ≤ x ∧ x ≤ 255

theorem getD_at {l : List Int} {i : Nat} (h : i < l.length) : l.getD i 0 = l[i] := by simp [h]

theorem size5 (w : World) : (Go.sizeOf 5).run Tryd.prog w = .ok 1 w := by kernel_rfl

/-- A cut from lo to lo + n: its address is known where it holds something; an empty one is not looked at. -/
theorem run_cut (A : Option Addr) (len c lo n : Nat) (L H : Int) (hL : L = lo) (hH : H = lo + n) (hc : lo + n ≤ c) :
    ∃ A' C', (∀ W, (Instr.slice 24 (.slice A len c) (some (.int .i64 L)) (some (.int .i64 H)) none).run Tryd.prog W = .ok (.slice A' n C') W) ∧ (0 < n → ∀ b o, A = some ⟨b, o, none⟩ → A' = some ⟨b, o + lo, none⟩) ∧ n ≤ C' := by
  have ht' : Tryd.prog.underlying 24 = some (.slice (Tryd.prog.elem 24)) := by simp [Program.elem, Tryd.underlying24]
  have he : Tryd.prog.elem 24 = 5 := by simp [Program.elem, Tryd.underlying24]
  subst hL hH
  refine ⟨if c = lo then A else A.map (·.add (lo * 1)), c - lo, fun W => ?_, ?_, by omega⟩
  · rw [run_slice_lh W 24 _ _ _ ht' .i64 .i64 _ _ (by omega) (by omega) (by omega), he, size5]
    simp only [Result.andThen, sliced]
    rw [show ((lo : Int) + n).toNat - (lo : Int).toNat = n by omega, show c - (lo : Int).toNat = c - lo by omega, Int.toNat_natCast]
  · intro hn b o hA
    subst hA
    have hne2 : ¬ c = lo := by omega
    by_cases h0 : lo = 0
    · subst h0
      simp [Addr.add]
    · simp [Addr.add, hne2, h0]

theorem own : ownKnob Tryd.prog.godebug = none := by kernel_rfl
theorem laidOut : laidOutB Tryd.prog = true := by kernel_rfl

/-- An argument []byte: nil, or a row of cap cells that hold zs, the first len of them its elements. -/
def IsRow (w : World) (a : Option Addr) (len cap : Nat) (zs : List Int) : Prop :=
  (a = none ∧ len = 0 ∧ cap = 0 ∧ zs = []) ∨
  ∃ x, a = some x ∧ len ≤ cap ∧ cap ≤ maxLen ∧ zs.length = cap ∧ (∀ i, i < zs.length → w.cell? (x.add i) = some (.int .u8 (zs.getD i 0))) ∧ ∀ n ∈ zs, (Lit.int .u8 n).wf = true

/-- The same, as the contracts take it. -/
theorem bytes_of_row {w : World} {a : Option Addr} {len cap : Nat} {zs : List Int} (h : IsRow w a len cap zs) :
    ∃ l : List Int, l.length = len ∧ l.length ≤ cap ∧ l.length ≤ maxLen ∧ Lies w a cap l ∧ IsB l := by
  rcases h with ⟨rfl, rfl, rfl, rfl⟩ | ⟨x, rfl, hl, hm, hz, hc, hw⟩
  · exact ⟨[], rfl, by simp, by simp, Lies.nil w, by intro x hx; simp at hx⟩
  · refine ⟨zs.take len, by simp; omega, by simp; omega, by simp; omega, .inr ⟨x, rfl, fun j u hu => ?_⟩, fun z hz' => ?_⟩
    · have hj : j < (zs.take len).length := by
        rcases Nat.lt_or_ge j (zs.take len).length with h | h
        · exact h
        · rw [List.getElem?_eq_none (by rw [cellsOf_length]; exact h)] at hu; cases hu
      have hj2 : j < zs.length := by simp at hj; omega
      have e : (zs.take len).getD j 0 = zs.getD j 0 := by
        have : j < len := by simp at hj; omega
        simp [List.getD, this]
      rw [cellsOf_get hj, e] at hu
      rw [hc j hj2, hu]
    · have := bounds_u8 (hw z (List.mem_of_mem_take hz'))
      omega

/-- Conversion to a string of a slice of a callee own, then and later. -/
theorem conv_later {w1 : World} {B c : Nat} {A : Option Addr} {l : List Int} (h : w1.ownsRow B 5 1 (.slice A l.length c) l.length (cellsOf l)) :
    ∀ W : World, Below w1.heap.size w1 W → (convert 24 9 (.slice A l.length c)).run Tryd.prog W = .ok (.string (str l)) W := fun W hb => run_str ((Lies.of_own h).below hb)
/-- .. of a slice that came in. -/
theorem conv_first {w : World} {c : Nat} {A : Option Addr} {l : List Int} (h : Lies w A c l) :
    ∀ W : World, Below w.heap.size w W → (convert 24 9 (.slice A l.length c)).run Tryd.prog W = .ok (.string (str l)) W := fun W hb => run_str (h.below hb)
/-- Two steps, the second from the first one end. -/
theorem Below.on {w w1 w2 : World} (h : Below w.heap.size w w1) (k : Below w1.heap.size w1 w2) : Below w.heap.size w w2 := h.trans (k.mono h.size)

theorem made_cells (q : Nat) : (madeCells (Value.int .u8 0).cells (q * 1)).toList = cellsOf (List.replicate q 0) := by
  rw [Nat.mul_one]
  show (madeCells #[Value.int .u8 0] q).toList = _
  rw [toList_madeCells_one]
  simp [cellsOf]

/-- A string bytes. -/
def sl (s : ByteArray) : List Int := s.data.toList.map fun b => (b.toNat : Int)
theorem sl_length (s : ByteArray) : (sl s).length = s.size := by unfold sl; rw [List.length_map]; simp
theorem sl_cells (s : ByteArray) : Lib.strCells s = cellsOf (sl s) := by simp [Lib.strCells, cellsOf, sl]
theorem sl_bytes (s : ByteArray) : IsB (sl s) := by
  intro x hx
  simp only [sl, List.mem_map] at hx
  obtain ⟨b, _, rfl⟩ := hx
  have := b.toNat_lt
  omega
theorem str_sl (s : ByteArray) : str (sl s) = s := by
  apply ByteArray.ext
  apply Array.toList_inj.1
  rw [str_data, sl, List.map_map]
  conv => rhs; rw [← List.map_id s.data.toList]
  apply List.map_congr_left
  intro x _
  simp

/-- A cut from lo to lo + n of a slice that reads as l, and the string that it makes. -/
theorem cut_str {w : World} {A : Option Addr} {c : Nat} {l : List Int} (h : Lies w A c l) (lo n : Nat) (L H : Int) (hL : L = lo) (hH : H = lo + n) (hn : lo + n ≤ l.length) (hc : l.length ≤ c) :
    ∃ A' C', (∀ W, (Instr.slice 24 (.slice A l.length c) (some (.int .i64 L)) (some (.int .i64 H)) none).run Tryd.prog W = .ok (.slice A' n C') W) ∧
      ∀ W, Below w.heap.size w W → (convert 24 9 (.slice A' n C')).run Tryd.prog W = .ok (.string (str ((l.drop lo).take n))) W := by
  obtain ⟨A', C', h1, h2, h3⟩ := run_cut A l.length c lo n L H hL hH (by omega)
  refine ⟨A', C', h1, fun W hb => ?_⟩
  have e : ((l.drop lo).take n).length = n := by rw [List.length_take, List.length_drop]; omega
  rcases Nat.eq_zero_or_pos n with h0 | h0
  · subst h0
    rw [List.take_zero]
    rcases A' with _ | a
    · rw [run_convert_bytes_string W 24 9 5 none 0 C' Tryd.underlying24 Tryd.underlying5 Tryd.underlying9]
      simp [Conv.bytesToString]; rfl
    · exact run_str (l := []) (.inr ⟨a, rfl, fun j u hu => by simp [cellsOf] at hu⟩)
  · obtain ⟨b, o, rfl, hbl, hcell⟩ := h.at_ (by omega)
    rw [h2 h0 b o rfl]
    have hl : Lies W (some ⟨b, o + lo, none⟩) C' ((l.drop lo).take n) := by
      refine .inr ⟨_, rfl, fun j u hu => ?_⟩
      have hj : j < n := by
        rcases Nat.lt_or_ge j n with h | h
        · exact h
        · rw [List.getElem?_eq_none (by rw [cellsOf_length, e]; exact h)] at hu; cases hu
      rw [cellsOf_get (by rw [e]; exact hj)] at hu
      have e2 : ((l.drop lo).take n).getD j 0 = l.getD (lo + j) 0 := by simp [List.getD, hj]
      rw [e2] at hu
      have e3 : (⟨b, o + lo, none⟩ : Addr).add j = ⟨b, o + (lo + j), none⟩ := by
        unfold Addr.add
        split
        · rename_i hz; subst hz; rfl
        · simp [Nat.add_assoc]
      rw [e3, hb.cell hbl, hcell (lo + j) (by omega), hu]
    have hr := run_str hl
    rw [e] at hr
    exact hr

/-- Appending a string bytes to a slice of the call own. -/
theorem own_text {B : Nat} {w w1 w2 : World} {A : Option Addr} {c : Nat} {l : List Int} {s : ByteArray} {v : Value} (hb : Below B w w1) (hB : B ≤ w1.heap.size) (h1 : w1.ownsRow B 5 1 (.slice A l.length c) l.length (cellsOf l)) (hl : 0 < l.length)
    (h2 : w2.ownsRow B 5 1 v (l.length + s.size) (cellsOf l ++ Lib.strCells s)) (hg : w1.grownBy w2 (Value.slice A l.length c).ownBlock) : Own B w (l ++ sl s) (.returned v) w2 := by
  obtain ⟨g, cap, rfl, _, _⟩ := h2.form (by omega)
  rw [sl_cells, ← cellsOf_append] at h2
  have e : l.length + s.size = (l ++ sl s).length := by rw [List.length_append, sl_length]
  rw [e] at h2 ⊢
  exact ⟨_, cap, rfl, h2, hb.grown hg hB (fun k hk => (h1.lt k hk).1)⟩


theorem take_one {l : List Int} {k : Nat} (h : k < l.length) : l.take (k + 1) = l.take k ++ [l.getD k 0] := by
  rw [List.take_succ_eq_append_getElem h]
  simp [h]

theorem IsB.take {l : List Int} (h : IsB l) (k : Nat) : IsB (l.take k) := fun x hx => h x (List.mem_of_mem_take hx)
theorem IsB.getD {l : List Int} (h : IsB l) {k : Nat} (hk : k < l.length) : 0 ≤ l.getD k 0 ∧ l.getD k 0 ≤ 255 := h _ (by rw [getD_at hk]; exact List.getElem_mem _)

theorem lies_one (w : World) (x : Int) : Lies (w.alloc (.cells #[.int .u8 x] 5)) (some ⟨w.heap.size, 0, none⟩) 1 [x] :=
  Lies.of_own (base := 0) (World.ownsRow_lit (size := 1) w #[.int .u8 x] 1 (Nat.zero_le _) (by unfold maxLen; omega) rfl)

/-- Strings that bytes make are alike just where the bytes are. -/
theorem str_inj {a b : List Int} (ha : IsB a) (hb : IsB b) (h : str a = str b) : a = b := by
  have h1 : (str a).data.toList = (str b).data.toList := by rw [h]
  rw [str_data, str_data] at h1
  have key : ∀ (a b : List Int), IsB a → IsB b → (a.map fun n => UInt8.ofNat n.toNat) = (b.map fun n => UInt8.ofNat n.toNat) → a = b := by
    intro a
    induction a with
    | nil => intro b _ _ h; cases b with | nil => rfl | cons y b => simp at h
    | cons x a ih =>
      intro b ha hb h
      cases b with
      | nil => simp at h
      | cons y b =>
        simp only [List.map_cons, List.cons.injEq] at h
        obtain ⟨x0, x1⟩ := ha x (by simp)
        obtain ⟨y0, y1⟩ := hb y (by simp)
        have e1 : (UInt8.ofNat x.toNat).toNat = (UInt8.ofNat y.toNat).toNat := by rw [h.1]
        simp only [UInt8.toNat_ofNat'] at e1
        rw [ih b (fun z hz => ha z (by simp [hz])) (fun z hz => hb z (by simp [hz])) h.2]
        congr 1
        omega
  exact key a b ha hb h1
theorem str_eq_iff {a b : List Int} (ha : IsB a) (hb : IsB b) : ((str a).toList == (str b).toList) = decide (a = b) := by
  by_cases h : a = b
  · subst h; simp
  · have : str a ≠ str b := fun e => h (str_inj ha hb e)
    have h2 : (str a).toList ≠ (str b).toList := fun e => this (ByteArray.ext (by
      apply Array.toList_inj.1
      rw [ByteArray.toList_eq, ByteArray.toList_eq] at e
      exact e))
    simp [h, h2]

/-- A value that is a slice which reads as l. -/
def Holds (W : World) (l : List Int) (v : Value) : Prop := ∃ A c, v = .slice A l.length c ∧ Lies W A c l

theorem bne_of {α : Type} [BEq α] {x y : α} {b : Bool} (h : (x == y) = b) : (x != y) = !b := by rw [bne, h]
theorem IsB.append {a b : List Int} (ha : IsB a) (hb : IsB b) : IsB (a ++ b) := fun x hx => (List.mem_append.1 hx).elim (ha x) (hb x)

theorem cellsOf_set (l : List Int) (i : Nat) (x : Int) : (cellsOf l).set i (.int .u8 x) = cellsOf (l.set i x) := by simp [cellsOf]
end Go.Proofs.YtdgdkkapikopnaaDoor
