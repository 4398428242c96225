/-
  Byte slices in memory: a slice that reads as a list of bytes, a slice of the call own, and the string that bytes make. Conditions: each theorem names its own.
-/
import Derived.Test.YtcahaffmelekbaaA
import Derived.Deep.AppendLies
import Derived.Laws.AppendOwnNone
import Derived.Laws.BytesString
import Derived.Laws.OwnMore
import Derived.Deep.Draws
namespace Go.Proofs.Ytcahaffmelekbaa
open Go.RowKit
set_option linter.unusedVariables false

/-- Bytes as cells. -/
def cellsOf (l : List Int) : List Value := l.map (Value.int .u8)
theorem cellsOf_length (l : List Int) : (cellsOf l).length = l.length := by simp [cellsOf]
theorem cellsOf_one (l : List Int) : ∀ u ∈ cellsOf l, u.oneCell' = true := ints_oneCell _ _
theorem cellsOf_append (l r : List Int) : cellsOf (l ++ r) = cellsOf l ++ cellsOf r := by simp [cellsOf]
theorem cellsOf_get {l : List Int} {i : Nat} (h : i < l.length) : (cellsOf l)[i]? = some (.int .u8 (l.getD i 0)) := by simp [cellsOf, h]

/-- The bytes of a slice that came in: nil, or from an address on. -/
def Lies (w : World) (A : Option Addr) (c : Nat) (l : List Int) : Prop :=
  (A = none ∧ c = 0 ∧ l = []) ∨ ∃ a, A = some a ∧ ∀ j u, (cellsOf l)[j]? = some u → w.cell? (a.add j) = some u

theorem Lies.nil (w : World) : Lies w none 0 [] := .inl ⟨rfl, rfl, rfl⟩
theorem Lies.below {w w' : World} {A : Option Addr} {c : Nat} {l : List Int} (h : Lies w A c l) (hb : Below w.heap.size w w') : Lies w' A c l := by
  rcases h with h | ⟨a, rfl, h⟩
  · exact .inl h
  · refine .inr ⟨a, rfl, fun j u hu => ?_⟩
    have h1 := h j u hu
    rw [hb.cell (block_lt_of_cell h1)]
    exact h1
theorem Lies.at_ {w : World} {A : Option Addr} {c : Nat} {l : List Int} (h : Lies w A c l) (hl : 0 < l.length) :
    ∃ b o, A = some ⟨b, o, none⟩ ∧ b < w.heap.size ∧ ∀ i, i < l.length → w.cell? ⟨b, o + i, none⟩ = some (.int .u8 (l.getD i 0)) := by
  rcases h with ⟨_, _, rfl⟩ | ⟨⟨b, o, spot⟩, rfl, h⟩
  · simp at hl
  · have h0 := h 0 _ (cellsOf_get hl)
    have hs : spot = none := by simpa [Addr.add] using World.cell?_spot h0
    subst hs
    refine ⟨b, o, rfl, block_lt_of_cell (a := ⟨b, o, none⟩) (by simpa [Addr.add] using h0), fun i hi => ?_⟩
    have h1 := h i _ (cellsOf_get hi)
    by_cases e : i = 0
    · subst e; simpa [Addr.add] using h1
    · simpa [Addr.add, e] using h1
theorem Lies.of_own {w : World} {base : Nat} {A : Option Addr} {c : Nat} {l : List Int} (h : w.ownsRow base 5 1 (.slice A l.length c) l.length (cellsOf l)) : Lies w A c l := by
  rcases h.2 with ⟨hv, h0⟩ | ⟨g, cap, cur, hv, _⟩
  · simp only [Value.slice.injEq] at hv
    obtain ⟨rfl, _, rfl⟩ := hv
    exact .inl ⟨rfl, rfl, List.eq_nil_of_length_eq_zero h0⟩
  · simp only [Value.slice.injEq] at hv
    obtain ⟨rfl, _, rfl⟩ := hv
    exact .inr ⟨_, rfl, h.cells (g := g) rfl⟩

/-- The string that bytes make. -/
def str (l : List Int) : ByteArray := l.foldl (fun r n => r.push (UInt8.ofNat n.toNat)) ByteArray.empty
theorem push_data (r : ByteArray) (x : UInt8) : (r.push x).data = r.data.push x := rfl
theorem foldl_data (l : List Int) : ∀ r : ByteArray, (l.foldl (fun r n => r.push (UInt8.ofNat n.toNat)) r).data.toList = r.data.toList ++ l.map fun n => UInt8.ofNat n.toNat := by
  induction l with
  | nil => intro r; simp
  | cons n l ih => intro r; rw [List.foldl_cons, ih, push_data]; simp
theorem str_data (l : List Int) : (str l).data.toList = l.map fun n => UInt8.ofNat n.toNat := by
  unfold str; rw [foldl_data]; simp
theorem str_append (l r : List Int) : str l ++ str r = str (l ++ r) := by
  apply ByteArray.ext
  apply Array.toList_inj.1
  rw [ByteArray.data_append, Array.toList_append, str_data, str_data, str_data, List.map_append]
theorem str_size (l : List Int) : (str l).size = l.length := by
  have h : (str l).data.toList.length = l.length := by rw [str_data, List.length_map]
  simpa using h

/-- Conversion to a string. -/
theorem run_str {w : World} {A : Option Addr} {c : Nat} {l : List Int} (h : Lies w A c l) : (convert 22 9 (.slice A l.length c)).run Try.prog w = .ok (.string (str l)) w := by
  rw [run_convert_bytes_string w 22 9 5 A l.length c Try.underlying22 Try.underlying5 Try.underlying9]
  rcases h with ⟨rfl, _, rfl⟩ | ⟨a, rfl, h⟩
  · simp [Conv.bytesToString]; rfl
  · have e := run_loadCells_list (P := Try.prog) w a (cellsOf l) h
    rw [cellsOf_length] at e
    exact run_bytesToString w a l.length c l e
end Go.Proofs.Ytcahaffmelekbaa
