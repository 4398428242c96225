/-
  Errors as trees: a number, a stage around one, two beside each other; their text, their numbers, their stages; and what it means that an error of the program lies in memory. No function of the program in sight. No conditions.
-/
import Derived.Test.YtgpaedknonkioaaDoorGrow
import Derived.Lib.ItoaLen
import Derived.Lib.AppendIntMem
namespace Go.Proofs.YtgpaedknonkioaaDoor
open Go.ChangeShapes Go.WideShapes Go.ChangeAt Go.RowKit
set_option linter.unusedVariables false

inductive Er where
  | num (n : Int)
  | stage (s : ByteArray) (no : Int) (t : Er)
  | two (a b : Er)

def I64 (n : Int) : Prop := -9223372036854775808 ≤ n ∧ n ≤ 9223372036854775807

/-- A number in decimal, as bytes. -/
def num10 (n : Int) : List Int := (Lib.itoa n).map fun b => (b.toNat : Int)
theorem num10_cells (n : Int) : Lib.byteCells (Lib.itoa n) = cellsOf (num10 n) := by simp [Lib.byteCells, cellsOf, num10]
theorem num10_len {n : Int} (h : I64 n) : (num10 n).length ≤ 21 := by
  rw [num10, List.length_map]; exact Lib.itoa_length_le n h.1 h.2
theorem num10_isB (n : Int) : IsB (num10 n) := by
  intro x hx
  simp only [num10, List.mem_map] at hx
  obtain ⟨b, _, rfl⟩ := hx
  have := b.toNat_lt
  omega

def Er.all : Er → List Int
  | .num n => [n]
  | .stage _ _ t => t.all
  | .two a b => a.all ++ b.all
def Er.tell : Er → List Int
  | .num n => [101, 114, 114, 111, 114, 32] ++ num10 n
  | .stage s no t => sl s ++ ([32] ++ (num10 no ++ ([58, 32] ++ t.tell)))
  | .two a b => [40] ++ (a.tell ++ ([59, 32] ++ (b.tell ++ [41])))
def Er.stages : Er → List (ByteArray × Int)
  | .num _ => []
  | .stage s no t => (s, no) :: t.stages
  | .two _ _ => []
def Er.ok : Er → Prop
  | .num n => I64 n ∧ n ≠ 0
  | .stage _ no t => I64 no ∧ t.ok
  | .two a b => a.ok ∧ b.ok
/-- More than the bytes of its text. -/
def Er.wt : Er → Nat
  | .num _ => 30
  | .stage s _ t => s.size + 30 + t.wt
  | .two a b => 10 + a.wt + b.wt
theorem Er.tell_le : ∀ t : Er, t.ok → t.tell.length ≤ t.wt
  | .num n, h => by have := num10_len h.1; simp [Er.tell, Er.wt]; omega
  | .stage s no t, h => by have := num10_len h.1; have := Er.tell_le t h.2; have := sl_length s; simp [Er.tell, Er.wt]; omega
  | .two a b, h => by have := Er.tell_le a h.1; have := Er.tell_le b h.2; simp [Er.tell, Er.wt]; omega
theorem Er.all_le : ∀ t : Er, t.all.length ≤ t.wt
  | .num n => by simp [Er.all, Er.wt]
  | .stage s no t => by have := Er.all_le t; simp [Er.all, Er.wt]; omega
  | .two a b => by have := Er.all_le a; have := Er.all_le b; simp [Er.all, Er.wt]; omega
theorem Er.stages_le : ∀ t : Er, t.stages.length ≤ t.wt
  | .num n => by simp [Er.stages, Er.wt]
  | .stage s no t => by have := Er.stages_le t; simp [Er.stages, Er.wt]; omega
  | .two a b => by simp [Er.stages]
theorem Er.tell_isB : ∀ t : Er, IsB t.tell
  | .num n => by
    intro x hx
    simp only [Er.tell, List.mem_append] at hx
    rcases hx with hx | hx
    · simp at hx; omega
    · exact num10_isB n x hx
  | .stage s no t => by
    intro x hx
    simp only [Er.tell, List.mem_append] at hx
    rcases hx with hx | hx | hx | hx | hx
    · exact sl_bytes s x hx
    · simp at hx; omega
    · exact num10_isB no x hx
    · simp at hx; omega
    · exact Er.tell_isB t x hx
  | .two a b => by
    intro x hx
    simp only [Er.tell, List.mem_append] at hx
    rcases hx with hx | hx | hx | hx | hx
    · simp at hx; omega
    · exact Er.tell_isB a x hx
    · simp at hx; omega
    · exact Er.tell_isB b x hx
    · simp at hx; omega
theorem Er.all_ok : ∀ t : Er, t.ok → ∀ n ∈ t.all, I64 n ∧ n ≠ 0
  | .num n, h, m, hm => by simp [Er.all] at hm; subst hm; exact h
  | .stage s no t, h, m, hm => Er.all_ok t h.2 m hm
  | .two a b, h, m, hm => by
    rcases List.mem_append.1 hm with hm | hm
    · exact Er.all_ok a h.1 m hm
    · exact Er.all_ok b h.2 m hm
theorem Er.all_pos : ∀ t : Er, 0 < t.all.length
  | .num n => by simp [Er.all]
  | .stage s no t => Er.all_pos t
  | .two a b => by have := Er.all_pos a; simp [Er.all]; omega

/-- An error of the program. -/
def IsE (w : World) : Er → Value → Prop
  | .num n, v => v = .iface 39 (.int .i64 n)
  | .stage s no t, v => ∃ u, v = .iface 45 (.agg #[.string s, .int .i64 no, u]) ∧ IsE w t u
  | .two a b, v => ∃ p q c ua ub, v = .iface 86 (.pointer (some ⟨p, 0, none⟩)) ∧ w.cell? ⟨p, 0, none⟩ = some (.slice (some ⟨q, 0, none⟩) 2 c) ∧ w.cell? ⟨q, 0, none⟩ = some ua ∧ w.cell? ⟨q, 1, none⟩ = some ub ∧ IsE w a ua ∧ IsE w b ub
theorem IsE.below {w w' : World} (hb : Below w.heap.size w w') : ∀ {t : Er} {v : Value}, IsE w t v → IsE w' t v
  | .num n, v, h => h
  | .stage s no t, v, ⟨u, h1, h2⟩ => ⟨u, h1, IsE.below hb h2⟩
  | .two a b, v, ⟨p, q, c, ua, ub, h0, h1, h2, h3, h4, h5⟩ => by
    refine ⟨p, q, c, ua, ub, h0, ?_, ?_, ?_, IsE.below hb h4, IsE.below hb h5⟩
    · rw [hb.cell (block_lt_of_cell h1)]; exact h1
    · rw [hb.cell (block_lt_of_cell h2)]; exact h2
    · rw [hb.cell (block_lt_of_cell h3)]; exact h3
theorem IsE.iface {w : World} : ∀ {t : Er} {v : Value}, IsE w t v → ∃ ty x, v = .iface ty x
  | .num n, v, h => ⟨_, _, h⟩
  | .stage s no t, v, ⟨u, h1, h2⟩ => ⟨_, _, h1⟩
  | .two a b, v, ⟨p, q, c, ua, ub, h0, _⟩ => ⟨_, _, h0⟩
/-- .. or nil. -/
def IsO (w : World) : Option Er → Value → Prop
  | none, v => v = .nilIface
  | some t, v => IsE w t v
theorem IsO.below {w w' : World} (hb : Below w.heap.size w w') : ∀ {t : Option Er} {v : Value}, IsO w t v → IsO w' t v
  | none, v, h => h
  | some t, v, h => IsE.below hb (t := t) h
end Go.Proofs.YtgpaedknonkioaaDoor
