/-
  A text of the call's own grows: by a string, by bytes, by a number in decimal (strconv.AppendInt, by the library's contract). Conditions: sizes as in the premises; the table of powers of ten reads as its initialiser lays it.
-/
import Derived.Test.YtgpaedknonkioaaDoorEB
import Derived.Test.YtgpaedknonkioaaDoorET
import Derived.Test.YtgpaedknonkioaaDoorShelf
namespace Go.Proofs.YtgpaedknonkioaaDoor
open Go.ChangeShapes Go.WideShapes Go.ChangeAt Go.RowKit
set_option linter.unusedVariables false

/-- What a call that grows a text leaves as it was. -/
def Fr (B : Nat) (w w' : World) : Prop := Below B w w' ∧ Lib.OthersKept 5 none w w'
theorem Fr.refl (B : Nat) (w : World) : Fr B w w := ⟨Below.refl _ _, fun _ _ h _ _ => h⟩
theorem Fr.trans {B : Nat} {a b c : World} (h : Fr B a b) (k : Fr B b c) : Fr B a c := ⟨h.1.trans k.1, h.2.trans k.2⟩
theorem Fr.alloc {B : Nat} {a b : World} (h : Fr B a b) (hB : B ≤ b.heap.size) (o : Obj) : Fr B a (b.alloc o) := ⟨h.1.alloc hB o, h.2.trans (kept_alloc 5 b o)⟩
theorem Fr.ofBelow {B : Nat} {a b : World} (h : Below a.heap.size a b) (hB : B ≤ a.heap.size) : Fr B a b := ⟨h.mono hB, kept_below 5 h⟩
theorem Fr.size {B : Nat} {a b : World} (h : Fr B a b) (hB : B ≤ a.heap.size) : B ≤ b.heap.size := Nat.le_trans hB h.1.size

def Tab (B : Nat) (w : World) : Prop := Lib.TabBelow Tryd.prog B w "internal/strconv.uint64pow10" .u64 Lib.pow10Tab
theorem Tab.on {B : Nat} {w w' : World} (h : Tab B w) (hb : Below B w w') : Tab B w' := Lib.TabBelow.on h hb

theorem own_fr {B : Nat} {w w' : World} {A : Option Addr} {c : Nat} {l : List Int} (h : OwnS B w A c l) (hg : w.grownBy w' (Value.slice A l.length c).ownBlock) (hB : B ≤ w.heap.size) : Fr B w w' :=
  ⟨h.grow (Below.refl _ _) hg hB, kept_grown hg h.row⟩

/-- At an operation that appends a string. -/
theorem wpList_append_text {w : World} {ops : Array Oper} {rest : List Oper} {o : Oper} {a : Act} {Q : Exit → Act → World → Prop} (hgd : o.guard = none) (s x : Operand)
    (ho : o.op = .call { callee := .builtin .append, args := #[s, x], argTypes := #[60, 9] })
    (base : Nat) (A : Option Addr) (c : Nat) (l : List Int) (hs : a.eval s = .slice A l.length c) (hown : OwnS base w A c l)
    (z : ByteArray) (hx : a.eval x = .string z) (h63 : l.length + z.size ≤ 1000000000) (hbase : base ≤ w.heap.size)
    (h : ∀ A' c' w' L, Hid (L = l ++ sl z) → OwnS base w' A' c' L → Fr base w w' → wpList Tryd.prog ops Q rest (a.put o.dst (.slice A' L.length c')) w') : wpList Tryd.prog ops Q (o :: rest) a w := by
  obtain ⟨i0, hi, hz0, hz1, hz2⟩ := info_parts Tryd.info5
  refine Lib.wpList_append_own_string _ hgd s x 60 9 ho base 5 i0 Tryd.underlying60 Tryd.underlying9 hi hz0 hz1 hz2 (.slice A l.length c) l.length (cellsOf l) hs hown z hx (by unfold maxLen; omega) (by omega) hbase ?_
  intro v' w' h1 h2 _
  have e : l.length + z.size = (l ++ sl z).length := by rw [List.length_append, sl_length]
  rw [sl_cells, ← cellsOf_append, e] at h1
  have hv : ∃ A' c', v' = .slice A' (l ++ sl z).length c' := by
    rcases h1.2 with ⟨hv, h0⟩ | ⟨g, cap, cur, hv, _⟩
    · exact ⟨none, 0, by rw [h0]; exact hv⟩
    · exact ⟨_, _, hv⟩
  obtain ⟨A', c', rfl⟩ := hv
  exact h A' c' w' _ (Lib.hid rfl) h1 (own_fr hown h2 hbase)

/-- .. bytes that lie somewhere. -/
theorem wpList_append_some {w : World} {ops : Array Oper} {rest : List Oper} {o : Oper} {a : Act} {Q : Exit → Act → World → Prop} (hgd : o.guard = none) (s x : Operand)
    (ho : o.op = .call { callee := .builtin .append, args := #[s, x], argTypes := #[60, 60] })
    (base : Nat) (A : Option Addr) (c : Nat) (l : List Int) (hs : a.eval s = .slice A l.length c) (hown : OwnS base w A c l)
    (B : Option Addr) (d : Nat) (r : List Int) (hx : a.eval x = .slice B r.length d) (hr : Lies w B d r) (h63 : l.length + r.length ≤ 1000000000) (hbase : base ≤ w.heap.size)
    (h : ∀ A' c' w' L, Hid (L = l ++ r) → OwnS base w' A' c' L → Fr base w w' → wpList Tryd.prog ops Q rest (a.put o.dst (.slice A' L.length c')) w') : wpList Tryd.prog ops Q (o :: rest) a w :=
  wpList_append_bytes hgd s x ho base A c l hs hown B d r hx hr (by omega) hbase fun A' c' w' L hL h1 h2 => h A' c' w' L hL h1 (own_fr hown h2 hbase)

/-- What a call hands back that grows a text. -/
def Txt (B : Nat) (w : World) (r : List Int) (e : Ending) (w' : World) : Prop := ∃ A c, e = .returned (.slice A r.length c) ∧ OwnS B w' A c r ∧ Fr B w w'

theorem appInt_calls (n : Int) (hn : I64 n) (B : Nat) (A : Option Addr) (c : Nat) (l : List Int) (w : World) (h : OwnS B w A c l) (hB : B ≤ w.heap.size) (hl : l.length ≤ 1000000000) (hT : Tab B w) :
    Calls Tryd.prog 42 #[.slice A l.length c, .int .i64 n, .int .i64 10] w (Txt B w (l ++ num10 n)) := by
  refine (Tryd.strconv_AppendInt_10 B l.length n hn.1 hn.2 (.slice A l.length c) (cellsOf l) w h hB (by omega) hT).mono ?_
  rintro e w' ⟨v', rfl, h1, h2, h3⟩
  have e : l.length + (Lib.itoa n).length = (l ++ num10 n).length := by rw [List.length_append, num10, List.length_map]
  rw [num10_cells, ← cellsOf_append, e] at h1
  have hv : ∃ A' c', v' = .slice A' (l ++ num10 n).length c' := by
    rcases h1.2 with ⟨hv, h0⟩ | ⟨g, cap, cur, hv, _⟩
    · exact ⟨none, 0, by rw [h0]; exact hv⟩
    · exact ⟨_, _, hv⟩
  obtain ⟨A', c', rfl⟩ := hv
  exact ⟨A', c', rfl, h1, h2, h3⟩
end Go.Proofs.YtgpaedknonkioaaDoor
