/-
  Contracts of vint.PutInt and GetInt and of the document Signed and GetInt. Conditions: numbers of 64 bits, slices of at most a million bytes.
-/
import Derived.Test.YtimcolanmbklpaaVRGet
namespace Go.Proofs.Ytimcolanmbklpaa
open Go.ChangeShapes Go.WideShapes Go.ChangeAt Go.RowKit
set_option linter.unusedVariables false

/-- A number with a sign as one without. -/
def zig (n : Int) : Int := if n < 0 then -2 * n - 1 else 2 * n
/-- And back. -/
def zag (m : Int) : Int := if m % 2 = 1 then -1 - m / 2 else m / 2
theorem zag_zig (n : Int) : zag (zig n) = n := by
  unfold zag zig
  split <;> split <;> omega

/-- What GetInt answers. -/
def getI (l : List Int) (i : Int) : Int × Int × Int := if (getS l i).2.2 = 0 then (zag (getS l i).1, (getS l i).2.1, 0) else (0, 0, (getS l i).2.2)
def triI (r : Int × Int × Int) : Value := .tuple #[.int .i64 r.1, .int .i64 r.2.1, .int .i64 r.2.2]

theorem ret3I {a b x y : Int} (h : a = b) : Ending.returned (.tuple #[.int .i64 a, .int .i64 x, .int .i64 y]) = .returned (triI (b, x, y)) := by rw [h]; rfl

theorem getS_range (l : List Int) (hb : IsB l) (i : Int) : 0 ≤ (getS l i).1 ∧ (getS l i).1 < 18446744073709551616 ∧ 0 ≤ (getS l i).2.1 ∧ (getS l i).2.1 ≤ l.length := by
  unfold getS
  simp only
  split
  · simp
  · split
    · simp
    · split
      · simp
      · split
        · simp
        · have hi : i.toNat < l.length := by omega
          have hx := hb (l.getD i.toNat 0) (by rw [getD_at hi]; exact List.getElem_mem hi)
          have hlen : ((l.drop (i.toNat + 1)).take (onesB (l.getD i.toNat 0))).length = onesB (l.getD i.toNat 0) := by rw [List.length_take, List.length_drop]; omega
          obtain ⟨hn0, hn1, hn2⟩ := dec_fits (l.getD i.toNat 0) ((l.drop (i.toNat + 1)).take (onesB (l.getD i.toNat 0))) hx.1 hx.2 (fun z hz => hb z (List.mem_of_mem_drop (List.mem_of_mem_take hz))) hlen
          refine ⟨hn0, hn1, ?_, ?_⟩ <;> simp only <;> omega

theorem zig_range (n : Int) (h0 : -9223372036854775808 ≤ n) (h1 : n ≤ 9223372036854775807) : 0 ≤ zig n ∧ zig n < 18446744073709551616 := by
  unfold zig
  split <;> omega

theorem zig_neg (n : Int) (h0 : -9223372036854775808 ≤ n) (h1 : n < 0) : IntKind.u64.wrap (IntKind.u64.wrap (-IntKind.u64.wrap (2 * IntKind.u64.wrap n)) - 1) = zig n := by
  unfold zig
  rw [if_pos h1]
  simp only [IntKind.wrap_u64]
  omega

end Go.Proofs.Ytimcolanmbklpaa
