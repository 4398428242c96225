/-
  Contract of the document's Send. Conditions: the messages lie in memory; the counts are low.
-/
import Derived.Test.YtcdghipodnafmaaRSendB
import Derived.Test.YtcdghipodnafmaaRSendC
namespace Go.Proofs.Ytcdghipodnafmaa
open Go.ChangeShapes Go.WideShapes Go.ChangeAt Go.RowKit
set_option linter.unusedVariables false
structure LowR (b : Rb) : Prop where
  n8 : b.n ≤ 8
  x0 : 0 ≤ b.x
  x1 : b.x ≤ 100000
  y0 : 0 ≤ b.y
  y1 : b.y ≤ 100000
  z0 : 0 ≤ b.z
  z1 : b.z ≤ 100000
theorem rsend_calls (b : Rb) (hb : LowR b) (A : Option Addr) (c : Nat) (rs : List Mr) (W : World) (h : CellsG enM W A c rs) (hmany : rs.length ≤ 512) (f t : Int) (D : Option Addr) (cd : Nat) (l : List Int) :
    Calls Try.prog 22 #[rv b A rs.length c, .int .i64 f, .int .i64 t, .slice D l.length cd] W (RSent (sendQ b rs f t ⟨⟨f, t, l⟩, D, cd⟩).1 (sendQ b rs f t ⟨⟨f, t, l⟩, D, cd⟩).2.2 A c rs (sendQ b rs f t ⟨⟨f, t, l⟩, D, cd⟩).2.1 W) := by
  unfold sendQ
  cases hn : b.isN f && b.isN t with
  | false => exact rsend_arg b A c rs W f t D cd _ hn
  | true =>
    have hn2 := hn
    unfold Rb.isN at hn2
    simp only [Bool.and_eq_true, decide_eq_true_eq] at hn2
    obtain ⟨k, rfl⟩ : ∃ k : Nat, f = (k : Int) := ⟨f.toNat, by omega⟩
    have hk : k < 8 := by have := hb.n8; omega
    rw [if_pos rfl, Int.toNat_natCast]
    cases hd : b.dn k with
    | true => exact rsend_none b A c rs W k t D cd _ hk hn2.1.2 hn2.2.1 hn2.2.2 hd
    | false =>
      cases hf : b.full rs.length with
      | true => exact rsend_many b A c rs W k t D cd _ hk hn2.1.2 hn2.2.1 hn2.2.2 hd (by unfold Rb.full at hf; simpa using hf) hb.z0 hb.z1
      | false => exact rsend_ok b A c rs W h hmany k t D cd l hk hn2.1.2 hn2.2.1 hn2.2.2 hd (by unfold Rb.full at hf; simpa using hf) hb.x0 hb.x1
end Go.Proofs.Ytcdghipodnafmaa
