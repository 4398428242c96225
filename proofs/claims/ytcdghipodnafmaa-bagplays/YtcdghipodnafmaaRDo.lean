/-
  Contract of the document's Do. Conditions: the messages lie in memory; the counts are low.
-/
import Derived.Test.YtcdghipodnafmaaRDoT
import Derived.Test.YtcdghipodnafmaaRDoU
import Derived.Test.YtcdghipodnafmaaRDoL
import Derived.Test.YtcdghipodnafmaaRDoF
import Derived.Test.YtcdghipodnafmaaRDoV
import Derived.Test.YtcdghipodnafmaaRDoN
namespace Go.Proofs.Ytcdghipodnafmaa
open Go.ChangeShapes Go.WideShapes Go.ChangeAt Go.RowKit
set_option linter.unusedVariables false
theorem rdo_calls (b : Rb) (hb : LowR b) (A : Option Addr) (c : Nat) (rs : List Mr) (W : World) (h : CellsG enM W A c rs) (hcap : rs.length ≤ c) (hmany : rs.length ≤ 512) (ht : ∀ r ∈ rs, 0 ≤ r.m.tgt ∧ r.m.tgt < 8) (d i j : Int) :
    Calls Try.prog 23 #[rv b A rs.length c, .int .i64 d, .int .i64 i, .int .i64 j] W (RDid (doQ b rs d i j) A c rs W) := by
  unfold doQ
  cases hi : inB rs.length i with
  | false => exact rdo_out b A c rs W d i j hi
  | true =>
    obtain ⟨k, rfl, hk⟩ := inB_nat hi
    obtain ⟨r, hr⟩ : ∃ r, rs[k]? = some r := ⟨rs[k], by simp [hk]⟩
    rw [if_pos rfl, Int.toNat_natCast, getDz hr]
    have h1 := ht r (List.mem_of_getElem? hr)
    obtain ⟨q, hq⟩ : ∃ q : Nat, r.m.tgt = (q : Int) := ⟨r.m.tgt.toNat, by omega⟩
    have hq8 : q < 8 := by omega
    by_cases h0 : d = 0
    · subst h0
      rw [if_pos rfl, hq, Int.toNat_natCast]
      cases hdn : b.dn q with
      | true => exact rdo_take_down b hb A c rs W h hcap hmany k r hr j q hq hq8 hdn
      | false => exact rdo_take_up b hb A c rs W h hcap hmany k r hr j q hq hq8 hdn
    · rw [if_neg h0]
      by_cases h1' : d = 1
      · subst h1'
        exact rdo_lose b hb A c rs W h hcap hmany k r hr j
      · rw [if_neg h1']
        by_cases h2 : d = 2
        · subst h2
          rw [if_pos rfl]
          cases hf : b.full rs.length with
          | true => exact rdo_twice_full b hb A c rs W h hcap hmany k r hr j (by unfold Rb.full at hf; simpa using hf)
          | false => exact rdo_twice_ok b hb A c rs W h hcap hmany k r hr j (by unfold Rb.full at hf; simpa using hf)
        · rw [if_neg h2]
          cases hj : inB rs.length j with
          | false =>
            unfold inB at hj
            simp only [Bool.and_eq_false_iff, decide_eq_false_iff_not] at hj
            by_cases hj0 : j < 0
            · exact rdo_move_lo b hb A c rs W h hcap hmany k r hr j d h0 h1' h2 hj0
            · exact rdo_move_hi b hb A c rs W h hcap hmany k r hr j d h0 h1' h2 (by omega) (by omega)
          | true =>
            obtain ⟨jn, rfl, hjn⟩ := inB_nat hj
            rw [if_pos rfl, Int.toNat_natCast]
            exact rdo_move_ok b hb A c rs W h hcap hmany k r hr jn d h0 h1' h2 jn rfl hjn
end Go.Proofs.Ytcdghipodnafmaa
