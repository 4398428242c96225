/-
  Contract of the law's Much: it returns. Conditions: the calls lie in memory.
-/
import Derived.Test.YtpnlgmnlanoncaaDActs
import Derived.Deep.QuietTactic
import Derived.BigQuiet
namespace Go.Proofs.Ytpnlgmnlanoncaa
open Go.ChangeShapes Go.WideShapes Go.ChangeAt Go.RowKit
set_option linter.unusedVariables false

theorem wrap_in {x : Int} (h1 : -9223372036854775808 ≤ x) (h2 : x < 9223372036854775808) : wrap64 x = x := by unfold wrap64; omega
theorem elA : El 36 6 96 (.agg #[.int .i64 0, .int .i64 0, .string ByteArray.empty, .string ByteArray.empty, .slice none 0 0, .slice none 0 0]) enA := ⟨by kernel_rfl, rfl, by decide, fun _ => rfl, fun x u hu => by simp [enA] at hu; rcases hu with rfl | rfl | rfl | rfl | rfl | rfl <;> rfl⟩
/-- The cells of call i, in the world and later. -/
theorem acts_at {w w' : World} {A : Option Addr} {c : Nat} {l : List Ac} (h : CellsG enA w A c l) (hb : Below w.heap.size w w') {i : Nat} {a : Ac} (hi : l[i]? = some a) :
    ∃ b o, A = some ⟨b, o, none⟩ ∧ b < w.heap.size ∧ w'.cell? ⟨b, o + i * 6, none⟩ = some (.int .i64 a.do_) ∧ w'.cell? ⟨b, o + i * 6 + 1, none⟩ = some (.int .i64 a.n) ∧ w'.cell? ⟨b, o + i * 6 + 2, none⟩ = some (.string a.name) ∧ w'.cell? ⟨b, o + i * 6 + 3, none⟩ = some (.string a.to) ∧ w'.cell? ⟨b, o + i * 6 + 4, none⟩ = some (.slice a.bA a.b.length a.bc) ∧ w'.cell? ⟨b, o + i * 6 + 5, none⟩ = some (.slice a.kA a.keep.length a.kc) := by
  have hl : i < l.length := (List.getElem?_eq_some_iff.1 hi).1
  obtain ⟨b, o, hA, hbs, hc⟩ := h.at_ elA (by omega)
  have g := fun j hj => (hb.cell (p := ⟨b, o + (i * 6 + j), none⟩) hbs).trans (hc i j a hi hj)
  refine ⟨b, o, hA, hbs, ?_, ?_, ?_, ?_, ?_, ?_⟩
  · have := g 0 (by omega); simpa [enA] using this
  · have := g 1 (by omega); rw [← Nat.add_assoc] at this; simpa [enA] using this
  · have := g 2 (by omega); rw [← Nat.add_assoc] at this; simpa [enA] using this
  · have := g 3 (by omega); rw [← Nat.add_assoc] at this; simpa [enA] using this
  · have := g 4 (by omega); rw [← Nat.add_assoc] at this; simpa [enA] using this
  · have := g 5 (by omega); rw [← Nat.add_assoc] at this; simpa [enA] using this
def RelM (l : List Ac) (w : World) (n i : Value) (wr : World) : Prop := ∃ (k : Nat) (q : Int), n = .int .i64 q ∧ i = .int .i64 k ∧ k ≤ l.length ∧ k ≤ 100 ∧ ∃ p, wr = w.drewN p
set_option maxRecDepth 20000 in
set_option maxHeartbeats 2000000 in
theorem much_calls (A : Option Addr) (c : Nat) (l : List Ac) (w : World) (h : CellsG enA w A c l) (hg : ∀ a ∈ l, GoodA w a) (hl : l.length ≤ maxLen) :
    Calls Try.prog 7 #[.slice A l.length c] w fun e w' => (∃ r, e = .returned (.bool r)) ∧ Below w.heap.size w w' := by
  have HC := Lib.hid h
  have HG := Lib.hid hg
  have hu22 := run_underlying (P := Try.prog) Try.underlying22
  unfold maxLen at hl
  clear h hg
  go_enter Try.func7, Try.ntmps7
  go_wp2
  go_loopw [3, 4] (RelM l w) (fun _ i _ => 100 - (intOf i).toNat)
  case atStart => exact ⟨0, 0, rfl, rfl, by omega, by omega, 0, rfl⟩
  case round =>
    obtain ⟨k, q, rfl, rfl, hk, hk2, p, rfl⟩ := hrel
    have hbw : Below w.heap.size w w := ⟨rfl, rfl, rfl, Nat.le_refl _, fun _ _ => rfl⟩
    by_cases hlt : k < l.length
    · have hlti : (k : Int) < (l.length : Int) := by omega
      by_cases h100 : k < 100
      · have h100i : (k : Int) < 100 := by omega
        obtain ⟨a, ha⟩ : ∃ a, l[k]? = some a := ⟨l[k], by simp [hlt]⟩
        obtain ⟨b, o, hA, hbs, g0, g1, g2, g3, g4, g5⟩ := acts_at HC.out hbw ha
        subst hA
        have hga := HG.out a (List.mem_of_getElem? ha)
        obtain ⟨x1, hx1⟩ : ∃ x1, x1 = a.b.length := ⟨_, rfl⟩
        rw [← hx1] at g4
        clear hga ha hx1 g0 g1 g5 hbw
        by_cases hbig : (6000 : Int) < wrap64 (wrap64 (wrap64 (q + (x1 : Int)) + (a.name.size : Int)) + (a.to.size : Int))
        · have hd : decide ((6000 : Int) < wrap64 (wrap64 (wrap64 (q + (x1 : Int)) + (a.name.size : Int)) + (a.to.size : Int))) = true := by simpa using hbig
          go_wp2_with fail
          go_quiet (fail)
          go_wp2
          go_ret
          exact ⟨⟨true, rfl⟩, ⟨rfl, rfl, rfl, Nat.le_refl _, fun _ _ => rfl⟩⟩
        · have hd : decide ((6000 : Int) < wrap64 (wrap64 (wrap64 (q + (x1 : Int)) + (a.name.size : Int)) + (a.to.size : Int))) = false := by simpa using hbig
          go_wp2_with fail
          go_quiet (fail)
          go_wp2
          go_roundw
          case rel => exact ⟨k + 1, _, rfl, by go_num, by omega, by omega, _, rfl⟩
          case measure => simp [intOf]; omega
      · have hd : decide ((k : Int) < 100) = false := by simp; omega
        go_wp2
        go_ret
        exact ⟨⟨_, rfl⟩, ⟨rfl, rfl, rfl, Nat.le_refl _, fun _ _ => rfl⟩⟩
    · have hd : decide ((k : Int) < (l.length : Int)) = false := by simp; omega
      go_wp2
      go_ret
      exact ⟨⟨_, rfl⟩, ⟨rfl, rfl, rfl, Nat.le_refl _, fun _ _ => rfl⟩⟩
end Go.Proofs.Ytpnlgmnlanoncaa
