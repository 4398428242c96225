/-
  Contract of put: the map gets a file under a copy of its name. Conditions: the map is not full, the name has at most 64 bytes.
-/
import Derived.Test.YtpnlgmnlanoncaaDIter
import Derived.Test.YtpnlgmnlanoncaaDBegin
import Derived.BigRegion
namespace Go.Proofs.Ytpnlgmnlanoncaa
open Go.ChangeShapes Go.WideShapes Go.ChangeAt Go.RowKit
set_option linter.unusedVariables false

theorem put_runs {w : World} {bm n : Nat} {D : DataW Value} (hown : w.ownsMap Try.prog 9 keep bm n D) (hn : n < maxLen) (s : ByteArray) (hs : s.size ≤ maxLen) (v : Value) :
    ∃ f : World → World, ∀ W, Below w.heap.size w W → (Instr.mapUpdate 60 (.map (some bm)) (.string s) v).run Try.prog W = .ok () (f W) ∧ (f W).ownsMap Try.prog 9 keep bm (n + 1) (D.put (key s) (.held v)) ∧ W.mapTurned (f W) bm := by
  have h : ∀ W, ∃ w', Below w.heap.size w W → (Instr.mapUpdate 60 (.map (some bm)) (.string s) v).run Try.prog W = .ok () w' ∧ w'.ownsMap Try.prog 9 keep bm (n + 1) (D.put (key s) (.held v)) ∧ W.mapTurned w' bm := fun W => by
    by_cases hb : Below w.heap.size w W
    · have h2 : W.ownsMap Try.prog 9 keep bm n D := by
        have hlt := hown.lt
        obtain ⟨es, cl, h1, r⟩ := hown
        exact ⟨es, cl, (hb.block bm hlt).trans h1, r⟩
      obtain ⟨w', r⟩ := h2.store law9 Try.underlying60 hn (keyOf_key hs) (val := v) (d := .held v) (ps := []) rfl
      exact ⟨w', fun _ => r⟩
    · exact ⟨W, fun h => absurd h hb⟩
  exact ⟨fun W => (h W).choose, fun W => (h W).choose_spec⟩

set_option maxRecDepth 20000 in
set_option maxHeartbeats 2000000 in
theorem put_calls {w : World} {sb bm n : Nat} {D : DataW Value} (c0 : w.cell? ⟨sb, 0, none⟩ = some (.map (some bm))) (hown : w.ownsMap Try.prog 9 keep bm n D) (hn : n < maxLen) (s : ByteArray) (hs : s.size ≤ 64) (p : Nat) :
    Calls Try.prog 30 #[at_ sb, .string s, at_ p] w fun e w' => e = .returned (.tuple #[]) ∧ w'.ownsMap Try.prog 9 keep bm (n + 1) (D.put (key s) (.held (at_ p))) ∧ Touch (fun k => k = bm) w w' := by
  obtain ⟨f, hf⟩ := put_runs hown hn s (by unfold maxLen; omega) (at_ p)
  have hlt := block_lt_of_cell c0
  have HF := Lib.hid hf
  have hrun : ∀ W, Below w.heap.size w W → (Instr.mapUpdate 60 (.map (some bm)) (.string s) (.pointer (some ⟨p, 0, none⟩))).run Try.prog W = .ok () (f W) := fun W hW => (hf W hW).1
  have HC := fun W => Lib.hid (sclone_calls s W (by omega))
  clear hf hown
  unfold at_
  go_enter Try.func30, Try.ntmps30
  go_wp2_with fail
  go_region_with (go_at_call 42; refine ((HC _).out).mono ?_; rintro e w1 ⟨rfl, hb1⟩; have hb2 : Below w.heap.size w w1 := ⟨hb1.os, hb1.tape, hb1.output, hb1.size, hb1.block⟩; have hr1 := hrun w1 hb2; have hc1 := (hb2.cell (p := ⟨sb, 0, none⟩) hlt).trans c0)
  all_goals
    refine bodyPost_end (results_none rfl _ _ _) rfl ?_
    have h := HF.out w1 hb2
    exact ⟨rfl, h.2.1, (Touch.of_below hb2).more (Touch.turned h.2.2 rfl)⟩
end Go.Proofs.Ytpnlgmnlanoncaa
