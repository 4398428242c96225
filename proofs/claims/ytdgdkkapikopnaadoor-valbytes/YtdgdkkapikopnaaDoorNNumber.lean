/-
  Contract of the program's Number. Conditions: the text is as long as an input can be; strconv.ErrRange reads as an error.
-/
import Derived.Test.YtdgdkkapikopnaaDoorNTrim
import Derived.Test.YtdgdkkapikopnaaDoorShelf
import Derived.Test.YtdgdkkapikopnaaDoorVOrd
namespace Go.Proofs.YtdgdkkapikopnaaDoor
open Go.ChangeShapes Go.WideShapes Go.ChangeAt Go.RowKit
set_option linter.unusedVariables false
set_option maxRecDepth 20000
/-- strconv.ErrRange reads as an error in this world and in each later one. -/
def ErrV (w : World) : Prop := ∃ (tp : TypeId) (p : Value), ∀ V, Below w.heap.size w V → V.var? Tryd.prog "strconv.ErrRange" = some #[.iface tp p]
set_option maxHeartbeats 2000000 in
theorem number_calls (s : ByteArray) (hs : s.size ≤ reachBytes) (w : World) (hv : ErrV w) : Calls Tryd.prog 15 #[.string s] w fun e w' => e = .returned (.tuple #[.int .i64 (numD s.data.toList).1, .int .i64 (numD s.data.toList).2]) ∧ Below w.heap.size w w' := by
  have hs2 : s.size ≤ 140737488351232 := hs
  obtain ⟨t, ht⟩ : ∃ t : ByteArray, t = ⟨(digitsOf s.data.toList).toArray⟩ := ⟨_, rfl⟩
  have HTP := Lib.hid (show ∀ V, Calls Tryd.prog 37 #[.string s, .string ⟨#[45]⟩] V fun e w' => e = .returned (.string t) ∧ w' = V from fun V => by
    rw [ht, ← trim_minus]
    exact Tryd.strings_TrimPrefix s ⟨#[45]⟩ V)
  obtain ⟨tp, p, hvv⟩ := hv
  by_cases h0 : digitsOf s.data.toList = []
  · have hn : numD s.data.toList = (0, 3) := by unfold numD; rw [if_pos (.inl h0)]
    rw [hn]
    have ht0 : t = ⟨#[]⟩ := by rw [ht, h0]
    subst ht0
    clear ht hvv
    go_enter Tryd.func15, Tryd.ntmps15
    go_wp2_with (go_at_call 37; refine (HTP.out _).mono ?_; rintro e w1 ⟨rfl, h1⟩; subst w1)
    go_ret2
    exact ⟨rfl, Below.refl _ _⟩
  · have hne : t ≠ ⟨#[]⟩ := fun h => h0 (by have h9 := congrArg (fun x : ByteArray => x.data.toList) h; rw [ht] at h9; simpa using h9)
    have htl : t.toList = digitsOf s.data.toList := by rw [ByteArray.toList_eq, ht]
    have hb0' : ¬ t.toList = [] := by rw [htl]; exact h0
    have hb0 : t.toList.isEmpty = false := by rw [htl]; simpa using h0
    have hts : t.size ≤ 9223372036854775807 := by
      have h9 : (digitsOf s.data.toList).length ≤ s.data.toList.length := by
        cases s.data.toList with
        | nil => exact Nat.le_refl _
        | cons c r =>
          show (if c.toNat = 45 then r else c :: r).length ≤ _
          split <;> simp
      have h8 : s.data.toList.length = s.size := by simp
      rw [ht]
      show (digitsOf s.data.toList).toArray.size ≤ _
      rw [List.size_toArray]
      omega
    have HTR := Lib.hid (show ∀ V, Calls Tryd.prog 38 #[.string t, .string ⟨#[48, 49, 50, 51, 52, 53, 54, 55, 56, 57]⟩] V fun e w' => e = .returned (.string ⟨(Lib.trimS (digitsOf s.data.toList) digs).toArray⟩) ∧ Below V.heap.size V w' from fun V => by
      have h9 := Tryd.strings_Trim_ascii t ⟨#[48, 49, 50, 51, 52, 53, 54, 55, 56, 57]⟩ V hts (by decide) (fun j b hb => by
        have : b ∈ digs := List.mem_of_getElem? hb
        revert this
        unfold digs
        simp only [List.mem_cons, List.not_mem_nil, or_false]
        rintro (rfl | rfl | rfl | rfl | rfl | rfl | rfl | rfl | rfl | rfl) <;> decide)
      rw [show t.data.toList = digitsOf s.data.toList by rw [ht]] at h9
      exact h9)
    obtain ⟨r, hr⟩ : ∃ r : ByteArray, r = ⟨(Lib.trimS (digitsOf s.data.toList) digs).toArray⟩ := ⟨_, rfl⟩
    rw [← hr] at HTR
    cases h1 : (digitsOf s.data.toList).all isDig with
    | false =>
      have hn : numD s.data.toList = (0, 3) := by unfold numD; rw [if_pos (.inr h1)]
      rw [hn]
      have hrne : r ≠ ⟨#[]⟩ := fun h => by
        have h9 := congrArg (fun x : ByteArray => x.data.toList) h
        rw [hr] at h9
        have h8 := (trim_empty _).1 (by simpa using h9)
        rw [h1] at h8; cases h8
      have hrl : r.toList = Lib.trimS (digitsOf s.data.toList) digs := by rw [ByteArray.toList_eq, hr]
      have hb1' : ¬ r.toList = [] := by rw [hrl]; exact fun h => by have h8 := (trim_empty _).1 h; rw [h1] at h8; cases h8
      have hb1 : r.toList.isEmpty = false := by simpa using hb1'
      clear ht hvv hr hne hrne h0 h1 hn hts htl hrl
      go_enter Tryd.func15, Tryd.ntmps15
      go_wp2_with (first | (go_at_call 37; refine (HTP.out _).mono ?_; rintro e w1 ⟨rfl, h1⟩; subst w1) | (go_at_call 38; refine (HTR.out _).mono ?_; rintro e w2 ⟨rfl, hb2⟩; have HB2 := Lib.hid hb2; clear hb2))
      go_ret2
      exact ⟨rfl, HB2.out⟩
    | true =>
      have hrl : r.toList = [] := by rw [ByteArray.toList_eq, hr]; exact (trim_empty _).2 h1
      have hb1 : r.toList.isEmpty = true := by rw [hrl]; rfl
      have hat := atoi_num s.data.toList h0 h1
      have hn : numD s.data.toList = match Lib.atoiAll s.data.toList with | .ok v => (v, 0) | _ => (0, 8) := by
        rw [hat]
        unfold numD
        rw [if_neg (fun h => by rcases h with h | h; exact h0 h; rw [h1] at h; cases h)]
        by_cases hm : minusOf s.data.toList = true
        · rw [if_pos hm, if_pos hm]
          by_cases h2 : dval 0 (digitsOf s.data.toList) ≤ 9223372036854775808
          · rw [if_pos h2, if_pos h2]
          · rw [if_neg h2, if_neg h2]
        · rw [if_neg hm, if_neg hm]
          by_cases h2 : dval 0 (digitsOf s.data.toList) < 9223372036854775808
          · rw [if_pos h2, if_pos h2]
          · rw [if_neg h2, if_neg h2]
      rw [hn]
      cases hA : Lib.atoiAll s.data.toList with
      | «syntax» =>
        rw [hA] at hat
        exfalso
        split at hat <;> split at hat <;> cases hat
      | ok v =>
        have HAT := Lib.hid (fun V => Tryd.strconv_Atoi_ok s (by omega) v hA V)
        clear ht hvv hr hne h0 h1 hn hts htl hrl hat hA
        dsimp only
        go_enter Tryd.func15, Tryd.ntmps15
        go_wp2_with (first | (go_at_call 37; refine (HTP.out _).mono ?_; rintro e w1 ⟨rfl, h1⟩; subst w1) | (go_at_call 38; refine (HTR.out _).mono ?_; rintro e w2 ⟨rfl, hb2⟩; have HB2 := Lib.hid hb2; clear hb2) | (go_at_call 39; refine (HAT.out _).mono ?_; rintro e w3 ⟨rfl, hb3⟩; have HB3 := Lib.hid hb3; clear hb3))
        go_ret2
        refine ⟨rfl, ?_⟩
        rcases HB3.out with rfl | ⟨q, rfl⟩
        · exact HB2.out
        · exact HB2.out.trans ((Lib.bytesWorld_below _ _ _).mono HB2.out.size)
      | range =>
        have HAT := Lib.hid (fun V (hV : Below w.heap.size w V) => Tryd.strconv_Atoi_range_var s (by omega) hA tp p V (hvv V hV))
        clear ht hvv hr hne h0 h1 hn hts htl hrl hat hA
        dsimp only
        go_enter Tryd.func15, Tryd.ntmps15
        go_wp2_with (first | (go_at_call 37; refine (HTP.out _).mono ?_; rintro e w1 ⟨rfl, h1⟩; subst w1) | (go_at_call 38; refine (HTR.out _).mono ?_; rintro e w2 ⟨rfl, hb2⟩; have HB2 := Lib.hid hb2; clear hb2) | (go_at_call 39; refine (HAT.out _ HB2.out).mono ?_; rintro e w3 ⟨N, rfl, _, _, hb3⟩; have HB3 := Lib.hid hb3; clear hb3))
        go_ret2
        exact ⟨rfl, HB2.out.trans (HB3.out.mono HB2.out.size)⟩
end Go.Proofs.YtdgdkkapikopnaaDoor
