/-
  The order of texts, plain, and the contract of the document's Less. Conditions: strings of at most reachBytes.
-/
import Derived.Test.YtpnlgmnlanoncaaBase
import Derived.Deep.QuietTactic
import Derived.BigQuiet
namespace Go.Proofs.Ytpnlgmnlanoncaa
open Go.ChangeShapes Go.WideShapes Go.ChangeAt Go.RowKit
set_option linter.unusedVariables false

def ltT : List Int → List Int → Bool
  | [], [] => false
  | [], _ :: _ => true
  | _ :: _, [] => false
  | x :: a, y :: b => if x = y then ltT a b else decide (x < y)
theorem ltT_irrefl : ∀ a, ltT a a = false
  | [] => rfl
  | x :: a => by simp [ltT, ltT_irrefl a]
theorem ltT_asymm : ∀ a b, ltT a b = true → ltT b a = false
  | [], [], h => by simp [ltT] at h
  | [], _ :: _, _ => rfl
  | _ :: _, [], h => by simp [ltT] at h
  | x :: a, y :: b, h => by
    unfold ltT at h ⊢
    by_cases e : x = y
    · subst e; simp only [if_true] at h ⊢; exact ltT_asymm a b h
    · rw [if_neg e] at h
      rw [if_neg (fun e' => e e'.symm)]
      simp at h ⊢
      omega
theorem ltT_total : ∀ a b, ltT a b = false → ltT b a = false → a = b
  | [], [], _, _ => rfl
  | [], _ :: _, h, _ => by simp [ltT] at h
  | _ :: _, [], _, h => by simp [ltT] at h
  | x :: a, y :: b, h1, h2 => by
    unfold ltT at h1 h2
    by_cases e : x = y
    · subst e
      simp only [if_true] at h1 h2
      rw [ltT_total a b h1 h2]
    · rw [if_neg e] at h1
      rw [if_neg (fun e' => e e'.symm)] at h2
      simp at h1 h2
      omega
/-- At the first place where they differ. -/
theorem ltT_at : ∀ (k : Nat) (a b : List Int), a.take k = b.take k → ∀ x y, a[k]? = some x → b[k]? = some y → x ≠ y → ltT a b = decide (x < y)
  | 0, x' :: a, y' :: b, _, x, y, hx, hy, hne => by
    simp at hx hy
    subst hx hy
    unfold ltT
    rw [if_neg hne]
  | k + 1, x' :: a, y' :: b, h, x, y, hx, hy, hne => by
    simp only [List.take_succ_cons, List.cons.injEq] at h
    simp only [List.getElem?_cons_succ] at hx hy
    obtain ⟨rfl, h⟩ := h
    unfold ltT
    rw [if_pos rfl]
    exact ltT_at k a b h x y hx hy hne
  | _, [], _, _, _, _, hx, _, _ => by simp at hx
  | _, _ :: _, [], _, _, _, _, hy, _ => by simp at hy
/-- Where one is a beginning of the other. -/
theorem ltT_prefix : ∀ (a b : List Int), (a.take b.length = b.take a.length) → ltT a b = decide (a.length < b.length)
  | [], [], _ => rfl
  | [], _ :: _, _ => by simp [ltT]
  | _ :: _, [], _ => by simp [ltT]
  | x :: a, y :: b, h => by
    simp only [List.length_cons, List.take_succ_cons, List.cons.injEq] at h
    obtain ⟨rfl, h⟩ := h
    unfold ltT
    rw [if_pos rfl, ltT_prefix a b h]
    simp
theorem ltT_trans : ∀ a b c, ltT a b = true → ltT b c = true → ltT a c = true
  | [], [], _, h, _ => by simp [ltT] at h
  | [], _ :: _, [], _, h => by simp [ltT] at h
  | [], _ :: _, _ :: _, _, _ => rfl
  | _ :: _, [], _, h, _ => by simp [ltT] at h
  | _ :: _, _ :: _, [], _, h => by simp [ltT] at h
  | x :: a, y :: b, z :: c, h, k => by
    unfold ltT at h k ⊢
    by_cases e : x = y
    · subst e
      by_cases e2 : x = z
      · subst e2; simp only [if_true] at h k ⊢; exact ltT_trans a b c h k
      · simp only [if_true] at h
        rw [if_neg e2] at k ⊢; exact k
    · rw [if_neg e] at h
      by_cases e2 : y = z
      · subst e2; rw [if_neg e]; exact h
      · rw [if_neg e2] at k
        simp only [decide_eq_true_eq] at h k
        rw [if_neg (by omega)]
        simp only [decide_eq_true_eq]; omega
/-- Bytes as numbers. -/
def nums (l : List UInt8) : List Int := l.map fun b => (b.toNat : Int)
theorem sl_nums (s : ByteArray) : sl s = nums s.data.toList := rfl
theorem nums_inj : ∀ {a b : List UInt8}, nums a = nums b → a = b
  | [], [], _ => rfl
  | [], _ :: _, h => by simp [nums] at h
  | _ :: _, [], h => by simp [nums] at h
  | x :: a, y :: b, h => by
    simp only [nums, List.map_cons, List.cons.injEq] at h
    have h1 : x = y := UInt8.toNat_inj.1 (by omega)
    rw [h1, nums_inj (a := a) (b := b) h.2]
theorem ltT_cons {x y : UInt8} {a b : List UInt8} : ltT (nums (x :: a)) (nums (y :: b)) = if x = y then ltT (nums a) (nums b) else decide (x < y) := by
  show (if (x.toNat : Int) = (y.toNat : Int) then ltT (nums a) (nums b) else decide ((x.toNat : Int) < (y.toNat : Int))) = _
  by_cases h : x = y
  · subst h; simp
  · have h1 : ¬ (x.toNat : Int) = (y.toNat : Int) := fun e => h (UInt8.toNat_inj.1 (by omega))
    rw [if_neg h1, if_neg h]
    exact decide_eq_decide.2 (by rw [UInt8.lt_iff_toNat_lt]; omega)
theorem ltT_list : ∀ (a b : List UInt8), ltT (nums a) (nums b) = decide (a < b)
  | [], [] => by simp [nums, ltT]
  | [], _ :: _ => by simp [nums, ltT]
  | _ :: _, [] => by simp [nums, ltT]
  | x :: a, y :: b => by
    rw [ltT_cons, ltT_list a b]
    by_cases h : x = y
    · subst h
      rw [if_pos rfl]
      exact decide_eq_decide.2 (by simp)
    · rw [if_neg h]
      exact decide_eq_decide.2 (by simp [List.cons_lt_cons_iff, h])
theorem toList_inj {a b : ByteArray} (h : a.toList = b.toList) : a = b := ByteArray.ext (Array.toList_inj.1 (by rw [ByteArray.toList_eq, ByteArray.toList_eq] at h; exact h))
theorem toList_beq_false {a b : ByteArray} (h : a ≠ b) : (a.toList == b.toList) = false := by
  rw [beq_eq_false_iff_ne]; exact fun e => h (toList_inj e)

/-- The loop of Less: the first k bytes are the same. -/
def RelK (a b : ByteArray) (w : World) (i : Value) (wr : World) : Prop := ∃ k : Nat, i = .int .i64 k ∧ k ≤ a.size ∧ k ≤ b.size ∧ (sl a).take k = (sl b).take k ∧ ∃ q, wr = w.drewN q
theorem sl_at (a : ByteArray) (k : Nat) (h : k < a.size) : (sl a)[k]? = some ((a[k].toNat : Nat) : Int) := by
  have : k < a.data.toList.length := by simpa using h
  simp only [sl, List.getElem?_map, List.getElem?_eq_getElem this]
  rfl

set_option maxRecDepth 20000 in
set_option maxHeartbeats 2000000 in
theorem less_calls (a b : ByteArray) (w : World) (ha : a.size ≤ reachBytes) (hb : b.size ≤ reachBytes) : Calls Try.prog 51 #[.string a, .string b] w fun e w' => e = .returned (.bool (ltT (sl a) (sl b))) ∧ ∃ q, w' = w.drewN q := by
  have ha2 : a.size ≤ 140737488351232 := ha
  have hb2 : b.size ≤ 140737488351232 := hb
  clear ha hb
  obtain ⟨r, hr⟩ : ∃ r, r = ltT (sl a) (sl b) := ⟨_, rfl⟩
  rw [← hr]
  have HR := Lib.hid hr
  clear hr
  go_enter Try.func51, Try.ntmps51
  go_wp2
  go_loopw [5] (RelK a b w) (fun i _ => a.size - (intOf i).toNat)
  case atStart => exact ⟨0, rfl, by omega, by omega, by simp, 0, rfl⟩
  case round =>
    obtain ⟨k, rfl, hka, hkb, htk, q, rfl⟩ := hrel
    have HT := Lib.hid htk
    clear htk
    by_cases hlt : k < a.size ∧ k < b.size
    · obtain ⟨h1, h2⟩ := hlt
      have h1i : (k : Int) < (a.size : Int) := by omega
      have h2i : (k : Int) < (b.size : Int) := by omega
      have HXa := Lib.hid (sl_at a k h1)
      have HXb := Lib.hid (sl_at b k h2)
      by_cases hxy : (a[k].toNat : Int) = (b[k].toNat : Int)
      · have hne : ((a[k].toNat : Int) != (b[k].toNat : Int)) = false := by simp [hxy]
        have HT2 := Lib.hid (show (sl a).take (k + 1) = (sl b).take (k + 1) by rw [List.take_add_one, List.take_add_one, HT.out, HXa.out, HXb.out, hxy])
        clear hxy
        go_wp2_with fail
        go_quiet (fail)
        go_wp2
        go_roundw
        case rel => exact ⟨k + 1, by go_num, by omega, by omega, HT2.out, _, rfl⟩
        case measure => simp [intOf]; omega
      · have hne : ((a[k].toNat : Int) != (b[k].toNat : Int)) = true := by simp; exact fun e => hxy (by omega)
        have HRR := Lib.hid (show r = decide (a[k].toNat < b[k].toNat) by rw [HR.out, ltT_at k _ _ HT.out _ _ HXa.out HXb.out hxy]; exact decide_eq_decide.2 (by omega))
        clear hxy
        go_wp2_with fail
        go_quiet (fail)
        go_wp2_with fail
        go_quiet (fail)
        go_wp2
        go_ret
        exact ⟨by rw [HRR.out]; rfl, _, by rw [World.drewN_drewN, World.drewN_drewN]⟩
    · have HRR := Lib.hid (show r = decide (a.size < b.size) by
        rw [HR.out, ltT_prefix (sl a) (sl b) (by
          rw [sl_length, sl_length]
          rcases Nat.lt_or_ge k a.size with h | h
          · have e : k = b.size := by omega
            rw [← e, HT.out, List.take_of_length_le (by rw [sl_length]; omega), List.take_of_length_le (by rw [sl_length]; omega)]
          · have e : k = a.size := by omega
            rw [← e, ← HT.out, List.take_of_length_le (by rw [sl_length]; omega), List.take_of_length_le (by rw [sl_length]; omega)]), sl_length, sl_length])
      by_cases h1 : k < a.size
      · have h2 : ¬ k < b.size := fun h => hlt ⟨h1, h⟩
        have h1i : decide ((k : Int) < (a.size : Int)) = true := by simp; omega
        have h2i : decide ((k : Int) < (b.size : Int)) = false := by simp; omega
        go_wp2
        go_ret
        exact ⟨by rw [HRR.out]; rfl, q, rfl⟩
      · have h1i : decide ((k : Int) < (a.size : Int)) = false := by simp; omega
        go_wp2
        go_ret
        exact ⟨by rw [HRR.out]; rfl, q, rfl⟩

end Go.Proofs.Ytpnlgmnlanoncaa
