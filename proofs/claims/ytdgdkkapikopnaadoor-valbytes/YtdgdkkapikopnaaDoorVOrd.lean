/-
  The order of strings: what the model compares by is the order of their bytes; contracts of strings.Compare and of the document Less. No conditions.
-/
import Derived.Deep.QuietTactic
import Derived.BigQuiet
import Derived.Test.YtdgdkkapikopnaaDoorRNums
import Derived.Lib.Bytealg
import Derived.Laws.Cover1
namespace Go.Proofs.YtdgdkkapikopnaaDoor
open Go.ChangeShapes Go.WideShapes Go.ChangeAt Go.RowKit
set_option linter.unusedVariables false
set_option maxRecDepth 20000

/-- Bytes as numbers. -/
def nums (l : List UInt8) : List Int := l.map fun b => (b.toNat : Int)
theorem sl_nums (s : ByteArray) : sl s = nums s.data.toList := rfl
theorem nums_inj : ∀ {a b : List UInt8}, nums a = nums b → a = b
  | [], [], _ => rfl
  | [], _ :: _, h => by simp [nums] at h
  | _ :: _, [], h => by simp [nums] at h
  | x :: a, y :: b, h => by
    simp only [nums, List.map_cons, List.cons.injEq] at h
    have h1 : x = y := UInt8.toNat_inj.1 (by omega)
    rw [h1, nums_inj (a := a) (b := b) h.2]
/-- Less, equal or greater. -/
def cmpT (a b : List Int) : Int := if ltT a b then -1 else if ltT b a then 1 else 0
theorem cmpT_neg (a b : List Int) : cmpT b a = - cmpT a b := by
  unfold cmpT
  by_cases h1 : ltT a b = true
  · have h2 := ltT_asymm a b h1
    simp [h1, h2]
  · have h1' : ltT a b = false := by simpa using h1
    by_cases h2 : ltT b a = true
    · simp [h1', h2]
    · have h2' : ltT b a = false := by simpa using h2
      simp [h1', h2']
theorem cmpT_same (a : List Int) : cmpT a a = 0 := by unfold cmpT; simp [ltT_irrefl]
theorem ltT_cons {x y : UInt8} {a b : List UInt8} : ltT (nums (x :: a)) (nums (y :: b)) = if x = y then ltT (nums a) (nums b) else decide (x < y) := by
  show (if (x.toNat : Int) = (y.toNat : Int) then ltT (nums a) (nums b) else decide ((x.toNat : Int) < (y.toNat : Int))) = _
  by_cases h : x = y
  · subst h; simp
  · have h1 : ¬ (x.toNat : Int) = (y.toNat : Int) := fun e => h (UInt8.toNat_inj.1 (by omega))
    rw [if_neg h1, if_neg h]
    exact decide_eq_decide.2 (by rw [UInt8.lt_iff_toNat_lt]; omega)
theorem compare_cmpT : ∀ (a b : List UInt8), Lib.compareBytes a b = cmpT (nums a) (nums b)
  | [], [] => rfl
  | [], _ :: _ => rfl
  | _ :: _, [] => rfl
  | x :: a, y :: b => by
    have ih := compare_cmpT a b
    unfold Lib.compareBytes
    unfold cmpT at ih ⊢
    rw [ltT_cons, ltT_cons]
    by_cases h : x = y
    · subst h
      simp only [UInt8.lt_irrefl, if_false, if_true]
      exact ih
    · have h' : ¬ y = x := fun e => h e.symm
      by_cases h1 : x < y
      · simp [h1, h]
      · have h2 : y < x := UInt8.lt_of_le_of_ne (UInt8.not_lt.1 h1) (Ne.symm h)
        simp [h1, h2, h, h']
theorem less_ltT : ∀ (a b : List UInt8), Op.bytesLess a b = ltT (nums a) (nums b)
  | [], [] => rfl
  | [], _ :: _ => rfl
  | _ :: _, [] => rfl
  | x :: a, y :: b => by
    rw [ltT_cons]
    have ih := less_ltT a b
    by_cases h : x = y
    · subst h; simp [Op.bytesLess, ih]
    · simp [Op.bytesLess, h]

theorem ext_cmp (a b : ByteArray) (w : World) : (callFunc 69 #[.string a, .string b]).run Tryd.prog w = .ok (.value (.int .i64 (cmpT (sl a) (sl b)))) w := by
  have hf : Tryd.prog.funcs[69]? = some Tryd.f69 := Tryd.func69
  rw [run_callFunc_extern (e := Extern.BytealgCompare.compare) hf (by kernel_rfl) (by kernel_rfl) (by kernel_rfl) (by kernel_rfl), Lib.run_compareString, compare_cmpT]
  rfl
theorem compare_calls (a b : ByteArray) (w : World) : Calls Tryd.prog 35 #[.string a, .string b] w fun e w' => e = .returned (.int .i64 (cmpT (sl a) (sl b))) ∧ w = w' := by
  have hx := ext_cmp a b
  have h46 : ∀ w, Calls Tryd.prog 54 #[.string a, .string b] w fun e w' => e = .returned (.int .i64 (cmpT (sl a) (sl b))) ∧ w = w' := by
    intro w
    go_enter Tryd.func54, Tryd.ntmps54
    go_wp2
    go_ret
    exact ⟨rfl, rfl⟩
  clear hx
  go_enter Tryd.func35, Tryd.ntmps35
  go_wp2_with (go_at_call 54; refine (h46 _).mono ?_; rintro e w' ⟨rfl, rfl⟩)
  go_ret
  exact ⟨rfl, rfl⟩

/-- The loop of Less: the first k bytes are the same. -/
def RelK (a b : ByteArray) (w : World) (i : Value) (wr : World) : Prop := ∃ k : Nat, i = .int .i64 k ∧ k ≤ a.size ∧ k ≤ b.size ∧ (sl a).take k = (sl b).take k ∧ ∃ q, wr = w.drewN q
theorem sl_at (a : ByteArray) (k : Nat) (h : k < a.size) : (sl a)[k]? = some ((a[k].toNat : Nat) : Int) := by
  have : k < a.data.toList.length := by simpa using h
  simp only [sl, List.getElem?_map, List.getElem?_eq_getElem this]
  rfl

set_option maxRecDepth 20000 in
set_option maxHeartbeats 2000000 in
theorem less_calls (a b : ByteArray) (w : World) (ha : a.size ≤ reachBytes) (hb : b.size ≤ reachBytes) : Calls Tryd.prog 36 #[.string a, .string b] w fun e w' => e = .returned (.bool (ltT (sl a) (sl b))) ∧ ∃ q, w' = w.drewN q := by
  have ha2 : a.size ≤ 140737488351232 := ha
  have hb2 : b.size ≤ 140737488351232 := hb
  clear ha hb
  obtain ⟨r, hr⟩ : ∃ r, r = ltT (sl a) (sl b) := ⟨_, rfl⟩
  rw [← hr]
  have HR := Lib.hid hr
  clear hr
  go_enter Tryd.func36, Tryd.ntmps36
  go_wp2
  go_loopw [5] (RelK a b w) (fun i _ => a.size - (intOf i).toNat)
  case atStart => exact ⟨0, rfl, by omega, by omega, by simp, 0, rfl⟩
  case round =>
    obtain ⟨k, rfl, hka, hkb, htk, q, rfl⟩ := hrel
    have HT := Lib.hid htk
    clear htk
    by_cases hlt : k < a.size ∧ k < b.size
    · obtain ⟨h1, h2⟩ := hlt
      have h1i : (k : Int) < (a.size : Int) := by omega
      have h2i : (k : Int) < (b.size : Int) := by omega
      have HXa := Lib.hid (sl_at a k h1)
      have HXb := Lib.hid (sl_at b k h2)
      by_cases hxy : (a[k].toNat : Int) = (b[k].toNat : Int)
      · have hne : ((a[k].toNat : Int) != (b[k].toNat : Int)) = false := by simp [hxy]
        have HT2 := Lib.hid (show (sl a).take (k + 1) = (sl b).take (k + 1) by rw [List.take_add_one, List.take_add_one, HT.out, HXa.out, HXb.out, hxy])
        clear hxy
        go_wp2_with fail
        go_quiet (fail)
        go_wp2
        go_roundw
        case rel => exact ⟨k + 1, by go_num, by omega, by omega, HT2.out, _, rfl⟩
        case measure => simp [intOf]; omega
      · have hne : ((a[k].toNat : Int) != (b[k].toNat : Int)) = true := by simp; exact fun e => hxy (by omega)
        have HRR := Lib.hid (show r = decide (a[k].toNat < b[k].toNat) by rw [HR.out, ltT_at k _ _ HT.out _ _ HXa.out HXb.out hxy]; exact decide_eq_decide.2 (by omega))
        clear hxy
        go_wp2_with fail
        go_quiet (fail)
        go_wp2_with fail
        go_quiet (fail)
        go_wp2
        go_ret
        exact ⟨by rw [HRR.out]; rfl, _, by rw [World.drewN_drewN, World.drewN_drewN]⟩
    · have HRR := Lib.hid (show r = decide (a.size < b.size) by
        rw [HR.out, ltT_prefix (sl a) (sl b) (by
          rw [sl_length, sl_length]
          rcases Nat.lt_or_ge k a.size with h | h
          · have e : k = b.size := by omega
            rw [← e, HT.out, List.take_of_length_le (by rw [sl_length]; omega), List.take_of_length_le (by rw [sl_length]; omega)]
          · have e : k = a.size := by omega
            rw [← e, ← HT.out, List.take_of_length_le (by rw [sl_length]; omega), List.take_of_length_le (by rw [sl_length]; omega)]), sl_length, sl_length])
      by_cases h1 : k < a.size
      · have h2 : ¬ k < b.size := fun h => hlt ⟨h1, h⟩
        have h1i : decide ((k : Int) < (a.size : Int)) = true := by simp; omega
        have h2i : decide ((k : Int) < (b.size : Int)) = false := by simp; omega
        go_wp2
        go_ret
        exact ⟨by rw [HRR.out]; rfl, q, rfl⟩
      · have h1i : decide ((k : Int) < (a.size : Int)) = false := by simp; omega
        go_wp2
        go_ret
        exact ⟨by rw [HRR.out]; rfl, q, rfl⟩

/-- The order of pairs. -/
def ordP (a b : ByteArray × ByteArray) : Int := if a.1 = b.1 then cmpT (sl a.2) (sl b.2) else cmpT (sl a.1) (sl b.1)
theorem sl_inj {a b : ByteArray} (h : sl a = sl b) : a = b := by rw [← str_sl a, ← str_sl b, h]
theorem ordP_neg (a b : ByteArray × ByteArray) : ordP b a = - ordP a b := by
  unfold ordP
  by_cases h : a.1 = b.1
  · rw [if_pos h, if_pos h.symm]; exact cmpT_neg _ _
  · rw [if_neg h, if_neg (fun e => h e.symm)]; exact cmpT_neg _ _
theorem toList_inj {a b : ByteArray} (h : a.toList = b.toList) : a = b := ByteArray.ext (Array.toList_inj.1 (by rw [ByteArray.toList_eq, ByteArray.toList_eq] at h; exact h))
theorem toList_beq_false {a b : ByteArray} (h : a ≠ b) : (a.toList == b.toList) = false := by
  rw [beq_eq_false_iff_ne]; exact fun e => h (toList_inj e)

/-- Whether each key is greater than the one before it. -/
def upP : List (ByteArray × ByteArray) → Bool
  | a :: b :: r => ltT (sl a.1) (sl b.1) && upP (b :: r)
  | _ => true
theorem upP_stop : ∀ (k : Nat) (ps : List (ByteArray × ByteArray)) (a b : ByteArray × ByteArray), ps[k]? = some a → ps[k + 1]? = some b → ltT (sl a.1) (sl b.1) = false → upP ps = false
  | 0, x :: y :: r, a, b, h1, h2, h => by simp at h1 h2; subst h1 h2; simp [upP, h]
  | k + 1, x :: y :: r, a, b, h1, h2, h => by
    simp only [List.getElem?_cons_succ] at h1
    have := upP_stop k (y :: r) a b h1 (by simpa using h2) h
    simp [upP, this]
  | _, [], _, _, h1, _, _ => by simp at h1
  | k, [x], _, _, _, h2, _ => by simp at h2
theorem upP_all : ∀ (ps : List (ByteArray × ByteArray)), (∀ k a b, ps[k]? = some a → ps[k + 1]? = some b → ltT (sl a.1) (sl b.1) = true) → upP ps = true
  | [], _ => rfl
  | [_], _ => rfl
  | x :: y :: r, h => by
    have h1 := h 0 x y rfl rfl
    have h2 := upP_all (y :: r) (fun k a b ha hb => h (k + 1) a b (by simpa using ha) (by simpa using hb))
    simp [upP, h1, h2]
end Go.Proofs.YtdgdkkapikopnaaDoor
