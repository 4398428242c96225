/-
  The bytes of a value, and the value of any bytes, by the document; a value is got back. Plain, of no program. Conditions: as in the premises.
-/
import Derived.Test.YtdgdkkapikopnaaDoorNPlain
import Derived.Test.YtdgdkkapikopnaaDoorRNums
namespace Go.Proofs.YtdgdkkapikopnaaDoor
open Go.ChangeShapes Go.WideShapes Go.ChangeAt Go.RowKit
set_option linter.unusedVariables false
def v0 : Vl := ⟨0, 0, ⟨#[]⟩⟩
def encV (a : Vl) : List Int := if a.k = 0 then 0 :: enc (zig a.n) else 1 :: encT (sl a.s)
def getV (l : List Int) (i : Int) : Vl × Int × Int :=
  if i < 0 ∨ (l.length : Int) < i then (v0, 0, 8)
  else if i = l.length then (v0, 0, 2)
  else if l.getD i.toNat 0 = 0 then (⟨0, (getI l (i + 1)).1, ⟨#[]⟩⟩, (getI l (i + 1)).2.1, (getI l (i + 1)).2.2)
  else if l.getD i.toNat 0 = 1 then (if (getT l (i + 1) 65536).2.2 = 0 then (⟨1, 0, str (getT l (i + 1) 65536).1⟩, (getT l (i + 1) 65536).2.1, 0) else (v0, 0, (getT l (i + 1) 65536).2.2))
  else (v0, 0, 3)
theorem encV_isB (a : Vl) (h0 : -9223372036854775808 ≤ a.n) (h1 : a.n ≤ 9223372036854775807) (hs : a.s.size ≤ 1000000) : IsB (encV a) := by
  unfold encV
  split
  · have hz := zig_range a.n h0 h1
    intro x hx
    rcases List.mem_cons.1 hx with rfl | hx
    · omega
    · exact enc_bytes _ hz.1 hz.2 x hx
  · intro x hx
    rcases List.mem_cons.1 hx with rfl | hx
    · omega
    · exact encT_isB (sl a.s) (sl_bytes _) (by rw [sl_length]; exact hs) x hx
theorem encV_length (a : Vl) : (encV a).length ≤ 10 + a.s.size := by
  unfold encV
  split
  · have := vlen_le (zig a.n)
    rw [List.length_cons, enc_length]; omega
  · have := vlen_le ((sl a.s).length : Int)
    rw [List.length_cons, encT_length]
    rw [sl_length] at *; omega
theorem getV_back (b : List Int) (a : Vl) (h0 : -9223372036854775808 ≤ a.n) (h1 : a.n ≤ 9223372036854775807) (hs : a.s.size ≤ 65536) :
    getV (b ++ encV a) b.length = (plainV a, ((b ++ encV a).length : Int), 0) := by
  unfold getV plainV
  by_cases hk : a.k = 0
  · have hz := zig_range a.n h0 h1
    have he : encV a = 0 :: enc (zig a.n) := by unfold encV; rw [if_pos hk]
    have hp := vlen_pos (zig a.n)
    have hlen : (b ++ encV a).length = b.length + 1 + vlen (zig a.n) := by rw [he]; simp [enc_length]; omega
    have hx : (b ++ encV a).getD b.length 0 = 0 := by rw [he]; simp
    have hg : getS (b ++ encV a) ((b.length : Int) + 1) = (zig a.n, ((b ++ encV a).length : Int), 0) := by
      have h9 := get_back (b ++ [0]) [] (zig a.n) hz.1 hz.2
      rw [List.append_nil, List.append_assoc, List.singleton_append, ← he] at h9
      have e1 : (((b ++ [0]).length : Nat) : Int) = (b.length : Int) + 1 := by simp
      rw [e1] at h9
      rw [h9, hlen]
      exact Prod.ext rfl (Prod.ext (by show _ = _; push_cast; omega) rfl)
    have hi : getI (b ++ encV a) ((b.length : Int) + 1) = (a.n, ((b ++ encV a).length : Int), 0) := by
      unfold getI; rw [hg, if_pos rfl, zag_zig]
    rw [if_neg (by omega), if_neg (by omega), Int.toNat_natCast, hx, if_pos rfl, hi, if_pos hk]
  · have he : encV a = 1 :: encT (sl a.s) := by unfold encV; rw [if_neg hk]
    have hlen : (b ++ encV a).length = b.length + 1 + (encT (sl a.s)).length := by rw [he]; simp; omega
    have hx : (b ++ encV a).getD b.length 0 = 1 := by rw [he]; simp
    have hg : getT (b ++ encV a) ((b.length : Int) + 1) 65536 = (sl a.s, ((b ++ encV a).length : Int), 0) := by
      have h9 := getT_back (b ++ [1]) (sl a.s) [] 65536 (by rw [sl_length]; omega) (by rw [sl_length]; omega)
      rw [List.append_nil, List.append_assoc, List.singleton_append, ← he] at h9
      have e1 : (((b ++ [1]).length : Nat) : Int) = (b.length : Int) + 1 := by simp
      rw [e1] at h9
      rw [h9, hlen, show (b ++ [(1 : Int)]).length = b.length + 1 by simp]
    rw [if_neg (by omega), if_neg (by omega), Int.toNat_natCast, hx, if_neg (by omega), if_pos rfl, hg, if_pos rfl, if_neg hk, str_sl]
theorem ordV_plain (a : Vl) : decide (ordV (plainV a) a = 0) = true := by
  apply decide_eq_true
  unfold ordV plainV
  by_cases hk : a.k = 0
  · simp only [hk, if_true]
    unfold cmpI; rw [if_neg (by omega), if_neg (by omega)]
  · simp only [hk, if_false]
    rw [if_neg (by omega)]
    exact cmpT_same _
end Go.Proofs.YtdgdkkapikopnaaDoor
