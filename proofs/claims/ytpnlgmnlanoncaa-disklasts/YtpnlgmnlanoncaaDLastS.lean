/-
  What the calls of DiskLasts make of a disk, plain. Conditions: at most 500 bytes.
-/
import Derived.Test.YtpnlgmnlanoncaaDLive
namespace Go.Proofs.Ytpnlgmnlanoncaa
set_option linter.unusedVariables false
def nmL : ByteArray := { data := #[108, 111, 103] }
theorem bad_l : bad nmL = false := by kernel_rfl
theorem start_free {d : St} {ss : List ByteArray} {k : St → St × Int} (h : d.left < 0) (hb : ss.any bad = false) : startS d ss k = k d := by
  have h1 : ¬ d.left = 0 := by omega
  have h2 : ¬ 0 < d.left := by omega
  simp [startS, hb, h1, h2, burn]
def lf (b : List Int) (a s : Nat) (ev : Bool) : St := ⟨1000, [⟨nmL, b.take a, s, ev⟩], -1, false⟩
theorem ls1 (b : List Int) (n : Nat) (h : b.length ≤ 500) : appendS (newS 1000) nmL ((b.drop 0).take n) = (lf b (0 + n) 0 false, 0) := by
  have hl : ((b.drop 0).take n).length ≤ 500 := by rw [List.length_take, List.length_drop]; omega
  have e : ¬ ((1000 : Int) - ((total ([] : List Fl) : Nat) : Int) < (((b.drop 0).take n).length : Int)) := by simp only [total]; omega
  unfold appendS
  rw [start_free (by decide) (by simp [bad_l])]
  unfold appS newS
  rw [if_neg e]
  simp [fd_nil, wi, wo, ins, lf]
theorem ls2 (b : List Int) (a s n : Nat) (ev : Bool) (h : b.length ≤ 500) : appendS (lf b a s ev) nmL ((b.drop a).take n) = (lf b (a + n) s ev, 0) := by
  have hl : ((b.drop a).take n).length ≤ 500 := by rw [List.length_take, List.length_drop]; omega
  have hl2 : (b.take a).length ≤ 500 := by rw [List.length_take]; omega
  have e : ¬ ((1000 : Int) - ((total [(⟨nmL, b.take a, s, ev⟩ : Fl)] : Nat) : Int) < (((b.drop a).take n).length : Int)) := by simp only [total]; omega
  unfold appendS
  rw [start_free (by show (-1 : Int) < 0; decide) (by simp [bad_l])]
  unfold appS lf
  rw [if_neg e]
  simp [fd_cons, wi, wo, ins, List.take_add]
theorem ls3 (b : List Int) (a s : Nat) (ev : Bool) (ha : a ≤ b.length) : syncS (lf b a s ev) nmL = (lf b a a true, 0) := by
  simp only [syncS, startS, List.any_cons, List.any_nil, bad_l, Bool.or_false, lf, burn, onS]
  simp [fd_cons, wi, wo, ins, Nat.min_eq_left ha]
theorem ls4 (k : Int) : readS (crashS (newS 1000) [k]) nmL = ([], 6) := by
  simp [crashS, armS, newS, crashN, readS, bad_l, fd_nil]
theorem ls5 (b : List Int) (a s : Nat) (ev : Bool) (ha : a ≤ b.length) (hs : s ≤ a) (hev : ev = false → s = 0) (k : Int) : ∃ n, s ≤ n ∧ n ≤ a ∧ ((readS (crashS (lf b a s ev) [k]) nmL = (b.take n, 0)) ∨ (readS (crashS (lf b a s ev) [k]) nmL = ([], 6) ∧ s = 0)) := by
  have hl : (b.take a).length = a := by rw [List.length_take]; omega
  have e : crashS (lf b a s ev) [k] = ⟨1000, crashO ⟨nmL, b.take a, s, ev⟩ k, -1, false⟩ := by simp [crashS, armS, lf, crashN]
  have hk := keptN_le ⟨nmL, b.take a, s, ev⟩ k (by show s ≤ (b.take a).length; omega)
  simp only at hk
  rw [hl] at hk
  refine ⟨keptN ⟨nmL, b.take a, s, ev⟩ k, hk.2, hk.1, ?_⟩
  rw [e]
  unfold readS crashO
  rw [if_neg (by rw [bad_l]; simp)]
  by_cases hc : (crash1 ⟨nmL, b.take a, s, ev⟩ k).ever = true
  · left
    rw [if_pos hc]
    rw [show fd Fl.name [crash1 ⟨nmL, b.take a, s, ev⟩ k] nmL = some (crash1 ⟨nmL, b.take a, s, ev⟩ k) by rw [fd_cons]; exact if_pos rfl]
    simp only [crash1, List.take_take]
    rw [Nat.min_eq_left hk.1]
  · right
    rw [if_neg hc]
    refine ⟨rfl, ?_⟩
    simp [crash1] at hc
    exact hev hc.1
end Go.Proofs.Ytpnlgmnlanoncaa
