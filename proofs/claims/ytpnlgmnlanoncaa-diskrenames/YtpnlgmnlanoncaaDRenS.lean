/-
  What the calls of DiskRenames make of a disk, plain. Conditions: at most 500 bytes each.
-/
import Derived.Test.YtpnlgmnlanoncaaDLive
namespace Go.Proofs.Ytpnlgmnlanoncaa
set_option linter.unusedVariables false
def nmO : ByteArray := { data := #[111, 117, 116] }
def nmT : ByteArray := { data := #[116, 109, 112] }
theorem bad_o : bad nmO = false := by kernel_rfl
theorem bad_t : bad nmT = false := by kernel_rfl
theorem ot : nlt nmO nmT = true := by kernel_rfl
theorem to_ : nlt nmT nmO = false := by kernel_rfl
theorem ne_ot : nmO ≠ nmT := nlt_ne ot
theorem ne_to : nmT ≠ nmO := (nlt_ne ot).symm
def q1 (o : List Int) : St := ⟨2000, [⟨nmO, o, 0, false⟩], -1, false⟩
def q2 (o : List Int) : St := ⟨2000, [⟨nmO, o, o.length, true⟩], -1, false⟩
def q3 (o f : List Int) (s : Nat) (ev : Bool) : St := ⟨2000, [⟨nmO, o, o.length, true⟩, ⟨nmT, f, s, ev⟩], -1, false⟩
def q5 (f : List Int) (s : Nat) (ev : Bool) : St := ⟨2000, [⟨nmO, f, s, ev⟩], -1, false⟩
theorem rs1 (o : List Int) (h : o.length ≤ 500) : appendS (newS 2000) nmO o = (q1 o, 0) := by
  have e : ¬ ((2000 : Int) - ((total ([] : List Fl) : Nat) : Int) < (o.length : Int)) := by simp [total]; omega
  simp only [appendS, startS, List.any_cons, List.any_nil, bad_o, Bool.or_false, newS, burn, appS]
  simp [fd_nil, e, wi, wo, ins, q1]
theorem rs2 (o : List Int) : syncS (q1 o) nmO = (q2 o, 0) := by
  simp only [syncS, startS, List.any_cons, List.any_nil, bad_o, Bool.or_false, q1, burn, onS]
  simp [fd_cons, wi, wo, ins, q2]
theorem rs3 (o f : List Int) (h : o.length ≤ 500) (k : f.length ≤ 500) : appendS (q2 o) nmT f = (q3 o f 0 false, 0) := by
  have e : ¬ ((2000 : Int) - ((total [(⟨nmO, o, o.length, true⟩ : Fl)] : Nat) : Int) < (f.length : Int)) := by simp only [total]; omega
  simp only [appendS, startS, List.any_cons, List.any_nil, bad_t, Bool.or_false, q2, burn, appS]
  simp [fd_cons, fd_nil, wi, wo, ins, q3, ne_ot, to_]
  simpa using e
theorem rs4 (o f : List Int) : syncS (q3 o f 0 false) nmT = (q3 o f f.length true, 0) := by
  simp only [syncS, startS, List.any_cons, List.any_nil, bad_t, Bool.or_false, q3, burn, onS]
  simp [fd_cons, wi, wo, ins, ne_ot, to_]
theorem rs5 (o f : List Int) (s : Nat) (ev : Bool) : renameS (q3 o f s ev) nmT nmO = (q5 f s ev, 0) := by
  simp only [renameS, startS, List.any_cons, List.any_nil, bad_t, bad_o, Bool.or_false, q3, burn, onS]
  simp [fd_cons, wi, wo, ins, q5, ne_ot]
theorem rs6 (f : List Int) (s : Nat) (ev : Bool) (k : Int) : crashS (q5 f s ev) [k] = ⟨2000, crashO ⟨nmO, f, s, ev⟩ k, -1, false⟩ := by
  simp [crashS, armS, q5, crashN]
theorem rs7 (f : List Int) (s : Nat) (ev : Bool) (k : Int) : readS ⟨2000, crashO ⟨nmO, f, s, ev⟩ k, -1, false⟩ nmT = ([], 6) := by
  have e : fd Fl.name (crashO ⟨nmO, f, s, ev⟩ k) nmT = none := by
    unfold crashO
    split
    · rw [fd_cons, fd_nil]; exact if_neg ne_ot
    · rfl
  unfold readS
  rw [if_neg (by rw [bad_t]; simp)]
  simp only [e]
/-- What is left of the file: all of it where it was synced, else what is kept. -/
theorem rs8 (f : List Int) (k : Int) : readS ⟨2000, crashO ⟨nmO, f, f.length, true⟩ k, -1, false⟩ nmO = (f, 0) := by
  unfold readS crashO
  rw [if_neg (by rw [bad_o]; simp), if_pos (by simp [crash1])]
  rw [show fd Fl.name [crash1 ⟨nmO, f, f.length, true⟩ k] nmO = some (crash1 ⟨nmO, f, f.length, true⟩ k) by rw [fd_cons]; exact if_pos rfl]
  simp [crash1, keptN]
theorem rs9 (f : List Int) (k : Int) (n : Nat) (hn : n = min (max k 0).toNat f.length) (h0 : 0 < n) : readS ⟨2000, crashO ⟨nmO, f, 0, false⟩ k, -1, false⟩ nmO = (f.take n, 0) := by
  have e : keptN ⟨nmO, f, 0, false⟩ k = n := by rw [hn]; simp [keptN]
  unfold readS crashO
  rw [if_neg (by rw [bad_o]; simp), if_pos (by simp [crash1, e, h0])]
  rw [show fd Fl.name [crash1 ⟨nmO, f, 0, false⟩ k] nmO = some (crash1 ⟨nmO, f, 0, false⟩ k) by rw [fd_cons]; exact if_pos rfl]
  simp [crash1, e]
theorem rs10 (f : List Int) (k : Int) (h0 : min (max k 0).toNat f.length = 0) : readS ⟨2000, crashO ⟨nmO, f, 0, false⟩ k, -1, false⟩ nmO = ([], 6) := by
  have e : keptN ⟨nmO, f, 0, false⟩ k = 0 := by simpa [keptN] using h0
  unfold readS crashO
  rw [if_neg (by rw [bad_o]; simp), if_neg (by simp [crash1, e])]
  rfl
end Go.Proofs.Ytpnlgmnlanoncaa
