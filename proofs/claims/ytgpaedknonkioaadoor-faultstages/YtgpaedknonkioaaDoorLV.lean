/-
  Contracts of the document's Tell as a whole, of the law's code and live. Conditions: the table of powers of ten reads as its initialiser lays it.
-/
import Derived.Test.YtgpaedknonkioaaDoorFT
import Derived.Test.YtgpaedknonkioaaDoorFH
import Derived.Test.YtgpaedknonkioaaDoorEZ
namespace Go.Proofs.YtgpaedknonkioaaDoor
open Go.ChangeShapes Go.WideShapes Go.ChangeAt Go.RowKit
set_option linter.unusedVariables false

theorem rtell_calls : ∀ (t : Er) (v : List Value) (w : World), t.ok → IsR w t v → t.wt ≤ 1000000 → Calls Tryd.prog 12 #[.agg v.toArray] w (TellOf w (str t.tell))
  | .num n, v, w, hk, h, hw => by
    obtain rfl := h
    have := rtell_num n 0 hk.1 ⟨#[]⟩ none 0 0 w
    rw [show (⟨#[101, 114, 114, 111, 114, 32]⟩ : ByteArray) = str [101, 114, 114, 111, 114, 32] from rfl, str_append] at this
    exact this
  | .stage s no t, v, w, hk, ⟨q, c, hv, u, hu, hc⟩, hw => by
    subst hv
    simp only [Er.wt] at hw
    obtain ⟨n1, s1, m1, A1, l1, c1, rfl⟩ := hu.form
    have hl := Er.tell_le t hk.2
    have := rtell_stage 0 no hk.1 s (str t.tell) _ _ _ _ _ q c w (by omega) (by rw [str_size]; omega) (at0 hc) (Lib.hid fun W hW => rtell_calls t _ W hk.2 (hu.below hW) (by omega))
    rw [show (⟨#[32]⟩ : ByteArray) = str [32] from rfl, show (⟨#[58, 32]⟩ : ByteArray) = str [58, 32] from rfl] at this
    conv at this => rw [show s ++ str [32] ++ str (num10 no) ++ str [58, 32] ++ str t.tell = str (Er.stage s no t).tell by
      rw [Er.tell, ← str_append, ← str_append, ← str_append, ← str_append, str_sl]; simp only [ByteArray.append_assoc]]
    exact this
  | .two a b, v, w, hk, ⟨q, c, hv, u, u', hu, hu', hc, hc'⟩, hw => by
    subst hv
    simp only [Er.wt] at hw
    obtain ⟨n1, s1, m1, A1, l1, c1, rfl⟩ := hu.form
    obtain ⟨n2, s2, m2, A2, l2, c2, rfl⟩ := hu'.form
    have hl := Er.tell_le a hk.1
    have hl' := Er.tell_le b hk.2
    have := rtell_two 0 0 ⟨#[]⟩ (str a.tell) (str b.tell) _ _ _ _ _ _ _ _ _ _ q c w (by rw [str_size]; omega) (by rw [str_size]; omega) (at0 hc) (at5 hc') (Lib.hid fun W hW => rtell_calls a _ W hk.1 (hu.below hW) (by omega)) (Lib.hid fun W hW => rtell_calls b _ W hk.2 (hu'.below hW) (by omega))
    rw [show (⟨#[40]⟩ : ByteArray) = str [40] from rfl, show (⟨#[59, 32]⟩ : ByteArray) = str [59, 32] from rfl, show (⟨#[41]⟩ : ByteArray) = str [41] from rfl] at this
    conv at this => rw [show str [40] ++ str a.tell ++ str [59, 32] ++ str b.tell ++ str [41] = str (Er.two a b).tell by
      rw [Er.tell, ← str_append, ← str_append, ← str_append, ← str_append]; simp only [ByteArray.append_assoc]]
    exact this
  termination_by t => t

theorem code_calls (n : Int) (w : World) : Calls Tryd.prog 13 #[.int .i64 n] w fun e w' => e = .returned (.int .i64 n) ∧ w' = w := by
  go_enter Tryd.func13, Tryd.ntmps13
  go_wp2
  go_ret
  exact ⟨rfl, rfl⟩

def liveT : Er := .stage ⟨#[109, 97, 112]⟩ 3 (.two (.num 2) (.num 9))
theorem live_text : str liveT.tell = ⟨#[109, 97, 112, 32, 51, 58, 32, 40, 101, 114, 114, 111, 114, 32, 50, 59, 32, 101, 114, 114, 111, 114, 32, 57, 41]⟩ := by
  have e3 : num10 3 = [51] := by rw [num10_pos (by omega)]; exact digs_small (by decide)
  have e2 : num10 2 = [50] := by rw [num10_pos (by omega)]; exact digs_small (by decide)
  have e9 : num10 9 = [57] := by rw [num10_pos (by omega)]; exact digs_small (by decide)
  simp only [liveT, Er.tell, e3, e2, e9]
  rfl
theorem live_calls (w : World) (hT : Tab w.heap.size w) : Calls Tryd.prog 7 #[] w fun e w' => e = .returned (.bool true) ∧ Below w.heap.size w w' := by
  have HT := Lib.hid hT
  have hI : ∀ n : Int, n ∈ [2, 3, 9] → I64 n := by intro n hn; simp at hn; unfold I64; omega
  have hok : liveT.ok := ⟨hI 3 (by simp), ⟨hI 2 (by simp), by decide⟩, hI 9 (by simp), by decide⟩
  have HB := Lib.hid (both_two (.num 2) (.num 9) (.iface 39 (.int .i64 2)) (.iface 39 (.int .i64 9)) w w rfl rfl)
  have HTell := Lib.hid (fun (W : World) (v : Value) (hv : IsE W liveT v) (hb : Tab W.heap.size W) => tell_calls (some liveT) v W hv (fun e he => by cases he; exact ⟨hok, by decide⟩) hb)
  have HL := Lib.hid live_text
  clear hI hok hT
  go_enter Tryd.func7, Tryd.ntmps7
  go_wp2_with fail
  refine (new_some 2 (by decide) _).mono ?_
  rintro e w1 ⟨rfl, rfl⟩
  dsimp only
  go_wp2_with fail
  refine (new_some 9 (by decide) _).mono ?_
  rintro e w1 ⟨rfl, rfl⟩
  dsimp only
  go_wp2_with (go_at_call 18; refine HB.out.mono ?_; rintro e w2 ⟨v, rfl, hm, hb2⟩; refine Hid.out ?_)
  refine Lib.hid ?_
  have hv := hm.here hb2
  obtain ⟨ty, x, rfl⟩ := hv.iface
  have hv2 : IsE w2 liveT (.iface 45 (.agg #[.string ⟨#[109, 97, 112]⟩, .int .i64 3, .iface ty x])) := ⟨_, rfl, hv⟩
  have hT2 : Tab w2.heap.size w2 := fun W hW => HT.out W (Below.on hb2 hW)
  have HC := Lib.hid (HTell.out w2 _ hv2 hT2)
  have hts : tellO (some liveT) = liveT.tell := rfl
  rw [hts, HL.out] at HC
  go_wp2_with (first
    | (go_at_call 17; refine (in_some ⟨#[109, 97, 112]⟩ 3 ty x _).mono ?_; rintro e w3 ⟨rfl, rfl⟩)
    | (go_at_call 11; refine HC.out.mono ?_; rintro e w3 ⟨rfl, hb3⟩))
  go_ret
  exact ⟨rfl, Below.on hb2 hb3⟩
end Go.Proofs.YtgpaedknonkioaaDoor
