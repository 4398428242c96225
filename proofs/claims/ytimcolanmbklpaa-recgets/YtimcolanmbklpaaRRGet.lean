/-
  Contracts of the document texts and GetList. Conditions: slices of at most a million bytes, each from 0 to 255.
  TYPES BY NUMBER: 22 23 48
-/
import Derived.Test.YtimcolanmbklpaaRGet
namespace Go.Proofs.Ytimcolanmbklpaa
open Go.ChangeShapes Go.WideShapes Go.ChangeAt Go.RowKit
set_option linter.unusedVariables false

def RelD (l : List Int) (w : World) (n : Nat) (R : List ByteArray × Int × Int) (x v i : Value) (wr : World) : Prop := RelG 9 1 enS (rdS l) w n R v x i wr

set_option maxRecDepth 20000 in
set_option maxHeartbeats 2000000 in
theorem texts_calls (A : Option Addr) (c : Nat) (l : List Int) (i : Int) (m : Int) (w : World) (h : Lies w A c l) (hb : IsB l) (hc : l.length ≤ c) (hl : l.length ≤ 1000000) (hm0 : 0 ≤ m) (hm : m ≤ 2) :
    Calls Try.prog 35 #[.slice A l.length c, .int .i64 i, .int .i64 m] w (GotG 9 1 enS w (getAll (rdS l) m.toNat (getS l i))) := by
  obtain ⟨n0, n1, x0, x1⟩ := getS_range l hb i
  obtain ⟨n, x, e, hg⟩ : ∃ n x e, getS l i = (n, x, e) := ⟨_, _, _, rfl⟩
  have HC := Lib.hid (rget_calls A c l i w h hb hc hl)
  rw [hg] at HC n0 n1 x0 x1
  simp only at n0 n1 x0 x1
  have HG := Lib.hid hg
  have HT := Lib.hid (fun (j : Int) (W : World) (hW : Below w.heap.size w W) => show Calls Try.prog 45 #[.slice A l.length c, .int .i64 j, .int .i64 65536] W (fun e w' => e = .returned (triS (rdS l j)) ∧ Below W.heap.size W w') from rgetText_calls A c l j 65536 W (h.below hW) hb hc hl (by omega))
  have HR := Lib.hid (show getAll (rdS l) m.toNat (getS l i) = if e = 0 then if 65536 < n then ([], 0, 9) else getFrom (rdS l) [] (n.toNat * m.toNat) x else ([], 0, e) by unfold getAll; rw [hg])
  obtain ⟨R, hR⟩ : ∃ R, R = getAll (rdS l) m.toNat (getS l i) := ⟨_, rfl⟩
  rw [← hR] at HR ⊢
  clear h hb hg hR
  by_cases he : e = 0
  · subst he
    by_cases hn : 65536 < n
    · have HR1 := Lib.hid (show R = ([], 0, 9) by rw [HR.out]; simp [hn])
      clear HR
      go_enter Try.func35, Try.ntmps35
      go_wp2_with (go_at_call 44; refine HC.out.mono ?_; unfold tri; rintro e' w1 ⟨rfl, hb1⟩)
      go_ret3
      rw [HR1.out]
      exact ⟨none, 0, rfl, OwnG.nil _ _, hb1⟩
    · have HR1 := Lib.hid (show R = getFrom (rdS l) [] (n.toNat * m.toNat) x by rw [HR.out]; simp [hn])
      clear HR
      have hn2 : n ≤ 65536 := by omega
      obtain ⟨q, hq⟩ : ∃ q : Nat, q = n.toNat * m.toNat := ⟨_, rfl⟩
      have hmul : n * m = (q : Int) := by
        rw [hq, Int.natCast_mul, Int.toNat_of_nonneg n0, Int.toNat_of_nonneg hm0]
      have hq2 : q ≤ 131072 := by
        rw [hq]
        have h1 : n.toNat ≤ 65536 := by omega
        have h2 : m.toNat ≤ 2 := by omega
        have := Nat.mul_le_mul h1 h2
        omega
      rw [← hq] at HR1
      clear hq
      have hmw : wrap64 (n * m) = q := by rw [hmul]; unfold wrap64; omega
      go_enter Try.func35, Try.ntmps35
      go_wp2_with (go_at_call 44; refine HC.out.mono ?_; unfold tri; rintro e' w1 ⟨rfl, hb1⟩)
      go_loopw [10, 12, 13] (RelD l w q R) (fun _ _ i _ => q - (intOf i).toNat)
      case atStart => exact ⟨0, none, 0, [], x, rfl, rfl, rfl, by omega, rfl, OwnG.nil _ _, hb1, HR1.out⟩
      case round =>
        obtain ⟨k, A2, c2, xs, y, rfl, rfl, rfl, hk, hxl, hown2, hb2, hres⟩ := hrel
        have HO2 := Lib.hid hown2
        have HRes := Lib.hid hres
        have HXL := Lib.hid hxl
        have hx5 : xs.length ≤ 131072 := by omega
        clear hown2 hres hxl
        by_cases hlt : k < q
        · obtain ⟨s, z, e, hrd⟩ : ∃ s z e, rdS l y = (s, z, e) := ⟨_, _, _, rfl⟩
          have HW := Lib.hid (HT.out y wr hb2)
          rw [hrd] at HW
          have hf : q - k = q - (k + 1) + 1 := by omega
          by_cases he : e = 0
          · subst he
            have HN := Lib.hid (show R = getFrom (rdS l) (xs ++ [s]) (q - (k + 1)) z by rw [HRes.out, hf, getFrom_step hrd])
            clear hrd hf
            unfold triS at HW
            go_wp2_with fail
            refine HW.out.mono ?_
            rintro e w3 ⟨rfl, hb3⟩
            have hb4 := Below.on hb2 hb3
            have hO3 := Lib.hid ((HO2.out.below hb3).alloc (.cells #[.string s] 9))
            have hb5 : Below w.heap.size w (w3.alloc (.cells #[.string s] 9)) := hb4.alloc hb4.size _
            go_wp2_with (at_builtin; go_must (refine wpList_append_vals elS rfl _ _ 22 Try.underlying22 rfl w.heap.size A2 c2 xs rfl hO3.out (some ⟨w3.heap.size, 0, none⟩) 1 [s] rfl (cells_one_val elS w3 s #[.string s] rfl) (by simp; omega) (by omega) hb5.size ?_); intro A7 c7 w7 R7 hR7 hown7 hgrow7; have hb7 := OwnG.grow hO3.out hb5 hgrow7 hb5.size)
            go_roundw
            case rel =>
              refine ⟨k + 1, A7, c7, R7, z, by go_num, rfl, rfl, by omega, ?_, hown7, hb7, ?_⟩
              · rw [hR7.out, List.length_append, HXL.out]; rfl
              · rw [HN.out, hR7.out]
            case measure => simp [intOf]; omega
          · have hne : (e == 0) = false := by simpa using he
            have HN := Lib.hid (show R = ([], 0, e) by rw [HRes.out, hf, getFrom_stop hrd he])
            clear hrd he hf
            unfold triS at HW
            go_wp2_with fail
            refine HW.out.mono ?_
            rintro e w3 ⟨rfl, hb3⟩
            go_wp2
            go_ret3
            rw [HN.out]
            exact ⟨none, 0, rfl, OwnG.nil _ _, Below.on hb2 hb3⟩
        · have HN := Lib.hid (show R = (xs, y, 0) by rw [HRes.out, show q - k = 0 by omega]; rfl)
          go_wp2
          go_ret3
          rw [HN.out]
          exact ⟨A2, c2, rfl, HO2.out, hb2⟩
  · have hne : (e == 0) = false := by simpa using he
    have HR1 := Lib.hid (show R = ([], 0, e) by rw [HR.out]; simp [he])
    clear HR he
    go_enter Try.func35, Try.ntmps35
    go_wp2_with (go_at_call 44; refine HC.out.mono ?_; unfold tri; rintro e' w1 ⟨rfl, hb1⟩)
    go_ret3
    rw [HR1.out]
    exact ⟨none, 0, rfl, OwnG.nil _ _, hb1⟩

theorem rgetList_calls (A : Option Addr) (c : Nat) (l : List Int) (i : Int) (w : World) (h : Lies w A c l) (hb : IsB l) (hc : l.length ≤ c) (hl : l.length ≤ 1000000) :
    Calls Try.prog 19 #[.slice A l.length c, .int .i64 i] w (GotG 9 1 enS w (getAll (rdS l) 1 (getS l i))) := by
  have HP := Lib.hid (texts_calls A c l i 1 w h hb hc hl (by omega) (by omega))
  clear h hb
  rw [show (1 : Int).toNat = 1 by rfl] at HP
  generalize getAll (rdS l) 1 (getS l i) = R at *
  go_enter Try.func19, Try.ntmps19
  go_wp2_with (go_at_call 35; refine HP.out.mono ?_; rintro e w1 ⟨A1, c1, rfl, hown1, hb1⟩)
  go_ret3
  exact ⟨A1, c1, rfl, hown1, hb1⟩
end Go.Proofs.Ytimcolanmbklpaa
