/-
  Contracts of rec.writeText, putItems over strings, PutList and of the law file code. Conditions: the bytes ahead of the list are at most a million.
  TYPES BY NUMBER: 22 23 48
-/
import Derived.Test.YtimcolanmbklpaaRNums
import Derived.Test.YtimcolanmbklpaaGA
import Derived.Test.YtimcolanmbklpaaVPut
namespace Go.Proofs.Ytimcolanmbklpaa
open Go.ChangeShapes Go.WideShapes Go.ChangeAt Go.RowKit
set_option linter.unusedVariables false

theorem elS : El 9 1 16 (.string ByteArray.empty) enS := ⟨by kernel_rfl, rfl, by decide, fun _ => rfl, fun x u hu => by simp [enS] at hu; subst hu; rfl⟩
theorem elP : El 48 2 32 (.agg #[.string ByteArray.empty, .string ByteArray.empty]) enP := ⟨by kernel_rfl, rfl, by decide, fun _ => rfl, fun x u hu => by simp [enP] at hu; rcases hu with rfl | rfl <;> rfl⟩

theorem code_calls (x : Int) (w : World) : Calls Try.prog 12 #[.int .i64 x] w fun e w' => e = .returned (.int .i64 x) ∧ w = w' := by
  go_enter Try.func12, Try.ntmps12
  go_wp2
  go_ret
  exact ⟨rfl, rfl⟩

/-- What writing one text answers. -/
def wrT (s : List Int) : List Int × Int := if 65536 < s.length then ([], 5) else (encT s, 0)

theorem writeText_calls (s : ByteArray) (w : World) (hs : s.size ≤ maxLen) : Calls Try.prog 26 #[.string s] w (OwnE w.heap.size w (wrT (sl s))) := by
  have hm : s.size ≤ 9223372036854775807 := by unfold maxLen at hs; omega
  unfold wrT
  rw [sl_length]
  by_cases h : 65536 < s.size
  · rw [if_pos h]
    have hd : decide ((65536 : Int) < (s.size : Int)) = true := by simp; omega
    go_enter Try.func26, Try.ntmps26
    go_wp2
    go_ret2
    exact ⟨none, 0, rfl, OwnS.nil _ _, Below.refl _ _⟩
  · rw [if_neg h]
    have hd : decide ((65536 : Int) < (s.size : Int)) = false := by simp; omega
    have HP := Lib.hid (putText_calls none 0 [] s w (Lies.nil w) (by simp) (by omega))
    have HE := Lib.hid (show [] ++ enc s.size ++ sl s = encT (sl s) by unfold encT; rw [sl_length]; rfl)
    rw [HE.out] at HP
    clear HE
    generalize encT (sl s) = X at *
    go_enter Try.func26, Try.ntmps26
    go_wp2_with (go_at_call 39; refine HP.out.mono ?_; rintro e w1 ⟨A1, c1, rfl, hown1, hb1⟩)
    go_ret2
    exact ⟨A1, c1, rfl, hown1, hb1⟩

/-- What writing items one after the other answers, behind the bytes L. -/
def putFrom {α : Type} (f : α → List Int × Int) (L : List Int) : List α → List Int × Int
  | [] => (L, 0)
  | x :: xs => if (f x).2 = 0 then putFrom f (L ++ (f x).1) xs else ([], (f x).2)
def putAll {α : Type} (f : α → List Int × Int) (l : List Int) (xs : List α) : List Int × Int := if 65536 < xs.length then ([], 9) else putFrom f (l ++ enc xs.length) xs
theorem putFrom_step {α : Type} {f : α → List Int × Int} {xs : List α} {k : Nat} {x : α} {L d : List Int} (hx : xs[k]? = some x) (hf : f x = (d, 0)) : putFrom f L (xs.drop k) = putFrom f (L ++ d) (xs.drop (k + 1)) := by
  obtain ⟨hk, rfl⟩ := List.getElem?_eq_some_iff.1 hx
  rw [List.drop_eq_getElem_cons hk]
  simp only [putFrom, hf, if_true]
theorem putFrom_stop {α : Type} {f : α → List Int × Int} {xs : List α} {k : Nat} {x : α} {L d : List Int} {e : Int} (hx : xs[k]? = some x) (hf : f x = (d, e)) (he : e ≠ 0) : putFrom f L (xs.drop k) = ([], e) := by
  obtain ⟨hk, rfl⟩ := List.getElem?_eq_some_iff.1 hx
  rw [List.drop_eq_getElem_cons hk]
  simp only [putFrom, hf, he, if_false]
theorem putFrom_end {α : Type} {f : α → List Int × Int} {xs : List α} {k : Nat} {L : List Int} (hk : xs.length ≤ k) : putFrom f L (xs.drop k) = (L, 0) := by
  rw [List.drop_eq_nil_of_le hk]; rfl

/-- The loop of putItems: k items have been written. -/
def RelP {α : Type} (f : α → List Int × Int) (w : World) (xs : List α) (R : List Int × Int) (v i : Value) (wr : World) : Prop :=
  ∃ (k : Nat) (A : Option Addr) (c : Nat) (L : List Int), i = .int .i64 k ∧ v = .slice A L.length c ∧ k ≤ xs.length ∧ L.length ≤ 1000009 + 200000 * k ∧ OwnS w.heap.size wr A c L ∧ Below w.heap.size w wr ∧ R = putFrom f L (xs.drop k)

theorem wrT_length (s : List Int) : (wrT s).1.length ≤ 65545 := by
  unfold wrT
  split
  · simp
  · rw [encT_length]; have := vlen_le s.length; omega

set_option maxRecDepth 20000 in
set_option maxHeartbeats 2000000 in
theorem putItemsS_calls (A : Option Addr) (c : Nat) (l : List Int) (D : Option Addr) (d : Nat) (ss : List ByteArray) (w : World) (h : Lies w A c l) (hs : CellsG enS w D d ss) (hl : l.length ≤ 1000000) (hsm : ∀ s ∈ ss, s.size ≤ maxLen) (hss : ss.length ≤ maxLen) :
    Calls Try.prog 25 #[.slice A l.length c, .slice D ss.length d, .func (.func 26) #[] #[]] w (OwnE w.heap.size w (putAll (fun s => wrT (sl s)) l ss)) := by
  have hm : ss.length ≤ 9223372036854775807 := by unfold maxLen at hss; omega
  unfold putAll
  by_cases hn : 65536 < ss.length
  · rw [if_pos hn]
    have hd : decide ((65536 : Int) < (ss.length : Int)) = true := by simp; omega
    clear h hs hsm
    go_enter Try.func25, Try.ntmps25
    go_wp2
    go_ret2
    exact ⟨none, 0, rfl, OwnS.nil _ _, Below.refl _ _⟩
  · rw [if_neg hn]
    have hd : decide ((65536 : Int) < (ss.length : Int)) = false := by simp; omega
    have hw : IntKind.u64.wrap (ss.length : Int) = ss.length := IntWalk.u64_in _ ⟨by omega, by omega⟩
    have HP := Lib.hid (put_calls A c l (ss.length : Int) w h hl (by omega) (by omega))
    have HC := Lib.hid hs
    have HM := Lib.hid hsm
    have hu22 := run_underlying (P := Try.prog) Try.underlying22
    have hL0 : (l ++ enc (ss.length : Int)).length ≤ 1000009 := by rw [List.length_append, enc_length]; have := vlen_le (ss.length : Int); omega
    obtain ⟨R, hR⟩ : ∃ R, R = putFrom (fun s => wrT (sl s)) (l ++ enc (ss.length : Int)) ss := ⟨_, rfl⟩
    rw [← hR]
    have HR := Lib.hid hR
    clear h hs hsm hR
    generalize l ++ enc (ss.length : Int) = L0 at *
    go_enter Try.func25, Try.ntmps25
    go_wp2_with (go_at_call 38; refine HP.out.mono ?_; rintro e w1 ⟨A1, c1, rfl, hown1, hb1⟩)
    have H1 := Lib.hid hown1
    clear hown1
    go_loopw [8, 23] (RelP (fun s => wrT (sl s)) w ss R) (fun _ i _ => ss.length - (intOf i).toNat)
    case atStart => exact ⟨0, A1, c1, L0, rfl, rfl, by omega, by omega, H1.out, hb1, HR.out⟩
    case round =>
      obtain ⟨k, A2, c2, L, rfl, rfl, hk, hLk, hown2, hb2, hres⟩ := hrel
      have HO2 := Lib.hid hown2
      have HRes := Lib.hid hres
      clear hown2 hres
      by_cases hlt : k < ss.length
      · obtain ⟨b, o, hD, hbs, hcell⟩ := HC.out.at_ elS (by omega)
        obtain ⟨s, hsk⟩ : ∃ s, ss[k]? = some s := ⟨ss[k], by simp [hlt]⟩
        have hck := (hb2.cell (p := ⟨b, o + (k * 1 + 0), none⟩) hbs).trans (hcell k 0 s hsk (by omega))
        rw [Nat.mul_one, Nat.add_zero] at hck
        simp only [enS, List.getElem?_cons_zero] at hck
        subst hD
        have hsz := HM.out s (List.mem_of_getElem? hsk)
        have HW := Lib.hid (writeText_calls s wr hsz)
        have HSK := Lib.hid hsk
        clear hcell hsk
        obtain ⟨x, e, hx⟩ : ∃ x e, wrT (sl s) = (x, e) := ⟨_, _, rfl⟩
        have hxl := wrT_length (sl s)
        rw [hx] at HW hxl
        dsimp only at hxl
        have HX := Lib.hid hx
        clear hx
        by_cases he : e = 0
        · subst he
          have HN := Lib.hid (putFrom_step (f := fun s => wrT (sl s)) (L := L) HSK.out HX.out)
          go_wp2_with (first
            | (go_at_call 26; refine HW.out.mono ?_; rintro e w3 ⟨A3, c3, rfl, hown3, hb3⟩; dsimp only at hown3; have hb4 := Below.on hb2 hb3; dsimp only)
            | (at_builtin; go_must (refine wpList_append_bytes rfl _ _ rfl w.heap.size A2 c2 L rfl (HO2.out.below hb3) A3 c3 x rfl (OwnS.lies hown3) (by omega) hb4.size ?_); intro A5 c5 w5 L5 hL5 hown5 hgrow5; have hb5 := OwnS.grow (HO2.out.below hb3) hb4 hgrow5 hb4.size))
          go_roundw
          case rel =>
            refine ⟨k + 1, A5, c5, L5, by go_num, rfl, by omega, ?_, hown5, hb5, ?_⟩
            · rw [hL5.out, List.length_append]; omega
            · rw [HRes.out, HN.out, hL5.out]
          case measure => simp [intOf]; omega
        · have hne : (e == 0) = false := by simpa using he
          have HN := Lib.hid (putFrom_stop (f := fun s => wrT (sl s)) (L := L) HSK.out HX.out he)
          clear he
          go_wp2_with (go_at_call 26; refine HW.out.mono ?_; rintro e w3 ⟨A3, c3, rfl, hown3, hb3⟩; dsimp only at hown3; dsimp only)
          go_ret2
          rw [HRes.out, HN.out]
          exact ⟨none, 0, rfl, OwnS.nil _ _, Below.on hb2 hb3⟩
      · have HN := Lib.hid (putFrom_end (f := fun s => wrT (sl s)) (xs := ss) (k := k) (L := L) (by omega))
        go_wp2
        go_ret2
        rw [HRes.out, HN.out]
        exact ⟨A2, c2, rfl, HO2.out, hb2⟩

theorem putList_calls (A : Option Addr) (c : Nat) (l : List Int) (D : Option Addr) (d : Nat) (ss : List ByteArray) (w : World) (h : Lies w A c l) (hs : CellsG enS w D d ss) (hl : l.length ≤ 1000000) (hsm : ∀ s ∈ ss, s.size ≤ maxLen) (hss : ss.length ≤ maxLen) :
    Calls Try.prog 10 #[.slice A l.length c, .slice D ss.length d] w (OwnE w.heap.size w (putAll (fun s => wrT (sl s)) l ss)) := by
  have HP := Lib.hid (putItemsS_calls A c l D d ss w h hs hl hsm hss)
  clear h hs hsm
  generalize putAll (fun s => wrT (sl s)) l ss = R at *
  go_enter Try.func10, Try.ntmps10
  go_wp2_with (go_at_call 25; refine HP.out.mono ?_; rintro e w1 ⟨A1, c1, rfl, hown1, hb1⟩)
  go_ret2
  exact ⟨A1, c1, rfl, hown1, hb1⟩
end Go.Proofs.Ytimcolanmbklpaa
