/-
  Contracts of rec.writePair, putItems over pairs and PutPairs. Conditions: the bytes ahead of the list are at most a million.
  TYPES BY NUMBER: 22 23 48
-/
import Derived.Test.YtimcolanmbklpaaRPut
namespace Go.Proofs.Ytimcolanmbklpaa
open Go.ChangeShapes Go.WideShapes Go.ChangeAt Go.RowKit
set_option linter.unusedVariables false

/-- A pair as a value. -/
def vP (p : ByteArray × ByteArray) : Value := .agg #[.string p.1, .string p.2]
/-- What writing one pair answers. -/
def wrP (p : ByteArray × ByteArray) : List Int × Int :=
  if (wrT (sl p.1)).2 = 0 then if (wrT (sl p.2)).2 = 0 then ((wrT (sl p.1)).1 ++ (wrT (sl p.2)).1, 0) else ([], (wrT (sl p.2)).2) else ([], (wrT (sl p.1)).2)
theorem wrP_length (p : ByteArray × ByteArray) : (wrP p).1.length ≤ 131090 := by
  have h1 := wrT_length (sl p.1)
  have h2 := wrT_length (sl p.2)
  unfold wrP
  split
  · split
    · rw [List.length_append]; omega
    · simp
  · simp

theorem OwnS.alloc {B : Nat} {w : World} {A : Option Addr} {c : Nat} {l : List Int} (h : OwnS B w A c l) (o : Obj) : OwnS B (w.alloc o) A c l := World.ownsRow.alloc h o
theorem cell_pair (w : World) (a b : Value) : (w.alloc (.cells #[a, b] 48)).cell? ⟨w.heap.size, 0, none⟩ = some a ∧ (w.alloc (.cells #[a, b] 48)).cell? ⟨w.heap.size, 1, none⟩ = some b := by
  have hb := heap_alloc_new w (.cells #[a, b] 48)
  constructor <;> (unfold World.cell?; simp only [hb]; rfl)

set_option maxHeartbeats 2000000 in
theorem writePair_calls (p : ByteArray × ByteArray) (w : World) (hs1 : p.1.size ≤ maxLen) (hs2 : p.2.size ≤ maxLen) : Calls Try.prog 28 #[vP p] w (OwnE w.heap.size w (wrP p)) := by
  obtain ⟨s, t⟩ := p
  dsimp only at hs1 hs2
  have H1 := Lib.hid (fun W => writeText_calls s W hs1)
  have H2 := Lib.hid (fun W => writeText_calls t W hs2)
  obtain ⟨x, e, hx⟩ : ∃ x e, wrT (sl s) = (x, e) := ⟨_, _, rfl⟩
  obtain ⟨y, f, hy⟩ : ∃ y f, wrT (sl t) = (y, f) := ⟨_, _, rfl⟩
  have hxl := wrT_length (sl s)
  have hyl := wrT_length (sl t)
  rw [hx] at H1 hxl
  rw [hy] at H2 hyl
  have HR := Lib.hid (show wrP (s, t) = if e = 0 then if f = 0 then (x ++ y, 0) else ([], f) else ([], e) by unfold wrP; simp only [hx, hy])
  dsimp only at hxl hyl
  obtain ⟨c0, c1⟩ := cell_pair w (.string s) (.string t)
  have hb0 : Below w.heap.size w (w.alloc (.cells #[.string s, .string t] 48)) := (Below.refl _ _).alloc (Nat.le_refl _) _
  have HC1 := Lib.hid c1
  clear hx hy hs1 hs2 c1
  unfold vP
  dsimp only
  by_cases he : e = 0
  · subst he
    by_cases hf : f = 0
    · subst hf
      have HR1 := Lib.hid (show wrP (s, t) = (x ++ y, 0) by rw [HR.out]; simp)
      clear HR
      go_enter Try.func28, Try.ntmps28
      go_wp2_with fail
      refine (H1.out _).mono ?_
      rintro e w3 ⟨A3, c3, rfl, hown3, hb3⟩
      dsimp only at hown3
      dsimp only
      have hc1 := (hb3.cell (p := ⟨w.heap.size, 1, none⟩) (by simp)).trans HC1.out
      have HO3 := Lib.hid hown3
      clear hown3
      go_wp2_with fail
      refine (H2.out _).mono ?_
      rintro e w4 ⟨A4, c4, rfl, hown4, hb4⟩
      dsimp only at hown4
      dsimp only
      have hb34 := Below.on hb3 hb4
      go_wp2_with (at_builtin; go_must (refine wpList_append_bytes rfl _ _ rfl (w.alloc (.cells #[.string s, .string t] 48)).heap.size A3 c3 x rfl (HO3.out.below hb4) A4 c4 y rfl (OwnS.lies hown4) (by omega) hb34.size ?_); intro A5 c5 w5 L5 hL5 hown5 hgrow5; have hb5 := OwnS.grow (HO3.out.below hb4) hb34 hgrow5 hb34.size)
      go_ret2
      rw [HR1.out, ← hL5.out]
      exact ⟨A5, c5, rfl, OwnS.mono hown5 hb0.size, Below.on hb0 hb5⟩
    · have hne : (f == 0) = false := by simpa using hf
      have HR1 := Lib.hid (show wrP (s, t) = ([], f) by rw [HR.out]; simp [hf])
      clear hf HR
      go_enter Try.func28, Try.ntmps28
      go_wp2_with fail
      refine (H1.out _).mono ?_
      rintro e w3 ⟨A3, c3, rfl, hown3, hb3⟩
      dsimp only at hown3
      dsimp only
      have hc1 := (hb3.cell (p := ⟨w.heap.size, 1, none⟩) (by simp)).trans HC1.out
      clear hown3
      go_wp2_with fail
      refine (H2.out _).mono ?_
      rintro e w4 ⟨A4, c4, rfl, hown4, hb4⟩
      dsimp only
      go_wp2
      go_ret2
      rw [HR1.out]
      exact ⟨none, 0, rfl, OwnS.nil _ _, Below.on hb0 (Below.on hb3 hb4)⟩
  · have hne : (e == 0) = false := by simpa using he
    have HR1 := Lib.hid (show wrP (s, t) = ([], e) by rw [HR.out]; simp [he])
    clear he HR
    go_enter Try.func28, Try.ntmps28
    go_wp2_with fail
    refine (H1.out _).mono ?_
    rintro e w3 ⟨A3, c3, rfl, hown3, hb3⟩
    dsimp only at hown3
    dsimp only
    go_wp2
    go_ret2
    rw [HR1.out]
    exact ⟨none, 0, rfl, OwnS.nil _ _, Below.on hb0 hb3⟩

set_option maxRecDepth 20000 in
set_option maxHeartbeats 2000000 in
theorem putItemsP_calls (A : Option Addr) (c : Nat) (l : List Int) (D : Option Addr) (d : Nat) (ss : List (ByteArray × ByteArray)) (w : World) (h : Lies w A c l) (hs : CellsG enP w D d ss) (hl : l.length ≤ 1000000) (hsm : ∀ s ∈ ss, s.1.size ≤ maxLen ∧ s.2.size ≤ maxLen) (hss : ss.length ≤ maxLen) :
    Calls Try.prog 27 #[.slice A l.length c, .slice D ss.length d, .func (.func 28) #[] #[]] w (OwnE w.heap.size w (putAll wrP l ss)) := by
  have hm : ss.length ≤ 9223372036854775807 := by unfold maxLen at hss; omega
  unfold putAll
  by_cases hn : 65536 < ss.length
  · rw [if_pos hn]
    have hd : decide ((65536 : Int) < (ss.length : Int)) = true := by simp; omega
    clear h hs hsm
    go_enter Try.func27, Try.ntmps27
    go_wp2
    go_ret2
    exact ⟨none, 0, rfl, OwnS.nil _ _, Below.refl _ _⟩
  · rw [if_neg hn]
    have hd : decide ((65536 : Int) < (ss.length : Int)) = false := by simp; omega
    have hw : IntKind.u64.wrap (ss.length : Int) = ss.length := IntWalk.u64_in _ ⟨by omega, by omega⟩
    have HP := Lib.hid (put_calls A c l (ss.length : Int) w h hl (by omega) (by omega))
    have HC := Lib.hid hs
    have HM := Lib.hid hsm
    have hu23 := run_underlying (P := Try.prog) Try.underlying23
    have hL0 : (l ++ enc (ss.length : Int)).length ≤ 1000009 := by rw [List.length_append, enc_length]; have := vlen_le (ss.length : Int); omega
    obtain ⟨R, hR⟩ : ∃ R, R = putFrom wrP (l ++ enc (ss.length : Int)) ss := ⟨_, rfl⟩
    rw [← hR]
    have HR := Lib.hid hR
    clear h hs hsm hR
    generalize l ++ enc (ss.length : Int) = L0 at *
    go_enter Try.func27, Try.ntmps27
    go_wp2_with (go_at_call 38; refine HP.out.mono ?_; rintro e w1 ⟨A1, c1, rfl, hown1, hb1⟩)
    have H1 := Lib.hid hown1
    clear hown1
    go_loopw [8, 23] (RelP wrP w ss R) (fun _ i _ => ss.length - (intOf i).toNat)
    case atStart => exact ⟨0, A1, c1, L0, rfl, rfl, by omega, by omega, H1.out, hb1, HR.out⟩
    case round =>
      obtain ⟨k, A2, c2, L, rfl, rfl, hk, hLk, hown2, hb2, hres⟩ := hrel
      have HO2 := Lib.hid hown2
      have HRes := Lib.hid hres
      clear hown2 hres
      by_cases hlt : k < ss.length
      · obtain ⟨b, o, hD, hbs, hcell⟩ := HC.out.at_ elP (by omega)
        obtain ⟨s, hsk⟩ : ∃ s, ss[k]? = some s := ⟨ss[k], by simp [hlt]⟩
        have hck0 := (hb2.cell (p := ⟨b, o + (k * 2 + 0), none⟩) hbs).trans (hcell k 0 s hsk (by omega))
        have hck1 := (hb2.cell (p := ⟨b, o + (k * 2 + 1), none⟩) hbs).trans (hcell k 1 s hsk (by omega))
        rw [Nat.add_zero] at hck0
        rw [← Nat.add_assoc] at hck1
        simp only [enP, List.getElem?_cons_zero, List.getElem?_cons_succ] at hck0 hck1
        subst hD
        have hsz := HM.out s (List.mem_of_getElem? hsk)
        have HW := Lib.hid (fun W => writePair_calls s W hsz.1 hsz.2)
        have HSK := Lib.hid hsk
        clear hcell hsk
        obtain ⟨x, e, hx⟩ : ∃ x e, wrP s = (x, e) := ⟨_, _, rfl⟩
        have hxl := wrP_length s
        rw [hx] at HW hxl
        dsimp only at hxl
        have HX := Lib.hid hx
        have hba : Below w.heap.size w (wr.alloc (.cells #[.string s.1, .string s.2] 48)) := hb2.alloc hb2.size _
        clear hx
        by_cases he : e = 0
        · subst he
          have HN := Lib.hid (putFrom_step (f := wrP) (L := L) HSK.out HX.out)
          go_wp2_with fail
          refine (HW.out _).mono ?_
          rintro e w3 ⟨A3, c3, rfl, hown3, hb3⟩
          dsimp only at hown3
          dsimp only
          have hb4 := Below.on hba hb3
          have hO3 := (HO2.out.alloc (.cells #[.string s.1, .string s.2] 48)).below hb3
          go_wp2_with (at_builtin; go_must (refine wpList_append_bytes rfl _ _ rfl w.heap.size A2 c2 L rfl hO3 A3 c3 x rfl (OwnS.lies hown3) (by omega) hb4.size ?_); intro A5 c5 w5 L5 hL5 hown5 hgrow5; have hb5 := OwnS.grow hO3 hb4 hgrow5 hb4.size)
          go_roundw
          case rel =>
            refine ⟨k + 1, A5, c5, L5, by go_num, rfl, by omega, ?_, hown5, hb5, ?_⟩
            · rw [hL5.out, List.length_append]; omega
            · rw [HRes.out, HN.out, hL5.out]
          case measure => simp [intOf]; omega
        · have hne : (e == 0) = false := by simpa using he
          have HN := Lib.hid (putFrom_stop (f := wrP) (L := L) HSK.out HX.out he)
          clear he
          go_wp2_with fail
          refine (HW.out _).mono ?_
          rintro e w3 ⟨A3, c3, rfl, hown3, hb3⟩
          dsimp only at hown3
          dsimp only
          go_wp2
          go_ret2
          rw [HRes.out, HN.out]
          exact ⟨none, 0, rfl, OwnS.nil _ _, Below.on hba hb3⟩
      · have HN := Lib.hid (putFrom_end (f := wrP) (xs := ss) (k := k) (L := L) (by omega))
        go_wp2
        go_ret2
        rw [HRes.out, HN.out]
        exact ⟨A2, c2, rfl, HO2.out, hb2⟩

theorem putPairs_calls (A : Option Addr) (c : Nat) (l : List Int) (D : Option Addr) (d : Nat) (ss : List (ByteArray × ByteArray)) (w : World) (h : Lies w A c l) (hs : CellsG enP w D d ss) (hl : l.length ≤ 1000000) (hsm : ∀ s ∈ ss, s.1.size ≤ maxLen ∧ s.2.size ≤ maxLen) (hss : ss.length ≤ maxLen) :
    Calls Try.prog 11 #[.slice A l.length c, .slice D ss.length d] w (OwnE w.heap.size w (putAll wrP l ss)) := by
  have HP := Lib.hid (putItemsP_calls A c l D d ss w h hs hl hsm hss)
  clear h hs hsm
  generalize putAll wrP l ss = R at *
  go_enter Try.func11, Try.ntmps11
  go_wp2_with (go_at_call 27; refine HP.out.mono ?_; rintro e w1 ⟨A1, c1, rfl, hown1, hb1⟩)
  go_ret2
  exact ⟨A1, c1, rfl, hown1, hb1⟩
end Go.Proofs.Ytimcolanmbklpaa
