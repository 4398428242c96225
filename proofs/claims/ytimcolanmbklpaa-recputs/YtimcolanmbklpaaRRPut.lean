/-
  Contracts of the document List and Pairs. Conditions: lists of at most a thousand items, texts of at most 65,536 bytes.
  TYPES BY NUMBER: 22 23 48
-/
import Derived.Test.YtimcolanmbklpaaRPutP
import Derived.Test.YtimcolanmbklpaaHistA
import Derived.Test.YtimcolanmbklpaaVBytes
namespace Go.Proofs.Ytimcolanmbklpaa
open Go.ChangeShapes Go.WideShapes Go.ChangeAt Go.RowKit
set_option linter.unusedVariables false

/-- The bytes of a pair. -/
def encP (p : ByteArray × ByteArray) : List Int := encT (sl p.1) ++ encT (sl p.2)
def encS (s : ByteArray) : List Int := encT (sl s)
/-- The bytes of a list: its number and its items. -/
def listB {α : Type} (f : α → List Int) (xs : List α) : List Int := enc xs.length ++ xs.flatMap f
theorem flat_step {α : Type} {f : α → List Int} {xs : List α} {k : Nat} {x : α} (h : xs[k]? = some x) : (xs.take (k + 1)).flatMap f = (xs.take k).flatMap f ++ f x := by
  rw [List.take_add_one, h, Option.toList_some, List.flatMap_append]; simp
theorem flat_len {α : Type} {f : α → List Int} {m : Nat} : ∀ (xs : List α), (∀ x ∈ xs, (f x).length ≤ m) → (xs.flatMap f).length ≤ m * xs.length
  | [], _ => by simp
  | x :: xs, h => by
    have h1 := flat_len xs (fun y hy => h y (by simp [hy]))
    have h2 := h x (by simp)
    simp only [List.flatMap_cons, List.length_append, List.length_cons, Nat.mul_succ]
    omega

/-- The loops: k items have been written. -/
def RelL {α : Type} (f : α → List Int) (w : World) (xs : List α) (v i : Value) (wr : World) : Prop :=
  ∃ (k : Nat) (A : Option Addr) (c : Nat) (L : List Int), i = .int .i64 k ∧ v = .slice A L.length c ∧ k ≤ xs.length ∧ L.length ≤ 10 + 200000 * k ∧ OwnS w.heap.size wr A c L ∧ Below w.heap.size w wr ∧ L = enc xs.length ++ (xs.take k).flatMap f

set_option maxRecDepth 20000 in
set_option maxHeartbeats 2000000 in
theorem rlist_calls (D : Option Addr) (d : Nat) (ss : List ByteArray) (w : World) (hs : CellsG enS w D d ss) (hn : ss.length ≤ 1000) (hsm : ∀ s ∈ ss, s.size ≤ 65536) :
    Calls Try.prog 13 #[.slice D ss.length d] w (Own w.heap.size w (listB encS ss)) := by
  have hw : IntKind.u64.wrap (ss.length : Int) = ss.length := IntWalk.u64_in _ ⟨by omega, by omega⟩
  have HP := Lib.hid (bytes_calls (ss.length : Int) w (by omega) (by omega))
  have HC := Lib.hid hs
  have HM := Lib.hid hsm
  have hu22 := run_underlying (P := Try.prog) Try.underlying22
  have hL0 : (enc (ss.length : Int)).length ≤ 9 := by rw [enc_length]; exact vlen_le _
  obtain ⟨R, hR⟩ : ∃ R, R = listB encS ss := ⟨_, rfl⟩
  rw [← hR]
  have HR := Lib.hid hR
  have HL := Lib.hid (show ∀ A c W, OwnS w.heap.size W A c (enc (ss.length : Int)) → Below w.heap.size w W → RelL encS w ss (.slice A (enc (ss.length : Int)).length c) (.int .i64 0) W from fun A c W h1 h2 => ⟨0, A, c, enc (ss.length : Int), rfl, rfl, by omega, by omega, h1, h2, by simp⟩)
  clear hs hsm hR
  generalize enc (ss.length : Int) = L0 at *
  go_enter Try.func13, Try.ntmps13
  go_wp2_with (go_at_call 29; refine HP.out.mono ?_; rintro e w1 ⟨A1, c1, rfl, hown1, hb1⟩)
  have H1 := Lib.hid hown1
  clear hown1
  go_loopw [3, 4] (RelL encS w ss) (fun _ i _ => ss.length - (intOf i).toNat)
  case atStart => exact HL.out A1 c1 w1 H1.out hb1
  case round =>
    obtain ⟨k, A2, c2, L, rfl, rfl, hk, hLk, hown2, hb2, hres⟩ := hrel
    have HO2 := Lib.hid hown2
    have HRes := Lib.hid hres
    clear hown2 hres
    by_cases hlt : k < ss.length
    · obtain ⟨b, o, hD, hbs, hcell⟩ := HC.out.at_ elS (by omega)
      obtain ⟨s, hsk⟩ : ∃ s, ss[k]? = some s := ⟨ss[k], by simp [hlt]⟩
      have hck := (hb2.cell (p := ⟨b, o + (k * 1 + 0), none⟩) hbs).trans (hcell k 0 s hsk (by omega))
      rw [Nat.mul_one, Nat.add_zero] at hck
      simp only [enS, List.getElem?_cons_zero] at hck
      subst hD
      have hsz := HM.out s (List.mem_of_getElem? hsk)
      have HW := Lib.hid (text_calls s wr (by omega))
      have HX := Lib.hid (show enc s.size ++ sl s = encS s by unfold encS encT; rw [sl_length])
      have hxl : (encS s).length ≤ 65545 := by rw [← HX.out, List.length_append, enc_length, sl_length]; have := vlen_le s.size; omega
      rw [HX.out] at HW
      have HN := Lib.hid (flat_step (f := encS) hsk)
      clear hcell hsk HX
      generalize encS s = x at *
      go_wp2_with (first
        | (go_at_call 30; refine HW.out.mono ?_; rintro e w3 ⟨A3, c3, rfl, hown3, hb3⟩; have hb4 := Below.on hb2 hb3)
        | (at_builtin; go_must (refine wpList_append_bytes rfl _ _ rfl w.heap.size A2 c2 L rfl (HO2.out.below hb3) A3 c3 x rfl (OwnS.lies hown3) (by omega) hb4.size ?_); intro A5 c5 w5 L5 hL5 hown5 hgrow5; have hb5 := OwnS.grow (HO2.out.below hb3) hb4 hgrow5 hb4.size))
      go_roundw
      case rel =>
        refine ⟨k + 1, A5, c5, L5, by go_num, rfl, by omega, ?_, hown5, hb5, ?_⟩
        · rw [hL5.out, List.length_append]; omega
        · rw [hL5.out, HRes.out, HN.out, List.append_assoc]
      case measure => simp [intOf]; omega
    · have HN := Lib.hid (show L = R by rw [HRes.out, HR.out, List.take_of_length_le (by omega)]; rfl)
      go_wp2
      go_ret
      rw [← HN.out]
      exact ⟨A2, c2, rfl, HO2.out, hb2⟩

/-- The region of a round: what its slots hold. -/
def VW (b o n d0 m c2 j : Nat) (A2 : Option Addr) (s t : ByteArray) (d : Nat) (v : Value) : Prop :=
  match d with
  | 15 => v = .slice A2 m c2
  | 16 | 23 => v = .slice (some ⟨b, o, none⟩) n d0
  | 17 | 24 => v = .int .i64 (j : Int)
  | 18 | 25 | 19 => v = .pointer (some ⟨b, o + j * 2, none⟩)
  | 26 => v = .pointer (some ⟨b, o + j * 2 + 1, none⟩)
  | 20 => v = .string s
  | 27 => v = .string t
  | _ => True
/-- .. and what they have to do with memory. -/
structure MW (w : World) (A2 : Option Addr) (c2 : Nat) (L x1 x2 L1 L2 : List Int) (s15 s21 s22 s28 s29 s3 : Option Value) (W : World) : Prop where
  n15 : s15 = none → s3 = none
  n21 : s21 = none → s22 = none
  n22 : s22 = none → s29 = none
  n28 : s28 = none → s29 = none
  n29 : s29 = none → s3 = none
  below : Below w.heap.size w W
  row : s22 = none → OwnS w.heap.size W A2 c2 L
  t1 : s22 = none → ∀ v, s21 = some v → ∃ A c, v = .slice A x1.length c ∧ Lies W A c x1
  row1 : s29 = none → ∀ v, s22 = some v → ∃ A c, v = .slice A L1.length c ∧ OwnS w.heap.size W A c L1
  t2 : s29 = none → ∀ v, s28 = some v → ∃ A c Bt, v = .slice A x2.length c ∧ OwnS Bt W A c x2 ∧ (s22 = none → ∀ g, (Value.slice A2 L.length c2).ownBlock = some g → g < Bt)
  full : ∀ v, s29 = some v → ∃ A c, v = .slice A L2.length c ∧ OwnS w.heap.size W A c L2
  same3 : ∀ v, s3 = some v → s29 = some v
section
variable {w : World} {A2 : Option Addr} {c2 : Nat} {L x1 x2 L1 L2 : List Int} {s15 s21 s22 s28 s29 s3 : Option Value} {W : World}
theorem MW.take15 {v : Value} (h : MW w A2 c2 L x1 x2 L1 L2 s15 s21 s22 s28 s29 s3 W) : MW w A2 c2 L x1 x2 L1 L2 (some v) s21 s22 s28 s29 s3 W := { h with n15 := (fun e => nomatch e) }
theorem MW.text1 {W' : World} {A : Option Addr} {c : Nat} (h : MW w A2 c2 L x1 x2 L1 L2 s15 s21 s22 s28 s29 s3 W) (hn : s21 = none) (hown : OwnS W.heap.size W' A c x1) (hb : Below W.heap.size W W') :
    MW w A2 c2 L x1 x2 L1 L2 s15 (some (.slice A x1.length c)) s22 s28 s29 s3 W' :=
  { h with n21 := (fun e => nomatch e), below := Below.on h.below hb, row := fun e => (h.row e).below hb, t1 := fun e v hv => ⟨A, c, by injection hv with hv; exact hv.symm, OwnS.lies hown⟩,
                   row1 := fun e v hv => (by rw [h.n21 hn] at hv; cases hv), t2 := fun e v hv => (by obtain ⟨A', c', Bt, h1, h2, h3⟩ := h.t2 e v hv; exact ⟨A', c', Bt, h1, h2.below hb, h3⟩),
                   full := fun v hv => (by rw [h.n22 (h.n21 hn)] at hv; cases hv) }
theorem MW.text2 {W' : World} {A : Option Addr} {c : Nat} (h : MW w A2 c2 L x1 x2 L1 L2 s15 s21 s22 s28 s29 s3 W) (hn : s28 = none) (hown : OwnS W.heap.size W' A c x2) (hb : Below W.heap.size W W') :
    MW w A2 c2 L x1 x2 L1 L2 s15 s21 s22 (some (.slice A x2.length c)) s29 s3 W' :=
  { h with n28 := (fun e => nomatch e), below := Below.on h.below hb, row := fun e => (h.row e).below hb, t1 := fun e v hv => (by obtain ⟨A', c', h1, h2⟩ := h.t1 e v hv; exact ⟨A', c', h1, h2.below hb⟩),
                   row1 := fun e v hv => (by obtain ⟨A', c', h1, h2⟩ := h.row1 e v hv; exact ⟨A', c', h1, h2.below hb⟩),
                   t2 := fun e v hv => ⟨A, c, W.heap.size, by injection hv with hv; exact hv.symm, hown, fun e2 g hg => (World.ownsRow.lt (h.row e2) g hg).2⟩,
                   full := fun v hv => (by rw [h.n28 hn] at hv; cases hv) }
theorem MW.app1 {w7 : World} {A7 : Option Addr} {c7 : Nat} {R7 : List Int} {v21 : Value} (h : MW w A2 c2 L x1 x2 L1 L2 s15 s21 s22 s28 s29 s3 W) (h21 : s21 = some v21) (hR : R7 = L1) (hown : OwnS w.heap.size w7 A7 c7 R7) (hg : W.grownBy w7 (Value.slice A2 L.length c2).ownBlock) (hrow : OwnS w.heap.size W A2 c2 L) (hn : s22 = none) :
    MW w A2 c2 L x1 x2 L1 L2 s15 s21 (some (.slice A7 R7.length c7)) s28 s29 s3 w7 := by
  subst hR
  exact { h with n21 := fun e => (by rw [h21] at e; cases e), n22 := (fun e => nomatch e), below := OwnS.grow hrow h.below hg h.below.size, row := (fun e => nomatch e), t1 := (fun e => nomatch e),
                   row1 := fun e v hv => ⟨A7, c7, by injection hv with hv; exact hv.symm, hown⟩,
                   t2 := fun e v hv => (by
            obtain ⟨A', c', Bt, h1, h2, h3⟩ := h.t2 e v hv
            refine ⟨A', c', Bt, h1, World.ownsRow.kept h2 hg ?_, fun e => nomatch e⟩
            cases ho : (Value.slice A' x2.length c').ownBlock with
            | none => exact .inl rfl
            | some g =>
              refine .inr fun e' => ?_
              have h4 := (World.ownsRow.lt h2 g ho).1
              have h5 := h3 hn g e'.symm
              omega),
                   full := fun v hv => (by rw [h.n22 hn] at hv; cases hv) }
theorem MW.app2 {w7 : World} {A7 : Option Addr} {c7 : Nat} {R7 : List Int} {v22 v28 : Value} (h : MW w A2 c2 L x1 x2 L1 L2 s15 s21 s22 s28 s29 s3 W) (h22 : s22 = some v22) (h28 : s28 = some v28) (hR : R7 = L2) (hown : OwnS w.heap.size w7 A7 c7 R7) (hb : Below w.heap.size w w7) (hn : s29 = none) :
    MW w A2 c2 L x1 x2 L1 L2 s15 s21 s22 s28 (some (.slice A7 R7.length c7)) s3 w7 := by
  subst hR
  exact { h with n22 := fun e => (by rw [h22] at e; cases e), n28 := fun e => (by rw [h28] at e; cases e), n29 := (fun e => nomatch e), below := hb, row := fun e => (by rw [h22] at e; cases e), t1 := fun e => (by rw [h22] at e; cases e), row1 := (fun e => nomatch e), t2 := (fun e => nomatch e),
                   full := fun v hv => ⟨A7, c7, by injection hv with hv; exact hv.symm, hown⟩, same3 := fun v hv => (by rw [h.n29 hn] at hv; cases hv) }
theorem MW.assign {v15 v29 : Value} (h : MW w A2 c2 L x1 x2 L1 L2 s15 s21 s22 s28 s29 s3 W) (h15 : s15 = some v15) (h29 : s29 = some v29) : MW w A2 c2 L x1 x2 L1 L2 s15 s21 s22 s28 s29 (some v29) W :=
  { h with n15 := fun e => (by rw [h15] at e; cases e), n29 := fun e => (by rw [h29] at e; cases e), same3 := fun v hv => (by rw [h29]; exact hv) }
end

set_option maxRecDepth 100000 in
set_option maxHeartbeats 4000000 in
theorem rpairs_calls (D : Option Addr) (d0 : Nat) (ss : List (ByteArray × ByteArray)) (w : World) (hs : CellsG enP w D d0 ss) (hn : ss.length ≤ 1000) (hsm : ∀ s ∈ ss, s.1.size ≤ 65536 ∧ s.2.size ≤ 65536) :
    Calls Try.prog 14 #[.slice D ss.length d0] w (Own w.heap.size w (listB encP ss)) := by
  have hw : IntKind.u64.wrap (ss.length : Int) = ss.length := IntWalk.u64_in _ ⟨by omega, by omega⟩
  have HP := Lib.hid (bytes_calls (ss.length : Int) w (by omega) (by omega))
  have HC := Lib.hid hs
  have HSM := Lib.hid hsm
  have hu23 := run_underlying (P := Try.prog) Try.underlying23
  have hL0 : (enc (ss.length : Int)).length ≤ 9 := by rw [enc_length]; exact vlen_le _
  obtain ⟨R, hR⟩ : ∃ R, R = listB encP ss := ⟨_, rfl⟩
  rw [← hR]
  have HR := Lib.hid hR
  have HL := Lib.hid (show ∀ A c W, OwnS w.heap.size W A c (enc (ss.length : Int)) → Below w.heap.size w W → RelL encP w ss (.slice A (enc (ss.length : Int)).length c) (.int .i64 0) W from fun A c W h1 h2 => ⟨0, A, c, enc (ss.length : Int), rfl, rfl, by omega, by omega, h1, h2, by simp⟩)
  clear hs hsm hR
  generalize enc (ss.length : Int) = L0 at *
  go_enter Try.func14, Try.ntmps14
  go_wp2_with (go_at_call 29; refine HP.out.mono ?_; rintro e w1 ⟨A1, c1, rfl, hown1, hb1⟩)
  have H1 := Lib.hid hown1
  clear hown1
  go_loopw [3, 4] (RelL encP w ss) (fun _ i _ => ss.length - (intOf i).toNat)
  case atStart => exact HL.out A1 c1 w1 H1.out hb1
  case round =>
    obtain ⟨j, A2, c2, L, rfl, rfl, hk, hLk, hown2, hb2, hres⟩ := hrel
    have HO2 := Lib.hid hown2
    have HRes := Lib.hid hres
    clear hown2 hres
    by_cases hlt : j < ss.length
    · obtain ⟨b, o, hD, hbs, hcell⟩ := HC.out.at_ elP (by omega)
      obtain ⟨⟨s, t⟩, hsk⟩ : ∃ s, ss[j]? = some s := ⟨ss[j], by simp [hlt]⟩
      have hck0 := hcell j 0 (s, t) hsk (by omega)
      have hck1 := hcell j 1 (s, t) hsk (by omega)
      rw [Nat.add_zero] at hck0
      rw [← Nat.add_assoc] at hck1
      simp only [enP, List.getElem?_cons_zero, List.getElem?_cons_succ] at hck0 hck1
      have HC0 := Lib.hid hck0
      have HC1 := Lib.hid hck1
      subst hD
      have hsz := HSM.out (s, t) (List.mem_of_getElem? hsk)
      dsimp only at hsz
      have HT1 := Lib.hid (fun W => text_calls s W (by omega))
      have HT2 := Lib.hid (fun W => text_calls t W (by omega))
      have HX1 := Lib.hid (show enc s.size ++ sl s = encT (sl s) by unfold encT; rw [sl_length])
      have HX2 := Lib.hid (show enc t.size ++ sl t = encT (sl t) by unfold encT; rw [sl_length])
      have hxl1 : (encT (sl s)).length ≤ 65545 := by rw [encT_length, sl_length]; have := vlen_le s.size; omega
      have hxl2 : (encT (sl t)).length ≤ 65545 := by rw [encT_length, sl_length]; have := vlen_le t.size; omega
      rw [HX1.out] at HT1
      rw [HX2.out] at HT2
      have HN := Lib.hid (show (ss.take (j + 1)).flatMap encP = (ss.take j).flatMap encP ++ (encT (sl s) ++ encT (sl t)) from flat_step (f := encP) hsk)
      clear hcell hsk HX1 HX2 hck0 hck1
      obtain ⟨x1, hx1⟩ : ∃ x1, x1 = encT (sl s) := ⟨_, rfl⟩
      obtain ⟨x2, hx2⟩ : ∃ x2, x2 = encT (sl t) := ⟨_, rfl⟩
      rw [← hx1] at HT1 hxl1 HN
      rw [← hx2] at HT2 hxl2 HN
      clear hx1 hx2
      obtain ⟨L1, hL1⟩ : ∃ L1, L1 = L ++ x1 := ⟨_, rfl⟩
      obtain ⟨L2, hL2⟩ : ∃ L2, L2 = L1 ++ x2 := ⟨_, rfl⟩
      have hL1l : L1.length ≤ 65555 + 200000 * j := by rw [hL1, List.length_append]; omega
      have HL1 := Lib.hid hL1
      have HL2 := Lib.hid hL2
      obtain ⟨n, hn2⟩ : ∃ n, n = ss.length := ⟨_, rfl⟩
      obtain ⟨m, hm⟩ : ∃ m, m = L.length := ⟨_, rfl⟩
      have HM := Lib.hid hm.symm
      have hM0 : MW w A2 c2 L x1 x2 L1 L2 none none none none none none wr.drew := ⟨fun _ => rfl, fun _ => rfl, fun _ => rfl, fun _ => rfl, fun _ => rfl, hb2.drew, fun _ => HO2.out.below ((Below.refl _ _).drew), (fun _ v hv => nomatch hv), (fun _ v hv => nomatch hv), (fun _ v hv => nomatch hv), (fun v hv => nomatch hv), (fun v hv => nomatch hv)⟩
      rw [← hn2] at hlt hk hn ⊢
      rw [← hm] at hLk ⊢
      have HN2 := Lib.hid hn2
      clear hL1 hL2 hn2 hm
      go_wp2_with fail
      refine wp_region_hist (by kernel_rfl) (fun σ W => SlotsAre (VW b o n d0 m c2 j A2 s t) σ ∧ MW w A2 c2 L x1 x2 L1 L2 (σ 15) (σ 21) (σ 22) (σ 28) (σ 29) (σ 3) W) [[], [], [], [16, 17], [18], [19], [20], [15, 21], [], [], [23, 24], [25], [26], [27], [22, 28], [29, 15]] (by kernel_rfl) ⟨SlotsAre.none _, hM0⟩ ?_ ?_
      · refine ⟨?_, ?_, ?_, ?_, ?_, ?_, ?_, ?_, ?_, ?_, ?_, ?_, ?_, ?_, ?_, ?_, trivial⟩
        · intro σ a W hJ hsame hold hfree ht
          obtain ⟨hV, hM⟩ := hJ
          have h3 := hold 3 (hM.n15 (hfree 15 rfl))
          change a.tmps.getD 3 undef = .slice A2 m c2 at h3
          rw [if_pos (by rfl)]
          clear hsame hold
          unfold Oper.wp
          go_simp
          exact ⟨_, rfl, hV.upd (by exact rfl), hM.take15⟩
        · intro σ a W hJ hsame hold hfree ht
          obtain ⟨hV, hM⟩ := hJ
          have h0 := hsame 0 (by decide)
          change a.tmps.getD 0 undef = .slice (some ⟨b, o, none⟩) n d0 at h0
          rw [if_pos (by rfl)]
          clear hsame hold
          unfold Oper.wp
          go_simp
          exact ⟨_, rfl, hV.upd (by exact rfl), hM⟩
        · intro σ a W hJ hsame hold hfree ht
          obtain ⟨hV, hM⟩ := hJ
          have h4 := hsame 4 (by decide)
          change a.tmps.getD 4 undef = .int .i64 (j : Int) at h4
          rw [if_pos (by rfl)]
          clear hsame hold
          unfold Oper.wp
          go_simp
          exact ⟨_, rfl, hV.upd (by exact rfl), hM⟩
        · intro σ a W hJ hsame hold hfree ht
          obtain ⟨hV, hM⟩ := hJ
          obtain ⟨⟨v16, s16, h16⟩, ⟨v17, s17, h17⟩, _⟩ := ht
          have q16 := hV 16 v16 s16
          change v16 = .slice (some ⟨b, o, none⟩) n d0 at q16
          rw [q16] at h16
          have q17 := hV 17 v17 s17
          change v17 = .int .i64 (j : Int) at q17
          rw [q17] at h17
          rw [if_pos (by rfl)]
          clear hsame hold
          have hj2 : (j : Int) < (n : Int) := by omega
          unfold Oper.wp
          go_simp
          exact ⟨_, rfl, hV.upd (by exact rfl), hM⟩
        · intro σ a W hJ hsame hold hfree ht
          obtain ⟨hV, hM⟩ := hJ
          obtain ⟨⟨v18, s18, h18⟩, _⟩ := ht
          have q18 := hV 18 v18 s18
          change v18 = .pointer (some ⟨b, o + j * 2, none⟩) at q18
          rw [q18] at h18
          rw [if_pos (by rfl)]
          clear hsame hold
          unfold Oper.wp
          go_simp
          exact ⟨_, rfl, hV.upd (by exact rfl), hM⟩
        · intro σ a W hJ hsame hold hfree ht
          obtain ⟨hV, hM⟩ := hJ
          obtain ⟨⟨v19, s19, h19⟩, _⟩ := ht
          have q19 := hV 19 v19 s19
          change v19 = .pointer (some ⟨b, o + j * 2, none⟩) at q19
          rw [q19] at h19
          rw [if_pos (by rfl)]
          clear hsame hold
          have hck := (hM.below.cell (p := ⟨b, o + j * 2, none⟩) hbs).trans HC0.out
          unfold Oper.wp
          go_simp
          exact ⟨_, rfl, hV.upd (by exact rfl), hM⟩
        · intro σ a W hJ hsame hold hfree ht
          obtain ⟨hV, hM⟩ := hJ
          obtain ⟨⟨v20, s20, h20⟩, _⟩ := ht
          have q20 := hV 20 v20 s20
          change v20 = .string s at q20
          rw [q20] at h20
          rw [if_pos (by rfl)]
          clear hsame hold
          have hn := hfree 21 rfl
          unfold Oper.wp
          go_simp
          refine (HT1.out W).mono ?_
          rintro e' W' ⟨A, c, rfl, hown, hb⟩
          exact ⟨_, rfl, hV.upd trivial, hM.text1 hn hown hb⟩
        · intro σ a W hJ hsame hold hfree ht
          obtain ⟨hV, hM⟩ := hJ
          obtain ⟨⟨v15, s15, h15⟩, ⟨v21, s21, h21⟩, _⟩ := ht
          have q15 := hV 15 v15 s15
          change v15 = .slice A2 m c2 at q15
          rw [q15] at h15
          rw [if_pos (by rfl)]
          clear hsame hold
          have hn := hfree 22 rfl
          obtain ⟨A, c, hv, hl1⟩ := hM.t1 hn v21 s21
          have hown := hM.row hn
          have hbm := hM.below
          subst hv
          refine wp_append_bytes (.tmp 15) (.tmp 21) rfl w.heap.size A2 c2 L (by rw [HM.out]; exact h15) hown A c x1 (by exact h21) hl1 (by have := HM.out; omega) hbm.size ?_
          intro A7 c7 w7 R7 hR7 hown7 hgrow7
          exact ⟨_, rfl, hV.upd trivial, hM.app1 s21 (hR7.out.trans HL1.out.symm) hown7 hgrow7 hown hn⟩
        · intro σ a W hJ hsame hold hfree ht
          obtain ⟨hV, hM⟩ := hJ
          have h0 := hsame 0 (by decide)
          change a.tmps.getD 0 undef = .slice (some ⟨b, o, none⟩) n d0 at h0
          rw [if_pos (by rfl)]
          clear hsame hold
          unfold Oper.wp
          go_simp
          exact ⟨_, rfl, hV.upd (by exact rfl), hM⟩
        · intro σ a W hJ hsame hold hfree ht
          obtain ⟨hV, hM⟩ := hJ
          have h4 := hsame 4 (by decide)
          change a.tmps.getD 4 undef = .int .i64 (j : Int) at h4
          rw [if_pos (by rfl)]
          clear hsame hold
          unfold Oper.wp
          go_simp
          exact ⟨_, rfl, hV.upd (by exact rfl), hM⟩
        · intro σ a W hJ hsame hold hfree ht
          obtain ⟨hV, hM⟩ := hJ
          obtain ⟨⟨v23, s23, h23⟩, ⟨v24, s24, h24⟩, _⟩ := ht
          have q23 := hV 23 v23 s23
          change v23 = .slice (some ⟨b, o, none⟩) n d0 at q23
          rw [q23] at h23
          have q24 := hV 24 v24 s24
          change v24 = .int .i64 (j : Int) at q24
          rw [q24] at h24
          rw [if_pos (by rfl)]
          clear hsame hold
          have hj2 : (j : Int) < (n : Int) := by omega
          unfold Oper.wp
          go_simp
          exact ⟨_, rfl, hV.upd (by exact rfl), hM⟩
        · intro σ a W hJ hsame hold hfree ht
          obtain ⟨hV, hM⟩ := hJ
          obtain ⟨⟨v25, s25, h25⟩, _⟩ := ht
          have q25 := hV 25 v25 s25
          change v25 = .pointer (some ⟨b, o + j * 2, none⟩) at q25
          rw [q25] at h25
          rw [if_pos (by rfl)]
          clear hsame hold
          unfold Oper.wp
          go_simp
          exact ⟨_, rfl, hV.upd (by exact rfl), hM⟩
        · intro σ a W hJ hsame hold hfree ht
          obtain ⟨hV, hM⟩ := hJ
          obtain ⟨⟨v26, s26, h26⟩, _⟩ := ht
          have q26 := hV 26 v26 s26
          change v26 = .pointer (some ⟨b, o + j * 2 + 1, none⟩) at q26
          rw [q26] at h26
          rw [if_pos (by rfl)]
          clear hsame hold
          have hck := (hM.below.cell (p := ⟨b, o + j * 2 + 1, none⟩) hbs).trans HC1.out
          unfold Oper.wp
          go_simp
          exact ⟨_, rfl, hV.upd (by exact rfl), hM⟩
        · intro σ a W hJ hsame hold hfree ht
          obtain ⟨hV, hM⟩ := hJ
          obtain ⟨⟨v27, s27, h27⟩, _⟩ := ht
          have q27 := hV 27 v27 s27
          change v27 = .string t at q27
          rw [q27] at h27
          rw [if_pos (by rfl)]
          clear hsame hold
          have hn := hfree 28 rfl
          unfold Oper.wp
          go_simp
          refine (HT2.out W).mono ?_
          rintro e' W' ⟨A, c, rfl, hown, hb⟩
          exact ⟨_, rfl, hV.upd trivial, hM.text2 hn hown hb⟩
        · intro σ a W hJ hsame hold hfree ht
          obtain ⟨hV, hM⟩ := hJ
          obtain ⟨⟨v22, s22, h22⟩, ⟨v28, s28, h28⟩, _⟩ := ht
          rw [if_pos (by rfl)]
          clear hsame hold
          have hn := hfree 29 rfl
          obtain ⟨A, c, Bt, hv, hown2, _⟩ := hM.t2 hn v28 s28
          obtain ⟨A1, c1, hv1, hown1⟩ := hM.row1 hn v22 s22
          have hbm := hM.below
          subst hv hv1
          refine wp_append_bytes (.tmp 22) (.tmp 28) rfl w.heap.size A1 c1 L1 (by exact h22) hown1 A c x2 (by exact h28) (OwnS.lies hown2) (by omega) hbm.size ?_
          intro A7 c7 w7 R7 hR7 hown7 hgrow7
          exact ⟨_, rfl, hV.upd trivial, hM.app2 s22 s28 (hR7.out.trans HL2.out.symm) hown7 (OwnS.grow hown1 hbm hgrow7 hbm.size) hn⟩
        · intro σ a W hJ hsame hold hfree ht
          obtain ⟨hV, hM⟩ := hJ
          obtain ⟨⟨v29, s29, h29⟩, ⟨v15, s15, h15⟩, _⟩ := ht
          have q15 := hV 15 v15 s15
          change v15 = .slice A2 m c2 at q15
          rw [q15] at h15
          rw [if_pos (by rfl)]
          clear hsame hold
          unfold Oper.wp
          go_simp
          exact ⟨_, rfl, hV.upd trivial, hM.assign s15 s29⟩
      · intro σ a W hJ hsz hdef hsame hall
        obtain ⟨hV, hM⟩ := hJ
        obtain ⟨v3, s3, h3⟩ := hall 3 (by decide)
        obtain ⟨v15, s15, h15⟩ := hall 15 (by decide)
        have q15 := hV 15 v15 s15
        change v15 = .slice A2 m c2 at q15
        rw [q15] at h15
        obtain ⟨v16, s16, h16⟩ := hall 16 (by decide)
        have q16 := hV 16 v16 s16
        change v16 = .slice (some ⟨b, o, none⟩) n d0 at q16
        rw [q16] at h16
        obtain ⟨v17, s17, h17⟩ := hall 17 (by decide)
        have q17 := hV 17 v17 s17
        change v17 = .int .i64 (j : Int) at q17
        rw [q17] at h17
        obtain ⟨v18, s18, h18⟩ := hall 18 (by decide)
        have q18 := hV 18 v18 s18
        change v18 = .pointer (some ⟨b, o + j * 2, none⟩) at q18
        rw [q18] at h18
        obtain ⟨v19, s19, h19⟩ := hall 19 (by decide)
        have q19 := hV 19 v19 s19
        change v19 = .pointer (some ⟨b, o + j * 2, none⟩) at q19
        rw [q19] at h19
        obtain ⟨v20, s20, h20⟩ := hall 20 (by decide)
        have q20 := hV 20 v20 s20
        change v20 = .string s at q20
        rw [q20] at h20
        obtain ⟨v21, s21, h21⟩ := hall 21 (by decide)
        obtain ⟨v22, s22, h22⟩ := hall 22 (by decide)
        obtain ⟨v23, s23, h23⟩ := hall 23 (by decide)
        have q23 := hV 23 v23 s23
        change v23 = .slice (some ⟨b, o, none⟩) n d0 at q23
        rw [q23] at h23
        obtain ⟨v24, s24, h24⟩ := hall 24 (by decide)
        have q24 := hV 24 v24 s24
        change v24 = .int .i64 (j : Int) at q24
        rw [q24] at h24
        obtain ⟨v25, s25, h25⟩ := hall 25 (by decide)
        have q25 := hV 25 v25 s25
        change v25 = .pointer (some ⟨b, o + j * 2, none⟩) at q25
        rw [q25] at h25
        obtain ⟨v26, s26, h26⟩ := hall 26 (by decide)
        have q26 := hV 26 v26 s26
        change v26 = .pointer (some ⟨b, o + j * 2 + 1, none⟩) at q26
        rw [q26] at h26
        obtain ⟨v27, s27, h27⟩ := hall 27 (by decide)
        have q27 := hV 27 v27 s27
        change v27 = .string t at q27
        rw [q27] at h27
        obtain ⟨v28, s28, h28⟩ := hall 28 (by decide)
        obtain ⟨v29, s29, h29⟩ := hall 29 (by decide)
        have e3 := hM.same3 v3 s3
        rw [s29] at e3
        injection e3 with e3
        obtain ⟨A7, c7, e29, hown7⟩ := hM.full v29 s29
        have hb7 := hM.below
        subst e3 e29
        have hact := act_of (l := [_, _, _, _, _, _, _, _, _, _, _, _, _, _, _, _, _, _, _, _, _, _, _, _, _, _, _, _, _, _, _]) (ds := []) (by exact hsz) hdef ⟨hsame 0 (by decide), hsame 1 (by decide), hsame 2 (by decide), h3, hsame 4 (by decide), hsame 5 (by decide), hsame 6 (by decide), hsame 7 (by decide), hsame 8 (by decide), hsame 9 (by decide), hsame 10 (by decide), hsame 11 (by decide), hsame 12 (by decide), hsame 13 (by decide), hsame 14 (by decide), h15, h16, h17, h18, h19, h20, h21, h22, h23, h24, h25, h26, h27, h28, h29, hsame 30 (by decide), trivial⟩
        clear hall hsame hsz hdef hV h3 h15 h16 h17 h18 h19 h20 h21 h22 h23 h24 h25 h26 h27 h28 h29
        subst hact
        clear hM
        go_wp2
        go_roundw
        case rel =>
          refine ⟨.slice A7 L2.length c7, .int .i64 ((j : Int) + 1), _, _, _, _, _, _, _, _, _, _, _, _, _, _, _, _, _, _, _, _, _, ⟨j + 1, A7, c7, L2, ?_, rfl, ?_, ?_, hown7, hb7, ?_⟩, rfl⟩
          · go_num
          · have := HN2.out; omega
          · rw [HL2.out, List.length_append]; omega
          · rw [HN.out, HL2.out, HL1.out, HRes.out]; simp only [List.append_assoc]
        case measure => have := HN2.out; simp [intOf]; omega
    · have HN := Lib.hid (show L = R by rw [HRes.out, HR.out, List.take_of_length_le (by omega)]; rfl)
      go_wp2
      go_ret
      rw [← HN.out]
      exact ⟨A2, c2, rfl, HO2.out, hb2⟩
end Go.Proofs.Ytimcolanmbklpaa
