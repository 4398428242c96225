/-
  What was synced is there behind any crash, and what is there was appended, in order, from the beginning on: the law returns true for every input. No condition.
-/
import Derived.Test.YtpnlgmnlanoncaaRows
import Derived.Test.YtpnlgmnlanoncaaDActs
import Derived.Test.YtpnlgmnlanoncaaDLive
import Derived.Test.YtpnlgmnlanoncaaDLastS
namespace Go.Proofs.Ytpnlgmnlanoncaa
namespace diskLasts
open Go.ChangeShapes Go.WideShapes Go.ChangeAt Go.RowKit
set_option linter.unusedVariables false

def enB (b : Bool) : List Value := [.bool b]
theorem elB : El 4 1 1 (.bool false) enB := ⟨by kernel_rfl, rfl, by decide, fun _ => rfl, fun x u hu => by simp [enB] at hu; subst hu; rfl⟩
theorem bools_of_arg {H : Type} {encH : TypeId × Value → H} {W : World} {base : Nat} {held : Bool} {fuel : Nat} {a : Option Addr} {len cap : Nat} {x : DataW H × List MemPlace} (h : DataW.trod encH Try.prog W base (fun _ => true) held fuel 47 [.slice a len cap] = some x) (hW : ∀ m ∈ x.1.weights Try.prog 47, m ≤ reachBytes) :
    ∃ l : List Bool, l.length = len ∧ l.length ≤ cap ∧ l.length ≤ maxLen ∧ CellsG enB W a cap l ∧ ∀ b ∈ l, True :=
  vals_of_arg_sized 47 4 Try.underlying47 1 (by kernel_rfl) (by omega) enB (fun _ => rfl) (fun _ => True) (fun n cs y hy hw hl => by
    obtain ⟨b, rfl, _⟩ := DataW.trod_bool Try.underlying4 hy
    exact ⟨b, rfl, trivial⟩) h hW
theorem lies_block {w : World} {A : Option Addr} {c : Nat} {l : List Int} (h : Lies w A c l) (hne : l ≠ []) : ∀ a, A = some a → a.block < w.heap.size := fun a ha => by
  obtain ⟨b, o, h1, h2, _⟩ := h.at_ (List.length_pos_iff.2 hne)
  rw [h1] at ha
  injection ha with ha
  subst ha
  exact h2
theorem app_step {w w1 : World} {sb : Nat} {d d' : St} (hb1 : Below w.heap.size w w1) (h : DiskB w.heap.size w1.heap.size w1 sb d) (s : ByteArray) (hs : s.size ≤ maxLen) (A : Option Addr) (c : Nat) (l : List Int) (hl : Lies w A c l) (hb : IsB l) (hm : l.length ≤ maxLen) (he : appendS d s l = (d', 0)) :
    Calls Try.prog 13 #[.pointer (some ⟨sb, 0, none⟩), .string s, .slice A l.length c] w1 fun e w' => e = .returned (.int .i64 0) ∧ DiskB w.heap.size w'.heap.size w' sb d' ∧ Below w.heap.size w w' := by
  have H := append_b h hb1.size s hs A c l (hl.below hb1) (fun hne a ha => ⟨.inl (lies_block hl hne a ha), Nat.lt_of_lt_of_le (lies_block hl hne a ha) hb1.size⟩) hb hm
  rw [he] at H
  exact H.mono fun e w' h => ⟨h.1, h.2.1, hb1.trans h.2.2⟩
theorem sync_step {w w1 : World} {sb : Nat} {d d' : St} (hb1 : Below w.heap.size w w1) (h : DiskB w.heap.size w1.heap.size w1 sb d) (s : ByteArray) (hs : s.size ≤ maxLen) (he : syncS d s = (d', 0)) :
    Calls Try.prog 18 #[.pointer (some ⟨sb, 0, none⟩), .string s] w1 fun e w' => e = .returned (.int .i64 0) ∧ DiskB w.heap.size w'.heap.size w' sb d' ∧ Below w.heap.size w w' := by
  have H := sync_b h hb1.size s hs
  rw [he] at H
  exact H.mono fun e w' h => ⟨h.1, h.2.1, hb1.trans h.2.2⟩
theorem read_step {w w1 : World} {sb : Nat} {d : St} {r : List Int × Int} (hb1 : Below w.heap.size w w1) (h : DiskB w.heap.size w1.heap.size w1 sb d) (s : ByteArray) (hs : s.size ≤ maxLen) (he : readS d s = r) :
    Calls Try.prog 15 #[.pointer (some ⟨sb, 0, none⟩), .string s] w1 fun e w' => ∃ A c, e = .returned (.tuple #[.slice A r.1.length c, .int .i64 r.2]) ∧ Lies w' A c r.1 ∧ Below w.heap.size w w' := by
  have H := read_b h s hs
  rw [he] at H
  refine H.mono ?_
  rintro e w' ⟨A, c, h1, h2, h3⟩
  exact ⟨A, c, h1, h2.lies, hb1.trans (h3.mono hb1.size)⟩
/-- The disk behind some rounds: nothing yet, or one file. -/
def Mid (b : List Int) (i a s : Nat) (d : St) : Prop := a ≤ b.length ∧ s ≤ a ∧ ((i = 0 ∧ a = 0 ∧ s = 0 ∧ d = newS 1000) ∨ ∃ ev, d = lf b a s ev ∧ (ev = false → s = 0))
theorem Mid.app {b : List Int} {i a s : Nat} {d : St} (h : Mid b i a s d) (n : Nat) (hn : a + n ≤ b.length) (hb : b.length ≤ 500) : ∃ ev, appendS d nmL ((b.drop a).take n) = (lf b (a + n) s ev, 0) ∧ (ev = false → s = 0) := by
  obtain ⟨h1, h2, h3⟩ := h
  rcases h3 with ⟨_, rfl, rfl, rfl⟩ | ⟨ev, rfl, hev⟩
  · exact ⟨false, ls1 b n hb, fun _ => rfl⟩
  · exact ⟨ev, ls2 b a s n ev hb, hev⟩
theorem Mid.read {b : List Int} {i a s : Nat} {d : St} (h : Mid b i a s d) (k : Int) : ∃ n, s ≤ n ∧ n ≤ a ∧ ((readS (crashS d [k]) nmL = (b.take n, 0)) ∨ (readS (crashS d [k]) nmL = ([], 6) ∧ s = 0)) := by
  obtain ⟨h1, h2, h3⟩ := h
  rcases h3 with ⟨_, rfl, rfl, rfl⟩ | ⟨ev, rfl, hev⟩
  · exact ⟨0, by omega, by omega, .inr ⟨ls4 k, rfl⟩⟩
  · exact ls5 b a s ev h1 h2 hev k
def Rel (b : List Int) (m : Nat) (sb : Nat) (w : World) (x y z : Value) (wr : World) : Prop :=
  ∃ (i a s : Nat) (d : St), x = .int .i64 (a : Int) ∧ y = .int .i64 (s : Int) ∧ z = .int .i64 (i : Int) ∧ i ≤ m ∧ Mid b i a s d ∧ DiskB w.heap.size wr.heap.size wr sb d ∧ Below w.heap.size w wr

set_option maxRecDepth 20000 in
set_option maxHeartbeats 4000000 in
theorem walk (A : Option Addr) (c : Nat) (b : List Int) (A1 : Option Addr) (c1 : Nat) (z : List Int) (A2 : Option Addr) (c2 : Nat) (y : List Bool) (k : Int) (w : World) (hc : b.length ≤ c) (hbm : b.length ≤ maxLen) (hb : Lies w A c b) (hbb : IsB b) (hc1 : z.length ≤ c1) (hzm : z.length ≤ maxLen) (hz : Lies w A1 c1 z) (hzb : IsB z) (hym : y.length ≤ maxLen) (hy : CellsG enB w A2 c2 y) (hyt : ∀ b ∈ y, True) (hk : (Lit.int .i64 k).wf = true) :
    Calls Try.prog 4 #[.slice A b.length c, .slice A1 z.length c1, .slice A2 y.length c2, .int .i64 k] w fun e w' => e = .returned (.bool true) ∧ Below w.heap.size w w' := by
  have hk2 := i64_of_wf hk
  unfold maxLen at hbm hzm hym
  obtain ⟨n, hn⟩ : ∃ n, n = b.length := ⟨_, rfl⟩
  obtain ⟨m, hm⟩ : ∃ m, m = z.length := ⟨_, rfl⟩
  obtain ⟨q, hq⟩ : ∃ q, q = y.length := ⟨_, rfl⟩
  have HN := Lib.hid hn
  have HM := Lib.hid hm
  have HQ := Lib.hid hq
  rw [← hn, ← hm, ← hq]
  rw [← hn] at hbm hc
  rw [← hm] at hzm hc1
  rw [← hq] at hym
  have HB := Lib.hid hb
  have HZ := Lib.hid hz
  have HY := Lib.hid hy
  have HBB := Lib.hid hbb
  have HZB := Lib.hid hzb
  have hu33 := run_underlying (P := Try.prog) Try.underlying33
  have hu47 := run_underlying (P := Try.prog) Try.underlying47
  clear hn hm hq hb hz hy hbb hzb hk hyt
  by_cases h5 : 500 < n
  · have HL := Lib.hid (live_calls w)
    have hd1 : decide ((500 : Int) < (n : Int)) = true := by simp; omega
    go_enter Try.func4, Try.ntmps4
    go_wp2_with (go_at_call 8; refine (HL.out).mono ?_; rintro e w' ⟨rfl, hb⟩)
    go_ret
    exact ⟨rfl, hb⟩
  · have hd1 : decide ((500 : Int) < (n : Int)) = false := by simp; omega
    by_cases h6 : 50 < m
    · have HL := Lib.hid (live_calls w)
      have hd2 : decide ((50 : Int) < (m : Int)) = true := by simp; omega
      go_enter Try.func4, Try.ntmps4
      go_wp2_with (go_at_call 8; refine (HL.out).mono ?_; rintro e w' ⟨rfl, hb⟩)
      go_ret
      exact ⟨rfl, hb⟩
    · have hd2 : decide ((50 : Int) < (m : Int)) = false := by simp; omega
      have hn5 : n ≤ 500 := by omega
      have hm5 : m ≤ 50 := by omega
      clear h5 h6
      go_enter Try.func4, Try.ntmps4
      go_wp2_with fail
      refine (new_b 1000 (by omega) (by omega) w).mono ?_
      rintro e w1 ⟨sb, rfl, hD1, hb1⟩
      have HD1 := Lib.hid hD1
      have HB1 := Lib.hid hb1
      clear hD1 hb1
      unfold at_
      dsimp only
      go_wp2_with (go_at_call 10; refine (code_calls _ _).mono ?_; rintro e w' ⟨rfl, rfl⟩)
      go_loopw [11, 12, 13] (Rel b m sb w) (fun _ _ i _ => m - (intOf i).toNat)
      case atStart => exact ⟨0, 0, 0, newS 1000, rfl, rfl, rfl, by omega, ⟨by omega, by omega, .inl ⟨rfl, rfl, rfl, rfl⟩⟩, HD1.out, HB1.out⟩
      case round =>
        obtain ⟨i, a, s, d, rfl, rfl, rfl, him, hmid, hD, hbl⟩ := hrel
        have HMID := Lib.hid hmid
        have HD := Lib.hid hD
        have HBL := Lib.hid hbl
        have han : a ≤ n := by rw [HN.out]; exact hmid.1
        have hsa : s ≤ a := hmid.2.1
        clear hmid hD hbl
        by_cases hlt : i < m
        · have hlti : (i : Int) < (m : Int) := by omega
          obtain ⟨bl, o, hA1, hbs, hcell⟩ := HZ.out.at_ (by rw [← HM.out]; omega)
          have hck := (HBL.out.cell (p := ⟨bl, o + i, none⟩) hbs).trans (hcell i (by rw [← HM.out]; omega))
          obtain ⟨x, hx⟩ : ∃ x, x = z.getD i 0 := ⟨_, rfl⟩
          have hxr := HZB.out.getD (k := i) (by rw [← HM.out]; exact hlt)
          rw [← hx] at hck hxr
          subst hA1
          clear hcell hx
          have hrem : (x.tmod 20) = x % 20 := Int.tmod_eq_emod_of_nonneg hxr.1
          obtain ⟨t, ht⟩ : ∃ t : Nat, (t : Int) = min (x % 20) ((n : Int) - (a : Int)) := ⟨(min (x % 20) ((n : Int) - (a : Int))).toNat, by omega⟩
          have htn : a + t ≤ n := by omega
          have ht20 : t ≤ 20 := by omega
          obtain ⟨ev, happ, hev⟩ := HMID.out.app t (by rw [← HN.out]; exact htn) (by rw [← HN.out]; exact hn5)
          obtain ⟨A', C', hrun, hl', _⟩ := cut_lh HB.out (by rw [← HN.out]; exact hc) a t (a : Int) ((a : Int) + (t : Int)) rfl rfl (by rw [← HN.out]; exact htn)
          rw [← HN.out] at hrun
          have ht2 : min (x % 20) ((n : Int) - (a : Int)) = (t : Int) := ht.symm
          have hlen : ((b.drop a).take t).length = t := by rw [List.length_take, List.length_drop, ← HN.out]; omega
          have HAPP := Lib.hid (app_step HBL.out HD.out nmL (by decide) A' C' ((b.drop a).take t) (hl' w (Below.refl _ _)) (fun u hu => HBB.out u (List.mem_of_mem_drop (List.mem_of_mem_take hu))) (by rw [hlen]; unfold maxLen; omega) happ)
          rw [hlen] at HAPP
          have HEV := Lib.hid hev
          clear ht hl' happ hev hlen hrem
          go_wp2_with fail
          refine HAPP.out.mono ?_
          rintro e w2 ⟨rfl, hD2, hb2⟩
          have HD2 := Lib.hid hD2
          have HB2 := Lib.hid hb2
          clear hD2 hb2 hck hrun
          dsimp only
          by_cases hiq : i < q
          · have hiqi : (i : Int) < (q : Int) := by omega
            obtain ⟨v, hv⟩ : ∃ v, y[i]? = some v := ⟨y[i]'(by rw [← HQ.out]; exact hiq), by simp⟩
            obtain ⟨b2, o2, hA2, hbs2, hcell2⟩ := HY.out.at_ elB (by rw [← HQ.out]; omega)
            have hck2 := (HB2.out.cell (p := ⟨b2, o2 + (i * 1 + 0), none⟩) hbs2).trans (hcell2 i 0 v hv (by omega))
            rw [Nat.mul_one, Nat.add_zero] at hck2
            simp only [enB, List.getElem?_cons_zero] at hck2
            subst hA2
            clear hcell2 hv
            cases v with
            | true =>
              go_wp2_with (go_at_call 10; refine (code_calls _ _).mono ?_; rintro e w' ⟨rfl, rfl⟩)
              refine (sync_step HB2.out HD2.out nmL (by decide) (ls3 b (a + t) s ev (by rw [← HN.out]; omega))).mono ?_
              rintro e w3 ⟨rfl, hD3, hb3⟩
              have HD3 := Lib.hid hD3
              have HB3 := Lib.hid hb3
              clear hD3 hb3 hck2
              dsimp only
              go_wp2_with (go_at_call 10; refine (code_calls _ _).mono ?_; rintro e w' ⟨rfl, rfl⟩)
              go_roundw
              case rel => exact ⟨i + 1, a + t, a + t, _, by go_num, by go_num, by go_num, by omega, ⟨by rw [← HN.out]; omega, by omega, .inr ⟨true, rfl, fun h => by cases h⟩⟩, HD3.out, HB3.out⟩
              case measure => simp [intOf]; omega
            | false =>
              go_wp2_with (go_at_call 10; refine (code_calls _ _).mono ?_; rintro e w' ⟨rfl, rfl⟩)
              go_roundw
              case rel => exact ⟨i + 1, a + t, s, _, by go_num, rfl, by go_num, by omega, ⟨by rw [← HN.out]; omega, by omega, .inr ⟨ev, rfl, HEV.out⟩⟩, HD2.out, HB2.out⟩
              case measure => simp [intOf]; omega
          · have hiqi : decide ((i : Int) < (q : Int)) = false := by simp; omega
            go_wp2_with (go_at_call 10; refine (code_calls _ _).mono ?_; rintro e w' ⟨rfl, rfl⟩)
            go_roundw
            case rel => exact ⟨i + 1, a + t, s, _, by go_num, rfl, by go_num, by omega, ⟨by rw [← HN.out]; omega, by omega, .inr ⟨ev, rfl, HEV.out⟩⟩, HD2.out, HB2.out⟩
            case measure => simp [intOf]; omega
        · have hlti : decide ((i : Int) < (m : Int)) = false := by simp; omega
          obtain ⟨j, hj1, hj2, hcase⟩ := HMID.out.read k
          go_wp2_with fail
          refine (crash_lit w.heap.size wr sb _ k hk2 HD.out HBL.out.size).mono ?_
          rintro e w7 ⟨rfl, hD7, hb7⟩
          have HD7 := Lib.hid hD7
          have HB7 := Lib.hid (HBL.out.trans hb7)
          clear hD7 hb7
          dsimp only
          rcases hcase with hr | ⟨hr, hs0⟩
          · obtain ⟨X, hX⟩ : ∃ X, X = b.take j := ⟨_, rfl⟩
            have hXl : X.length = j := by rw [hX, List.length_take, ← HN.out]; omega
            obtain ⟨A', C', hrun, hl', _⟩ := cut_h HB.out (by rw [← HN.out]; exact hc) j ((X.length : Nat) : Int) (by rw [hXl]) (by rw [← HN.out]; omega)
            rw [← hX] at hrun hl' hr
            rw [← HN.out] at hrun
            have hd3 : decide ((s : Int) ≤ (X.length : Int)) = true := by simp; omega
            have hd4 : decide ((X.length : Int) ≤ (a : Int)) = true := by simp; omega
            have hd5 : s ≤ X.length := by omega
            have hd6 : X.length ≤ a := by omega
            clear hX hXl
            go_wp2_with fail
            refine (read_step HB7.out HD7.out nmL (by decide) hr).mono ?_
            rintro e w9 ⟨A8, c8, rfl, hl8, hb9⟩
            have HB9 := Lib.hid hb9
            have hcv1 := run_str (show Lies w9.drew A8 c8 X from hl8)
            have hcv2 := run_str (show Lies w9.drew A' C' X from hl' w9 hb9)
            clear hl8 hb9 hl' hr
            dsimp only
            go_wp2_with (go_at_call 10; refine (code_calls _ _).mono ?_; rintro e w' ⟨rfl, rfl⟩)
            refine wp_region_still_tail 26 (by kernel_rfl) (by kernel_rfl) ?_
            change wpStill _ _ w9.drew (fun a' => wpList _ _ _ _ a' w9.drew) _ _
            simp only [List.take_succ_cons, List.take_zero, List.drop_succ_cons, List.drop_zero]
            repeat still_step
            still_call ((code_calls _ _).mono (fun e w' ⟨he, hw⟩ => ⟨he, hw.symm⟩))
            repeat still_step
            refine wpStill_nil ?_
            go_wp2_with fail
            refine (live_calls _).mono ?_
            rintro e w10 ⟨rfl, hb10⟩
            have HB10 := Lib.hid (Below.on HB9.out (show Below w9.heap.size w9 w10 from ⟨hb10.os, hb10.tape, hb10.output, hb10.size, hb10.block⟩))
            clear hb10
            dsimp only
            go_wp2
            go_ret
            exact ⟨rfl, HB10.out⟩
          · subst hs0
            go_wp2_with fail
            refine (read_step HB7.out HD7.out nmL (by decide) hr).mono ?_
            rintro e w9 ⟨A8, c8, rfl, hl8, hb9⟩
            have HB9 := Lib.hid hb9
            clear hl8 hb9 hr
            dsimp only
            go_wp2_with (go_at_call 10; refine (code_calls _ _).mono ?_; rintro e w' ⟨rfl, rfl⟩)
            refine (live_calls _).mono ?_
            rintro e w10 ⟨rfl, hb10⟩
            have HB10 := Lib.hid (Below.on HB9.out hb10)
            clear hb10
            dsimp only
            go_wp2
            go_ret
            exact ⟨rfl, HB10.out⟩

/- From the walk to the row. -/
set_option maxRecDepth 100000 in
theorem lifted (os : Os) (started : os.Started) (H : Type) (enc : TypeId × Value → H) :
    ReturnsInHanded {} Try.checked os 4 .any (Rows.diskLastsSpec.pre6 enc Try.prog Try.f4 Rows.diskLastsRow.domain false) (Rows.diskLastsSpec.post enc Try.prog Try.f4 false true false false) := by
  refine returnsInHanded_of_change_sized (C := Try.checked) own started (by kernel_rfl) Try.func4
    (ChangeSpec.witness6 (enc := enc) (C := Try.checked) false ⟨#[], #[.slice none 0 0, .slice none 0 0, .slice none 0 0, .int .i64 0], []⟩ 8 (by kernel_rfl) (by kernel_rfl) (by kernel_rfl) (by kernel_rfl)) ?_
  intro W base args ds gs before hval0 hW hcnd hsized _
  have hval : ∀ (j : Nat) t v, Try.f4.params[j]? = some t → args[j]? = some v → Value.okWide Try.prog W .any base t v := hval0
  have hW' := hW
  obtain ⟨p, q, hA0, hV, rfl, hfz, hnd⟩ := hW
  have hA : DataW.TrodAll enc Try.prog W 0 (fun _ => true) true Try.f4.params.toList args.toList ds p := hA0
  have hsz : (DataW.weightsEach Try.prog (Try.f4.params.toList ++ Rows.diskLastsSpec.plain.varTypes Try.prog) (ds ++ gs)).all (· ≤ reachBytes) = true := hsized
  rw [Try.params4] at hA hval hsz
  obtain ⟨v0, vs0, d0, ds0, p0, q0, hargs, rfl, rfl, h0, r0⟩ := trodAll_cons hA
  obtain ⟨v1, vs1, d1, ds1, p1, q1, rfl, rfl, rfl, h1, r1⟩ := trodAll_cons r0
  obtain ⟨v2, vs2, d2, ds2, p2, q2, rfl, rfl, rfl, h2, r2⟩ := trodAll_cons r1
  obtain ⟨v3, vs3, d3, ds3, p3, q3, rfl, rfl, rfl, h3, r3⟩ := trodAll_cons r2
  obtain ⟨rfl, rfl, rfl⟩ := trodAll_nil r3
  obtain rfl : args = #[v0, v1, v2, v3] := by cases args; simp_all
  obtain ⟨rfl, rfl⟩ := trodVars_none hV
  obtain ⟨a0, len0, cap0, rfl⟩ := okWide_slice Try.underlying33 (hval 0 33 v0 rfl rfl)
  have k0 := h0
  have lt0 : ∀ x ∈ p0, x.block < W.heap.size := by obtain ⟨m, hm⟩ := k0; exact DataW.trod_lt m _ _ _ hm
  have wt0 := weights_of_each hsz (j := 0) (t := 33) (d := d0) rfl rfl
  obtain ⟨z0, w0⟩ : ∃ zs, IsRow W a0 len0 cap0 zs := by
    obtain ⟨fuel, hf⟩ := h0
    rcases open_ints Try.underlying33 Try.underlying5 (by kernel_rfl) hf with ⟨hcs, _⟩ | ⟨x, l, c, zs, hcs, _, hl, hm, hz, _, hcell, hwz⟩
    · simp [Value.cells] at hcs
      obtain ⟨rfl, rfl, rfl⟩ := hcs
      exact ⟨[], .inl ⟨rfl, rfl, rfl, rfl⟩⟩
    · simp [Value.cells] at hcs
      obtain ⟨rfl, rfl, rfl⟩ := hcs
      exact ⟨zs, .inr ⟨_, rfl, hl, hm, by simpa using hz, hcell, hwz⟩⟩
  obtain ⟨l0, rfl, lc0, lm0, ll0, lb0⟩ := bytes_of_row w0
  obtain ⟨a1, len1, cap1, rfl⟩ := okWide_slice Try.underlying33 (hval 1 33 v1 rfl rfl)
  have k1 := h1
  have lt1 : ∀ x ∈ p1, x.block < W.heap.size := by obtain ⟨m, hm⟩ := k1; exact DataW.trod_lt m _ _ _ hm
  have wt1 := weights_of_each hsz (j := 1) (t := 33) (d := d1) rfl rfl
  obtain ⟨z1, w1⟩ : ∃ zs, IsRow W a1 len1 cap1 zs := by
    obtain ⟨fuel, hf⟩ := h1
    rcases open_ints Try.underlying33 Try.underlying5 (by kernel_rfl) hf with ⟨hcs, _⟩ | ⟨x, l, c, zs, hcs, _, hl, hm, hz, _, hcell, hwz⟩
    · simp [Value.cells] at hcs
      obtain ⟨rfl, rfl, rfl⟩ := hcs
      exact ⟨[], .inl ⟨rfl, rfl, rfl, rfl⟩⟩
    · simp [Value.cells] at hcs
      obtain ⟨rfl, rfl, rfl⟩ := hcs
      exact ⟨zs, .inr ⟨_, rfl, hl, hm, by simpa using hz, hcell, hwz⟩⟩
  obtain ⟨l1, rfl, lc1, lm1, ll1, lb1⟩ := bytes_of_row w1
  obtain ⟨a2, len2, cap2, rfl⟩ := okWide_slice Try.underlying47 (hval 2 47 v2 rfl rfl)
  have k2 := h2
  have lt2 : ∀ x ∈ p2, x.block < W.heap.size := by obtain ⟨m, hm⟩ := k2; exact DataW.trod_lt m _ _ _ hm
  have wt2 := weights_of_each hsz (j := 2) (t := 47) (d := d2) rfl rfl
  obtain ⟨x2, xl2, xc2, xm2, xx2, xs2⟩ : ∃ xs : List Bool, xs.length = len2 ∧ xs.length ≤ cap2 ∧ xs.length ≤ maxLen ∧ CellsG enB W a2 cap2 xs ∧ ∀ s ∈ xs, True := by
    obtain ⟨fuel, hf⟩ := h2
    exact bools_of_arg hf wt2
  subst xl2
  obtain ⟨a3, rfl, rfl, rfl, w3⟩ := open_int Try.underlying3 (hval 3 3 v3 rfl rfl) h3
  clear hA0 hval0
  refine (walk a0 cap0 l0 a1 cap1 l1 a2 cap2 x2 a3 W lc0 lm0 ll0 lb0 lc1 lm1 ll1 lb1 xm2 xx2 xs2 w3).mono fun e W' ⟨he, bel⟩ => ?_
  subst he
  exact ⟨_, rfl, _, _, _, [], _, [], hW', trodAll_mk1 (shut_bool Try.underlying4 _), (trodAll_cons_mk (Below.trod laidOut (by kernel_rfl) (of_decide_eq_true (by kernel_rfl)) k0 bel lt0) (trodAll_cons_mk (Below.trod laidOut (by kernel_rfl) (of_decide_eq_true (by kernel_rfl)) k1 bel lt1) (trodAll_cons_mk (Below.trod laidOut (by kernel_rfl) (of_decide_eq_true (by kernel_rfl)) k2 bel lt2) (trodAll_cons_mk (shut_int Try.underlying3 w3) trodAll_mk0)))), rfl, bel.frame _, fun h => by cases h⟩

theorem over : Rows.diskLastsRow.holds Try.pinned (OpenSpec.ofChange Rows.diskLastsSpec) :=
  OpenClaim.holds_of_wide 4 Try.f4 rfl rfl rfl rfl rfl rfl rfl ⟨rfl, rfl, rfl, rfl, rfl⟩ rfl rfl rfl rfl rfl (by kernel_rfl) Try.func4 (by kernel_rfl)
    (of_decide_eq_true (by kernel_rfl)) (by unfold Func.isWrapper; first | (rw [if_pos (by decide +kernel)]; kernel_rfl) | (rw [if_neg (by decide +kernel)]; exact ⟨rfl, rfl⟩))
    (fun os started H enc _ => lifted os started H enc)

end diskLasts

/-- The statement. -/
theorem diskLasts_holds : Rows.DiskLastsSaid := diskLasts.over
#print axioms diskLasts_holds
end Go.Proofs.Ytpnlgmnlanoncaa
