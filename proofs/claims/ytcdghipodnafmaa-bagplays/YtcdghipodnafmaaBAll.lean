/-
  Contract of the bag's All. Conditions: the bag lies in memory.
-/
import Derived.Test.YtcdghipodnafmaaBSame
namespace Go.Proofs.Ytcdghipodnafmaa
open Go.ChangeShapes Go.WideShapes Go.ChangeAt Go.RowKit
set_option linter.unusedVariables false
/-- Messages of the call's own. -/
structure OwnMs (B : Nat) (w : World) (A : Option Addr) (c : Nat) (ys : List Mr) : Prop where
  row : OwnG 48 3 enM B w A c ys
  data : ∀ y ∈ ys, OwnS B w y.A y.c y.m.b
theorem OwnMs.below {B : Nat} {w w' : World} {A : Option Addr} {c : Nat} {ys : List Mr} (h : OwnMs B w A c ys) (hb : Below w.heap.size w w') : OwnMs B w' A c ys := ⟨h.row.below hb, fun y hy => (h.data y hy).below hb⟩
theorem OwnMs.push {B : Nat} {w w' : World} {A A' : Option Addr} {c c' : Nat} {ys : List Mr} (h : OwnMs B w A c ys) (y : Mr) (hy : OwnS B w y.A y.c y.m.b) {R : List Mr} (hR : R = ys ++ [y]) (ho : OwnG 48 3 enM B w' A' c' R) (hg : w.grownBy w' (Value.slice A ys.length c).ownBlock) : OwnMs B w' A' c' R := by
  have hk : Lib.OthersKept 48 none w w' := kept_grown hg fun g hg' => (h.row.row g hg').2
  refine ⟨ho, fun z hz => ?_⟩
  rw [hR] at hz
  rcases List.mem_append.1 hz with h1 | h1
  · exact (h.data z h1).kept hk (by decide)
  · simp only [List.mem_singleton] at h1
    subst h1
    exact OwnS.kept hy hk (by decide)
def RelAll (ms : List Mg) (w : World) (s i : Value) (wr : World) : Prop := ∃ (k : Nat) (A : Option Addr) (c : Nat) (ys : List Mr), s = .slice A ys.length c ∧ i = .int .i64 k ∧ k ≤ ms.length ∧ ys.map Mr.m = ms.take k ∧ OwnMs w.heap.size wr A c ys ∧ Below w.heap.size w wr
def AllR (ms : List Mg) (w : World) (e : Ending) (w' : World) : Prop := ∃ A c xs, e = .returned (.slice A (xs : List Mr).length c) ∧ xs.map Mr.m = ms ∧ OwnMs w.heap.size w' A c xs ∧ Below w.heap.size w w'
theorem all_nil (w : World) : Calls Try.prog 14 #[.pointer none] w fun e w' => e = .returned (.slice none 0 0) ∧ w = w' := by
  go_enter Try.func14, Try.ntmps14
  go_wp2
  go_ret
  exact ⟨rfl, rfl⟩
section
variable {S : Nat → Prop} {w : World} {p : Nat} {g : Bg}
set_option maxRecDepth 20000 in
set_option maxHeartbeats 4000000 in
theorem all_calls (h : BagAt S w p g) : Calls Try.prog 14 #[at_ p] w (AllR g.ms w) := by
  obtain ⟨A, c, rs, h⟩ := h
  obtain ⟨n, hn⟩ : ∃ n, n = rs.length := ⟨_, rfl⟩
  have hlen := h.len
  have hn512 : n ≤ 512 := by have := h.ok.many; have := h.ok.m2; omega
  have c0 : w.cell? ⟨p, 0, none⟩ = some (.slice A n c) := by rw [hn]; exact h.blk.cell 0
  have hpl := h.blk.lt
  obtain ⟨i0, hi0, hz0, hz1, hz2⟩ := info_parts elM.info
  obtain ⟨w1, hmk, hown, hgr⟩ := run_make_own (P := Try.prog) w w.heap.size 31 48 i0 zM 3 Try.underlying31 hi0 hz0 hz1 .i64 .i64 n (by rw [hz2]; omega) (by unfold maxLen; omega) (Nat.le_refl _)
  have hb1 : Below w.heap.size w w1 := (Below.refl _ _).grown (row := none) hgr (Nat.le_refl _) (fun k hk => by cases hk)
  have c1 := (hb1.cell (p := ⟨p, 0, none⟩) hpl).trans c0
  have HOWN := Lib.hid (show OwnMs w.heap.size w1 (some ⟨w.heap.size, 0, none⟩) n [] from ⟨hown, fun y hy => by cases hy⟩)
  have HB1 := Lib.hid hb1
  unfold at_
  have HO := Lib.hid h
  have HN := Lib.hid hn
  have HLEN := Lib.hid hlen
  clear h hn hlen hown hgr hb1 hi0 hz0 hz1 hz2
  go_enter Try.func14, Try.ntmps14
  go_wp2
  go_loopw [3, 19] (RelAll g.ms w) (fun _ i _ => n - (intOf i).toNat)
  case atStart => exact ⟨0, _, _, [], rfl, rfl, Nat.zero_le _, rfl, HOWN.out, HB1.out⟩
  case round =>
    obtain ⟨k, A2, c2, ys, rfl, rfl, hk, hys, hom, hbr⟩ := hrel
    rw [← HLEN.out, ← HN.out] at hk
    obtain ⟨ny, hny⟩ : ∃ ny, ny = ys.length := ⟨_, rfl⟩
    have HNY := Lib.hid hny
    have HYS := Lib.hid hys
    have HOM := Lib.hid hom
    have HBR := Lib.hid hbr
    by_cases hlt : k < n
    · have hlti : (k : Int) < (n : Int) := by omega
      obtain ⟨x, hx⟩ : ∃ x, rs[k]? = some x := ⟨rs[k]'(by rw [← HN.out]; exact hlt), by simp⟩
      obtain ⟨gb, hA, _, hgl, hcell⟩ := HO.out.row.at0 elM (by rw [← HN.out]; omega)
      have z0 := (hbr.cell (p := ⟨gb, k * 3 + 0, none⟩) hgl).trans (hcell k 0 x hx (by omega))
      have z1 := (hbr.cell (p := ⟨gb, k * 3 + 1, none⟩) hgl).trans (hcell k 1 x hx (by omega))
      have z2 := (hbr.cell (p := ⟨gb, k * 3 + 2, none⟩) hgl).trans (hcell k 2 x hx (by omega))
      simp only [enM] at z0 z1 z2
      subst hA
      have hxm : g.ms[k]? = some x.m := by rw [← HO.out.fs, List.getElem?_map, hx]; rfl
      have hgm := HO.out.ok.msgs x.m (List.mem_of_getElem? hxm)
      have HXM := Lib.hid hxm
      have hd := HO.out.data x (List.mem_of_getElem? hx)
      obtain ⟨f, hf⟩ : ∃ f, f = x.m.frm := ⟨_, rfl⟩
      obtain ⟨t, ht⟩ : ∃ t, t = x.m.tgt := ⟨_, rfl⟩
      obtain ⟨b, hb⟩ : ∃ b, b = x.m.b := ⟨_, rfl⟩
      obtain ⟨l, hl⟩ : ∃ l, l = b.length := ⟨_, rfl⟩
      rw [← hf] at z0
      rw [← ht] at z1
      rw [← hb, ← hl] at z2
      have z0' : wr.cell? ⟨gb, k * 3, none⟩ = some (.int .i64 f) := z0
      have z1' : wr.cell? ⟨gb, k * 3 + 1, none⟩ = some (.int .i64 t) := z1
      have z2' : wr.cell? ⟨gb, k * 3 + 2, none⟩ = some (.slice x.A l x.c) := z2
      have HXE := Lib.hid (show x.m = ⟨f, t, b⟩ by rw [hf, ht, hb])
      have hbx := below_one wr (.cells #[.int .i64 f, .int .i64 t, .slice x.A l x.c] 48)
      have hbw := hbr.trans (hbx.mono hbr.size)
      have HC := Lib.hid (clone_calls f t x.A x.c b (wr.alloc (.cells #[.int .i64 f, .int .i64 t, .slice x.A l x.c] 48)) (by rw [hb]; exact hd.1.below hbw) (by have := hgm.len; rw [hb]; omega))
      rw [← hl] at HC
      have b5 := Blk.new wr #[.int .i64 f, .int .i64 t, .slice x.A l x.c] 48
      obtain ⟨x0, x1, x2⟩ := b5.cells3
      have HBX := Lib.hid hbx
      have HL := Lib.hid hl
      rw [← hny]
      have hys512 : ny ≤ 512 := by rw [hny, ← List.length_map (f := Mr.m), hys, List.length_take]; have := Nat.min_le_left k g.ms.length; omega
      have HYL := Lib.hid hys512
      clear z0 z1 z2 hx hcell hxm hgm hd hf ht hb hl hbx hbw b5 hys hom hbr hny hys512
      go_wp2_with (first | (go_at_call 24; refine HC.out.mono ?_; rintro e w2 ⟨A3, c3, rfl, ho, hb2⟩; have hb2' := HBX.out.trans (hb2.mono HBX.out.size); have hom2 := HOM.out.below hb2'; have HOM2 := Lib.hid (hom2.below (below_one w2 (.cells #[.int .i64 f, .int .i64 t, .slice A3 b.length c3] 48))); have HB2 := Lib.hid (hb2'.trans ((below_one w2 (.cells #[.int .i64 f, .int .i64 t, .slice A3 b.length c3] 48)).mono hb2'.size)); have HO2 := Lib.hid (OwnS.below ho (below_one w2 (.cells #[.int .i64 f, .int .i64 t, .slice A3 b.length c3] 48))); clear ho hb2 hb2' hom2) | (at_builtin; refine wpList_append_vals elM rfl _ _ 31 Try.underlying31 rfl w.heap.size A2 c2 ys (by rw [← HNY.out]; rfl) HOM2.out.row (some ⟨w2.heap.size, 0, none⟩) 1 [⟨⟨f, t, b⟩, A3, c3⟩] rfl (cells_one_val elM w2 _ _ rfl) (by have := HYL.out; rw [← HNY.out]; simp; omega) (by decide) (by have := HBR.out.size; have := HB2.out.size; omega) ?_; intro A4 c4 w4 R hR ho4 hg4))
      go_roundw
      case rel =>
        refine ⟨k + 1, A4, c4, R, rfl, by go_num, by rw [← HLEN.out, ← HN.out]; omega, ?_, HOM2.out.push ⟨⟨f, t, b⟩, A3, c3⟩ (OwnS.mono HO2.out (by have := HBR.out.size; simp; omega)) hR.out ho4 (by rw [HNY.out] at *; exact hg4), ?_⟩
        · rw [hR.out, List.map_append, HYS.out, List.take_add_one, HXM.out, HXE.out]; rfl
        · exact HOM2.out.row.grow (HBR.out.trans (HB2.out.mono HBR.out.size)) (by rw [HNY.out] at *; exact hg4) (by have := HBR.out.size; have := HB2.out.size; omega)
      case measure => simp [intOf]; omega
    · have hd : decide ((k : Int) < (n : Int)) = false := by simp; omega
      have hkn : k = n := by omega
      have HKN := Lib.hid hkn
      rw [← hny]
      clear hys hom hbr hny hkn
      go_wp2
      go_ret
      refine ⟨A2, c2, ys, by rw [← HNY.out]; rfl, ?_, HOM.out, HBR.out⟩
      rw [HYS.out, List.take_of_length_le (by rw [← HLEN.out, ← HN.out, HKN.out]; exact Nat.le_refl _)]
end
end Go.Proofs.Ytcdghipodnafmaa
