/-
  Contract of the bag's Take. Conditions: the bag lies in memory; the counts are low.
-/
import Derived.Test.YtcdghipodnafmaaBSend
namespace Go.Proofs.Ytcdghipodnafmaa
open Go.ChangeShapes Go.WideShapes Go.ChangeAt Go.RowKit
set_option linter.unusedVariables false
theorem results_cell_tmp1 {fn : Func} {p u : Tmp} {ty : TypeId} (h : fn.results = #[.cell p ty, .tmp u]) (tmps : Array Value) (P : Program) (w : World) (a1 : Addr) (x : Value)
    (hp : tmps.getD p undef = .pointer (some a1)) (l1 : (loadVar ty a1).run P w = .ok x w) :
    (results fn tmps).run P w = .ok (.tuple #[x, tmps.getD u undef]) w := by
  rw [Array.getD_eq_getD_getElem?] at hp
  simp only [results, h]
  simp [Result.andThen, hp, asAddr, l1]
def m0 : Mg := ⟨0, 0, []⟩
def takeS (g : Bg) (i : Int) : Bg × Mg × Bool :=
  if g.has i then
    (if g.upAt (g.ms.getD i.toNat m0).tgt then ({ g with ms := wout g.ms i.toNat, taken := g.taken + 1 }, g.ms.getD i.toNat m0, true) else ({ g with ms := wout g.ms i.toNat, lost := g.lost + 1 }, m0, false))
  else (g, m0, false)
def Taken (S : Nat → Prop) (w : World) (p : Nat) (r : Bg × Mg × Bool) (e : Ending) (w' : World) : Prop :=
  ∃ S' A c, e = .returned (.tuple #[.agg #[.int .i64 r.2.1.frm, .int .i64 r.2.1.tgt, .slice A r.2.1.b.length c], .bool r.2.2]) ∧ BagAt S' w' p r.1 ∧ Touch S w w' ∧ Sub S' S w ∧ Out S' w' A c r.2.1.b
section
variable {S : Nat → Prop} {w : World} {p : Nat} {A : Option Addr} {c : Nat} {rs : List Mr} {g : Bg}
theorem take_nil (i : Int) (w : World) : Calls Try.prog 16 #[.pointer none, .int .i64 i] w fun e w' => e = .returned (.tuple #[.agg #[.int .i64 0, .int .i64 0, .slice none 0 0], .bool false]) ∧ Below w.heap.size w w' := by
  have HH := Lib.hid (has_nil i (w.alloc (.cells #[.int .i64 0, .int .i64 0, .slice none 0 0] 48)))
  have b4 := Blk.new w #[.int .i64 0, .int .i64 0, .slice none 0 0] 48
  have HB := Lib.hid b4
  obtain ⟨y0, y1, y2⟩ := b4.cells3
  obtain ⟨z0, z1, z2⟩ := b4.free3
  clear b4
  go_enter Try.func16, Try.ntmps16
  go_wp2_with (go_at_call 26; refine HH.out.mono ?_; rintro e w1 ⟨rfl, h1⟩; subst w1)
  exact bodyPost_ret (results_cell_tmp1 rfl _ _ _ _ _ rfl (lv48 HB.out)) rfl ⟨rfl, below_one w _⟩
set_option maxRecDepth 20000 in
set_option maxHeartbeats 4000000 in
theorem take_calls (h : BagAt S w p g) (hlow : Low g) (i : Int) : Calls Try.prog 16 #[at_ p, .int .i64 i] w (Taken S w p (takeS g i)) := by
  have hb1 := below_one w (.cells #[.int .i64 0, .int .i64 0, .slice none 0 0] 48)
  have HH := Lib.hid (has_calls (h.below hb1) i)
  have b4 := Blk.new w #[.int .i64 0, .int .i64 0, .slice none 0 0] 48
  have HB4 := Lib.hid b4
  have HSN := Lib.hid (show ¬ S w.heap.size from fun hs => by have := h.lt _ hs; omega)
  unfold takeS
  unfold at_ at *
  cases hi : g.has i with
  | false =>
    rw [hi] at HH
    obtain ⟨A, c, rs, h⟩ := h
    have HO := Lib.hid h
    obtain ⟨y0, y1, y2⟩ := b4.cells3
    obtain ⟨z0, z1, z2⟩ := b4.free3
    clear h hi b4 hb1
    simp only [Bool.false_eq_true, if_false]
    go_enter Try.func16, Try.ntmps16
    go_wp2_with (go_at_call 26; refine HH.out.mono ?_; rintro e w1 ⟨rfl, h1⟩; subst w1)
    exact bodyPost_ret (results_cell_tmp1 rfl _ _ _ _ _ rfl (lv48 HB4.out)) rfl ⟨S, none, 0, rfl, (HO.out.below (below_one w _)).at_, Touch.of_below (below_one w _), Sub.refl _ _, Out.nil _ _⟩
  | true =>
    rw [hi] at HH
    obtain ⟨k, rfl, hk⟩ := has_nat hi
    obtain ⟨A, c, rs, h⟩ := h
    obtain ⟨r, hr⟩ : ∃ r, rs[k]? = some r := ⟨rs[k]'(by rw [h.len]; exact hk), by simp⟩
    have hm : r.m ∈ g.ms := by rw [← h.fs]; exact List.mem_map.2 ⟨r, List.mem_of_getElem? hr, rfl⟩
    have hgm := h.ok.msgs _ hm
    have hgk : g.ms.getD k m0 = r.m := by
      have : g.ms[k]? = some r.m := by rw [← h.fs, List.getElem?_map, hr]; rfl
      simp [List.getD, this]
    obtain ⟨kt, hkt⟩ : ∃ kt : Nat, r.m.tgt = (kt : Int) := ⟨r.m.tgt.toNat, by have := hgm.lo; omega⟩
    have hkt8 : kt < 8 := by have := hgm.hi; have := h.ok.n8; omega
    have HR := Lib.hid (remove_calls (h.below hb1) k r hr)
    unfold at_ at HR
    have HD := Lib.hid (h.data r (List.mem_of_getElem? hr))
    have hll := hlow.l1
    have hl0 := h.ok.l0
    have htl := hlow.t1
    have ht0 := h.ok.t0
    have HWL := Lib.hid (show wrap64 (g.lost + 1) = g.lost + 1 by unfold wrap64; omega)
    have HWT := Lib.hid (show wrap64 (g.taken + 1) = g.taken + 1 by unfold wrap64; omega)
    have HK8 := Lib.hid hkt8
    simp only [if_true, Int.toNat_natCast]
    rw [hgk]
    unfold Bg.upAt
    rw [hkt, Int.toNat_natCast]
    obtain ⟨f, hf⟩ : ∃ f, f = r.m.frm := ⟨_, rfl⟩
    obtain ⟨b, hb⟩ : ∃ b, b = r.m.b := ⟨_, rfl⟩
    obtain ⟨n, hn⟩ : ∃ n, n = b.length := ⟨_, rfl⟩
    have hrm : r.m = ⟨f, (kt : Int), b⟩ := by rw [hf, hb, ← hkt]
    rw [hrm]
    rw [hkt, ← hf, ← hb, ← hn] at HR
    rw [← hb] at HD
    have HN := Lib.hid hn
    cases hu : g.up.getD kt false with
    | false =>
      have HU := Lib.hid hu
      have hw := HWL.out
      simp only [Bool.false_eq_true, if_false]
      clear h hi hr hk hll hl0 htl ht0 hm hgm hgk hkt hrm hf hb hn b4 hb1 hu
      go_enter Try.func16, Try.ntmps16
      go_wp2_with (go_at_call 26; refine HH.out.mono ?_; rintro e w1 ⟨rfl, h1⟩; subst w1)
      refine HR.out.mono ?_
      rintro e w2 ⟨rfl, ho, ht⟩
      have hb3 := below_one w2 (.cells #[.int .i64 f, .int .i64 (kt : Int), .slice r.A n r.c] 48)
      have ho3 := ho.below hb3
      have u0 : (w2.alloc (.cells #[.int .i64 f, .int .i64 (kt : Int), .slice r.A n r.c] 48)).cell? ⟨p, 1 + kt, none⟩ = some (.bool false) := by rw [← HU.out]; exact up_cell ho3.blk HK8.out
      have l0 := ho3.blk.cell 13
      have l1 := ho3.blk.free 13
      simp only [bcells] at l0
      have b6 := Blk.new w2 #[.int .i64 f, .int .i64 (kt : Int), .slice r.A n r.c] 48
      obtain ⟨x0, x1, x2⟩ := b6.cells3
      have b4 : Blk w2 w.heap.size #[.int .i64 0, .int .i64 0, .slice none 0 0] 48 := (ht.block _ (by simp) HSN.out).trans HB4.out
      have b4' := b4.belowAll hb3
      obtain ⟨y0, y1, y2⟩ := b4'.cells3
      obtain ⟨z0, z1, z2⟩ := b4'.free3
      have HX4 := Lib.hid b4'
      have HO3 := Lib.hid ho3
      have hne : ¬ (p = w.heap.size) := fun e => HSN.out (e ▸ ho.pS)
      have hne2 : ¬ (w.heap.size = p) := fun e => HSN.out (e ▸ ho.pS)
      have hlt := ho.lt p ho.pS
      have hne3 : ¬ (p = w2.heap.size) := by omega
      have hne4 : ¬ (w2.heap.size = p) := by omega
      have hlt4 := b4.lt
      have hne5 : ¬ (w2.heap.size = w.heap.size) := by omega
      have hne6 : ¬ (w.heap.size = w2.heap.size) := by omega
      have HT := Lib.hid (((Touch.of_below (S := S) (below_one w (.cells #[.int .i64 0, .int .i64 0, .slice none 0 0] 48))).more ht).more (Touch.of_below hb3))
      clear ho ho3 b6 b4 b4' ht hb3 hlt hlt4
      go_wp2_with fail
      go_quiet (fail)
      go_wp2
      have HX5 : Blk ((w2.alloc (.cells #[.int .i64 f, .int .i64 (kt : Int), .slice r.A n r.c] 48)).drewN nq) w.heap.size #[.int .i64 0, .int .i64 0, .slice none 0 0] 48 := HX4.out
      have hx6 := HX5.other (a := ⟨p, 13, none⟩) hne2 (.int .i64 (g.lost + 1))
      have hT1 := (HT.out.more (Touch.drewN S _ nq)).more (Touch.set (S := S) (HO3.out.pS) _ 13 (.int .i64 (g.lost + 1)))
      exact bodyPost_ret (results_cell_tmp1 rfl _ _ _ _ _ rfl (lv48 (hx6.set3 _ _ _))) rfl ⟨S, none, 0, rfl, ((HO3.out.drewN nq).lose.box hx6 HSN.out _ _ _).at_, touch_set3 hT1 (Nat.le_refl _) _ _ _, Sub.refl _ _, Out.nil _ _⟩
    | true =>
      have HU := Lib.hid hu
      have hw := HWT.out
      simp only [if_true]
      clear h hi hr hk hll hl0 htl ht0 hm hgm hgk hkt hrm hf hb hn b4 hb1 hu
      go_enter Try.func16, Try.ntmps16
      go_wp2_with (go_at_call 26; refine HH.out.mono ?_; rintro e w1 ⟨rfl, h1⟩; subst w1)
      refine HR.out.mono ?_
      rintro e w2 ⟨rfl, ho, ht⟩
      have hb3 := below_one w2 (.cells #[.int .i64 f, .int .i64 (kt : Int), .slice r.A n r.c] 48)
      have ho3 := ho.below hb3
      have u0 : (w2.alloc (.cells #[.int .i64 f, .int .i64 (kt : Int), .slice r.A n r.c] 48)).cell? ⟨p, 1 + kt, none⟩ = some (.bool true) := by rw [← HU.out]; exact up_cell ho3.blk HK8.out
      have l0 := ho3.blk.cell 12
      have l1 := ho3.blk.free 12
      simp only [bcells] at l0
      have b6 := Blk.new w2 #[.int .i64 f, .int .i64 (kt : Int), .slice r.A n r.c] 48
      obtain ⟨x0, x1, x2⟩ := b6.cells3
      have b4 : Blk w2 w.heap.size #[.int .i64 0, .int .i64 0, .slice none 0 0] 48 := (ht.block _ (by simp) HSN.out).trans HB4.out
      have b4' := b4.belowAll hb3
      obtain ⟨y0, y1, y2⟩ := b4'.cells3
      obtain ⟨z0, z1, z2⟩ := b4'.free3
      have HX4 := Lib.hid b4'
      have HO3 := Lib.hid ho3
      have hne : ¬ (p = w.heap.size) := fun e => HSN.out (e ▸ ho.pS)
      have hne2 : ¬ (w.heap.size = p) := fun e => HSN.out (e ▸ ho.pS)
      have hlt := ho.lt p ho.pS
      have hne3 : ¬ (p = w2.heap.size) := by omega
      have hne4 : ¬ (w2.heap.size = p) := by omega
      have hlt4 := b4.lt
      have hne5 : ¬ (w2.heap.size = w.heap.size) := by omega
      have hne6 : ¬ (w.heap.size = w2.heap.size) := by omega
      have HT := Lib.hid (((Touch.of_below (S := S) (below_one w (.cells #[.int .i64 0, .int .i64 0, .slice none 0 0] 48))).more ht).more (Touch.of_below hb3))
      clear ho ho3 b6 b4 b4' ht hb3 hlt hlt4
      go_wp2_with fail
      go_quiet (fail)
      go_wp2
      have HX5 : Blk ((w2.alloc (.cells #[.int .i64 f, .int .i64 (kt : Int), .slice r.A n r.c] 48)).drewN nq) w.heap.size #[.int .i64 0, .int .i64 0, .slice none 0 0] 48 := HX4.out
      have hx6 := HX5.other (a := ⟨p, 12, none⟩) hne2 (.int .i64 (g.taken + 1))
      have hT1 := (HT.out.more (Touch.drewN S _ nq)).more (Touch.set (S := S) (HO3.out.pS) _ 12 (.int .i64 (g.taken + 1)))
      have hT2 := touch_set3 hT1 (Nat.le_refl _) (.int .i64 f) (.int .i64 (kt : Int)) (.slice r.A n r.c)
      exact bodyPost_ret (results_cell_tmp1 rfl _ _ _ _ _ rfl (lv48 (hx6.set3 _ _ _))) rfl ⟨S, r.A, r.c, by rw [← HN.out]; rfl, ((HO3.out.drewN nq).take.box hx6 HSN.out _ _ _).at_, hT2, Sub.refl _ _, HD.out.step hT2 (Sub.refl _ _)⟩
end
end Go.Proofs.Ytcdghipodnafmaa
