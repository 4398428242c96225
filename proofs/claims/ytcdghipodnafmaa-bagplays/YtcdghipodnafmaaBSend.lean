/-
  Contracts of the bag's Twice, Send and New. Conditions: the bag lies in memory; the counts are low; the bytes lie in memory.
-/
import Derived.Test.YtcdghipodnafmaaBOps
namespace Go.Proofs.Ytcdghipodnafmaa
open Go.ChangeShapes Go.WideShapes Go.ChangeAt Go.RowKit
set_option linter.unusedVariables false
section
variable {S : Nat → Prop} {w : World} {p : Nat} {A : Option Addr} {c : Nat} {rs : List Mr} {g : Bg}
theorem BagAt.drewN (h : BagAt S w p g) (q : Nat) : BagAt S (w.drewN q) p g := h.below ⟨rfl, rfl, rfl, Nat.le_refl _, fun _ _ => rfl⟩
theorem Open.drewN (h : Open S w p A c rs g) (q : Nat) : Open S (w.drewN q) p A c rs g := h.below ⟨rfl, rfl, rfl, Nat.le_refl _, fun _ _ => rfl⟩
theorem below_drewN (w : World) (q : Nat) : Below w.heap.size w (w.drewN q) := ⟨rfl, rfl, rfl, Nat.le_refl _, fun _ _ => rfl⟩
set_option maxRecDepth 20000 in
set_option maxHeartbeats 4000000 in
theorem twice_calls (h : BagAt S w p g) (hlow : Low g) (i : Int) : Calls Try.prog 18 #[at_ p, .int .i64 i] w (DoneB S w p (twiceS g i)) := by
  have HH := Lib.hid (has_calls h i)
  have HF := Lib.hid (full_calls h)
  unfold twiceS
  unfold at_ at *
  cases hi : g.has i with
  | false =>
    rw [hi] at HH
    have HB := Lib.hid h
    clear h hi
    simp only [Bool.false_and, Bool.false_eq_true, if_false]
    go_enter Try.func18, Try.ntmps18
    go_wp2_with (go_at_call 26; refine HH.out.mono ?_; rintro e w1 ⟨rfl, rfl⟩)
    go_ret
    exact ⟨rfl, Done.refl HB.out⟩
  | true =>
    rw [hi] at HH
    cases hf : g.full with
    | true =>
      rw [hf] at HF
      have HB := Lib.hid h
      clear h hi hf
      simp only [Bool.true_and, Bool.not_true, Bool.false_eq_true, if_false]
      go_enter Try.func18, Try.ntmps18
      go_wp2_with (first | (go_at_call 26; refine HH.out.mono ?_; rintro e w1 ⟨rfl, rfl⟩) | (go_at_call 28; refine HF.out.mono ?_; rintro e w2 ⟨rfl, q, rfl⟩))
      go_ret
      exact ⟨rfl, (Done.refl HB.out).below (below_drewN _ _)⟩
    | false =>
      rw [hf] at HF
      obtain ⟨k, rfl, hk⟩ := has_nat hi
      obtain ⟨A, c, rs, h⟩ := h
      have hlen := h.len
      obtain ⟨r, hr⟩ : ∃ r, rs[k]? = some r := ⟨rs[k]'(by rw [h.len]; exact hk), by simp⟩
      have hm : r.m ∈ g.ms := by rw [← h.fs]; exact List.mem_map.2 ⟨r, List.mem_of_getElem? hr, rfl⟩
      have hgm := h.ok.msgs _ hm
      have hgk : g.ms.getD k ⟨0, 0, []⟩ = r.m := by
        have : g.ms[k]? = some r.m := by rw [← h.fs, List.getElem?_map, hr]; rfl
        simp [List.getD, this]
      have hroom : (rs.length : Int) < g.most := by unfold Bg.full at hf; simp at hf; omega
      have hd := h.data r (List.mem_of_getElem? hr)
      obtain ⟨gb, hA, _, hgl, hcell⟩ := h.row.at0 elM (by omega)
      have z0 := hcell k 0 r hr (by omega)
      have z1 := hcell k 1 r hr (by omega)
      have z2 := hcell k 2 r hr (by omega)
      simp only [enM] at z0 z1 z2
      have HA := Lib.hid (show ∀ q, Calls Try.prog 29 #[.pointer (some ⟨p, 0, none⟩), .agg #[.int .i64 r.m.frm, .int .i64 r.m.tgt, .slice r.A r.m.b.length r.c]] (w.drewN q) fun e w' => e = .returned (.tuple #[]) ∧ Done S (w.drewN q) p { g with ms := g.ms ++ [⟨r.m.frm, r.m.tgt, r.m.b⟩], sent := g.sent + 1 } w' from fun q => add_calls (h.drewN q) hlow hroom r.m.frm r.m.tgt r.A r.c r.m.b (hd.1.below (below_drewN w q)) hgm.isB hgm.len hgm.lo hgm.hi)
      subst hA
      obtain ⟨f, hf1⟩ : ∃ f, f = r.m.frm := ⟨_, rfl⟩
      obtain ⟨t, ht1⟩ : ∃ t, t = r.m.tgt := ⟨_, rfl⟩
      obtain ⟨b, hb1⟩ : ∃ b, b = r.m.b := ⟨_, rfl⟩
      obtain ⟨n, hn⟩ : ∃ n, n = b.length := ⟨_, rfl⟩
      obtain ⟨nr, hnr⟩ : ∃ nr, nr = rs.length := ⟨_, rfl⟩
      have hrm : r.m = ⟨f, t, b⟩ := by rw [hf1, ht1, hb1]
      have c0 : w.cell? ⟨p, 0, none⟩ = some (.slice (some ⟨gb, 0, none⟩) nr c) := by rw [hnr]; exact h.blk.cell 0
      rw [← hf1, ← ht1, ← hb1, ← hn] at HA
      rw [← hf1] at z0
      rw [← ht1] at z1
      rw [← hb1, ← hn] at z2
      have z0' : w.cell? ⟨gb, k * 3, none⟩ = some (.int .i64 f) := z0
      have z1' : w.cell? ⟨gb, k * 3 + 1, none⟩ = some (.int .i64 t) := z1
      have z2' : w.cell? ⟨gb, k * 3 + 2, none⟩ = some (.slice r.A n r.c) := z2
      have hkn : (k : Int) < (nr : Int) := by omega
      have hkn2 : k < nr := by omega
      simp only [Bool.true_and, Bool.not_false, if_true, Int.toNat_natCast]
      rw [hgk, hrm]
      have hmost := h.ok.m2
      have hmany := h.ok.many
      clear h hi hf hr hm hgm hgk hroom hd hcell z0 z1 z2 hrm hf1 ht1 hb1 hn hlen hnr hk hmost hmany
      go_enter Try.func18, Try.ntmps18
      go_wp2_with (first | (go_at_call 26; refine HH.out.mono ?_; rintro e w1 ⟨rfl, rfl⟩) | (go_at_call 28; refine HF.out.mono ?_; rintro e w2 ⟨rfl, q, rfl⟩) | (go_at_call 29; refine (HA.out _).mono ?_; rintro e w3 ⟨rfl, hD⟩))
      go_ret
      exact ⟨rfl, hD.ahead (below_drewN _ _)⟩
theorem twice_nil (i : Int) (w : World) : Calls Try.prog 18 #[.pointer none, .int .i64 i] w fun e w' => e = .returned (.bool false) ∧ w = w' := by
  have HH := Lib.hid (has_nil i w)
  go_enter Try.func18, Try.ntmps18
  go_wp2_with (go_at_call 26; refine HH.out.mono ?_; rintro e w1 ⟨rfl, rfl⟩)
  go_ret
  exact ⟨rfl, rfl⟩

def sendS (g : Bg) (f t : Int) (b : List Int) : Bg × Int :=
  if g.isNode f && g.isNode t then
    if g.upAt f then (if g.full then ({ g with lost := g.lost + 1 }, 9) else ({ g with ms := g.ms ++ [⟨f, t, b⟩], sent := g.sent + 1 }, 0)) else (g, 6)
  else (g, 1)
set_option maxRecDepth 20000 in
set_option maxHeartbeats 4000000 in
theorem send_calls (h : BagAt S w p g) (hlow : Low g) (f t : Int) (D : Option Addr) (cd : Nat) (l : List Int) (hl : Lies w D cd l) (hb : IsB l) (hll : l.length ≤ 100000) :
    Calls Try.prog 20 #[at_ p, .int .i64 f, .int .i64 t, .slice D l.length cd] w (DoneN S w p (sendS g f t l)) := by
  have H1 := Lib.hid (isNode_calls h f)
  have H2 := Lib.hid (isNode_calls h t)
  have HF := Lib.hid (full_calls h)
  have HB := Lib.hid h
  unfold sendS
  unfold at_ at *
  cases hf : g.isNode f with
  | false =>
    rw [hf] at H1
    simp only [Bool.false_and, Bool.false_eq_true, if_false]
    generalize l.length = n
    clear h hf
    go_enter Try.func20, Try.ntmps20
    go_wp2_with fail
    refine H1.out.mono ?_
    rintro e w1 ⟨rfl, rfl⟩
    go_wp2
    go_ret
    exact ⟨rfl, Done.refl HB.out⟩
  | true =>
    rw [hf] at H1
    cases ht : g.isNode t with
    | false =>
      rw [ht] at H2
      simp only [Bool.true_and, Bool.false_eq_true, if_false]
      generalize l.length = n
      clear h hf ht
      go_enter Try.func20, Try.ntmps20
      go_wp2_with fail
      refine H1.out.mono ?_
      rintro e w1 ⟨rfl, rfl⟩
      go_wp2_with fail
      refine H2.out.mono ?_
      rintro e w2 ⟨rfl, rfl⟩
      go_wp2
      go_ret
      exact ⟨rfl, Done.refl HB.out⟩
    | true =>
      rw [ht] at H2
      obtain ⟨k, rfl, hk⟩ := h.ok.node hf
      obtain ⟨A, c, rs, h⟩ := h
      have c0 := up_cell h.blk hk
      simp only [Bool.true_and, if_true]
      unfold Bg.upAt
      rw [Int.toNat_natCast]
      have htn : 0 ≤ t ∧ t < g.nodes := by unfold Bg.isNode at ht; simpa using ht
      obtain ⟨n, hn⟩ : ∃ n, n = l.length := ⟨_, rfl⟩
      have HN := Lib.hid hn
      cases hu : g.up.getD k false with
      | false =>
        rw [hu] at c0
        simp only [Bool.false_eq_true, if_false]
        rw [← hn]
        clear h hf ht hu hn htn
        go_enter Try.func20, Try.ntmps20
        go_wp2_with fail
        refine H1.out.mono ?_
        rintro e w1 ⟨rfl, rfl⟩
        go_wp2_with fail
        refine H2.out.mono ?_
        rintro e w2 ⟨rfl, rfl⟩
        go_wp2
        go_ret
        exact ⟨rfl, Done.refl HB.out⟩
      | true =>
        rw [hu] at c0
        simp only [if_true]
        cases hfu : g.full with
        | true =>
          rw [hfu] at HF
          simp only [if_true]
          rw [← hn]
          have HO := Lib.hid h
          have d0 := h.blk.cell 13
          have d1 := h.blk.free 13
          simp only [bcells] at d0
          have hl1 := hlow.l1
          have hl0 := h.ok.l0
          have hw : wrap64 (g.lost + 1) = g.lost + 1 := by unfold wrap64; omega
          clear h hf ht hu hn htn hfu hl1 hl0
          go_enter Try.func20, Try.ntmps20
          go_wp2_with fail
          refine H1.out.mono ?_
          rintro e w1 ⟨rfl, rfl⟩
          go_wp2_with fail
          refine H2.out.mono ?_
          rintro e w2 ⟨rfl, rfl⟩
          go_wp2_with fail
          refine HF.out.mono ?_
          rintro e w3 ⟨rfl, q, rfl⟩
          go_wp2
          go_ret
          exact ⟨rfl, S, (HO.out.drewN q).lose.at_, (Touch.drewN S _ q).more (Touch.set HO.out.pS _ _ _), Sub.refl _ _⟩
        | false =>
          rw [hfu] at HF
          simp only [Bool.false_eq_true, if_false]
          have hroom : (rs.length : Int) < g.most := by have := h.len; unfold Bg.full at hfu; simp at hfu; omega
          have HA := Lib.hid (show ∀ q, Calls Try.prog 29 #[.pointer (some ⟨p, 0, none⟩), .agg #[.int .i64 (k : Int), .int .i64 t, .slice D n cd]] (w.drewN q) fun e w' => e = .returned (.tuple #[]) ∧ Done S (w.drewN q) p { g with ms := g.ms ++ [⟨(k : Int), t, l⟩], sent := g.sent + 1 } w' from fun q => by rw [hn]; exact add_calls (h.drewN q) hlow hroom k t D cd l (hl.below (below_drewN w q)) hb hll htn.1 htn.2)
          rw [← hn]
          clear h hf ht hu hn htn hfu hroom
          go_enter Try.func20, Try.ntmps20
          go_wp2_with fail
          refine H1.out.mono ?_
          rintro e w1 ⟨rfl, rfl⟩
          go_wp2_with fail
          refine H2.out.mono ?_
          rintro e w2 ⟨rfl, rfl⟩
          go_wp2_with fail
          refine HF.out.mono ?_
          rintro e w3 ⟨rfl, q, rfl⟩
          go_wp2_with fail
          refine (HA.out q).mono ?_
          rintro e w4 ⟨rfl, hD⟩
          go_wp2
          go_ret
          exact ⟨rfl, hD.ahead (below_drewN _ _)⟩
theorem send_nil (f t : Int) (D : Option Addr) (n cd : Nat) (w : World) : Calls Try.prog 20 #[.pointer none, .int .i64 f, .int .i64 t, .slice D n cd] w fun e w' => e = .returned (.int .i64 7) ∧ w = w' := by
  go_enter Try.func20, Try.ntmps20
  go_wp2
  go_ret
  exact ⟨rfl, rfl⟩
end
end Go.Proofs.Ytcdghipodnafmaa
