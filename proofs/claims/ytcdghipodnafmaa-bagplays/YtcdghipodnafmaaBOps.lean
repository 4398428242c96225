/-
  Contracts of the bag's Lose, Twice, Set. Conditions: the bag lies in memory; the counts are low.
-/
import Derived.Test.YtcdghipodnafmaaBAdd
namespace Go.Proofs.Ytcdghipodnafmaa
open Go.ChangeShapes Go.WideShapes Go.ChangeAt Go.RowKit
set_option linter.unusedVariables false

theorem Lies.ne_blk {W : World} {A : Option Addr} {c : Nat} {l : List Int} (h : Lies W A c l) (hn : l ≠ []) {b : Nat} {f t : Int} {X : Option Addr} {n q : Nat} {ty : TypeId} (hb : Blk W b #[.int .i64 f, .int .i64 t, .slice X n q] ty) : ∀ a, A = some a → a.block ≠ b := fun a ha e => by
  have hp := List.length_pos_iff.2 hn
  obtain ⟨b', o, h1, h2, h3⟩ := h.at_ hp
  rw [h1] at ha
  have e2 : b' = b := by rw [← e, ← Option.some.inj ha]
  subst e2
  have h4 := h3 0 hp
  rw [hb.cell] at h4
  match o with
  | 0 => simp at h4
  | 1 => simp at h4
  | 2 => simp at h4
  | o + 3 => simp at h4
section
variable {S : Nat → Prop} {w : World} {p : Nat} {A : Option Addr} {c : Nat} {rs : List Mr} {g : Bg}
theorem Open.setp (h : Open S w p A c rs g) (k : Nat) (v : Value) (g' : Bg) (hc : (bcells A rs.length c g).setIfInBounds k v = bcells A rs.length c g') (hm : g'.ms = g.ms) (hok : Ok g') : Open S (w.setCell ⟨p, k, none⟩ v) p A c rs g' where
  blk := by rw [← hc]; exact h.blk.set k v
  pS := h.pS
  row := h.row.blocks fun a ha => Below.heap_setCell _ _ _ _ (h.row_ne a ha)
  rowS := h.rowS
  lt := fun k hk => Nat.lt_of_lt_of_le (h.lt k hk) (Touch.set h.pS w _ v).size
  data := fun r hr => (h.data r hr).step (Touch.set h.pS w k v) (Sub.refl _ _)
  fs := h.fs.trans hm.symm
  ok := hok
theorem Open.box (h : Open S w p A c rs g) {b : Nat} {f t : Int} {X : Option Addr} {n q : Nat} (hb : Blk w b #[.int .i64 f, .int .i64 t, .slice X n q] 48) (hS : ¬ S b) (x y z : Value) : Open S (((w.setCell ⟨b, 0, none⟩ x).setCell ⟨b, 1, none⟩ y).setCell ⟨b, 2, none⟩ z) p A c rs g where
  blk := h.blk.set3o (g := b) (fun e => hS (by rw [← e]; exact h.pS)) x y z
  pS := h.pS
  row := h.row.blocks fun a ha => set3_other (g := b) (fun e => hS (by rw [← e]; exact h.rowS a ha)) x y z
  rowS := h.rowS
  lt := fun k hk => by rw [set3_size]; exact h.lt k hk
  data := fun r hr => (h.data r hr).blocks fun hn a ha => set3_other ((h.data r hr).1.ne_blk hn hb a ha) x y z
  fs := h.fs
  ok := h.ok
theorem Open.at_ (h : Open S w p A c rs g) : BagAt S w p g := ⟨A, c, rs, h⟩
theorem has_nat {g : Bg} {i : Int} (h : g.has i = true) : ∃ k : Nat, i = (k : Int) ∧ k < g.ms.length := by
  unfold Bg.has at h
  simp only [Bool.and_eq_true, decide_eq_true_eq] at h
  exact ⟨i.toNat, by omega, by omega⟩
theorem bcells_12 (A : Option Addr) (n c : Nat) (g : Bg) (x : Int) : (bcells A n c g).setIfInBounds 12 (.int .i64 x) = bcells A n c { g with taken := x } := rfl
theorem bcells_13 (A : Option Addr) (n c : Nat) (g : Bg) (x : Int) : (bcells A n c g).setIfInBounds 13 (.int .i64 x) = bcells A n c { g with lost := x } := rfl
theorem Ok.lose {g : Bg} (h : Ok g) : Ok { g with lost := g.lost + 1 } := ⟨h.up, h.n1, h.n8, h.m1, h.m2, h.many, h.msgs, h.s0, h.t0, by have := h.l0; show 0 ≤ g.lost + 1; omega⟩
theorem Ok.take {g : Bg} (h : Ok g) : Ok { g with taken := g.taken + 1 } := ⟨h.up, h.n1, h.n8, h.m1, h.m2, h.many, h.msgs, h.s0, by have := h.t0; show 0 ≤ g.taken + 1; omega, h.l0⟩
theorem Ok.sets {g : Bg} (h : Ok g) (k : Nat) (u : Bool) : Ok { g with up := g.up.set k u } := ⟨by simp [h.up], h.n1, h.n8, h.m1, h.m2, h.many, h.msgs, h.s0, h.t0, h.l0⟩
theorem Open.lose (h : Open S w p A c rs g) : Open S (w.setCell ⟨p, 13, none⟩ (.int .i64 (g.lost + 1))) p A c rs { g with lost := g.lost + 1 } := h.setp 13 _ _ (bcells_13 ..) rfl h.ok.lose
theorem Open.take (h : Open S w p A c rs g) : Open S (w.setCell ⟨p, 12, none⟩ (.int .i64 (g.taken + 1))) p A c rs { g with taken := g.taken + 1 } := h.setp 12 _ _ (bcells_12 ..) rfl h.ok.take

def loseS (g : Bg) (i : Int) : Bg × Bool := if g.has i then ({ g with ms := wout g.ms i.toNat, lost := g.lost + 1 }, true) else (g, false)
def twiceS (g : Bg) (i : Int) : Bg × Bool := if g.has i && !g.full then ({ g with ms := g.ms ++ [g.ms.getD i.toNat ⟨0, 0, []⟩], sent := g.sent + 1 }, true) else (g, false)
def setS (g : Bg) (n : Int) (u : Bool) : Bg × Int := if g.isNode n then ({ g with up := g.up.set n.toNat u }, 0) else (g, 1)
/-- The call answers a Bool, and the bag has become so. -/
def DoneB (S : Nat → Prop) (w : World) (p : Nat) (r : Bg × Bool) (e : Ending) (w' : World) : Prop := e = .returned (.bool r.2) ∧ Done S w p r.1 w'
def DoneN (S : Nat → Prop) (w : World) (p : Nat) (r : Bg × Int) (e : Ending) (w' : World) : Prop := e = .returned (.int .i64 r.2) ∧ Done S w p r.1 w'

theorem lose_calls (h : BagAt S w p g) (hlow : Low g) (i : Int) : Calls Try.prog 17 #[at_ p, .int .i64 i] w (DoneB S w p (loseS g i)) := by
  have HH := Lib.hid (has_calls h i)
  unfold loseS
  unfold at_ at *
  cases hi : g.has i with
  | false =>
    rw [hi] at HH
    have HB := Lib.hid h
    clear h hi
    simp only [Bool.false_eq_true, if_false]
    go_enter Try.func17, Try.ntmps17
    go_wp2_with (go_at_call 26; refine HH.out.mono ?_; rintro e w1 ⟨rfl, rfl⟩)
    go_ret
    exact ⟨rfl, Done.refl HB.out⟩
  | true =>
    rw [hi] at HH
    obtain ⟨k, rfl, hk⟩ := has_nat hi
    obtain ⟨A, c, rs, h⟩ := h
    obtain ⟨r, hr⟩ : ∃ r, rs[k]? = some r := ⟨rs[k]'(by rw [h.len]; exact hk), by simp⟩
    have HR := Lib.hid (remove_calls h k r hr)
    unfold at_ at HR
    have hll := hlow.l1
    have hl0 := h.ok.l0
    have hw : wrap64 (g.lost + 1) = g.lost + 1 := by unfold wrap64; omega
    clear h hi hr hk hll hl0
    simp only [if_true, Int.toNat_natCast]
    go_enter Try.func17, Try.ntmps17
    go_wp2_with (first | (go_at_call 26; refine HH.out.mono ?_; rintro e w1 ⟨rfl, rfl⟩) | (go_at_call 27; refine HR.out.mono ?_; rintro e w2 ⟨rfl, ho, ht⟩; have q0 := ho.blk.cell 13; have q1 := ho.blk.free 13; simp only [bcells] at q0; have HO := Lib.hid ho; have HT := Lib.hid ht; clear ho ht))
    go_ret
    exact ⟨rfl, S, HO.out.lose.at_, HT.out.more (Touch.set HO.out.pS _ _ _), Sub.refl _ _⟩
theorem lose_nil (i : Int) (w : World) : Calls Try.prog 17 #[.pointer none, .int .i64 i] w fun e w' => e = .returned (.bool false) ∧ w = w' := by
  have HH := Lib.hid (has_nil i w)
  go_enter Try.func17, Try.ntmps17
  go_wp2_with (go_at_call 26; refine HH.out.mono ?_; rintro e w1 ⟨rfl, rfl⟩)
  go_ret
  exact ⟨rfl, rfl⟩
theorem set_calls (h : BagAt S w p g) (n : Int) (u : Bool) : Calls Try.prog 21 #[at_ p, .int .i64 n, .bool u] w (DoneN S w p (setS g n u)) := by
  have HN := Lib.hid (isNode_calls h n)
  unfold setS
  unfold at_ at *
  cases hn : g.isNode n with
  | false =>
    rw [hn] at HN
    have HB := Lib.hid h
    clear h hn
    simp only [Bool.false_eq_true, if_false]
    go_enter Try.func21, Try.ntmps21
    go_wp2_with (go_at_call 25; refine HN.out.mono ?_; rintro e w1 ⟨rfl, rfl⟩)
    go_ret
    exact ⟨rfl, Done.refl HB.out⟩
  | true =>
    rw [hn] at HN
    obtain ⟨k, rfl, hk⟩ := h.ok.node hn
    obtain ⟨A, c, rs, h⟩ := h
    have c0 := up_cell h.blk hk
    have c1 := h.blk.free (1 + k)
    have HO := Lib.hid h
    have HK := Lib.hid hk
    clear h hn
    simp only [if_true, Int.toNat_natCast]
    go_enter Try.func21, Try.ntmps21
    go_wp2_with (go_at_call 25; refine HN.out.mono ?_; rintro e w1 ⟨rfl, rfl⟩)
    go_ret
    exact ⟨rfl, S, (HO.out.setp (1 + k) _ _ (bcells_set HO.out.ok.up HK.out u) rfl (HO.out.ok.sets k u)).at_, Touch.set HO.out.pS _ _ _, Sub.refl _ _⟩
theorem set_nil (n : Int) (u : Bool) (w : World) : Calls Try.prog 21 #[.pointer none, .int .i64 n, .bool u] w fun e w' => e = .returned (.int .i64 7) ∧ w = w' := by
  go_enter Try.func21, Try.ntmps21
  go_wp2
  go_ret
  exact ⟨rfl, rfl⟩
end
end Go.Proofs.Ytcdghipodnafmaa
