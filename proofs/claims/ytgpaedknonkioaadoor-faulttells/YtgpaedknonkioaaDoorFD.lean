/-
  The contract of the document's Do. No conditions.
-/
import Derived.Test.YtgpaedknonkioaaDoorFH
import Derived.Deep.RegionWith
namespace Go.Proofs.YtgpaedknonkioaaDoor
open Go.ChangeShapes Go.WideShapes Go.ChangeAt Go.RowKit
set_option linter.unusedVariables false

def doO (e : Option Er) (d : Int) (s : ByteArray) (no n : Int) : Option Er :=
  if d = 0 then freshO n else if d = 1 then inO s no e else if d = 2 then bothO e (freshO n) else if d = 3 then bothO (freshO n) e else e

/-- What is known of a block of five cells. -/
theorem five {W : World} {g : Nat} {a b c d f : Value} {t : TypeId} (h : Blk W g #[a, b, c, d, f] t) :
    (W.cell? ⟨g, 0, none⟩ = some a ∧ W.cell? ⟨g, 1, none⟩ = some b ∧ W.cell? ⟨g, 2, none⟩ = some c ∧ W.cell? ⟨g, 3, none⟩ = some d ∧ W.cell? ⟨g, 4, none⟩ = some f) ∧
    (W.frozen? ⟨g, 0, none⟩ = false ∧ W.frozen? ⟨g, 1, none⟩ = false ∧ W.frozen? ⟨g, 2, none⟩ = false ∧ W.frozen? ⟨g, 3, none⟩ = false ∧ W.frozen? ⟨g, 4, none⟩ = false) :=
  ⟨⟨h.cell 0, h.cell 1, h.cell 2, h.cell 3, h.cell 4⟩, h.free 0, h.free 1, h.free 2, h.free 3, h.free 4⟩
def set5 (W : World) (g : Nat) (a b c d f : Value) : World := ((((W.setCell ⟨g, 0, none⟩ a).setCell ⟨g, 1, none⟩ b).setCell ⟨g, 2, none⟩ c).setCell ⟨g, 3, none⟩ d).setCell ⟨g, 4, none⟩ f
theorem Blk.set5 {W : World} {g : Nat} {a b c d f : Value} {t : TypeId} (h : Blk W g #[a, b, c, d, f] t) (a' b' c' d' f' : Value) :
    Blk (((((W.setCell ⟨g, 0, none⟩ a').setCell ⟨g, 1, none⟩ b').setCell ⟨g, 2, none⟩ c').setCell ⟨g, 3, none⟩ d').setCell ⟨g, 4, none⟩ f') g #[a', b', c', d', f'] t :=
  ((((h.set 0 a').set 1 b').set 2 c').set 3 d').set 4 f'
theorem below_set5 {B : Nat} {w W : World} {g : Nat} (h : Below B w W) (hg : B ≤ g) (a b c d f : Value) :
    Below B w (((((W.setCell ⟨g, 0, none⟩ a).setCell ⟨g, 1, none⟩ b).setCell ⟨g, 2, none⟩ c).setCell ⟨g, 3, none⟩ d).setCell ⟨g, 4, none⟩ f) :=
  ((((h.setCell hg _).setCell hg _).setCell hg _).setCell hg _).setCell hg _

theorem set5_size (W : World) (g : Nat) (a b c d f : Value) : (((((W.setCell ⟨g, 0, none⟩ a).setCell ⟨g, 1, none⟩ b).setCell ⟨g, 2, none⟩ c).setCell ⟨g, 3, none⟩ d).setCell ⟨g, 4, none⟩ f).heap.size = W.heap.size := by
  simp [World.setCell]
theorem set5_other (W : World) {g k : Nat} (hk : k ≠ g) (a b c d f : Value) : (((((W.setCell ⟨g, 0, none⟩ a).setCell ⟨g, 1, none⟩ b).setCell ⟨g, 2, none⟩ c).setCell ⟨g, 3, none⟩ d).setCell ⟨g, 4, none⟩ f).heap[k]? = W.heap[k]? := by
  rw [Below.heap_setCell _ _ _ _ hk, Below.heap_setCell _ _ _ _ hk, Below.heap_setCell _ _ _ _ hk, Below.heap_setCell _ _ _ _ hk, Below.heap_setCell _ _ _ _ hk]

section
variable (k n m n' no : Int) (s st : ByteArray) (A : Option Addr) (l c : Nat) (w : World)

/-- The world behind the entry of Do. -/
def doW (k n m n' no d : Int) (s st : ByteArray) (A : Option Addr) (l c : Nat) (w : World) : World :=
  ((w.alloc (.cells #[.int .i64 k, .int .i64 n, .string s, .int .i64 m, .slice A l c] 29)).alloc (.cells #[.int .i64 d, .string st, .int .i64 no, .int .i64 n'] 56)).alloc (.cells #[.int .i64 0, .int .i64 0, .string ⟨#[]⟩, .int .i64 0, .slice none 0 0] 29)
theorem doW_below (d : Int) : Below w.heap.size w (doW k n m n' no d s st A l c w) := (((Below.refl _ _).alloc (Nat.le_refl _) _).alloc (by simp) _).alloc (by simp; omega) _

theorem do_keep (d : Int) (h : d ≠ 0 ∧ d ≠ 2 ∧ d ≠ 3 ∧ (d = 1 → k = 0)) :
    Calls Tryd.prog 22 #[.agg #[.int .i64 k, .int .i64 n, .string s, .int .i64 m, .slice A l c], .agg #[.int .i64 d, .string st, .int .i64 no, .int .i64 n']] w fun e w' => e = .returned (.agg #[.int .i64 k, .int .i64 n, .string s, .int .i64 m, .slice A l c]) ∧ Below w.heap.size w w' := by
  obtain ⟨h0, h2, h3, h1⟩ := h
  have e0 : (d == 0) = false := by simpa using h0
  have e2 : (d == 2) = false := by simpa using h2
  have e3 : (d == 3) = false := by simpa using h3
  by_cases hd : d = 1
  · obtain rfl := h1 hd
    subst hd
    clear h0 h2 h3 h1
    go_enter Tryd.func22, Tryd.ntmps22
    go_wp2
    exact bodyPost_ret (results_cell1 rfl _ _ _ _ _ rfl (lv29 (Blk.newAt _ _ _ (by simp)))) rfl ⟨rfl, (((Below.refl _ _).alloc (Nat.le_refl _) _).alloc (by simp) _).alloc (by simp; omega) _⟩
  · have e1 : (d == 1) = false := by simpa using hd
    clear h0 h2 h3 h1 hd
    go_enter Tryd.func22, Tryd.ntmps22
    go_wp2
    exact bodyPost_ret (results_cell1 rfl _ _ _ _ _ rfl (lv29 (Blk.newAt _ _ _ (by simp)))) rfl ⟨rfl, (((Below.refl _ _).alloc (Nat.le_refl _) _).alloc (by simp) _).alloc (by simp; omega) _⟩
theorem do_in (hk : (k == 0) = false) :
    Calls Tryd.prog 22 #[.agg #[.int .i64 k, .int .i64 n, .string s, .int .i64 m, .slice A l c], .agg #[.int .i64 1, .string st, .int .i64 no, .int .i64 n']] w fun e w' => ∃ q, e = .returned (.agg #[.int .i64 2, .int .i64 0, .string st, .int .i64 no, .slice (some ⟨q, 0, none⟩) 1 1]) ∧ Blk w' q #[.int .i64 k, .int .i64 n, .string s, .int .i64 m, .slice A l c] 29 ∧ w.heap.size ≤ q ∧ Below w.heap.size w w' := by
  have hk2 : (k != 0) = true := by simp [bne, hk]
  go_enter Tryd.func22, Tryd.ntmps22
  go_wp2
  exact bodyPost_ret (results_cell1 rfl _ _ _ _ _ rfl (lv29 ((Blk.newAt _ _ _ (by simp)).alloc _))) rfl ⟨_, rfl, Blk.newAt _ _ _ (by simp), by omega, ((((Below.refl _ _).alloc (Nat.le_refl _) _).alloc (by simp) _).alloc (by simp; omega) _).alloc (by simp; omega) _⟩

set_option maxHeartbeats 2000000 in
theorem do_new (w0 : World) :
    Calls Tryd.prog 22 #[.agg #[.int .i64 k, .int .i64 n, .string s, .int .i64 m, .slice A l c], .agg #[.int .i64 0, .string st, .int .i64 no, .int .i64 n']] w (BothOf w0 w (freshO n')) := by
  have hd := doW_below k n m n' no s st A l c w 0
  have HF := Lib.hid (fresh_calls n' (doW k n m n' no 0 s st A l c w))
  have hb0 : Blk (doW k n m n' no 0 s st A l c w) (w.heap.size + 1 + 1) #[.int .i64 0, .int .i64 0, .string ⟨#[]⟩, .int .i64 0, .slice none 0 0] 29 := Blk.newAt _ _ _ (by simp)
  generalize hR : freshO n' = R at *
  have HR := Lib.hid hR
  clear hR
  unfold doW at HF
  go_enter Tryd.func22, Tryd.ntmps22
  go_wp2_with (go_at_call 39; refine HF.out.mono ?_; rintro e w1 ⟨v, rfl, hv, hb1⟩; obtain ⟨n2, s2, m2, A2, l2, c2, rfl⟩ := hv.form; have hb2 := hb0.belowAll hb1; obtain ⟨⟨c0, c1, c2, c3, c4⟩, f0, f1, f2, f3, f4⟩ := five hb2)
  refine bodyPost_ret (results_cell1 rfl _ _ _ _ _ rfl (lv29 (hb2.set5 _ _ _ _ _))) rfl ⟨_, rfl, ⟨_, _, _, _, _, _, _, rfl⟩, fun W'' _ _ => ?_, below_set5 (Below.on hd hb1) (by omega) _ _ _ _ _⟩
  have hr := HR.out
  subst hr
  exact fresh_any hv _

set_option maxRecDepth 100000 in
set_option maxHeartbeats 4000000 in
theorem do_both (w0 : World) (e : Option Er) (he : IsRO w0 e [.int .i64 k, .int .i64 n, .string s, .int .i64 m, .slice A l c]) :
    Calls Tryd.prog 22 #[.agg #[.int .i64 k, .int .i64 n, .string s, .int .i64 m, .slice A l c], .agg #[.int .i64 2, .string st, .int .i64 no, .int .i64 n']] w (BothOf w0 w (bothO e (freshO n'))) := by
  have hd := doW_below k n m n' no s st A l c w 2
  have HF := Lib.hid (fresh_calls n')
  have hb0 : Blk (doW k n m n' no 2 s st A l c w) (w.heap.size + 1 + 1) #[.int .i64 0, .int .i64 0, .string ⟨#[]⟩, .int .i64 0, .slice none 0 0] 29 := Blk.newAt _ _ _ (by simp)
  have he0 : Blk (doW k n m n' no 2 s st A l c w) w.heap.size #[.int .i64 k, .int .i64 n, .string s, .int .i64 m, .slice A l c] 29 := ((Blk.newAt _ _ _ rfl).alloc _).alloc _
  have hsz : w.heap.size + 1 + 1 < (doW k n m n' no 2 s st A l c w).heap.size := hb0.lt
  have HB := Lib.hid (fun (W : World) (v : List Value) (hv : IsRO w0 (freshO n') v) => both_calls e (freshO n') _ v w0 W he hv)
  have HFA := Lib.hid (fun (W : World) (v : List Value) (hv : IsRO W (freshO n') v) => fresh_any hv w0)
  generalize hR : bothO e (freshO n') = R at *
  clear hR he
  generalize freshO n' = F at *
  unfold doW at hb0 he0 hsz hd
  obtain ⟨⟨x0, x1, x2, x3, x4⟩, _⟩ := five he0
  go_enter Tryd.func22, Tryd.ntmps22
  go_wp2_with fail
  go_region_with (first
    | (go_at_call 39; refine (HF.out _).mono ?_; rintro e w1 ⟨v, rfl, hv, hb1⟩; have hv0 := HFA.out _ _ hv; obtain ⟨n2, s2, m2, A2, l2, c2, rfl⟩ := hv.form; have hb2 : Blk w1 _ _ 29 := (hb1.block _ (by exact hsz)).trans hb0; have he2 : Blk w1 _ _ 29 := (hb1.block _ (by exact he0.lt)).trans he0; have hbw1 : Below w.heap.size w w1 := hd.trans (Below.mono ⟨hb1.os, hb1.tape, hb1.output, hb1.size, hb1.block⟩ hd.size); have hs1 : w.heap.size + 1 + 1 < w1.heap.size := hb2.lt; obtain ⟨⟨y0, y1, y2, y3, y4⟩, _⟩ := five he2)
    | (go_at_call 40; refine (HB.out _ _ hv0).mono ?_; rintro e w3 ⟨r, rfl, ⟨k3, n3, s3, m3, A3, l3, c3, rfl⟩, hr, hb3⟩; have hb4 : Blk w3 _ _ 29 := (hb3.block _ (by exact hs1)).trans hb2; have hbw3 : Below w.heap.size w w3 := hbw1.trans (Below.mono ⟨hb3.os, hb3.tape, hb3.output, hb3.size, hb3.block⟩ hbw1.size); obtain ⟨⟨z0, z1, z2, z3, z4⟩, f0, f1, f2, f3, f4⟩ := five hb4))
  all_goals
    go_wp2
    have hfin := below_set5 hbw3 (g := w.heap.size + 1 + 1) (by omega) (.int .i64 k3) (.int .i64 n3) (.string s3) (.int .i64 m3) (.slice A3 l3 c3)
    refine bodyPost_ret (results_cell1 rfl _ _ _ _ _ rfl (lv29 (hb4.set5 _ _ _ _ _))) rfl ⟨_, rfl, ⟨_, _, _, _, _, _, _, rfl⟩, fun W'' g1 g2 => hr W'' g1 (fun j hj hj3 => ?_), hfin⟩
    have hne : j ≠ w.heap.size + 1 + 1 := fun he => by subst he; exact absurd (Nat.lt_of_lt_of_le hs1 hj) (Nat.lt_irrefl _)
    have hw1 : w.heap.size ≤ j := Nat.le_trans hbw1.size hj
    exact (g2 j hw1 (by rw [set5_size]; exact hj3)).trans (set5_other w3 hne _ _ _ _ _)

set_option maxRecDepth 100000 in
set_option maxHeartbeats 4000000 in
theorem do_before (w0 : World) (e : Option Er) (he : IsRO w0 e [.int .i64 k, .int .i64 n, .string s, .int .i64 m, .slice A l c]) :
    Calls Tryd.prog 22 #[.agg #[.int .i64 k, .int .i64 n, .string s, .int .i64 m, .slice A l c], .agg #[.int .i64 3, .string st, .int .i64 no, .int .i64 n']] w (BothOf w0 w (bothO (freshO n') e)) := by
  have hd := doW_below k n m n' no s st A l c w 3
  have HF := Lib.hid (fresh_calls n')
  have hb0 : Blk (doW k n m n' no 3 s st A l c w) (w.heap.size + 1 + 1) #[.int .i64 0, .int .i64 0, .string ⟨#[]⟩, .int .i64 0, .slice none 0 0] 29 := Blk.newAt _ _ _ (by simp)
  have he0 : Blk (doW k n m n' no 3 s st A l c w) w.heap.size #[.int .i64 k, .int .i64 n, .string s, .int .i64 m, .slice A l c] 29 := ((Blk.newAt _ _ _ rfl).alloc _).alloc _
  have hsz : w.heap.size + 1 + 1 < (doW k n m n' no 3 s st A l c w).heap.size := hb0.lt
  have HB := Lib.hid (fun (W : World) (v : List Value) (hv : IsRO w0 (freshO n') v) => both_calls (freshO n') e v _ w0 W hv he)
  have HFA := Lib.hid (fun (W : World) (v : List Value) (hv : IsRO W (freshO n') v) => fresh_any hv w0)
  generalize hR : bothO (freshO n') e = R at *
  clear hR he
  generalize freshO n' = F at *
  unfold doW at hb0 he0 hsz hd
  obtain ⟨⟨x0, x1, x2, x3, x4⟩, _⟩ := five he0
  go_enter Tryd.func22, Tryd.ntmps22
  go_wp2_with fail
  go_region_with (first
    | (go_at_call 39; refine (HF.out _).mono ?_; rintro e w1 ⟨v, rfl, hv, hb1⟩; have hv0 := HFA.out _ _ hv; obtain ⟨n2, s2, m2, A2, l2, c2, rfl⟩ := hv.form; have hb2 : Blk w1 _ _ 29 := (hb1.block _ (by exact hsz)).trans hb0; have he2 : Blk w1 _ _ 29 := (hb1.block _ (by exact he0.lt)).trans he0; have hbw1 : Below w.heap.size w w1 := hd.trans (Below.mono ⟨hb1.os, hb1.tape, hb1.output, hb1.size, hb1.block⟩ hd.size); have hs1 : w.heap.size + 1 + 1 < w1.heap.size := hb2.lt; obtain ⟨⟨y0, y1, y2, y3, y4⟩, _⟩ := five he2)
    | (go_at_call 40; refine (HB.out _ _ hv0).mono ?_; rintro e w3 ⟨r, rfl, ⟨k3, n3, s3, m3, A3, l3, c3, rfl⟩, hr, hb3⟩; have hb4 : Blk w3 _ _ 29 := (hb3.block _ (by exact hs1)).trans hb2; have hbw3 : Below w.heap.size w w3 := hbw1.trans (Below.mono ⟨hb3.os, hb3.tape, hb3.output, hb3.size, hb3.block⟩ hbw1.size); obtain ⟨⟨z0, z1, z2, z3, z4⟩, f0, f1, f2, f3, f4⟩ := five hb4))
  all_goals
    go_wp2
    have hfin := below_set5 hbw3 (g := w.heap.size + 1 + 1) (by omega) (.int .i64 k3) (.int .i64 n3) (.string s3) (.int .i64 m3) (.slice A3 l3 c3)
    refine bodyPost_ret (results_cell1 rfl _ _ _ _ _ rfl (lv29 (hb4.set5 _ _ _ _ _))) rfl ⟨_, rfl, ⟨_, _, _, _, _, _, _, rfl⟩, fun W'' g1 g2 => hr W'' g1 (fun j hj hj3 => ?_), hfin⟩
    have hne : j ≠ w.heap.size + 1 + 1 := fun he => by subst he; exact absurd (Nat.lt_of_lt_of_le hs1 hj) (Nat.lt_irrefl _)
    have hw1 : w.heap.size ≤ j := Nat.le_trans hbw1.size hj
    exact (g2 j hw1 (by rw [set5_size]; exact hj3)).trans (set5_other w3 hne _ _ _ _ _)
/-- Do. -/
theorem do_calls (w0 : World) (e : Option Er) (v : List Value) (d : Int) (hv : IsRO w0 e v) :
    Calls Tryd.prog 22 #[.agg v.toArray, .agg #[.int .i64 d, .string st, .int .i64 no, .int .i64 n']] w (BothOf w0 w (doO e d st no n')) := by
  obtain ⟨n, s, m, A, l, c, rfl⟩ := hv.form
  unfold doO
  by_cases h0 : d = 0
  · subst h0
    rw [if_pos rfl]
    exact do_new _ n m n' no s st A l c w w0
  · rw [if_neg h0]
    by_cases h1 : d = 1
    · subst h1
      rw [if_pos rfl]
      cases e with
      | none =>
        refine (do_keep _ n m n' no s st A l c w 1 ⟨by decide, by decide, by decide, fun _ => rfl⟩).mono ?_
        rintro x w' ⟨rfl, hb⟩
        exact ⟨_, rfl, ⟨_, _, _, _, _, _, _, rfl⟩, fun W'' g1 g2 => hv.agree g1, hb⟩
      | some t =>
        refine (do_in _ n m n' no s st A l c w t.kind_ne).mono ?_
        rintro x w' ⟨q, rfl, hq, hql, hb⟩
        refine ⟨_, rfl, ⟨_, _, _, _, _, _, _, rfl⟩, fun W'' g1 g2 => ⟨q, 1, rfl, _, IsR.agree g1 (t := t) hv, fun j x hx => ?_⟩, hb⟩
        have hq2 : Blk W'' q _ 29 := (g2 q hql hq.lt).trans hq
        rw [hq2.cell j, ← Array.getElem?_toList]
        exact hx
    · rw [if_neg h1]
      by_cases h2 : d = 2
      · subst h2
        rw [if_pos rfl]
        exact do_both _ n m n' no s st A l c w w0 e hv
      · rw [if_neg h2]
        by_cases h3 : d = 3
        · subst h3
          rw [if_pos rfl]
          exact do_before _ n m n' no s st A l c w w0 e hv
        · rw [if_neg h3]
          refine (do_keep _ n m n' no s st A l c w d ⟨h0, h2, h3, fun h => absurd h h1⟩).mono ?_
          rintro x w' ⟨rfl, hb⟩
          exact ⟨_, rfl, ⟨_, _, _, _, _, _, _, rfl⟩, fun W'' g1 g2 => hv.agree g1, hb⟩
end
end Go.Proofs.YtgpaedknonkioaaDoor
