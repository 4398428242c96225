/-
  The document's bag and the program's side by side: plain functions, and what lies in memory. Conditions: as in the premises.
-/
import Derived.Test.YtcdghipodnafmaaLKeeps
import Derived.Test.YtcdghipodnafmaaRBag
namespace Go.Proofs.Ytcdghipodnafmaa
open Go.ChangeShapes Go.WideShapes Go.ChangeAt Go.RowKit
set_option linter.unusedVariables false

/-- Where the messages lie now: as before, or in memory of the call's own. -/
def RowTo (A : Option Addr) (c : Nat) (rs : List Mr) (W W' : World) (A' : Option Addr) (c' : Nat) (rs' : List Mr) : Prop := (A' = A ∧ c' = c ∧ rs' = rs) ∨ OwnG 48 3 enM W.heap.size W' A' c' rs'
def Rb.isN (b : Rb) (f : Int) : Bool := decide (0 ≤ f) && decide (f < b.n)
def Rb.full (b : Rb) (k : Nat) : Bool := decide (b.m ≤ (k : Int))
def z0 : Mr := ⟨m0, none, 0⟩
def inB (k : Nat) (i : Int) : Bool := decide (0 ≤ i) && decide (i < (k : Int))
def sendQ (b : Rb) (rs : List Mr) (f t : Int) (r : Mr) : Rb × List Mr × Int :=
  if b.isN f && b.isN t then
    if b.dn f.toNat then (b, rs, 6) else (if b.full rs.length then ({ b with z := b.z + 1 }, rs, 9) else ({ b with x := b.x + 1 }, rs ++ [r], 0))
  else (b, rs, 1)
def doQ (b : Rb) (rs : List Mr) (d i j : Int) : Rb × List Mr × Mr × Bool :=
  if inB rs.length i then
    if d = 0 then (if b.dn (rs.getD i.toNat z0).m.tgt.toNat then ({ b with z := b.z + 1 }, wout rs i.toNat, z0, false) else ({ b with y := b.y + 1 }, wout rs i.toNat, rs.getD i.toNat z0, true))
    else if d = 1 then ({ b with z := b.z + 1 }, wout rs i.toNat, z0, true)
    else if d = 2 then (if b.full rs.length then (b, rs, z0, false) else ({ b with x := b.x + 1 }, rs ++ [rs.getD i.toNat z0], z0, true))
    else (if inB rs.length j then (b, insd (wout rs i.toNat) j.toNat (rs.getD i.toNat z0), z0, true) else (b, rs, z0, false))
  else (b, rs, z0, false)
def setQ (b : Rb) (i : Int) (u : Bool) : Rb := { b with dn := fun k => if k = i.toNat then !u else b.dn k }

structure Rel (g : Bg) (b : Rb) : Prop where
  n : b.n = g.nodes
  m : b.m = g.most
  dn : ∀ k : Nat, (k : Int) < g.nodes → b.dn k = !(g.up.getD k false)
  x : b.x = g.sent
  y : b.y = g.taken
  z : b.z = g.lost
section
variable {g : Bg} {b : Rb} {rs : List Mr}
theorem Rel.node (h : Rel g b) (f : Int) : b.isN f = g.isNode f := by unfold Rb.isN Bg.isNode; rw [h.n]
theorem Rel.down (h : Rel g b) {f : Int} (h0 : 0 ≤ f) (h1 : f < g.nodes) : b.dn f.toNat = !(g.upAt f) := by
  unfold Bg.upAt
  exact h.dn _ (by omega)
theorem Rel.fullq (h : Rel g b) (hm : rs.map Mr.m = g.ms) : b.full rs.length = g.full := by
  unfold Rb.full Bg.full
  rw [h.m, ← hm, List.length_map]
theorem inB_has (hm : rs.map Mr.m = g.ms) (i : Int) : inB rs.length i = g.has i := by
  unfold inB Bg.has
  rw [← hm, List.length_map]
theorem getD_map (hm : rs.map Mr.m = g.ms) (i : Nat) : (rs.getD i z0).m = g.ms.getD i m0 := by
  rw [← hm, List.getD_eq_getElem?_getD, List.getD_eq_getElem?_getD, List.getElem?_map]
  cases rs[i]? <;> rfl
theorem Rel.sends (h : Rel g b) (hm : rs.map Mr.m = g.ms) (f t : Int) (r : Mr) (l : List Int) (hr : r.m = ⟨f, t, l⟩) :
    (sendQ b rs f t r).2.2 = (sendS g f t l).2 ∧ (sendQ b rs f t r).2.1.map Mr.m = (sendS g f t l).1.ms ∧ Rel (sendS g f t l).1 (sendQ b rs f t r).1 := by
  unfold sendQ sendS
  rw [h.node, h.node, h.fullq hm]
  by_cases hn : (g.isNode f && g.isNode t) = true
  · rw [if_pos hn, if_pos hn]
    have hf : 0 ≤ f ∧ f < g.nodes := by
      simp only [Bool.and_eq_true] at hn
      have := hn.1
      unfold Bg.isNode at this
      simpa using this
    rw [h.down hf.1 hf.2]
    cases g.upAt f with
    | false => exact ⟨rfl, hm, h⟩
    | true =>
      simp only [Bool.not_true, Bool.false_eq_true, if_false, if_true]
      cases g.full with
      | true => exact ⟨rfl, hm, ⟨h.n, h.m, h.dn, h.x, h.y, by show b.z + 1 = g.lost + 1; rw [h.z]⟩⟩
      | false => exact ⟨rfl, by simp [hm, hr], ⟨h.n, h.m, h.dn, by show b.x + 1 = g.sent + 1; rw [h.x], h.y, h.z⟩⟩
  · rw [if_neg hn, if_neg hn]
    exact ⟨rfl, hm, h⟩
theorem Rel.take (h : Rel g b) (hok : Ok g) (hm : rs.map Mr.m = g.ms) (i j : Int) :
    (doQ b rs 0 i j).2.2.2 = (takeS g i).2.2 ∧ (doQ b rs 0 i j).2.2.1.m = (takeS g i).2.1 ∧ (doQ b rs 0 i j).2.1.map Mr.m = (takeS g i).1.ms ∧ Rel (takeS g i).1 (doQ b rs 0 i j).1 := by
  unfold doQ takeS
  rw [inB_has hm]
  cases hi : g.has i with
  | false => exact ⟨rfl, rfl, hm, h⟩
  | true =>
    obtain ⟨k, rfl, hk⟩ := has_nat hi
    simp only [if_true, Int.toNat_natCast]
    rw [getD_map hm]
    have hg := hok.msgs _ (getD_mem hk)
    rw [h.down hg.lo hg.hi]
    cases g.upAt (g.ms.getD k m0).tgt with
    | true => exact ⟨rfl, getD_map hm k, by show (wout rs k).map Mr.m = wout g.ms k; rw [wout_map, hm], ⟨h.n, h.m, h.dn, h.x, by show b.y + 1 = g.taken + 1; rw [h.y], h.z⟩⟩
    | false => exact ⟨rfl, rfl, by show (wout rs k).map Mr.m = wout g.ms k; rw [wout_map, hm], ⟨h.n, h.m, h.dn, h.x, h.y, by show b.z + 1 = g.lost + 1; rw [h.z]⟩⟩
theorem Rel.lose (h : Rel g b) (hm : rs.map Mr.m = g.ms) (i j : Int) :
    (doQ b rs 1 i j).2.2.2 = (loseS g i).2 ∧ (doQ b rs 1 i j).2.2.1 = z0 ∧ (doQ b rs 1 i j).2.1.map Mr.m = (loseS g i).1.ms ∧ Rel (loseS g i).1 (doQ b rs 1 i j).1 := by
  unfold doQ loseS
  rw [inB_has hm]
  cases hi : g.has i with
  | false => exact ⟨rfl, rfl, hm, h⟩
  | true => exact ⟨rfl, rfl, by show (wout rs i.toNat).map Mr.m = wout g.ms i.toNat; rw [wout_map, hm], ⟨h.n, h.m, h.dn, h.x, h.y, by show b.z + 1 = g.lost + 1; rw [h.z]⟩⟩
theorem Rel.twice (h : Rel g b) (hm : rs.map Mr.m = g.ms) (i j : Int) :
    (doQ b rs 2 i j).2.2.2 = (twiceS g i).2 ∧ (doQ b rs 2 i j).2.2.1 = z0 ∧ (doQ b rs 2 i j).2.1.map Mr.m = (twiceS g i).1.ms ∧ Rel (twiceS g i).1 (doQ b rs 2 i j).1 := by
  unfold doQ twiceS
  rw [inB_has hm, h.fullq hm]
  cases hi : g.has i with
  | false => exact ⟨rfl, rfl, hm, h⟩
  | true =>
    cases g.full with
    | true => exact ⟨rfl, rfl, hm, h⟩
    | false => exact ⟨rfl, rfl, by show (rs ++ [rs.getD i.toNat z0]).map Mr.m = g.ms ++ [g.ms.getD i.toNat ⟨0, 0, []⟩]; rw [List.map_append, hm, List.map_cons, getD_map hm]; rfl, ⟨h.n, h.m, h.dn, by show b.x + 1 = g.sent + 1; rw [h.x], h.y, h.z⟩⟩
theorem Rel.move (h : Rel g b) (hm : rs.map Mr.m = g.ms) (i j : Int) :
    (doQ b rs 3 i j).2.2.2 = (moveS g i j).2 ∧ (doQ b rs 3 i j).2.2.1 = z0 ∧ (doQ b rs 3 i j).2.1.map Mr.m = (moveS g i j).1.ms ∧ Rel (moveS g i j).1 (doQ b rs 3 i j).1 := by
  unfold doQ moveS
  rw [inB_has hm, inB_has hm]
  cases hi : g.has i with
  | false => exact ⟨rfl, rfl, hm, h⟩
  | true =>
    cases hj : g.has j with
    | false => exact ⟨rfl, rfl, hm, h⟩
    | true => exact ⟨rfl, rfl, by show (insd (wout rs i.toNat) j.toNat (rs.getD i.toNat z0)).map Mr.m = insd (wout g.ms i.toNat) j.toNat (g.ms.getD i.toNat m0); rw [insd_map, wout_map, hm, getD_map hm], ⟨h.n, h.m, h.dn, h.x, h.y, h.z⟩⟩
theorem Rel.set (h : Rel g b) (hok : Ok g) (i : Int) (u : Bool) (hi : g.isNode i = true) : Rel (setS g i u).1 (setQ b i u) := by
  unfold setS
  rw [hi]
  refine ⟨h.n, h.m, fun k hk => ?_, h.x, h.y, h.z⟩
  have hk8 : k < 8 := by have : (k : Int) < g.nodes := hk; have := hok.n8; omega
  have hul := hok.up
  show (if k = i.toNat then !u else b.dn k) = !((g.up.set i.toNat u).getD k false)
  rw [List.getD_eq_getElem?_getD, List.getElem?_set]
  by_cases e : k = i.toNat
  · rw [if_pos e, if_pos e.symm, if_pos (by omega)]; rfl
  · rw [if_neg e, if_neg (fun h2 => e h2.symm), ← List.getD_eq_getElem?_getD]
    exact h.dn k hk
end
/-- The counts are low. -/
def Cnt (g : Bg) (k : Nat) : Prop := ∃ ss nev, Bal g ss nev k
section
variable {g : Bg} {k : Nat}
theorem Cnt.low (h : Cnt g k) (hk : k ≤ 1000) : Low g := by obtain ⟨_, _, h⟩ := h; exact h.low hk
theorem Cnt.next (h : Cnt g k) : Cnt g (k + 1) := by obtain ⟨_, _, h⟩ := h; exact ⟨_, _, h.next⟩
theorem Cnt.take (h : Cnt g k) (i : Int) : Cnt (takeS g i).1 (k + 1) := by obtain ⟨_, _, h⟩ := h; exact ⟨_, _, (h.take i).1⟩
theorem Cnt.lose (h : Cnt g k) (i : Int) : Cnt (loseS g i).1 (k + 1) := by obtain ⟨_, _, h⟩ := h; exact ⟨_, _, h.lose i⟩
theorem Cnt.twice (h : Cnt g k) (i : Int) : Cnt (twiceS g i).1 (k + 1) := by obtain ⟨_, _, h⟩ := h; exact ⟨_, _, h.twice i⟩
theorem Cnt.move (h : Cnt g k) (i j : Int) : Cnt (moveS g i j).1 (k + 1) := by obtain ⟨_, _, h⟩ := h; exact ⟨_, _, h.move i j⟩
theorem Cnt.set (h : Cnt g k) (i : Int) (u : Bool) : Cnt (setS g i u).1 (k + 1) := by obtain ⟨_, _, h⟩ := h; exact ⟨_, _, h.set i u⟩
theorem Cnt.send (h : Cnt g k) (f t : Int) (b : List Int) : Cnt (sendS g f t b).1 (k + 1) := by
  obtain ⟨_, _, h⟩ := h
  rcases h.send f t b with h1 | h1 | h1
  · exact ⟨_, _, h1.2⟩
  · exact ⟨_, _, h1.2⟩
  · exact ⟨_, _, h1.2.2⟩
theorem Cnt.new (n m : Int) : Cnt (newG n m) 0 := ⟨_, _, Bal.new n m⟩
end
/-- Both bags in memory. -/
structure MemB (w : World) (p : Nat) (S : Nat → Prop) (g : Bg) (A : Option Addr) (c : Nat) (rs : List Mr) (W : World) : Prop where
  bag : BagAt S W p g
  up : ∀ b, S b → w.heap.size ≤ b
  below : Below w.heap.size w W
  row : OwnG 48 3 enM w.heap.size W A c rs
  off : ∀ a, A = some a → ¬ S a.block
  data : ∀ s ∈ rs, Lies w s.A s.c s.m.b ∧ IsB s.m.b
section
variable {w W W1 W2 : World} {p : Nat} {S : Nat → Prop} {g g' : Bg} {A A' : Option Addr} {c c' : Nat} {rs rs' : List Mr}
theorem MemB.on (h : MemB w p S g A c rs W) (hb : Below W.heap.size W W1) : MemB w p S g A c rs W1 :=
  ⟨h.bag.below hb, h.up, h.below.trans (hb.mono h.below.size), h.row.below hb, h.off, h.data⟩
theorem MemB.done (h : MemB w p S g A c rs W) (hd : Done S W p g' W1) : ∃ S', MemB w p S' g' A c rs W1 := by
  obtain ⟨S', h1, h2, h3⟩ := hd
  refine ⟨S', h1, fun b hb => ?_, h.below.trans (h2.below h.up h.below.size), h.row.blocks fun a ha => ?_, fun a ha hs => ?_, h.data⟩
  · rcases h3 b hb with h4 | h4
    · exact h.up b h4
    · have := h.below.size; omega
  · obtain ⟨cur, q, hq⟩ := (h.row.row a.block (by rw [ha]; rfl)).2
    exact h2.block _ (Array.getElem?_eq_some_iff.1 hq).1 (h.off a ha)
  · obtain ⟨cur, q, hq⟩ := (h.row.row a.block (by rw [ha]; rfl)).2
    have hlt := (Array.getElem?_eq_some_iff.1 hq).1
    rcases h3 _ hs with h4 | h4
    · exact h.off a ha h4
    · omega
theorem MemB.ref (h : MemB w p S g A c rs W) (hr : RowTo A c rs W W1 A' c' rs') (hb : Below W.heap.size W W1) (hd : ∀ s ∈ rs', s ∈ rs ∨ (Lies w s.A s.c s.m.b ∧ IsB s.m.b)) : MemB w p S g A' c' rs' W1 := by
  have h1 := h.on hb
  rcases hr with ⟨rfl, rfl, rfl⟩ | ho
  · exact h1
  · refine ⟨h1.bag, h1.up, h1.below, ho.mono h.below.size, fun a ha hs => ?_, fun s hs => ?_⟩
    · subst ha
      have h2 := (ho.row a.block rfl).1
      have := h.bag.lt _ hs
      omega
    · rcases hd s hs with h3 | h3
      · exact h.data s h3
      · exact h3
theorem MemB.msgs (h : MemB w p S g A c rs W) : Msgs W A c rs := ⟨h.row.cells, fun x hx => ⟨(h.data x hx).1.below h.below, (h.data x hx).2⟩⟩
end
theorem sendQ_mem {b : Rb} {rs : List Mr} {f t : Int} {r s : Mr} (h : s ∈ (sendQ b rs f t r).2.1) : s ∈ rs ∨ s = r := by
  unfold sendQ at h
  split at h
  · split at h
    · exact .inl h
    · split at h
      · exact .inl h
      · rcases List.mem_append.1 h with h1 | h1
        · exact .inl h1
        · exact .inr (List.mem_singleton.1 h1)
  · exact .inl h
theorem getDz_mem {rs : List Mr} {i : Nat} (h : i < rs.length) : rs.getD i z0 ∈ rs := by
  rw [List.getD_eq_getElem?_getD, List.getElem?_eq_getElem h]
  exact List.getElem_mem h
theorem inB_nat {k : Nat} {i : Int} (h : inB k i = true) : ∃ n : Nat, i = (n : Int) ∧ n < k := by
  unfold inB at h
  simp only [Bool.and_eq_true, decide_eq_true_eq] at h
  exact ⟨i.toNat, by omega, by omega⟩
theorem doQ_mem {b : Rb} {rs : List Mr} {d i j : Int} {s : Mr} (h : s ∈ (doQ b rs d i j).2.1) : s ∈ rs := by
  unfold doQ at h
  cases hi : inB rs.length i with
  | false => rw [hi] at h; exact h
  | true =>
    rw [hi] at h
    obtain ⟨k, rfl, hk⟩ := inB_nat hi
    simp only [if_true, Int.toNat_natCast] at h
    have hx := getDz_mem hk
    split at h
    · split at h <;> exact mem_wout h
    · split at h
      · exact mem_wout h
      · split at h
        · split at h
          · exact h
          · rcases List.mem_append.1 h with h1 | h1
            · exact h1
            · rw [List.mem_singleton.1 h1]; exact hx
        · split at h
          · rcases mem_insd h with h1 | h1
            · rw [h1]; exact hx
            · exact mem_wout h1
          · exact h
theorem doQ_msg {b : Rb} {rs : List Mr} {d i j : Int} : (doQ b rs d i j).2.2.1 ∈ rs ∨ (doQ b rs d i j).2.2.1 = z0 := by
  unfold doQ
  cases hi : inB rs.length i with
  | false => exact .inr rfl
  | true =>
    obtain ⟨k, rfl, hk⟩ := inB_nat hi
    simp only [if_true, Int.toNat_natCast]
    have hx := getDz_mem hk
    split
    · split
      · exact .inr rfl
      · exact .inl hx
    · split
      · exact .inr rfl
      · split
        · split <;> exact .inr rfl
        · split <;> exact .inr rfl
end Go.Proofs.Ytcdghipodnafmaa
