/-
  A strings.Builder in a block of its own, and its writing methods at this program: copyCheck, WriteByte, WriteString, String. Conditions: the new length takes at most 2^47 bytes.
  The order of lists of numbers: the first that parts two lists, then the length. Plain, of no program. No conditions.
  The order of strings: what the model compares by is the order of their bytes; contracts of strings.Compare and of the document Less. No conditions.
  The order of values, plain: by the document; it is a total order. Of no program. No conditions.
  The contract of the document's Number of layer 5 (a number in decimal). Conditions: a number of 64 bits.
  Decimal numbers: what the library's parse and the document's give at digits; plain, of no program.
  A number written in decimal is read as that number; the plain facts on digits that the document's reading wants. Plain, of no program. Conditions: numbers of 64 bits.
  Expressions as trees: size, depth, shape, text, sameness, by the document. Plain, of no program. No conditions.
  Two expressions of right shape have the same text just if they are the same. Plain, of no program. Conditions: strings of bytes (they are).
  Two expressions of right shape that have the same text are the same. Plain, of no program. No further conditions.
-/
import Derived.Lib.FrozenHead2
import Derived.Lib.OthersKept
import Derived.Maps.AppendAt
import Derived.Deep.QuietTactic
import Derived.BigQuiet
import Derived.Lib.Bytealg
import Derived.Laws.Cover1
import Derived.Lib.ItoaLen
import Derived.Lib.AppendIntMem
import Derived.Lib.AtoiAll
import Derived.Lib.SlTrimSet
import Derived.Lib.Strings
import Derived.Lib.ItoaNum
import Derived.Test.YtkaapfakalojaaaDoorC1
namespace Go.Proofs.YtkaapfakalojaaaDoor
open Go.ChangeShapes Go.WideShapes Go.ChangeAt Go.RowKit
set_option linter.unusedVariables false
theorem below_any (W : World) (o : Obj) : Below W.heap.size W (W.alloc o) := (Below.refl _ _).alloc (Nat.le_refl _) _
/-- A builder in block b, of the call's own from B on, holds these bytes. -/
def Bld (B b : Nat) (l : List Int) (W : World) : Prop := Lib.IsBuilder 51 5 B b (cellsOf l) W ∧ B ≤ W.heap.size
/-- The blocks that a write into the builder may write. -/
def BldC (b : Nat) (W : World) (k : Nat) : Prop := k = b ∨ ∃ p o n c, W.heap[b]? = some (.cells #[p, .slice (some ⟨k, o, none⟩) n c] 51 (0, 0))
/-- What a write into the builder leaves as it was. -/
structure BldStep (B b : Nat) (W W' : World) : Prop where
  below : Below B W W'
  kp : KpC (BldC b) W W'
theorem BldStep.refl (B b : Nat) (W : World) : BldStep B b W W := ⟨Below.refl _ _, KpC.refl _ _⟩
theorem BldStep.trans {B b : Nat} {A C D : World} (h : BldStep B b A C) (k : BldStep B b C D) : BldStep B b A D := ⟨h.below.trans k.below, h.kp.trans k.kp⟩
theorem bldC_at {b : Nat} {W : World} {p v : Value} (h : W.heap[b]? = some (.cells #[p, v] 51 (0, 0))) {k : Nat} (hk : BldC b W k) : k = b ∨ v.ownBlock = some k := by
  rcases hk with hk | ⟨p', o, n, c, hk⟩
  · exact .inl hk
  · rw [h] at hk
    simp only [Option.some.injEq, Obj.cells.injEq, Array.mk.injEq, List.cons.injEq, and_true] at hk
    exact .inr (by rw [hk.2]; rfl)
theorem bldC_of {b : Nat} {W : World} {p : Value} {B n : Nat} {v : Value} {xs : List Value} (h : W.heap[b]? = some (.cells #[p, v] 51 (0, 0))) (ho : W.ownsRow B 5 1 v n xs) {k : Nat} (hk : v.ownBlock = some k) : BldC b W k := by
  rcases ho.2 with ⟨rfl, _⟩ | ⟨g, cap, cur, rfl, _⟩
  · cases hk
  · simp only [Value.ownBlock, Option.some.injEq] at hk
    subst hk
    exact .inr ⟨p, 0, n, cap, h⟩
/-- Memory that a later call makes above leaves a builder as it is. -/
theorem Bld.step {B b : Nat} {l : List Int} {W W' : World} (h : Bld B b l W) (hb : Below W.heap.size W W') : Bld B b l W' ∧ BldStep B b W W' := by
  obtain ⟨h, hB⟩ := h
  have key : ∀ p, Lib.BuilderAt 51 5 B b p (cellsOf l) W → Lib.BuilderAt 51 5 B b p (cellsOf l) W' ∧ KpC (BldC b) W W' := fun p hA => by
    obtain ⟨hBb, v, hbk, hown, hne⟩ := hA
    have hlt : b < W.heap.size := (Array.getElem?_eq_some_iff.1 hbk).1
    have hbk' : W'.heap[b]? = some (.cells #[p, v] 51 (0, 0)) := (hb.block b hlt).trans hbk
    have hown' : W'.ownsRow B 5 1 v (cellsOf l).length (cellsOf l) := by
      refine ⟨hown.1, ?_⟩
      rcases hown.2 with h2 | ⟨g, cap, cur, hv, hg, hh, r⟩
      · exact .inl h2
      · exact .inr ⟨g, cap, cur, hv, hg, (hb.block g (Array.getElem?_eq_some_iff.1 hh).1).trans hh, r⟩
    refine ⟨⟨hBb, v, hbk', hown', hne⟩, KpC.of_below hb (fun k hk => ?_)⟩
    rcases bldC_at hbk' hk with rfl | hk
    · exact ⟨hlt, .inl rfl⟩
    · exact ⟨(World.ownsRow.lt hown k hk).2, bldC_of hbk hown hk⟩
  have hbB : Below B W W' := hb.mono hB
  rcases h with h | h
  · obtain ⟨h1, h2⟩ := key _ h
    exact ⟨⟨.inl h1, Nat.le_trans hB hb.size⟩, hbB, h2⟩
  · obtain ⟨h1, h2⟩ := key _ h
    exact ⟨⟨.inr h1, Nat.le_trans hB hb.size⟩, hbB, h2⟩
theorem bsize : (Tryd.prog.info? 51).map (·.size) = some 2 := by kernel_rfl
theorem blies : liesAt Tryd.prog Tryd.prog.depth 51 (2 / Tryd.prog.cellsOf 51) 0 51 1 = true := by kernel_rfl
theorem bbyte : (Tryd.prog.info? 5).map (fun i => (i.zero, i.size, i.bytes)) = some (some (.int .u8 0), 1, 1) := by kernel_rfl
set_option maxHeartbeats 1000000 in
theorem bcheck_used (b : Nat) (w : World) (h0 : w.cell? ⟨b, 0, none⟩ = some (.pointer (some ⟨b, 0, none⟩))) : Calls Tryd.prog 55 #[.pointer (some ⟨b, 0, none⟩)] w fun e w' => e = .returned (.tuple #[]) ∧ w' = w := by
  obtain ⟨j, hj, _⟩ := Option.map_eq_some_iff.1 bsize
  go_enter Tryd.func55, Tryd.ntmps55
  go_wp2
  rw [Lib.run_neq_ptr_same w _ Tryd.underlying48 hj]
  go_wp2
  go_end0
  exact ⟨rfl, rfl⟩
set_option maxHeartbeats 1000000 in
theorem bcheck_fresh (b : Nat) (w : World) (h0 : w.cell? ⟨b, 0, none⟩ = some (.pointer none)) (hsh : w.shape? b = some (51, 2)) (hfz : w.frozen? ⟨b, 0, none⟩ = false) :
    Calls Tryd.prog 55 #[.pointer (some ⟨b, 0, none⟩)] w fun e w' => e = .returned (.tuple #[]) ∧ w' = w.setCell ⟨b, 0, none⟩ (.pointer (some ⟨b, 0, none⟩)) := by
  obtain ⟨j, hj, hjs⟩ := Option.map_eq_some_iff.1 bsize
  go_enter Tryd.func55, Tryd.ntmps55
  go_wp2
  rw [Lib.run_to_unsafe w ⟨b, 0, none⟩ Tryd.underlying48 Tryd.underlying82 hj (by rw [hjs]; decide) hsh (Nat.zero_lt_succ 1)]
  simp only [Result.andThen]
  rw [Oper.upon_value]
  go_wp2
  rw [run_callFunc_extern Tryd.func61 (by kernel_rfl) (by kernel_rfl) (by kernel_rfl) (e := Extern.AbiNoEscape.same) (by kernel_rfl)]
  rw [Lib.run_noEscape]
  simp only [Result.andThen]
  rw [Oper.upon_value]
  go_wp2
  rw [Lib.run_from_unsafe w ⟨b, 0, none⟩ Tryd.underlying82 Tryd.underlying48 hj hsh blies]
  simp only [Result.andThen]
  rw [Oper.upon_value]
  go_wp2
  go_end0
  exact ⟨rfl, rfl⟩
theorem bcheck_calls (B b : Nat) (bs : List Value) (w : World) (h : Lib.IsBuilder 51 5 B b bs w) :
    Calls Tryd.prog 55 #[.pointer (some ⟨b, 0, none⟩)] w fun e w' => e = .returned (.tuple #[]) ∧ Lib.BuilderAt 51 5 B b (.pointer (some ⟨b, 0, none⟩)) bs w' ∧ BldStep B b w w' := by
  rcases h with h | h
  · refine (bcheck_fresh b w h.cell0 h.shape h.frozen0).mono ?_
    rintro e w' ⟨rfl, rfl⟩
    refine ⟨rfl, h.used _, (Below.refl B w).setCell (p := ⟨b, 0, none⟩) h.1 _, ⟨by simp [World.setCell], fun k hk hc => ⟨Below.heap_setCell _ _ _ k (fun e => hc (.inl e)), fun hc2 => hc ?_⟩⟩⟩
    obtain ⟨_, v, hbk, hown, _⟩ := h
    have hbk' : (w.setCell ⟨b, 0, none⟩ (.pointer (some ⟨b, 0, none⟩))).heap[b]? = some (.cells #[.pointer (some ⟨b, 0, none⟩), v] 51 (0, 0)) := by
      have := Blk.set (show Blk w b #[.pointer none, v] 51 from hbk) 0 (.pointer (some ⟨b, 0, none⟩))
      simp at this; exact this
    rcases bldC_at hbk' hc2 with rfl | hk2
    · exact .inl rfl
    · exact bldC_of hbk hown hk2
  · refine (bcheck_used b w h.cell0).mono ?_
    rintro e w' ⟨rfl, rfl⟩
    exact ⟨rfl, h, BldStep.refl _ _ _⟩
/-- What the append into the buffer leaves, and the store of the new buffer. -/
theorem bput {B b : Nat} {v v' : Value} {bs news : List Value} {w1 w2 : World} (hB : B ≤ b) (hbk : w1.heap[b]? = some (.cells #[.pointer (some ⟨b, 0, none⟩), v] 51 (0, 0))) (hown : w1.ownsRow B 5 1 v bs.length bs) (hne : v.ownBlock ≠ some b)
    (hBw : B ≤ w1.heap.size) (hown' : w2.ownsRow B 5 1 v' (bs ++ news).length (bs ++ news)) (hg : w1.grownBy w2 v.ownBlock) (hbb : v'.ownBlock = v.ownBlock ∨ v'.ownBlock = some w1.heap.size) :
    w2.cell? ⟨b, 0, none⟩ = some (.pointer (some ⟨b, 0, none⟩)) ∧ w2.cell? ⟨b, 1, none⟩ = some v ∧ w2.frozen? ⟨b, 1, none⟩ = false ∧ Lib.BuilderAt 51 5 B b (.pointer (some ⟨b, 0, none⟩)) (bs ++ news) (w2.setCell ⟨b, 1, none⟩ v') ∧ BldStep B b w1 (w2.setCell ⟨b, 1, none⟩ v') := by
  have hlt : b < w1.heap.size := (Array.getElem?_eq_some_iff.1 hbk).1
  have hb2 : w2.heap[b]? = some (.cells #[.pointer (some ⟨b, 0, none⟩), v] 51 (0, 0)) := by
    rw [hg.block b hlt (fun e => hne e.symm)]
    exact hbk
  refine ⟨by rw [Lib.cell_of_heap hb2]; rfl, by rw [Lib.cell_of_heap hb2]; rfl, Lib.frozen_of_heap hb2 1, Lib.BuilderAt.put hB hb2 hown' (by decide), ?_, ?_⟩
  · exact ((Below.refl B w1).grown hg hBw (fun k hk => (World.ownsRow.lt hown k hk).1)).setCell (p := ⟨b, 1, none⟩) hB _
  · refine ⟨by have := hg.size; simpa [World.setCell] using this, fun k hk hc => ?_⟩
    have hkb : k ≠ b := fun e => hc (.inl e)
    have hkv : v.ownBlock ≠ some k := fun e => hc (bldC_of hbk hown e)
    refine ⟨(Below.heap_setCell _ _ _ k hkb).trans (hg.block k hk (fun e => hkv e.symm)), fun hc2 => ?_⟩
    have hb3 : (w2.setCell ⟨b, 1, none⟩ v').heap[b]? = some (.cells #[.pointer (some ⟨b, 0, none⟩), v'] 51 (0, 0)) := by
      have := Blk.set (show Blk w2 b #[.pointer (some ⟨b, 0, none⟩), v] 51 from hb2) 1 v'
      simp at this; exact this
    rcases bldC_at hb3 hc2 with h9 | h9
    · exact hkb h9
    · rcases hbb with h8 | h8
      · exact hkv (h8.symm.trans h9)
      · rw [h8] at h9; injection h9 with h9; omega
/-- Where the buffer lies behind an append of a text. -/
theorem str_block {B : Nat} {w w' : World} {v v' : Value} {n : Nat} {xs : List Value} (hown : w.ownsRow B 5 1 v n xs) (s : ByteArray) (hn : n + s.size ≤ 140737488355328) (hn2 : n + s.size ≤ maxLen) (ty : TypeId)
    (hr : (Builtin.append_ #[49, 9] ty #[v, .string s]).run Tryd.prog w = .ok v' w') : v'.ownBlock = v.ownBlock ∨ v'.ownBlock = some w.heap.size := by
  obtain ⟨i, hi, hz, hs1, hb1⟩ := info_parts bbyte
  have hxl : xs.length = n := by simpa using hown.1
  rcases hown.2 with ⟨rfl, rfl⟩ | ⟨g, cap, cur, rfl, hbg, hg, hnc, hcm, hcs, htake⟩
  · by_cases hm : s.size = 0
    · have hf := Lib.run_firstCells_string (P := Tryd.prog) w 1 s
      rw [hm] at hf
      simp [Builtin.append_, run_underlying Tryd.underlying49, run_underlying Tryd.underlying9, sizeOf, typeInfo, hi, hs1, Builtin.lenOf, hm, hf] at hr
      exact .inl (by rw [← hr.1])
    · have h2 := run_append_nil_string (P := Tryd.prog) w 49 9 ty 5 i (.int .u8 0) Tryd.underlying49 Tryd.underlying9 hi hz s (by omega) (by unfold maxLen at hn2; omega) (by rw [hb1]; omega)
      rw [hr] at h2
      injection h2 with h2
      exact .inr (by rw [h2]; rfl)
  · by_cases hroom : n + s.size ≤ cap
    · have h2 := Lib.run_append_room_string (P := Tryd.prog) w 49 9 ty 5 i Tryd.underlying49 Tryd.underlying9 hi hs1 g n cap cur hg s hroom (by omega)
      rw [hr] at h2
      injection h2 with h2
      exact .inl (by rw [h2]; rfl)
    · have holds : ∀ j u, xs[j]? = some u → w.cell? ((⟨g, 0, none⟩ : Addr).add j) = some u := World.ownsRow.cells hown (g := g) rfl
      have h2 := Lib.run_append_grow_string (P := Tryd.prog) w 49 9 ty 5 i (.int .u8 0) Tryd.underlying49 Tryd.underlying9 hi hz ⟨g, 0, none⟩ n cap xs (by rw [hs1]; simpa using hxl) holds s (by omega) (by unfold maxLen at hn2; omega) (by rw [hb1]; exact growslice_fits (by omega) (by omega))
      rw [hr] at h2
      injection h2 with h2
      exact .inr (by rw [h2]; rfl)
/-- An append whose outcome is known. -/
theorem wpList_append_known {w : World} {ops : Array Oper} {rest : List Oper} {o : Oper} {a : Act} {Q : Exit → Act → World → Prop} (hgd : o.guard = none) (s x : Operand) (t u : TypeId)
    (ho : o.op = .call { callee := .builtin .append, args := #[s, x], argTypes := #[t, u] }) (v y v' : Value) (w' : World) (hs : a.eval s = v) (hx : a.eval x = y)
    (hrun : (Builtin.append_ #[t, u] o.type #[v, y]).run Tryd.prog w = .ok v' w') (h : wpList Tryd.prog ops Q rest (a.put o.dst v') w') : wpList Tryd.prog ops Q (o :: rest) a w := by
  refine wpList_plain hgd fun K hK => ?_
  unfold Oper.wp execOp
  simp only [ho, resolve, invoke, builtin, Sem.run_bind, Sem.run_pure, Result.andThen_ok, List.map_toArray, List.map_cons, List.map_nil, hs, hx, hrun]
  exact hK _ _ h
set_option maxHeartbeats 2000000 in
theorem bbyte_calls (B b : Nat) (l : List Int) (c : Int) (w : World) (h : Bld B b l w) (hl : l.length + 1 ≤ 140737488355328) :
    Calls Tryd.prog 40 #[.pointer (some ⟨b, 0, none⟩), .int .u8 c] w fun e w' => e = .returned .nilIface ∧ Bld B b (l ++ [c]) w' ∧ BldStep B b w w' := by
  obtain ⟨h, hBw⟩ := h
  obtain ⟨i0, hi, hz0, hz1, hz2⟩ := info_parts bbyte
  have hcl : (cellsOf l).length = l.length := by simp [cellsOf]
  have hcc : cellsOf (l ++ [c]) = cellsOf l ++ [.int .u8 c] := by simp [cellsOf]
  go_enter Tryd.func40, Tryd.ntmps40
  go_wp2_with (go_at_call 55; refine (bcheck_calls B b (cellsOf l) _ h).mono ?_)
  rintro e w1 ⟨rfl, h1, hs1⟩
  obtain ⟨hB, v, hbk, hown, hne⟩ := h1
  have hb1 := hs1.below
  have c0 : w1.cell? ⟨b, 0, none⟩ = some (.pointer (some ⟨b, 0, none⟩)) := by rw [Lib.cell_of_heap hbk]; rfl
  have c1 : w1.cell? ⟨b, 1, none⟩ = some v := by rw [Lib.cell_of_heap hbk]; rfl
  have hsz := hb1.size
  obtain ⟨v', w2, hrun, ho2, hg2, hn2, hbb⟩ := run_append_own_at (P := Tryd.prog) (w1.alloc (.cells #[.int .u8 c] 5)) B 49 49 5 i0 (.int .u8 0) 1 1 Tryd.underlying49 hi hz0 hz1 hz2 rfl (by decide) v (cellsOf l).length (cellsOf l) (hown.alloc _) ⟨w1.heap.size, 0, none⟩ 1 1 [.int .u8 c] rfl
    (fun j u hj => by
      match j, hj with
      | 0, hj => simp at hj; subst hj; simp [Addr.add])
    (fun u hu => by simp at hu; subst hu; rfl) (by unfold maxLen; omega) (by omega) (by simp; omega)
  obtain ⟨q0, q1, q2, q3, q4⟩ := bput (news := [.int .u8 c]) hB (show (w1.alloc (.cells #[.int .u8 c] 5)).heap[b]? = _ from (Below.heap_alloc w1 _ b (Array.getElem?_eq_some_iff.1 hbk).1).trans hbk) (hown.alloc _) hne (by simp; omega) (by simpa [hcl] using ho2) hg2 hbb
  have hst : BldStep B b w1 (w1.alloc (.cells #[.int .u8 c] 5)) := ⟨(Below.refl B w1).alloc (by omega) _, KpC.of_below (below_any w1 _) (fun k hk => by
    rcases bldC_at ((Below.heap_alloc w1 _ b (Array.getElem?_eq_some_iff.1 hbk).1).trans hbk) hk with rfl | hk
    · exact ⟨(Array.getElem?_eq_some_iff.1 hbk).1, .inl rfl⟩
    · exact ⟨(World.ownsRow.lt hown k hk).2, bldC_of hbk hown hk⟩)⟩
  have HE := Lib.hid q3
  have HS := Lib.hid (hs1.trans (hst.trans q4))
  clear q3 q4 hst hg2 hbb
  obtain ⟨g, cap, rfl⟩ : ∃ g cap, v' = .slice (some ⟨g, 0, none⟩) (l.length + 1) cap := by
    rcases ho2.2 with ⟨_, h0⟩ | ⟨g, cap, cur, hv, _⟩
    · omega
    · exact ⟨g, cap, by simpa [cellsOf] using hv⟩
  go_wp2_with (at_builtin; refine wpList_append_known rfl _ _ 49 49 rfl v (.slice (some ⟨w1.heap.size, 0, none⟩) 1 1) _ w2 rfl rfl hrun ?_)
  go_wp2
  go_ret
  exact ⟨rfl, ⟨by rw [hcc]; exact .inr HE.out, Nat.le_trans hBw HS.out.below.size⟩, HS.out⟩
set_option maxHeartbeats 2000000 in
theorem bstr_calls (B b : Nat) (l : List Int) (s : ByteArray) (w : World) (h : Bld B b l w) (hl : l.length + s.size ≤ 140737488351232) :
    Calls Tryd.prog 46 #[.pointer (some ⟨b, 0, none⟩), .string s] w fun e w' => e = .returned (.tuple #[.int .i64 s.size, .nilIface]) ∧ Bld B b (l ++ sl s) w' ∧ BldStep B b w w' := by
  obtain ⟨h, hBw⟩ := h
  obtain ⟨i0, hi, hz0, hz1, hz2⟩ := info_parts bbyte
  have hcl : (cellsOf l).length = l.length := by simp [cellsOf]
  have hcc : cellsOf (l ++ sl s) = cellsOf l ++ Lib.strCells s := by rw [sl_cells]; simp [cellsOf]
  go_enter Tryd.func46, Tryd.ntmps46
  go_wp2_with (go_at_call 55; refine (bcheck_calls B b (cellsOf l) _ h).mono ?_)
  rintro e w1 ⟨rfl, h1, hs1⟩
  obtain ⟨hB, v, hbk, hown, hne⟩ := h1
  have hb1 := hs1.below
  have c0 : w1.cell? ⟨b, 0, none⟩ = some (.pointer (some ⟨b, 0, none⟩)) := by rw [Lib.cell_of_heap hbk]; rfl
  have c1 : w1.cell? ⟨b, 1, none⟩ = some v := by rw [Lib.cell_of_heap hbk]; rfl
  have hsz := hb1.size
  obtain ⟨v', w2, hrun, ho2, hg2, hn2⟩ := Lib.run_append_own_string (P := Tryd.prog) w1 B 49 9 49 5 i0 Tryd.underlying49 Tryd.underlying9 hi hz0 hz1 hz2 v (cellsOf l).length (cellsOf l) hown s (by unfold maxLen; omega) (by omega) (by omega)
  have hbb := str_block hown s (by omega) (by unfold maxLen; omega) 49 hrun
  obtain ⟨q0, q1, q2, q3, q4⟩ := bput (news := Lib.strCells s) hB hbk hown hne (by omega) (by simpa [Lib.strCells_length, hcl] using ho2) hg2 hbb
  have HE := Lib.hid q3
  have HS := Lib.hid (hs1.trans q4)
  clear q3 q4 hg2 hbb
  obtain ⟨ao, n', cap, rfl⟩ : ∃ ao n' cap, v' = .slice ao n' cap := by
    rcases ho2.2 with ⟨hv, _⟩ | ⟨g, cap, cur, hv, _⟩
    · exact ⟨_, _, _, hv⟩
    · exact ⟨_, _, _, hv⟩
  go_wp2_with (at_builtin; refine wpList_append_known rfl _ _ 49 9 rfl v (.string s) _ w2 rfl rfl hrun ?_)
  go_wp2
  go_ret2
  exact ⟨rfl, ⟨by rw [hcc]; exact .inr HE.out, Nat.le_trans hBw HS.out.below.size⟩, HS.out⟩
theorem bString_calls (B b : Nat) (l : List Int) (w : World) (hb : IsB l) (h : Bld B b l w) :
    Calls Tryd.prog 34 #[.pointer (some ⟨b, 0, none⟩)] w fun e w' => e = .returned (.string (str l)) ∧ Below B w w' := by
  have hcl : cellsOf l = Lib.byteCells (l.map fun n => UInt8.ofNat n.toNat) := by
    simp only [cellsOf, Lib.byteCells, List.map_map]
    apply List.map_congr_left
    intro x hx
    have := hb x hx
    simp
    omega
  have h1 := Lib.IsBuilderF.of h.1
  rw [hcl] at h1
  refine (Tryd.Builder_String_any_k B b _ w h1 h.2).mono ?_
  rintro e w' ⟨rfl, _, h2, _⟩
  refine ⟨?_, h2⟩
  congr 2
  apply ByteArray.ext
  apply Array.toList_inj.1
  rw [str_data]
theorem Bld.new (W : World) : Bld W.heap.size W.heap.size [] (W.alloc (.cells #[.pointer none, .slice none 0 0] 51)) :=
  ⟨Lib.fresh_isBuilder 51 5 W, by simp⟩
end Go.Proofs.YtkaapfakalojaaaDoor
namespace Go.Proofs.YtkaapfakalojaaaDoor
open Go.ChangeShapes Go.WideShapes Go.ChangeAt Go.RowKit
set_option linter.unusedVariables false
def ltT : List Int → List Int → Bool
  | [], [] => false
  | [], _ :: _ => true
  | _ :: _, [] => false
  | x :: a, y :: b => if x = y then ltT a b else decide (x < y)
theorem ltT_irrefl : ∀ a, ltT a a = false
  | [] => rfl
  | x :: a => by simp [ltT, ltT_irrefl a]
theorem ltT_asymm : ∀ a b, ltT a b = true → ltT b a = false
  | [], [], h => by simp [ltT] at h
  | [], _ :: _, _ => rfl
  | _ :: _, [], h => by simp [ltT] at h
  | x :: a, y :: b, h => by
    unfold ltT at h ⊢
    by_cases e : x = y
    · subst e; simp only [if_true] at h ⊢; exact ltT_asymm a b h
    · rw [if_neg e] at h
      rw [if_neg (fun e' => e e'.symm)]
      simp at h ⊢
      omega
theorem ltT_total : ∀ a b, ltT a b = false → ltT b a = false → a = b
  | [], [], _, _ => rfl
  | [], _ :: _, h, _ => by simp [ltT] at h
  | _ :: _, [], _, h => by simp [ltT] at h
  | x :: a, y :: b, h1, h2 => by
    unfold ltT at h1 h2
    by_cases e : x = y
    · subst e
      simp only [if_true] at h1 h2
      rw [ltT_total a b h1 h2]
    · rw [if_neg e] at h1
      rw [if_neg (fun e' => e e'.symm)] at h2
      simp at h1 h2
      omega
/-- At the first place where they differ. -/
theorem ltT_at : ∀ (k : Nat) (a b : List Int), a.take k = b.take k → ∀ x y, a[k]? = some x → b[k]? = some y → x ≠ y → ltT a b = decide (x < y)
  | 0, x' :: a, y' :: b, _, x, y, hx, hy, hne => by
    simp at hx hy
    subst hx hy
    unfold ltT
    rw [if_neg hne]
  | k + 1, x' :: a, y' :: b, h, x, y, hx, hy, hne => by
    simp only [List.take_succ_cons, List.cons.injEq] at h
    simp only [List.getElem?_cons_succ] at hx hy
    obtain ⟨rfl, h⟩ := h
    unfold ltT
    rw [if_pos rfl]
    exact ltT_at k a b h x y hx hy hne
  | _, [], _, _, _, _, hx, _, _ => by simp at hx
  | _, _ :: _, [], _, _, _, _, hy, _ => by simp at hy
/-- Where one is a beginning of the other. -/
theorem ltT_prefix : ∀ (a b : List Int), (a.take b.length = b.take a.length) → ltT a b = decide (a.length < b.length)
  | [], [], _ => rfl
  | [], _ :: _, _ => by simp [ltT]
  | _ :: _, [], _ => by simp [ltT]
  | x :: a, y :: b, h => by
    simp only [List.length_cons, List.take_succ_cons, List.cons.injEq] at h
    obtain ⟨rfl, h⟩ := h
    unfold ltT
    rw [if_pos rfl, ltT_prefix a b h]
    simp
end Go.Proofs.YtkaapfakalojaaaDoor
namespace Go.Proofs.YtkaapfakalojaaaDoor
open Go.ChangeShapes Go.WideShapes Go.ChangeAt Go.RowKit
set_option linter.unusedVariables false
set_option maxRecDepth 20000

/-- Bytes as numbers. -/
def nums (l : List UInt8) : List Int := l.map fun b => (b.toNat : Int)
theorem sl_nums (s : ByteArray) : sl s = nums s.data.toList := rfl
theorem nums_inj : ∀ {a b : List UInt8}, nums a = nums b → a = b
  | [], [], _ => rfl
  | [], _ :: _, h => by simp [nums] at h
  | _ :: _, [], h => by simp [nums] at h
  | x :: a, y :: b, h => by
    simp only [nums, List.map_cons, List.cons.injEq] at h
    have h1 : x = y := UInt8.toNat_inj.1 (by omega)
    rw [h1, nums_inj (a := a) (b := b) h.2]
/-- Less, equal or greater. -/
def cmpT (a b : List Int) : Int := if ltT a b then -1 else if ltT b a then 1 else 0
theorem cmpT_neg (a b : List Int) : cmpT b a = - cmpT a b := by
  unfold cmpT
  by_cases h1 : ltT a b = true
  · have h2 := ltT_asymm a b h1
    simp [h1, h2]
  · have h1' : ltT a b = false := by simpa using h1
    by_cases h2 : ltT b a = true
    · simp [h1', h2]
    · have h2' : ltT b a = false := by simpa using h2
      simp [h1', h2']
theorem cmpT_same (a : List Int) : cmpT a a = 0 := by unfold cmpT; simp [ltT_irrefl]
theorem ltT_cons {x y : UInt8} {a b : List UInt8} : ltT (nums (x :: a)) (nums (y :: b)) = if x = y then ltT (nums a) (nums b) else decide (x < y) := by
  show (if (x.toNat : Int) = (y.toNat : Int) then ltT (nums a) (nums b) else decide ((x.toNat : Int) < (y.toNat : Int))) = _
  by_cases h : x = y
  · subst h; simp
  · have h1 : ¬ (x.toNat : Int) = (y.toNat : Int) := fun e => h (UInt8.toNat_inj.1 (by omega))
    rw [if_neg h1, if_neg h]
    exact decide_eq_decide.2 (by rw [UInt8.lt_iff_toNat_lt]; omega)
theorem compare_cmpT : ∀ (a b : List UInt8), Lib.compareBytes a b = cmpT (nums a) (nums b)
  | [], [] => rfl
  | [], _ :: _ => rfl
  | _ :: _, [] => rfl
  | x :: a, y :: b => by
    have ih := compare_cmpT a b
    unfold Lib.compareBytes
    unfold cmpT at ih ⊢
    rw [ltT_cons, ltT_cons]
    by_cases h : x = y
    · subst h
      simp only [UInt8.lt_irrefl, if_false, if_true]
      exact ih
    · have h' : ¬ y = x := fun e => h e.symm
      by_cases h1 : x < y
      · simp [h1, h]
      · have h2 : y < x := UInt8.lt_of_le_of_ne (UInt8.not_lt.1 h1) (Ne.symm h)
        simp [h1, h2, h, h']
theorem less_ltT : ∀ (a b : List UInt8), Op.bytesLess a b = ltT (nums a) (nums b)
  | [], [] => rfl
  | [], _ :: _ => rfl
  | _ :: _, [] => rfl
  | x :: a, y :: b => by
    rw [ltT_cons]
    have ih := less_ltT a b
    by_cases h : x = y
    · subst h; simp [Op.bytesLess, ih]
    · simp [Op.bytesLess, h]

theorem ext_cmp (a b : ByteArray) (w : World) : (callFunc 63 #[.string a, .string b]).run Tryd.prog w = .ok (.value (.int .i64 (cmpT (sl a) (sl b)))) w := by
  have hf : Tryd.prog.funcs[63]? = some Tryd.f63 := Tryd.func63
  rw [run_callFunc_extern (e := Extern.BytealgCompare.compare) hf (by kernel_rfl) (by kernel_rfl) (by kernel_rfl) (by kernel_rfl), Lib.run_compareString, compare_cmpT]
  rfl
theorem compare_calls (a b : ByteArray) (w : World) : Calls Tryd.prog 54 #[.string a, .string b] w fun e w' => e = .returned (.int .i64 (cmpT (sl a) (sl b))) ∧ w = w' := by
  have hx := ext_cmp a b
  have h46 : ∀ w, Calls Tryd.prog 60 #[.string a, .string b] w fun e w' => e = .returned (.int .i64 (cmpT (sl a) (sl b))) ∧ w = w' := by
    intro w
    go_enter Tryd.func60, Tryd.ntmps60
    go_wp2
    go_ret
    exact ⟨rfl, rfl⟩
  clear hx
  go_enter Tryd.func54, Tryd.ntmps54
  go_wp2_with (go_at_call 60; refine (h46 _).mono ?_; rintro e w' ⟨rfl, rfl⟩)
  go_ret
  exact ⟨rfl, rfl⟩

/-- The loop of Less: the first k bytes are the same. -/
def RelK (a b : ByteArray) (w : World) (i : Value) (wr : World) : Prop := ∃ k : Nat, i = .int .i64 k ∧ k ≤ a.size ∧ k ≤ b.size ∧ (sl a).take k = (sl b).take k ∧ ∃ q, wr = w.drewN q
theorem sl_at (a : ByteArray) (k : Nat) (h : k < a.size) : (sl a)[k]? = some ((a[k].toNat : Nat) : Int) := by
  have : k < a.data.toList.length := by simpa using h
  simp only [sl, List.getElem?_map, List.getElem?_eq_getElem this]
  rfl

set_option maxRecDepth 20000 in
set_option maxHeartbeats 2000000 in
theorem less_calls (a b : ByteArray) (w : World) (ha : a.size ≤ reachBytes) (hb : b.size ≤ reachBytes) : Calls Tryd.prog 57 #[.string a, .string b] w fun e w' => e = .returned (.bool (ltT (sl a) (sl b))) ∧ ∃ q, w' = w.drewN q := by
  have ha2 : a.size ≤ 140737488351232 := ha
  have hb2 : b.size ≤ 140737488351232 := hb
  clear ha hb
  obtain ⟨r, hr⟩ : ∃ r, r = ltT (sl a) (sl b) := ⟨_, rfl⟩
  rw [← hr]
  have HR := Lib.hid hr
  clear hr
  go_enter Tryd.func57, Tryd.ntmps57
  go_wp2
  go_loopw [5] (RelK a b w) (fun i _ => a.size - (intOf i).toNat)
  case atStart => exact ⟨0, rfl, by omega, by omega, by simp, 0, rfl⟩
  case round =>
    obtain ⟨k, rfl, hka, hkb, htk, q, rfl⟩ := hrel
    have HT := Lib.hid htk
    clear htk
    by_cases hlt : k < a.size ∧ k < b.size
    · obtain ⟨h1, h2⟩ := hlt
      have h1i : (k : Int) < (a.size : Int) := by omega
      have h2i : (k : Int) < (b.size : Int) := by omega
      have HXa := Lib.hid (sl_at a k h1)
      have HXb := Lib.hid (sl_at b k h2)
      by_cases hxy : (a[k].toNat : Int) = (b[k].toNat : Int)
      · have hne : ((a[k].toNat : Int) != (b[k].toNat : Int)) = false := by simp [hxy]
        have HT2 := Lib.hid (show (sl a).take (k + 1) = (sl b).take (k + 1) by rw [List.take_add_one, List.take_add_one, HT.out, HXa.out, HXb.out, hxy])
        clear hxy
        go_wp2_with fail
        go_quiet (fail)
        go_wp2
        go_roundw
        case rel => exact ⟨k + 1, by go_num, by omega, by omega, HT2.out, _, rfl⟩
        case measure => simp [intOf]; omega
      · have hne : ((a[k].toNat : Int) != (b[k].toNat : Int)) = true := by simp; exact fun e => hxy (by omega)
        have HRR := Lib.hid (show r = decide (a[k].toNat < b[k].toNat) by rw [HR.out, ltT_at k _ _ HT.out _ _ HXa.out HXb.out hxy]; exact decide_eq_decide.2 (by omega))
        clear hxy
        go_wp2_with fail
        go_quiet (fail)
        go_wp2_with fail
        go_quiet (fail)
        go_wp2
        go_ret
        exact ⟨by rw [HRR.out]; rfl, _, by rw [World.drewN_drewN, World.drewN_drewN]⟩
    · have HRR := Lib.hid (show r = decide (a.size < b.size) by
        rw [HR.out, ltT_prefix (sl a) (sl b) (by
          rw [sl_length, sl_length]
          rcases Nat.lt_or_ge k a.size with h | h
          · have e : k = b.size := by omega
            rw [← e, HT.out, List.take_of_length_le (by rw [sl_length]; omega), List.take_of_length_le (by rw [sl_length]; omega)]
          · have e : k = a.size := by omega
            rw [← e, ← HT.out, List.take_of_length_le (by rw [sl_length]; omega), List.take_of_length_le (by rw [sl_length]; omega)]), sl_length, sl_length])
      by_cases h1 : k < a.size
      · have h2 : ¬ k < b.size := fun h => hlt ⟨h1, h⟩
        have h1i : decide ((k : Int) < (a.size : Int)) = true := by simp; omega
        have h2i : decide ((k : Int) < (b.size : Int)) = false := by simp; omega
        go_wp2
        go_ret
        exact ⟨by rw [HRR.out]; rfl, q, rfl⟩
      · have h1i : decide ((k : Int) < (a.size : Int)) = false := by simp; omega
        go_wp2
        go_ret
        exact ⟨by rw [HRR.out]; rfl, q, rfl⟩

/-- The order of pairs. -/
def ordP (a b : ByteArray × ByteArray) : Int := if a.1 = b.1 then cmpT (sl a.2) (sl b.2) else cmpT (sl a.1) (sl b.1)
theorem sl_inj {a b : ByteArray} (h : sl a = sl b) : a = b := by rw [← str_sl a, ← str_sl b, h]
theorem ordP_neg (a b : ByteArray × ByteArray) : ordP b a = - ordP a b := by
  unfold ordP
  by_cases h : a.1 = b.1
  · rw [if_pos h, if_pos h.symm]; exact cmpT_neg _ _
  · rw [if_neg h, if_neg (fun e => h e.symm)]; exact cmpT_neg _ _
theorem toList_inj {a b : ByteArray} (h : a.toList = b.toList) : a = b := ByteArray.ext (Array.toList_inj.1 (by rw [ByteArray.toList_eq, ByteArray.toList_eq] at h; exact h))
theorem toList_beq_false {a b : ByteArray} (h : a ≠ b) : (a.toList == b.toList) = false := by
  rw [beq_eq_false_iff_ne]; exact fun e => h (toList_inj e)

/-- Whether each key is greater than the one before it. -/
def upP : List (ByteArray × ByteArray) → Bool
  | a :: b :: r => ltT (sl a.1) (sl b.1) && upP (b :: r)
  | _ => true
theorem upP_stop : ∀ (k : Nat) (ps : List (ByteArray × ByteArray)) (a b : ByteArray × ByteArray), ps[k]? = some a → ps[k + 1]? = some b → ltT (sl a.1) (sl b.1) = false → upP ps = false
  | 0, x :: y :: r, a, b, h1, h2, h => by simp at h1 h2; subst h1 h2; simp [upP, h]
  | k + 1, x :: y :: r, a, b, h1, h2, h => by
    simp only [List.getElem?_cons_succ] at h1
    have := upP_stop k (y :: r) a b h1 (by simpa using h2) h
    simp [upP, this]
  | _, [], _, _, h1, _, _ => by simp at h1
  | k, [x], _, _, _, h2, _ => by simp at h2
theorem upP_all : ∀ (ps : List (ByteArray × ByteArray)), (∀ k a b, ps[k]? = some a → ps[k + 1]? = some b → ltT (sl a.1) (sl b.1) = true) → upP ps = true
  | [], _ => rfl
  | [_], _ => rfl
  | x :: y :: r, h => by
    have h1 := h 0 x y rfl rfl
    have h2 := upP_all (y :: r) (fun k a b ha hb => h (k + 1) a b (by simpa using ha) (by simpa using hb))
    simp [upP, h1, h2]
end Go.Proofs.YtkaapfakalojaaaDoor
namespace Go.Proofs.YtkaapfakalojaaaDoor
open Go.ChangeShapes Go.WideShapes Go.ChangeAt Go.RowKit
set_option linter.unusedVariables false
/-- A value: kind, number, text. -/
structure Vl where
  k : Int
  n : Int
  s : ByteArray
def Vl.v (a : Vl) : Value := .agg #[.int .u8 a.k, .int .i64 a.n, .string a.s]
structure Vl.Good (a : Vl) : Prop where
  k0 : 0 ≤ a.k
  k1 : a.k ≤ 255
  n0 : -9223372036854775808 ≤ a.n
  n1 : a.n ≤ 9223372036854775807
  s1 : a.s.size ≤ reachBytes
def cmpI (m n : Int) : Int := if m < n then -1 else if n < m then 1 else 0
def ordV (a b : Vl) : Int :=
  if a.k = 0 then (if b.k = 0 then cmpI a.n b.n else -1)
  else if b.k = 0 then 1 else cmpT (sl a.s) (sl b.s)
theorem cmpI_neg (m n : Int) : cmpI n m = - cmpI m n := by unfold cmpI; split <;> split <;> omega
theorem ordV_neg (a b : Vl) : ordV b a = - ordV a b := by
  unfold ordV
  by_cases h1 : a.k = 0
  · by_cases h2 : b.k = 0
    · rw [if_pos h2, if_pos h1, if_pos h1, if_pos h2]; exact cmpI_neg _ _
    · rw [if_neg h2, if_pos h1, if_pos h1, if_neg h2]; rfl
  · by_cases h2 : b.k = 0
    · rw [if_pos h2, if_neg h1, if_neg h1, if_pos h2]
    · rw [if_neg h2, if_neg h1, if_neg h1, if_neg h2]; exact cmpT_neg _ _
theorem ltT_trans : ∀ a b c : List Int, ltT a b = true → ltT b c = true → ltT a c = true
  | [], b, [], h1, h2 => by cases b <;> simp [ltT] at h2
  | [], _, _ :: _, _, _ => rfl
  | _ :: _, [], _, h1, _ => by simp [ltT] at h1
  | _ :: _, _ :: _, [], _, h2 => by simp [ltT] at h2
  | x :: a, y :: b, z :: c, h1, h2 => by
    have ih := ltT_trans a b c
    unfold ltT at h1 h2 ⊢
    by_cases e1 : x = y
    · by_cases e2 : y = z
      · rw [if_pos e1] at h1; rw [if_pos e2] at h2; rw [if_pos (e1.trans e2)]; exact ih h1 h2
      · rw [if_neg e2] at h2; rw [if_neg (by rw [e1]; exact e2)]; rw [e1]; exact h2
    · rw [if_neg e1] at h1
      by_cases e2 : y = z
      · rw [if_neg (by rw [← e2]; exact e1), ← e2]; exact h1
      · rw [if_neg e2] at h2
        simp only [decide_eq_true_eq] at h1 h2
        rw [if_neg (by omega)]; simp; omega
theorem cmpT_le {a b : List Int} : cmpT a b ≤ 0 ↔ ltT b a = false := by
  unfold cmpT
  by_cases h : ltT a b = true
  · rw [if_pos h, ltT_asymm a b h]; simp
  · rw [if_neg h]
    by_cases h2 : ltT b a = true
    · rw [if_pos h2, h2]; simp
    · rw [if_neg h2]; simpa using h2
theorem cmpT_trans {a b c : List Int} (h1 : cmpT a b ≤ 0) (h2 : cmpT b c ≤ 0) : cmpT a c ≤ 0 := by
  rw [cmpT_le] at *
  rcases Bool.eq_false_or_eq_true (ltT c a) with h | h
  · exfalso
    rcases Bool.eq_false_or_eq_true (ltT b c) with h3 | h3
    · rw [ltT_trans b c a h3 h] at h1; cases h1
    · have e := ltT_total _ _ h3 h2
      rw [e] at h1; rw [h1] at h; cases h
  · exact h
theorem cmpI_trans {a b c : Int} (h1 : cmpI a b ≤ 0) (h2 : cmpI b c ≤ 0) : cmpI a c ≤ 0 := by
  unfold cmpI at *
  split at h1
  · split at h2
    · rw [if_pos (by omega)]; omega
    · split at h2
      · omega
      · rw [if_pos (by omega)]; omega
  · split at h1
    · omega
    · split at h2
      · rw [if_pos (by omega)]; omega
      · split at h2
        · omega
        · rw [if_neg (by omega), if_neg (by omega)]; omega
theorem ordV_trans {a b c : Vl} (h1 : ordV a b ≤ 0) (h2 : ordV b c ≤ 0) : ordV a c ≤ 0 := by
  unfold ordV at *
  by_cases ha : a.k = 0 <;> by_cases hb : b.k = 0 <;> by_cases hc : c.k = 0 <;> simp only [ha, hb, hc, if_true, if_false] at h1 h2 ⊢ <;> try omega
  · exact cmpI_trans h1 h2
  · exact cmpT_trans h1 h2
theorem cmpI_small (m n : Int) : -1 ≤ cmpI m n ∧ cmpI m n ≤ 1 := by unfold cmpI; split <;> (try split) <;> omega
theorem cmpT_small (x y : List Int) : -1 ≤ cmpT x y ∧ cmpT x y ≤ 1 := by unfold cmpT; split <;> (try split) <;> omega
theorem ordV_small (a b : Vl) : -1 ≤ ordV a b ∧ ordV a b ≤ 1 := by
  unfold ordV
  split
  · split
    · exact cmpI_small _ _
    · omega
  · split
    · omega
    · exact cmpT_small _ _
end Go.Proofs.YtkaapfakalojaaaDoor
namespace Go.Proofs.YtkaapfakalojaaaDoor
open Go.ChangeShapes Go.WideShapes Go.ChangeAt Go.RowKit
set_option linter.unusedVariables false

def I64 (n : Int) : Prop := -9223372036854775808 ≤ n ∧ n ≤ 9223372036854775807

/-- A number in decimal, as bytes. -/
def num10 (n : Int) : List Int := (Lib.itoa n).map fun b => (b.toNat : Int)
theorem num10_cells (n : Int) : Lib.byteCells (Lib.itoa n) = cellsOf (num10 n) := by simp [Lib.byteCells, cellsOf, num10]
theorem num10_len {n : Int} (h : I64 n) : (num10 n).length ≤ 21 := by
  rw [num10, List.length_map]; exact Lib.itoa_length_le n h.1 h.2
theorem num10_isB (n : Int) : IsB (num10 n) := by
  intro x hx
  simp only [num10, List.mem_map] at hx
  obtain ⟨b, _, rfl⟩ := hx
  have := b.toNat_lt
  omega

/-- Decimal digits as bytes. -/
def dgs (u : Nat) : List Int := (Lib.decDigits u).map fun b => (b.toNat : Int)
theorem dgs_small {u : Nat} (h : u < 10) : dgs u = [48 + (u : Int)] := by
  have h2 : (48 + u) % 256 = 48 + u := Nat.mod_eq_of_lt (by omega)
  rw [dgs, Lib.decDigits_one h]
  simp [UInt8.toNat_ofNat', h2]
theorem dgs_big {u : Nat} (h : ¬ u < 10) : dgs u = dgs (u / 10) ++ [48 + ((u % 10 : Nat) : Int)] := by
  have h1 : u % 10 < 10 := Nat.mod_lt _ (by omega)
  have h2 : (48 + u % 10) % 256 = 48 + u % 10 := Nat.mod_eq_of_lt (by omega)
  rw [dgs, Lib.decDigits, dif_neg h, dgs]
  simp [UInt8.toNat_ofNat', h2]
theorem num10_neg {n : Int} (h : n < 0) : num10 n = 45 :: dgs n.natAbs := by
  rw [num10, Lib.itoa, if_pos h]; rfl
theorem num10_pos {n : Int} (h : ¬ n < 0) : num10 n = dgs n.natAbs := by
  rw [num10, Lib.itoa, if_neg h, show n.toNat = n.natAbs by omega]; rfl

/-- What is still ahead of the digits. -/
def ahead (k : Int) : List Int := if k = 0 then [] else dgs k.natAbs
theorem ahead_step {k : Int} (hk : k ≠ 0) : ahead k = ahead (k.tdiv 10) ++ [48 + ((k.natAbs % 10 : Nat) : Int)] := by
  have h1 : (k.tdiv 10).natAbs = k.natAbs / 10 := by rw [Int.natAbs_tdiv]; rfl
  unfold ahead
  rw [if_neg hk]
  by_cases hs : k.natAbs < 10
  · have h0 : k.tdiv 10 = 0 := by
      have : (k.tdiv 10).natAbs = 0 := by rw [h1]; omega
      omega
    rw [if_pos h0, dgs_small hs, Nat.mod_eq_of_lt hs]; rfl
  · have h0 : k.tdiv 10 ≠ 0 := fun he => by rw [he] at h1; simp at h1; omega
    rw [if_neg h0, h1, dgs_big hs]
theorem ahead_zero : dgs 0 = [48] := by rw [dgs_small (by omega)]; rfl

theorem digit0 (w : World) : (Instr.slice 9 (.string ⟨#[48, 49, 50, 51, 52, 53, 54, 55, 56, 57]⟩) (some (.int .i64 0)) (some (.int .i64 1)) none).run Tryd.prog w = .ok (.string (str [48])) w := by kernel_rfl
theorem digit1 (w : World) : (Instr.slice 9 (.string ⟨#[48, 49, 50, 51, 52, 53, 54, 55, 56, 57]⟩) (some (.int .i64 1)) (some (.int .i64 2)) none).run Tryd.prog w = .ok (.string (str [49])) w := by kernel_rfl
theorem digit2 (w : World) : (Instr.slice 9 (.string ⟨#[48, 49, 50, 51, 52, 53, 54, 55, 56, 57]⟩) (some (.int .i64 2)) (some (.int .i64 3)) none).run Tryd.prog w = .ok (.string (str [50])) w := by kernel_rfl
theorem digit3 (w : World) : (Instr.slice 9 (.string ⟨#[48, 49, 50, 51, 52, 53, 54, 55, 56, 57]⟩) (some (.int .i64 3)) (some (.int .i64 4)) none).run Tryd.prog w = .ok (.string (str [51])) w := by kernel_rfl
theorem digit4 (w : World) : (Instr.slice 9 (.string ⟨#[48, 49, 50, 51, 52, 53, 54, 55, 56, 57]⟩) (some (.int .i64 4)) (some (.int .i64 5)) none).run Tryd.prog w = .ok (.string (str [52])) w := by kernel_rfl
theorem digit5 (w : World) : (Instr.slice 9 (.string ⟨#[48, 49, 50, 51, 52, 53, 54, 55, 56, 57]⟩) (some (.int .i64 5)) (some (.int .i64 6)) none).run Tryd.prog w = .ok (.string (str [53])) w := by kernel_rfl
theorem digit6 (w : World) : (Instr.slice 9 (.string ⟨#[48, 49, 50, 51, 52, 53, 54, 55, 56, 57]⟩) (some (.int .i64 6)) (some (.int .i64 7)) none).run Tryd.prog w = .ok (.string (str [54])) w := by kernel_rfl
theorem digit7 (w : World) : (Instr.slice 9 (.string ⟨#[48, 49, 50, 51, 52, 53, 54, 55, 56, 57]⟩) (some (.int .i64 7)) (some (.int .i64 8)) none).run Tryd.prog w = .ok (.string (str [55])) w := by kernel_rfl
theorem digit8 (w : World) : (Instr.slice 9 (.string ⟨#[48, 49, 50, 51, 52, 53, 54, 55, 56, 57]⟩) (some (.int .i64 8)) (some (.int .i64 9)) none).run Tryd.prog w = .ok (.string (str [56])) w := by kernel_rfl
theorem digit9 (w : World) : (Instr.slice 9 (.string ⟨#[48, 49, 50, 51, 52, 53, 54, 55, 56, 57]⟩) (some (.int .i64 9)) (some (.int .i64 10)) none).run Tryd.prog w = .ok (.string (str [57])) w := by kernel_rfl
theorem digit_cut (d : Int) (h0 : 0 ≤ d) (h1 : d ≤ 9) (w : World) : (Instr.slice 9 (.string ⟨#[48, 49, 50, 51, 52, 53, 54, 55, 56, 57]⟩) (some (.int .i64 d)) (some (.int .i64 (d + 1))) none).run Tryd.prog w = .ok (.string (str [48 + d])) w := by
  have h : d = 0 ∨ d = 1 ∨ d = 2 ∨ d = 3 ∨ d = 4 ∨ d = 5 ∨ d = 6 ∨ d = 7 ∨ d = 8 ∨ d = 9 := by omega
  rcases h with rfl | rfl | rfl | rfl | rfl | rfl | rfl | rfl | rfl | rfl
  · exact digit0 w
  · exact digit1 w
  · exact digit2 w
  · exact digit3 w
  · exact digit4 w
  · exact digit5 w
  · exact digit6 w
  · exact digit7 w
  · exact digit8 w
  · exact digit9 w

/-- The loop: the digits that were written. -/
def RelDec (w : World) (n : Int) (s k : Value) (wr : World) : Prop :=
  ∃ (L : List Int) (x : Int), s = .string (str L) ∧ k = .int .i64 x ∧ I64 x ∧ wr = w ∧ ((L = [] ∧ x = n) ∨ (L ≠ [] ∧ dgs n.natAbs = ahead x ++ L))
def measDec (s k : Value) : Nat := (intOf k).natAbs + (match s with | .string b => if b.size = 0 then 1 else 0 | _ => 0)

theorem dgs_len {n : Int} (h : I64 n) : (dgs n.natAbs).length ≤ 20 := by
  rw [dgs, List.length_map, Lib.decDigits_length]
  exact Lib.nDigits_le20 _ (by unfold I64 at h; omega)
/-- One digit more. -/
theorem relDec_step {w : World} {n x q d : Int} {L : List Int} (hx : I64 x) (hq : x.tdiv 10 = q) (hd : d = ((x.natAbs % 10 : Nat) : Int)) (hor : (L = [] ∧ x = n) ∨ (L ≠ [] ∧ dgs n.natAbs = ahead x ++ L)) (hgo : x ≠ 0 ∨ L = []) :
    RelDec w n (.string (str [48 + d] ++ str L)) (.int .i64 q) w ∧ measDec (.string (str [48 + d] ++ str L)) (.int .i64 q) < measDec (.string (str L)) (.int .i64 x) := by
  have h1 : q.natAbs = x.natAbs / 10 := by rw [← hq, Int.natAbs_tdiv]; rfl
  refine ⟨⟨[48 + d] ++ L, q, by rw [str_append], rfl, ?_, rfl, .inr ⟨by simp, ?_⟩⟩, ?_⟩
  · unfold I64 at hx ⊢; omega
  · by_cases hx0 : x = 0
    · subst hx0
      obtain rfl : L = [] := by rcases hgo with h | h; exact absurd rfl h; exact h
      rcases hor with ⟨_, h⟩ | ⟨h, _⟩
      · subst h
        have hq0 : q = 0 := by omega
        subst hq0 hd
        simp [ahead, ahead_zero]
      · exact absurd rfl h
    · have e : ahead x ++ L = ahead q ++ ([48 + d] ++ L) := by rw [ahead_step hx0, hq, hd, List.append_assoc]
      rw [← e]
      rcases hor with ⟨rfl, rfl⟩ | ⟨_, h⟩
      · simp [ahead, hx0]
      · exact h
  · unfold measDec
    rw [str_append]
    have e1 : (str ([48 + d] ++ L)).size = L.length + 1 := by rw [str_size]; simp
    simp only [e1, str_size, intOf]
    rw [if_neg (by omega)]
    split
    · omega
    · rename_i hl
      have hx0 : x ≠ 0 := by
        rcases hgo with h | h
        · exact h
        · subst h; exact absurd rfl hl
      omega

set_option maxRecDepth 100000 in
set_option maxHeartbeats 2000000 in
theorem rnum10_calls (n : Int) (hn : I64 n) (w : World) : Calls Tryd.prog 35 #[.int .i64 n] w fun e w' => e = .returned (.string (str (num10 n))) ∧ w' = w := by
  have HN := Lib.hid hn
  clear hn
  go_enter Tryd.func35, Tryd.ntmps35
  go_wp2
  go_loopw [3, 4] (RelDec w n) (fun s k _ => measDec s k)
  case atStart => exact ⟨[], n, rfl, rfl, HN.out, rfl, .inl ⟨rfl, rfl⟩⟩
  case round =>
    obtain ⟨L, x, rfl, rfl, hx, rfl, hor⟩ := hrel
    have hsz : (str L).size ≤ 20 := by
      rw [str_size]
      rcases hor with ⟨rfl, _⟩ | ⟨_, h⟩
      · simp
      · have h1 := dgs_len HN.out
        rw [h, List.length_append] at h1
        omega
    have hz1 : ¬ 9223372036854775807 < 1 + (str L).size := by omega
    by_cases hx0 : x = 0
    · subst hx0
      by_cases hL : L = []
      · subst hL
        have HS := Lib.hid (relDec_step (w := wr) hx (show (0 : Int).tdiv 10 = 0 by decide) (d := 0) rfl hor (.inr rfl))
        have k1 := digit_cut 0 (by omega) (by omega)
        have e0 : str ([] : List Int) = ⟨#[]⟩ := rfl
        clear hor hx
        rw [e0] at HS ⊢
        go_wp2
        go_roundw
        case rel => exact HS.out.1
        case measure => exact HS.out.2
      · have hne : ¬ (str L).toList = [] := fun e => by
          have h3 : (str L).toList.length = 0 := by rw [e]; rfl
          rw [ByteArray.toList_eq] at h3
          have h4 : L.length = 0 := by rw [← str_size]; simpa using h3
          exact hL (List.eq_nil_of_length_eq_zero h4)
        have hbe : ((str L).toList == []) = false := by simpa using hne
        have hfin : dgs n.natAbs = L := by
          rcases hor with ⟨h, _⟩ | ⟨_, h⟩
          · exact absurd h hL
          · simpa [ahead] using h
        have HF := Lib.hid hfin
        clear hfin hor hx
        by_cases hneg : n < 0
        · go_wp2
          go_ret
          rw [num10_neg hneg, HF.out]
          exact ⟨by rw [show (⟨#[45]⟩ : ByteArray) = str [45] from rfl, str_append]; rfl, rfl⟩
        · go_wp2
          go_ret
          rw [num10_pos (by omega), HF.out]
          exact ⟨rfl, rfl⟩
    · have hxb : (x != 0) = true := by simpa using hx0
      obtain ⟨r, hr⟩ : ∃ r, x.tmod 10 = r := ⟨_, rfl⟩
      obtain ⟨q, hq⟩ : ∃ q, x.tdiv 10 = q := ⟨_, rfl⟩
      obtain ⟨d, hd⟩ : ∃ d : Int, d = ((x.natAbs % 10 : Nat) : Int) := ⟨_, rfl⟩
      have hra : r.natAbs = x.natAbs % 10 := by rw [← hr, Int.natAbs_tmod]; rfl
      have hqa : q.natAbs = x.natAbs / 10 := by rw [← hq, Int.natAbs_tdiv]; rfl
      have HS := Lib.hid (relDec_step (w := wr) hx hq hd hor (.inl hx0))
      have hd0 : 0 ≤ d := by omega
      have hd9 : d ≤ 9 := by omega
      have k1 := digit_cut d hd0 hd9
      have hz2 : ¬ 9223372036854775807 < (str [48 + d]).size + (str L).size := by rw [str_size [48 + d]]; simp only [List.length_cons, List.length_nil]; omega
      have w1 : wrap64 (d + 1) = d + 1 := by unfold wrap64; omega
      have w2 : wrap64 q = q := by unfold wrap64; unfold I64 at hx; omega
      by_cases hneg : r < 0
      · have w3 : wrap64 (-r) = d := by unfold wrap64; omega
        clear hd hra hqa hor hx hx0
        go_wp2
        go_roundw
        case rel => rw [w2]; exact HS.out.1
        case measure => rw [w2]; exact HS.out.2
      · obtain rfl : r = d := by omega
        clear hd hra hqa hor hx hx0
        go_wp2
        go_roundw
        case rel => rw [w2]; exact HS.out.1
        case measure => rw [w2]; exact HS.out.2
end Go.Proofs.YtkaapfakalojaaaDoor
namespace Go.Proofs.YtkaapfakalojaaaDoor
set_option linter.unusedVariables false

/-- A digit. -/
def isDig (c : UInt8) : Bool := decide (48 ≤ c.toNat) && decide (c.toNat ≤ 57)
/-- The number that digits spell behind a number. -/
def dval : Nat → List UInt8 → Nat
  | a, [] => a
  | a, c :: r => dval (a * 10 + (c.toNat - 48)) r
theorem dval_le : ∀ (l : List UInt8) (a : Nat), a ≤ dval a l
  | [], a => Nat.le_refl a
  | c :: r, a => Nat.le_trans (by omega) (dval_le r (a * 10 + (c.toNat - 48)))
theorem parse_digits (l : List UInt8) : ∀ (a : Nat), (∀ c ∈ l, isDig c = true) → a < 18446744073709551616 → Lib.parseUint10 a l = if dval a l < 18446744073709551616 then .ok (dval a l) else .range := by
  induction l with
  | nil =>
    intro a _ h
    show Lib.NumEnd.ok a = if a < 18446744073709551616 then .ok a else .range
    rw [if_pos h]
  | cons c r ih =>
    intro a hd h
    have hc := hd c (List.mem_cons_self)
    unfold isDig at hc
    simp only [Bool.and_eq_true, decide_eq_true_eq] at hc
    have hle := dval_le r (a * 10 + (c.toNat - 48))
    show Lib.parseUint10 a (c :: r) = if dval (a * 10 + (c.toNat - 48)) r < 18446744073709551616 then .ok (dval (a * 10 + (c.toNat - 48)) r) else .range
    have e : Lib.parseUint10 a (c :: r) = if 48 ≤ c.toNat ∧ c.toNat ≤ 57 then
      if 1844674407370955162 ≤ a then .range
      else if 18446744073709551616 ≤ a * 10 + (c.toNat - 48) then .range
      else Lib.parseUint10 (a * 10 + (c.toNat - 48)) r
    else .syntax := by rw [Lib.parseUint10]
    rw [e, if_pos hc]
    by_cases h1 : 1844674407370955162 ≤ a
    · rw [if_pos h1, if_neg (by omega)]
    · rw [if_neg h1]
      by_cases h2 : 18446744073709551616 ≤ a * 10 + (c.toNat - 48)
      · rw [if_pos h2, if_neg (by omega)]
      · rw [if_neg h2]
        exact ih _ (fun x hx => hd x (List.mem_cons_of_mem _ hx)) (by omega)
/-- The digits behind an optional minus sign. -/
def digitsOf (l : List UInt8) : List UInt8 := match l with
  | [] => []
  | c :: r => if c.toNat = 45 then r else c :: r
def minusOf (l : List UInt8) : Bool := match l with
  | [] => false
  | c :: _ => decide (c.toNat = 45)
/-- The number of a text, and the error's number: by the document. -/
def numD (l : List UInt8) : Int × Int :=
  if digitsOf l = [] ∨ (digitsOf l).all isDig = false then (0, 3)
  else if minusOf l = true then (if dval 0 (digitsOf l) ≤ 9223372036854775808 then (-(dval 0 (digitsOf l) : Int), 0) else (0, 8))
  else (if dval 0 (digitsOf l) < 9223372036854775808 then ((dval 0 (digitsOf l) : Int), 0) else (0, 8))
/-- The library's parse at a text that is a number by its form. -/
theorem atoi_num (l : List UInt8) (h0 : digitsOf l ≠ []) (h1 : (digitsOf l).all isDig = true) :
    Lib.atoiAll l = if minusOf l = true then (if dval 0 (digitsOf l) ≤ 9223372036854775808 then .ok (-(dval 0 (digitsOf l) : Int)) else .range) else (if dval 0 (digitsOf l) < 9223372036854775808 then .ok ((dval 0 (digitsOf l) : Int)) else .range) := by
  cases l with
  | nil => exact absurd rfl h0
  | cons c r =>
    have hall : ∀ x ∈ digitsOf (c :: r), isDig x = true := fun x hx => List.all_eq_true.1 h1 x hx
    unfold Lib.atoiAll
    by_cases hm : c.toNat = 45
    · have hd : digitsOf (c :: r) = r := by show (if c.toNat = 45 then r else c :: r) = r; rw [if_pos hm]
      have hmin : minusOf (c :: r) = true := by unfold minusOf; simpa using hm
      rw [hd] at h0 hall ⊢
      rw [hmin]
      simp only [hm, or_true, if_true, not_true_eq_false, false_and, if_false, true_and]
      unfold Lib.parseMag
      rw [if_neg h0, parse_digits r 0 hall (by omega)]
      by_cases h2 : dval 0 r < 18446744073709551616
      · rw [if_pos h2]
        by_cases h3 : dval 0 r ≤ 9223372036854775808
        · simp [h3, Nat.not_lt.2 h3]
        · simp [h3, Nat.not_le.1 h3]
      · rw [if_neg h2, if_neg (by omega)]
    · have hd : digitsOf (c :: r) = c :: r := by show (if c.toNat = 45 then r else c :: r) = c :: r; rw [if_neg hm]
      have hmin : minusOf (c :: r) = false := by unfold minusOf; simpa using hm
      rw [hd] at h0 hall ⊢
      rw [hmin]
      have hc := hall c (List.mem_cons_self)
      unfold isDig at hc
      simp only [Bool.and_eq_true, decide_eq_true_eq] at hc
      have hp : ¬ c.toNat = 43 := by omega
      simp only [hm, hp, or_self, if_false, Bool.false_eq_true, not_false_eq_true, true_and, false_and]
      unfold Lib.parseMag
      rw [if_neg h0, parse_digits (c :: r) 0 hall (by omega)]
      by_cases h2 : dval 0 (c :: r) < 18446744073709551616
      · rw [if_pos h2]
        by_cases h3 : dval 0 (c :: r) < 9223372036854775808
        · simp [h3, Nat.not_le.2 h3]
        · simp [h3, Nat.not_lt.1 h3]
      · rw [if_neg h2, if_neg (by omega)]
end Go.Proofs.YtkaapfakalojaaaDoor
namespace Go.Proofs.YtkaapfakalojaaaDoor
set_option linter.unusedVariables false
theorem dval_append : ∀ (l r : List UInt8) (a : Nat), dval a (l ++ r) = dval (dval a l) r
  | [], _, _ => rfl
  | c :: l, r, a => dval_append l r (a * 10 + (c.toNat - 48))
theorem dval_snoc (l : List UInt8) (c : UInt8) (a : Nat) : dval a (l ++ [c]) = dval a l * 10 + (c.toNat - 48) := by rw [dval_append]; rfl
theorem dval_take_le (l : List UInt8) (k : Nat) : dval 0 (l.take k) ≤ dval 0 l := by
  have h := dval_append (l.take k) (l.drop k) 0
  rw [List.take_append_drop] at h
  rw [h]
  exact dval_le _ _
theorem dval_take_succ {l : List UInt8} {k : Nat} {c : UInt8} (h : l[k]? = some c) : dval 0 (l.take (k + 1)) = dval 0 (l.take k) * 10 + (c.toNat - 48) := by
  rw [List.take_add_one, h]; exact dval_snoc _ _ _
theorem digit_facts (d : Nat) (h : d < 10) : (UInt8.ofNat (48 + d)).toNat = 48 + d := by
  simp only [UInt8.toNat_ofNat']; omega
theorem decDigits_dval (u : Nat) : dval 0 (Lib.decDigits u) = u ∧ (Lib.decDigits u).all isDig = true ∧ Lib.decDigits u ≠ [] ∧ minusOf (Lib.decDigits u) = false := by
  induction u using Nat.strongRecOn with
  | _ u ih =>
    by_cases h : u < 10
    · rw [Lib.decDigits_one h]
      have e := digit_facts u h
      refine ⟨?_, ?_, by simp, ?_⟩
      · show 0 * 10 + ((UInt8.ofNat (48 + u)).toNat - 48) = u
        rw [e]; omega
      · simp only [List.all_cons, List.all_nil, Bool.and_true, isDig, e]
        simp; omega
      · show decide ((UInt8.ofNat (48 + u)).toNat = 45) = false
        rw [e]; simp; omega
    · have hlt : u / 10 < u := by omega
      obtain ⟨i1, i2, i3, i4⟩ := ih (u / 10) hlt
      have hr : u % 10 < 10 := Nat.mod_lt _ (by omega)
      have e := digit_facts (u % 10) hr
      have hd : Lib.decDigits u = Lib.decDigits (u / 10) ++ [UInt8.ofNat (48 + u % 10)] := by
        rw [Lib.decDigits, dif_neg h]
      rw [hd]
      refine ⟨?_, ?_, by simp, ?_⟩
      · rw [dval_snoc, i1, e]; omega
      · rw [List.all_append, i2]
        simp only [List.all_cons, List.all_nil, Bool.and_true, Bool.true_and, isDig, e]
        simp; omega
      · cases hc : Lib.decDigits (u / 10) with
        | nil => exact absurd hc i3
        | cons x r => rw [hc] at i4; exact i4
theorem digitsOf_plain {l : List UInt8} (h : minusOf l = false) : digitsOf l = l := by
  cases l with
  | nil => rfl
  | cons c r =>
    show (if c.toNat = 45 then r else c :: r) = c :: r
    rw [if_neg]
    intro hc
    unfold minusOf at h
    simp [hc] at h
theorem numD_itoa (n : Int) (h0 : -9223372036854775808 ≤ n) (h1 : n ≤ 9223372036854775807) : numD (Lib.itoa n) = (n, 0) := by
  obtain ⟨i1, i2, i3, i4⟩ := decDigits_dval n.natAbs
  by_cases h : n < 0
  · have e : Lib.itoa n = 45 :: Lib.decDigits n.natAbs := by unfold Lib.itoa; rw [if_pos h]
    have e1 : digitsOf (Lib.itoa n) = Lib.decDigits n.natAbs := by
      rw [e]; rfl
    have e2 : minusOf (Lib.itoa n) = true := by rw [e]; rfl
    unfold numD
    rw [e1, e2, if_neg (fun h => by rcases h with h | h; exact i3 h; rw [i2] at h; cases h), if_pos rfl, i1, if_pos (by omega)]
    exact Prod.ext (by show -(n.natAbs : Int) = n; omega) rfl
  · have e : Lib.itoa n = Lib.decDigits n.natAbs := by unfold Lib.itoa; rw [if_neg h, show n.toNat = n.natAbs by omega]
    have e1 : digitsOf (Lib.itoa n) = Lib.decDigits n.natAbs := by rw [e]; exact digitsOf_plain i4
    have e2 : minusOf (Lib.itoa n) = false := by rw [e]; exact i4
    unfold numD
    rw [e1, e2, if_neg (fun h => by rcases h with h | h; exact i3 h; rw [i2] at h; cases h), if_neg (by decide), i1, if_pos (by omega)]
    exact Prod.ext (by show (n.natAbs : Int) = n; omega) rfl
end Go.Proofs.YtkaapfakalojaaaDoor
namespace Go.Proofs.YtkaapfakalojaaaDoor
open Go.ChangeShapes Go.WideShapes Go.ChangeAt Go.RowKit
set_option linter.unusedVariables false
/-- An expression: operation, value, where its arguments lie, its arguments. -/
inductive Ex where
  | node (op : Int) (v : Vl) (A : Option Addr) (c : Nat) (args : List Ex)
def Ex.op : Ex → Int | .node op _ _ _ _ => op
def Ex.vl : Ex → Vl | .node _ v _ _ _ => v
def Ex.adr : Ex → Option Addr | .node _ _ A _ _ => A
def Ex.cp : Ex → Nat | .node _ _ _ c _ => c
def Ex.args : Ex → List Ex | .node _ _ _ _ l => l
theorem Ex.eta (e : Ex) : e = .node e.op e.vl e.adr e.cp e.args := by cases e; rfl
theorem Ex.ind {P : Ex → Prop} (h : ∀ op v A c l, (∀ e ∈ l, P e) → P (.node op v A c l)) (e : Ex) : P e :=
  Ex.rec (motive_1 := P) (motive_2 := fun l => ∀ e ∈ l, P e) (fun op v A c l ih => h op v A c l ih) (fun e he => by cases he) (fun a l ha hl e he => by
    rcases List.mem_cons.1 he with rfl | he
    · exact ha
    · exact hl e he) e
mutual
def Ex.size : Ex → Int | .node _ _ _ _ l => 1 + sizeL l
def sizeL : List Ex → Int | [] => 0 | e :: l => e.size + sizeL l
end
mutual
def Ex.deep : Ex → Int | .node _ _ _ _ l => deepL l + 1
def deepL : List Ex → Int | [] => 0 | e :: l => max e.deep (deepL l)
end
/-- How many arguments an operation has. -/
def arity (op : Int) : Int := if op < 0 ∨ 27 < op then -1 else if op < 8 then 0 else if op = 13 ∨ op = 18 ∨ op = 20 ∨ op = 23 ∨ op = 24 ∨ op = 26 then 1 else if op = 19 ∨ op = 22 ∨ op = 25 then 3 else 2
mutual
def Ex.shaped : Ex → Bool | .node op _ _ _ l => decide ((l.length : Int) = arity op) && shapedL l
def shapedL : List Ex → Bool | [] => true | e :: l => e.shaped && shapedL l
end
mutual
def Ex.wide : Ex → Bool | .node op v _ _ l => (decide (op = 0) && (decide (v.k ≠ 0) && decide (65536 < v.s.size))) || wideL l
def wideL : List Ex → Bool | [] => false | e :: l => e.wide || wideL l
end
mutual
def Ex.same : Ex → Ex → Bool | .node op v _ _ l, .node op' v' _ _ l' => (decide (op = op') && (decide (l.length = l'.length) && (decide (op ≠ 0) || decide (ordV v v' = 0)))) && sameL l l'
def sameL : List Ex → List Ex → Bool | e :: l, e' :: l' => e.same e' && sameL l l' | _, _ => true
end
def hexd (d : Int) : Int := if d < 10 then 48 + d else 87 + d
/-- A byte in a quoted string. -/
def qch (c : Int) : List Int := if c < 32 ∨ 126 < c then [92, 120, hexd (c / 16), hexd (c % 16)] else if c = 34 ∨ c = 92 then [92, c] else [c]
def quote (s : List Int) : List Int := [34] ++ (s.flatMap qch ++ [34])
/-- The names of the operations. -/
def names : List (List Int) := [[99, 111, 110, 115, 116], [108, 105, 110, 101], [111, 102, 102], [119, 111, 114, 100], [110, 117, 109], [107, 101, 121], [97, 99, 99], [99, 111, 117, 110, 116], [97, 100, 100], [115, 117, 98], [109, 117, 108], [100, 105, 118], [109, 111, 100], [110, 101, 103], [101, 113], [108, 116], [97, 110, 100], [111, 114], [110, 111, 116], [105, 102], [108, 101, 110], [99, 97, 116], [99, 117, 116], [105, 110, 116], [115, 116, 114], [102, 105, 101, 108, 100], [117, 112, 112, 101, 114], [102, 105, 110, 100]]
def nameOf (op : Int) : List Int := if 0 ≤ op then names.getD op.toNat [] else []
mutual
def Ex.text : Ex → List Int | .node op v _ _ l => if op = 0 then (if v.k = 0 then num10 v.n else quote (sl v.s)) else if l.length = 0 then nameOf op else [40] ++ nameOf op ++ textL l ++ [41]
def textL : List Ex → List Int | [] => [] | e :: l => [32] ++ e.text ++ textL l
end
mutual
def Ex.weigh : Ex → Int → Int | .node _ v _ _ l, left => weighL l (left - 1 - v.s.size)
def weighL : List Ex → Int → Int | [], left => left | e :: l, left => if left < 0 then left else weighL l (e.weigh left)
end
def Ex.right (e : Ex) : Int := if 200 < e.size then 9 else if 20 < e.deep then 8 else if e.shaped = false then 3 else if e.wide = true then 5 else 0
theorem sizeL_append (a b : List Ex) : sizeL (a ++ b) = sizeL a + sizeL b := by
  induction a with
  | nil => simp [sizeL]
  | cons e a ih => rw [List.cons_append, sizeL, sizeL, ih]; omega
theorem deepL_append (a b : List Ex) : deepL (a ++ b) = max (deepL a) (deepL b) := by
  induction a with
  | nil =>
    have : 0 ≤ deepL b := by
      induction b with
      | nil => simp [deepL]
      | cons e b ih => rw [deepL]; omega
    rw [List.nil_append, deepL]; omega
  | cons e a ih => rw [List.cons_append, deepL, deepL, ih]; omega
theorem shapedL_append (a b : List Ex) : shapedL (a ++ b) = (shapedL a && shapedL b) := by
  induction a with
  | nil => simp [shapedL]
  | cons e a ih => rw [List.cons_append, shapedL, shapedL, ih, Bool.and_assoc]
theorem wideL_append (a b : List Ex) : wideL (a ++ b) = (wideL a || wideL b) := by
  induction a with
  | nil => simp [wideL]
  | cons e a ih => rw [List.cons_append, wideL, wideL, ih, Bool.or_assoc]
theorem textL_append (a b : List Ex) : textL (a ++ b) = textL a ++ textL b := by
  induction a with
  | nil => simp [textL]
  | cons e a ih => rw [List.cons_append, textL, textL, ih]; simp
end Go.Proofs.YtkaapfakalojaaaDoor
namespace Go.Proofs.YtkaapfakalojaaaDoor
open Go.ChangeShapes Go.WideShapes Go.ChangeAt Go.RowKit
set_option linter.unusedVariables false
theorem same_text : ∀ x y : Ex, x.shaped = true → y.shaped = true → x.same y = true → x.text = y.text := by
  intro x
  induction x using Ex.ind with
  | h op v A c l ih =>
    intro y hx hy hs
    obtain ⟨op', v', A', c', l'⟩ := y
    simp only [Ex.same, Bool.and_eq_true, decide_eq_true_eq, Bool.or_eq_true] at hs
    obtain ⟨⟨rfl, hl, hv⟩, hsl⟩ := hs
    simp only [Ex.shaped, Bool.and_eq_true] at hx hy
    have key : ∀ l l' : List Ex, (∀ e ∈ l, ∀ y, e.shaped = true → y.shaped = true → e.same y = true → e.text = y.text) → l.length = l'.length → shapedL l = true → shapedL l' = true → sameL l l' = true → textL l = textL l' := by
      intro l
      induction l with
      | nil => intro l' _ h _ _ _; cases l' with | nil => rfl | cons _ _ => simp at h
      | cons e l ihl =>
        intro l' hh h h1 h2 h3
        cases l' with
        | nil => simp at h
        | cons e' l' =>
          simp only [shapedL, Bool.and_eq_true] at h1 h2
          simp only [sameL, Bool.and_eq_true] at h3
          simp only [textL]
          rw [hh e (by simp) e' h1.1 h2.1 h3.1, ihl l' (fun x hx => hh x (by simp [hx])) (by simpa using h) h1.2 h2.2 h3.2]
    have ht := key l l' ih hl hx.2 hy.2 hsl
    simp only [Ex.text, hl, ht]
    by_cases h0 : op = 0
    · rw [if_pos h0, if_pos h0]
      have ho : ordV v v' = 0 := by rcases hv with h | h; exact absurd h0 h; exact h
      unfold ordV at ho
      by_cases hk : v.k = 0
      · by_cases hk' : v'.k = 0
        · rw [if_pos hk, if_pos hk']
          rw [if_pos hk, if_pos hk'] at ho
          unfold cmpI at ho
          have : v.n = v'.n := by split at ho; omega; split at ho; omega; omega
          rw [this]
        · rw [if_pos hk, if_neg hk'] at ho; omega
      · by_cases hk' : v'.k = 0
        · rw [if_neg hk, if_pos hk'] at ho; omega
        · rw [if_neg hk, if_neg hk']
          rw [if_neg hk, if_neg hk'] at ho
          have : sl v.s = sl v'.s := by
            unfold cmpT at ho
            split at ho
            · omega
            · split at ho
              · omega
              · rename_i h1 h2
                exact ltT_total _ _ (by simpa using h1) (by simpa using h2)
          rw [this]
    · rw [if_neg h0, if_neg h0]
/-- What may come behind an expression: nothing, a blank or a closing bracket. -/
def Delim (r : List Int) : Prop := r = [] ∨ ∃ q, r = 32 :: q ∨ r = 41 :: q
theorem span_eq {P : Int → Prop} : ∀ (a b r r' : List Int), (∀ x ∈ a, P x) → (∀ x ∈ b, P x) → (∀ x q, r = x :: q → ¬ P x) → (∀ x q, r' = x :: q → ¬ P x) → a ++ r = b ++ r' → a = b ∧ r = r'
  | [], [], r, r', _, _, _, _, h => ⟨rfl, h⟩
  | [], y :: b, r, r', _, hb, hr, _, h => absurd (hb y (by simp)) (hr y (b ++ r') (by simpa using h))
  | x :: a, [], r, r', ha, _, _, hr', h => absurd (ha x (by simp)) (hr' x (a ++ r) (by simpa using h.symm))
  | x :: a, y :: b, r, r', ha, hb, hr, hr', h => by
    simp only [List.cons_append, List.cons.injEq] at h
    obtain ⟨h1, h2⟩ := h
    obtain ⟨h3, h4⟩ := span_eq a b r r' (fun z hz => ha z (by simp [hz])) (fun z hz => hb z (by simp [hz])) hr hr' h2
    exact ⟨by rw [h1, h3], h4⟩
theorem Delim.not {P : Int → Prop} {r : List Int} (h : Delim r) (h1 : ¬ P 32) (h2 : ¬ P 41) : ∀ x q, r = x :: q → ¬ P x := by
  intro x q e
  rcases h with rfl | ⟨q', rfl | rfl⟩
  · cases e
  · injection e with e1 _; rw [← e1]; exact h1
  · injection e with e1 _; rw [← e1]; exact h2
/-- Characters of numbers. -/
def NumC (x : Int) : Prop := x = 45 ∨ (48 ≤ x ∧ x ≤ 57)
theorem num10_chars (n : Int) : (∀ x ∈ num10 n, NumC x) ∧ num10 n ≠ [] := by
  obtain ⟨i1, i2, i3, i4⟩ := decDigits_dval n.natAbs
  have hd : ∀ x ∈ dgs n.natAbs, NumC x := by
    intro x hx
    simp only [dgs, List.mem_map] at hx
    obtain ⟨b, hb, rfl⟩ := hx
    have := List.all_eq_true.1 i2 b hb
    unfold isDig at this
    simp only [Bool.and_eq_true, decide_eq_true_eq] at this
    right; omega
  have hne : dgs n.natAbs ≠ [] := by unfold dgs; simpa using i3
  by_cases h : n < 0
  · rw [num10_neg h]
    exact ⟨fun x hx => by rcases List.mem_cons.1 hx with rfl | hx; exact .inl rfl; exact hd x hx, by simp⟩
  · rw [num10_pos h]; exact ⟨hd, hne⟩
theorem num10_inj {n m : Int} (h : num10 n = num10 m) : n = m := by
  have e : Lib.itoa n = Lib.itoa m := by
    have key : ∀ a b : List UInt8, (a.map fun b => (b.toNat : Int)) = (b.map fun b => (b.toNat : Int)) → a = b := fun a b h => nums_inj h
    exact key _ _ h
  obtain ⟨i1, i2, i3, i4⟩ := decDigits_dval n.natAbs
  obtain ⟨j1, j2, j3, j4⟩ := decDigits_dval m.natAbs
  unfold Lib.itoa at e
  by_cases hn : n < 0
  · by_cases hm : m < 0
    · rw [if_pos hn, if_pos hm] at e
      injection e with _ e
      rw [e] at i1; omega
    · rw [if_pos hn, if_neg hm, show m.toNat = m.natAbs by omega] at e
      rw [← e] at j4; cases j4
  · by_cases hm : m < 0
    · rw [if_neg hn, if_pos hm, show n.toNat = n.natAbs by omega] at e
      rw [e] at i4; cases i4
    · rw [if_neg hn, if_neg hm, show n.toNat = n.natAbs by omega, show m.toNat = m.natAbs by omega] at e
      rw [e] at i1; omega
theorem hexd_inj {a b : Int} (ha : 0 ≤ a ∧ a < 16) (hb : 0 ≤ b ∧ b < 16) (h : hexd a = hexd b) : a = b := by
  unfold hexd at h
  split at h <;> split at h <;> omega
theorem qch_inj {c d : Int} (hc : 0 ≤ c ∧ c ≤ 255) (hd : 0 ≤ d ∧ d ≤ 255) {X Y : List Int} (h : qch c ++ X = qch d ++ Y) : c = d ∧ X = Y := by
  unfold qch at h
  split at h
  · split at h
    · simp only [List.cons_append, List.nil_append, List.cons.injEq, true_and] at h
      obtain ⟨h1, h2, h3⟩ := h
      have e1 := hexd_inj (by omega) (by omega) h1
      have e2 := hexd_inj (by omega) (by omega) h2
      exact ⟨by omega, h3⟩
    · split at h
      · simp only [List.cons_append, List.nil_append, List.cons.injEq, true_and] at h; omega
      · simp only [List.cons_append, List.nil_append, List.cons.injEq] at h; omega
  · split at h
    · split at h
      · simp only [List.cons_append, List.nil_append, List.cons.injEq, true_and] at h; omega
      · split at h
        · simp only [List.cons_append, List.nil_append, List.cons.injEq, true_and] at h; exact h
        · simp only [List.cons_append, List.nil_append, List.cons.injEq] at h; omega
    · split at h
      · simp only [List.cons_append, List.nil_append, List.cons.injEq] at h; omega
      · split at h
        · simp only [List.cons_append, List.nil_append, List.cons.injEq] at h; omega
        · simp only [List.cons_append, List.nil_append, List.cons.injEq] at h; exact h
theorem qch_head {c : Int} {X Y : List Int} (h : qch c ++ X = 34 :: Y) : False := by
  unfold qch at h
  split at h
  · simp only [List.cons_append, List.cons.injEq] at h; omega
  · split at h
    · simp only [List.cons_append, List.cons.injEq] at h; omega
    · simp only [List.cons_append, List.cons.injEq] at h; omega
theorem qs_inj : ∀ (s t : List Int), IsB s → IsB t → ∀ {X Y : List Int}, s.flatMap qch ++ (34 :: X) = t.flatMap qch ++ (34 :: Y) → s = t ∧ X = Y
  | [], [], _, _, X, Y, h => by simpa using h
  | [], d :: t, _, _, X, Y, h => by
    rw [List.flatMap_nil, List.nil_append, List.flatMap_cons, List.append_assoc] at h
    exact (qch_head h.symm).elim
  | c :: s, [], _, _, X, Y, h => by
    rw [List.flatMap_nil, List.nil_append, List.flatMap_cons, List.append_assoc] at h
    exact (qch_head h).elim
  | c :: s, d :: t, hs, ht, X, Y, h => by
    rw [List.flatMap_cons, List.flatMap_cons, List.append_assoc, List.append_assoc] at h
    obtain ⟨e1, e2⟩ := qch_inj (hs c (by simp)) (ht d (by simp)) h
    obtain ⟨e3, e4⟩ := qs_inj s t (fun x hx => hs x (by simp [hx])) (fun x hx => ht x (by simp [hx])) e2
    exact ⟨by rw [e1, e3], e4⟩
theorem quote_inj {s t : List Int} (hs : IsB s) (ht : IsB t) {X Y : List Int} (h : quote s ++ X = quote t ++ Y) : s = t ∧ X = Y := by
  unfold quote at h
  simp only [List.cons_append, List.nil_append, List.append_assoc, List.cons.injEq, true_and] at h
  exact qs_inj s t hs ht h
def LetC (x : Int) : Prop := 97 ≤ x ∧ x ≤ 122
theorem names_chars : ∀ k : Fin 28, (∀ x ∈ names.getD k.val [], LetC x) ∧ names.getD k.val [] ≠ [] := by unfold LetC; decide +kernel
theorem names_inj : ∀ k j : Fin 28, names.getD k.val [] = names.getD j.val [] → k = j := by decide +kernel
theorem nameOf_ok {op : Int} (h0 : 0 ≤ op) (h1 : op ≤ 27) : (∀ x ∈ nameOf op, LetC x) ∧ nameOf op ≠ [] := by
  unfold nameOf; rw [if_pos h0]
  exact names_chars ⟨op.toNat, by omega⟩
theorem nameOf_inj {a b : Int} (a0 : 0 ≤ a) (a1 : a ≤ 27) (b0 : 0 ≤ b) (b1 : b ≤ 27) (h : nameOf a = nameOf b) : a = b := by
  unfold nameOf at h; rw [if_pos a0, if_pos b0] at h
  have := names_inj ⟨a.toNat, by omega⟩ ⟨b.toNat, by omega⟩ h
  have := congrArg Fin.val this
  simp at this; omega
theorem arity_op {op : Int} (h : 0 ≤ arity op) : 0 ≤ op ∧ op ≤ 27 := by
  unfold arity at h
  split at h
  · omega
  · rename_i hn; omega
end Go.Proofs.YtkaapfakalojaaaDoor
namespace Go.Proofs.YtkaapfakalojaaaDoor
open Go.ChangeShapes Go.WideShapes Go.ChangeAt Go.RowKit
set_option linter.unusedVariables false
/-- The four kinds of texts, by their first byte. -/
theorem text_cases (op : Int) (v : Vl) (A : Option Addr) (c : Nat) (l : List Ex) (h : (Ex.node op v A c l).shaped = true) :
    (op = 0 ∧ l = [] ∧ v.k = 0 ∧ (Ex.node op v A c l).text = num10 v.n) ∨ (op = 0 ∧ l = [] ∧ v.k ≠ 0 ∧ (Ex.node op v A c l).text = quote (sl v.s)) ∨
    (op ≠ 0 ∧ 0 ≤ op ∧ op ≤ 27 ∧ l = [] ∧ (Ex.node op v A c l).text = nameOf op) ∨ (op ≠ 0 ∧ 0 ≤ op ∧ op ≤ 27 ∧ l ≠ [] ∧ (Ex.node op v A c l).text = 40 :: (nameOf op ++ (textL l ++ [41]))) := by
  simp only [Ex.shaped, Bool.and_eq_true, decide_eq_true_eq] at h
  have ho := arity_op (op := op) (by omega)
  by_cases h0 : op = 0
  · have hl : l = [] := by
      have : (l.length : Int) = 0 := by rw [h.1, h0]; rfl
      exact List.eq_nil_of_length_eq_zero (by omega)
    by_cases hk : v.k = 0
    · exact .inl ⟨h0, hl, hk, by simp only [Ex.text]; rw [if_pos h0, if_pos hk]⟩
    · exact .inr (.inl ⟨h0, hl, hk, by simp only [Ex.text]; rw [if_pos h0, if_neg hk]⟩)
  · by_cases hl : l = []
    · exact .inr (.inr (.inl ⟨h0, ho.1, ho.2, hl, by simp only [Ex.text]; rw [if_neg h0, if_pos (by rw [hl]; rfl)]⟩))
    · exact .inr (.inr (.inr ⟨h0, ho.1, ho.2, hl, by
        simp only [Ex.text]
        rw [if_neg h0, if_neg (fun e => hl (List.eq_nil_of_length_eq_zero e))]
        simp⟩))
theorem textL_head {l : List Ex} (h : l ≠ []) (X : List Int) : ∃ q, textL l ++ X = 32 :: q := by
  cases l with
  | nil => exact absurd rfl h
  | cons e l => exact ⟨e.text ++ textL l ++ X, by simp [textL]⟩
theorem textL_delim (l : List Ex) (r : List Int) : Delim (textL l ++ (41 :: r)) := by
  cases l with
  | nil => exact .inr ⟨r, .inr rfl⟩
  | cons e l => exact .inr ⟨e.text ++ textL l ++ (41 :: r), .inl (by simp [textL])⟩
theorem letC_not : ¬ LetC 32 ∧ ¬ LetC 41 := by unfold LetC; omega
theorem numC_not : ¬ NumC 32 ∧ ¬ NumC 41 := by unfold NumC; omega
/-- The first byte of a list all of whose members are such. -/
theorem head_of {P : Int → Prop} {a : List Int} (h : ∀ x ∈ a, P x) (hn : a ≠ []) (X : List Int) : ∃ x q, a ++ X = x :: q ∧ P x := by
  cases a with
  | nil => exact absurd rfl hn
  | cons x a => exact ⟨x, a ++ X, rfl, h x (by simp)⟩
theorem text_inj : ∀ x y : Ex, ∀ r r' : List Int, x.shaped = true → y.shaped = true → Delim r → Delim r' → x.text ++ r = y.text ++ r' → x.same y = true ∧ r = r' := by
  intro x
  induction x using Ex.ind with
  | h op v A c l ih =>
    intro y r r' hx hy hr hr' he
    obtain ⟨op', v', A', c', l'⟩ := y
    have hx0 := hx
    have hy0 := hy
    simp only [Ex.shaped, Bool.and_eq_true, decide_eq_true_eq] at hx0 hy0
    rcases text_cases op v A c l hx with ⟨h0, hl, hk, ht⟩ | ⟨h0, hl, hk, ht⟩ | ⟨h0, o0, o1, hl, ht⟩ | ⟨h0, o0, o1, hl, ht⟩ <;>
    rcases text_cases op' v' A' c' l' hy with ⟨g0, gl, gk, gt⟩ | ⟨g0, gl, gk, gt⟩ | ⟨g0, p0, p1, gl, gt⟩ | ⟨g0, p0, p1, gl, gt⟩ <;>
    rw [ht, gt] at he
    · obtain ⟨e1, e2⟩ := span_eq _ _ _ _ (num10_chars v.n).1 (num10_chars v'.n).1 (hr.not numC_not.1 numC_not.2) (hr'.not numC_not.1 numC_not.2) he
      have e3 := num10_inj e1
      refine ⟨?_, e2⟩
      subst h0 hl g0 gl
      have : ordV v v' = 0 := by unfold ordV; rw [if_pos hk, if_pos gk, e3]; unfold cmpI; rw [if_neg (by omega), if_neg (by omega)]
      simp [Ex.same, sameL, this]
    · obtain ⟨x, q, e, hP⟩ := head_of (num10_chars v.n).1 (num10_chars v.n).2 r
      rw [e] at he
      simp only [quote, List.cons_append, List.nil_append, List.cons.injEq] at he
      unfold NumC at hP; omega
    · obtain ⟨x, q, e, hP⟩ := head_of (num10_chars v.n).1 (num10_chars v.n).2 r
      obtain ⟨x', q', e', hP'⟩ := head_of (nameOf_ok p0 p1).1 (nameOf_ok p0 p1).2 r'
      rw [e, e'] at he
      injection he with he _
      unfold NumC at hP; unfold LetC at hP'; omega
    · obtain ⟨x, q, e, hP⟩ := head_of (num10_chars v.n).1 (num10_chars v.n).2 r
      rw [e] at he
      simp only [List.cons_append, List.cons.injEq] at he
      unfold NumC at hP; omega
    · obtain ⟨x, q, e, hP⟩ := head_of (num10_chars v'.n).1 (num10_chars v'.n).2 r'
      rw [e] at he
      simp only [quote, List.cons_append, List.nil_append, List.cons.injEq] at he
      unfold NumC at hP; omega
    · obtain ⟨e1, e2⟩ := quote_inj (sl_bytes _) (sl_bytes _) he
      have e3 := sl_inj e1
      refine ⟨?_, e2⟩
      subst h0 hl g0 gl
      have : ordV v v' = 0 := by unfold ordV; rw [if_neg hk, if_neg gk, e3]; exact cmpT_same _
      simp [Ex.same, sameL, this]
    · obtain ⟨x, q, e, hP⟩ := head_of (nameOf_ok p0 p1).1 (nameOf_ok p0 p1).2 r'
      rw [e] at he
      simp only [quote, List.cons_append, List.nil_append, List.cons.injEq] at he
      unfold LetC at hP; omega
    · simp only [quote, List.cons_append, List.nil_append, List.cons.injEq] at he; omega
    · obtain ⟨x, q, e, hP⟩ := head_of (nameOf_ok o0 o1).1 (nameOf_ok o0 o1).2 r
      obtain ⟨x', q', e', hP'⟩ := head_of (num10_chars v'.n).1 (num10_chars v'.n).2 r'
      rw [e, e'] at he
      injection he with he _
      unfold LetC at hP; unfold NumC at hP'; omega
    · obtain ⟨x, q, e, hP⟩ := head_of (nameOf_ok o0 o1).1 (nameOf_ok o0 o1).2 r
      rw [e] at he
      simp only [quote, List.cons_append, List.nil_append, List.cons.injEq] at he
      unfold LetC at hP; omega
    · obtain ⟨e1, e2⟩ := span_eq _ _ _ _ (nameOf_ok o0 o1).1 (nameOf_ok p0 p1).1 (hr.not letC_not.1 letC_not.2) (hr'.not letC_not.1 letC_not.2) he
      have e3 := nameOf_inj o0 o1 p0 p1 e1
      refine ⟨?_, e2⟩
      subst e3 hl gl
      simp [Ex.same, sameL, h0]
    · obtain ⟨x, q, e, hP⟩ := head_of (nameOf_ok o0 o1).1 (nameOf_ok o0 o1).2 r
      rw [e] at he
      simp only [List.cons_append, List.cons.injEq] at he
      unfold LetC at hP; omega
    · obtain ⟨x, q, e, hP⟩ := head_of (num10_chars v'.n).1 (num10_chars v'.n).2 r'
      rw [e] at he
      simp only [List.cons_append, List.cons.injEq] at he
      unfold NumC at hP; omega
    · simp only [quote, List.cons_append, List.nil_append, List.cons.injEq] at he; omega
    · obtain ⟨x, q, e, hP⟩ := head_of (nameOf_ok p0 p1).1 (nameOf_ok p0 p1).2 r'
      rw [e] at he
      simp only [List.cons_append, List.cons.injEq] at he
      unfold LetC at hP; omega
    · simp only [List.cons_append, List.append_assoc, List.nil_append, List.cons.injEq, true_and] at he
      obtain ⟨q, hq⟩ := textL_head hl (41 :: r)
      obtain ⟨q', hq'⟩ := textL_head gl (41 :: r')
      obtain ⟨e1, e2⟩ := span_eq _ _ _ _ (nameOf_ok o0 o1).1 (nameOf_ok p0 p1).1 (fun x z hz => by rw [hq] at hz; injection hz with hz _; rw [← hz]; exact letC_not.1) (fun x z hz => by rw [hq'] at hz; injection hz with hz _; rw [← hz]; exact letC_not.1) he
      have e3 := nameOf_inj o0 o1 p0 p1 e1
      subst e3
      have hll : l.length = l'.length := by have := hx0.1; have := hy0.1; omega
      have key : ∀ l l' : List Ex, (∀ e ∈ l, ∀ y : Ex, ∀ r r' : List Int, e.shaped = true → y.shaped = true → Delim r → Delim r' → e.text ++ r = y.text ++ r' → e.same y = true ∧ r = r') → l.length = l'.length → shapedL l = true → shapedL l' = true → textL l ++ (41 :: r) = textL l' ++ (41 :: r') → sameL l l' = true ∧ r = r' := by
        intro l
        induction l with
        | nil =>
          intro l' _ h _ _ he
          cases l' with
          | nil => simp only [textL, List.nil_append, List.cons.injEq, true_and] at he; exact ⟨rfl, he⟩
          | cons _ _ => simp at h
        | cons e l ihl =>
          intro l' hh h h1 h2 he
          cases l' with
          | nil => simp at h
          | cons e' l' =>
            simp only [shapedL, Bool.and_eq_true] at h1 h2
            simp only [textL, List.cons_append, List.nil_append, List.append_assoc, List.cons.injEq, true_and] at he
            obtain ⟨s1, s2⟩ := hh e (by simp) e' _ _ h1.1 h2.1 (textL_delim l r) (textL_delim l' r') he
            obtain ⟨s3, s4⟩ := ihl l' (fun x hx => hh x (by simp [hx])) (by simpa using h) h1.2 h2.2 s2
            exact ⟨by simp [sameL, s1, s3], s4⟩
      obtain ⟨s1, s2⟩ := key l l' ih hll hx0.2 hy0.2 e2
      refine ⟨?_, s2⟩
      simp [Ex.same, h0, hll, s1]
/-- Valid expressions have the same text just if they are the same. -/
theorem text_iff (x y : Ex) (hx : x.shaped = true) (hy : y.shaped = true) : x.text = y.text ↔ x.same y = true :=
  ⟨fun h => (text_inj x y [] [] hx hy (.inl rfl) (.inl rfl) (by rw [h])).1, same_text x y hx hy⟩
theorem same_refl : ∀ x : Ex, x.same x = true := by
  intro x
  induction x using Ex.ind with
  | h op v A c l ih =>
    have key : ∀ l : List Ex, (∀ e ∈ l, e.same e = true) → sameL l l = true := by
      intro l
      induction l with
      | nil => intro _; rfl
      | cons e l ihl => intro h; simp [sameL, h e (by simp), ihl (fun x hx => h x (by simp [hx]))]
    have ho : ordV v v = 0 := by have := ordV_neg v v; omega
    simp [Ex.same, key l ih, ho]
theorem right_ok {x : Ex} (h : x.right = 0) : x.shaped = true := by
  unfold Ex.right at h
  split at h
  · omega
  · split at h
    · omega
    · split at h
      · omega
      · rename_i h1; simpa using h1
end Go.Proofs.YtkaapfakalojaaaDoor
