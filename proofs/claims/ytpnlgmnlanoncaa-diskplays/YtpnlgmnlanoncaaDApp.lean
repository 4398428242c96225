/-
  append of bytes to a slice of the call own, with where the new slice lies; a disk that gets a new file, or a file of another name. Conditions: as in the premises.
-/
import Derived.Test.YtpnlgmnlanoncaaDDrop
namespace Go.Proofs.Ytpnlgmnlanoncaa
open Go.ChangeShapes Go.WideShapes Go.ChangeAt Go.RowKit
set_option linter.unusedVariables false

/-- Where a grown slice lies: where it lay, or in a new block. -/
def AtOrNew (w : World) (A A' : Option Addr) : Prop := ∀ a', A' = some a' → (∃ a, A = some a ∧ a'.block = a.block) ∨ w.heap.size ≤ a'.block
theorem run_append_bytes_at (ty : TypeId) (w : World) (base : Nat) (A : Option Addr) (c : Nat) (l : List Int) (hown : OwnS base w A c l) (B : Option Addr) (d : Nat) (r : List Int) (hr : Lies w B d r)
    (h63 : l.length + r.length ≤ 100000000000) (hbase : base ≤ w.heap.size) :
    ∃ A' c' w', (Builtin.append_ #[33, 33] ty #[.slice A l.length c, .slice B r.length d]).run Try.prog w = .ok (.slice A' (l ++ r).length c') w' ∧ OwnS base w' A' c' (l ++ r) ∧ w.grownBy w' (Value.slice A l.length c).ownBlock ∧ AtOrNew w A A' := by
  obtain ⟨i0, hi, hz0, hz1, hz2⟩ := info_parts Try.info5
  unfold OwnS at *
  rw [List.length_append, cellsOf_append]
  rcases hr with ⟨rfl, rfl, rfl⟩ | ⟨a, rfl, hr⟩
  · refine ⟨A, c, w, run_append_owned_none w base 33 ty 5 i0 1 Try.underlying33 hi _ _ _ hown, ?_, World.grownBy.refl _ _, fun a' h => .inl ⟨a', h, rfl⟩⟩
    simpa [cellsOf] using hown
  · obtain ⟨v', w', hrun, h2, h3, _, h5⟩ := run_append_own_at (P := Try.prog) w base 33 ty 5 i0 (.int .u8 0) 1 1 Try.underlying33 hi hz0 hz1 hz2 rfl (by decide) _ _ _ hown a r.length d (cellsOf r) (by rw [cellsOf_length]; omega) hr (cellsOf_one r) (by unfold maxLen; omega) (by omega) hbase
    rcases h2.2 with ⟨hv, h0⟩ | ⟨g, cap, cur, hv, _⟩
    · subst hv
      refine ⟨none, 0, w', ?_, ?_, h3, fun a' h => by cases h⟩
      · rw [h0]; exact hrun
      · rw [h0] at h2 ⊢; exact h2
    · subst hv
      refine ⟨_, cap, w', hrun, h2, h3, fun a' h => ?_⟩
      injection h with h
      subst h
      rcases h5 with h5 | h5
      · left
        cases A with
        | none => simp [Value.ownBlock] at h5
        | some a0 => exact ⟨a0, rfl, by simpa [Value.ownBlock] using h5⟩
      · right
        have : g = w.heap.size := by simpa [Value.ownBlock] using h5
        show w.heap.size ≤ g
        omega
theorem wpList_append_bytes_at {w : World} {ops : Array Oper} {rest : List Oper} {o : Oper} {a : Act} {Q : Exit → Act → World → Prop} (hgd : o.guard = none) (s x : Operand)
    (ho : o.op = .call { callee := .builtin .append, args := #[s, x], argTypes := #[33, 33] })
    (base : Nat) (A : Option Addr) (c : Nat) (l : List Int) (hs : a.eval s = .slice A l.length c) (hown : OwnS base w A c l)
    (B : Option Addr) (d : Nat) (r : List Int) (hx : a.eval x = .slice B r.length d) (hr : Lies w B d r) (h63 : l.length + r.length ≤ 100000000000) (hbase : base ≤ w.heap.size)
    (h : ∀ A' c' w' L, Hid (L = l ++ r) → OwnS base w' A' c' L → w.grownBy w' (Value.slice A l.length c).ownBlock → AtOrNew w A A' → wpList Try.prog ops Q rest (a.put o.dst (.slice A' L.length c')) w') : wpList Try.prog ops Q (o :: rest) a w := by
  obtain ⟨A', c', w', hrun, h2, h3, h4⟩ := run_append_bytes_at o.type w base A c l hown B d r hr h63 hbase
  refine wpList_plain hgd fun K hK => ?_
  unfold Oper.wp execOp
  simp only [ho, resolve, invoke, builtin, Sem.run_bind, Sem.run_pure, Result.andThen_ok, List.map_toArray, List.map_cons, List.map_nil, hs, hx, hrun]
  exact hK _ _ (h A' c' w' _ (Lib.hid rfl) h2 h3 h4)
theorem Lies.blocks {w w' : World} {A : Option Addr} {c : Nat} {l : List Int} (h : Lies w A c l) (hk : l ≠ [] → ∀ a, A = some a → w'.heap[a.block]? = w.heap[a.block]?) : Lies w' A c l := by
  rcases h with h | ⟨a, rfl, h⟩
  · exact .inl h
  · refine .inr ⟨a, rfl, fun j u hu => ?_⟩
    have hk := hk (by rintro rfl; simp [cellsOf] at hu)
    have e := h j u hu
    have e2 : (a.add j).block = a.block := by unfold Addr.add; split <;> rfl
    have e3 : w'.heap[(a.add j).block]? = w.heap[(a.add j).block]? := by rw [e2]; exact hk a rfl
    exact (World.cell?_of_block e3).trans e

section
variable {S S' : Nat → Prop} {w w' : World} {sb bm n : Nat} {L : List Fr} {D : DataW Value} {d : St}
/-- A file that was not there. -/
theorem Open.newfile (h : Open S w sb bm L D d) (r : Fr) (hfd : fd Fr.name L r.name = none) (hp : w.heap.size ≤ r.p) (hA : ∀ a, r.A = some a → w.heap.size ≤ a.block) (hs : ∀ k, S k → S' k) (hl : ∀ k, S' k → k < w'.heap.size)
    (hk : ∀ k, S k → k ≠ sb → k ≠ bm → w'.heap[k]? = w.heap[k]?) (hfile : FileAt S' w' r) (hown : w'.ownsMap Try.prog 9 keep bm n (D.put (key r.name) (.held (at_ r.p))))
    (hblk : Blk w' sb (dcells bm { d with fs := wi Fl.name d.fs r.f }) 62) (hok : Ok { d with fs := wi Fl.name d.fs r.f }) : Open S' w' sb bm (wi Fr.name L r) (D.put (key r.name) (.held (at_ r.p))) { d with fs := wi Fl.name d.fs r.f } where
  blk := hblk
  inS := hs _ h.inS
  mapS := hs _ h.mapS
  lt := hl
  own := ownsMap_tight hown
  rel := h.rel.put h.own.isMap r
  files := fun s hs' => by
    rcases mem_wi.1 hs' with rfl | ⟨hs1, hs2⟩
    · exact hfile
    · have hf := h.files s hs1
      have hns := h.file_ne hs1
      exact hf.kept (hk _ hf.inS hns.1 hns.2.1) (fun a ha => hk _ (hf.rowS a ha) (hns.2.2 a ha).1 (hns.2.2 a ha).2.1) hs
  sep := h.sep.wi r fun s hs1 hs2 => by
    have hf := h.files s hs1
    refine ⟨fun e => ?_, fun a b ha hb e => ?_⟩
    · have := hf.lt; omega
    · obtain ⟨cur, q, h3⟩ := hf.row hb
      have := (Array.getElem?_eq_some_iff.1 h3).1
      have := hA a ha
      omega
  fs := (map_wi (nm := Fr.name) (nn := Fl.name) (g := Fr.f) (fun _ => rfl) L r).trans (by rw [h.fs])
  ok := hok
theorem Ok.new {f : Fl} (h : Ok d) (hf : fd Fl.name d.fs f.name = none) (hl : (f.b.length : Int) ≤ d.cap - total d.fs) (hm : d.fs.length < 65536) (hs : f.syn ≤ f.b.length) (hb : IsB f.b) (hn : bad f.name = false) : Ok { d with fs := wi Fl.name d.fs f } := by
  have e := total_wo_none hf
  refine ⟨h.srt.wi f, h.lo, h.hi, ?_, ?_, h.dead, h.small, fun g hg => ?_⟩
  · show ((total (wi Fl.name d.fs f) : Nat) : Int) ≤ d.cap
    unfold wi
    rw [total_ins, e]
    omega
  · show (wi Fl.name d.fs f).length ≤ 65536
    unfold wi
    rw [ins_length, e]
    omega
  · rcases mem_wi.1 hg with rfl | ⟨hg1, _⟩
    · exact ⟨hs, hb, hn⟩
    · exact h.files g hg1
theorem total_new {f : Fl} (hf : fd Fl.name d.fs f.name = none) : ((total (wi Fl.name d.fs f) : Nat) : Int) = total d.fs + f.b.length := by
  unfold wi
  rw [total_ins, total_wo_none hf]
  omega
end
end Go.Proofs.Ytpnlgmnlanoncaa
