/-
  An argument that is a call, and one that is a list of calls: its fields, with the bytes and numbers behind them. Conditions: the bounds of an input.
-/
import Derived.Test.YtpnlgmnlanoncaaDCrash
import Derived.Lib.SmallJoins
namespace Go.Proofs.Ytpnlgmnlanoncaa
open Go.ChangeShapes Go.WideShapes Go.ChangeAt Go.RowKit Go.Joins
set_option linter.unusedVariables false

def I64 (n : Int) : Prop := -9223372036854775808 ≤ n ∧ n ≤ 9223372036854775807
theorem i64_of_wf {n : Int} (h : (Lit.int .i64 n).wf = true) : I64 n := by
  have := bounds_i64 h
  exact ⟨by omega, by omega⟩
/-- A call: what it does, its number, its names, its bytes and its kept numbers with where they lie. -/
structure Ac where
  do_ : Int
  n : Int
  name : ByteArray
  to : ByteArray
  bA : Option Addr
  bc : Nat
  b : List Int
  kA : Option Addr
  kc : Nat
  keep : List Int
def enA (a : Ac) : List Value := [.int .i64 a.do_, .int .i64 a.n, .string a.name, .string a.to, .slice a.bA a.b.length a.bc, .slice a.kA a.keep.length a.kc]
structure GoodA (W : World) (a : Ac) : Prop where
  do_ : I64 a.do_
  n : I64 a.n
  name : a.name.size ≤ reachBytes
  to : a.to.size ≤ reachBytes
  b : Lies W a.bA a.bc a.b
  isB : IsB a.b
  bl : a.b.length ≤ reachBytes
  bcap : a.b.length ≤ a.bc
  keep : CellsG enI W a.kA a.kc a.keep
  kr : ∀ x ∈ a.keep, I64 x
  kl : a.keep.length ≤ maxLen
theorem ints_of {H : Type} {encH : TypeId × Value → H} {W : World} {base : Nat} {held : Bool} {fuel : Nat} {cs : List Value} {x : DataW H × List MemPlace} (h : DataW.trod encH Try.prog W base (fun _ => true) held fuel 34 cs = some x) :
    ∃ A c keep, cs = [.slice A (keep : List Int).length c] ∧ CellsG enI W A c keep ∧ (∀ x ∈ keep, I64 x) ∧ keep.length ≤ maxLen := by
  rcases open_ints Try.underlying34 Try.underlying3 (by kernel_rfl) h with ⟨rfl, _⟩ | ⟨a, l, c, zs, rfl, _, hl, hm, hz, _, hcell, hwz⟩
  · exact ⟨none, 0, [], rfl, CellsG.nil _ _, by simp, by simp⟩
  · have hz' : zs.length = c := by simpa using hz
    have e : (zs.take l).length = l := by rw [List.length_take]; omega
    refine ⟨some a, c, zs.take l, by rw [e], .inr ⟨a, rfl, fun j u hu => ?_⟩, fun y hy => i64_of_wf (hwz y (List.mem_of_mem_take hy)), by omega⟩
    have hfm : cellsG enI (zs.take l) = (zs.take l).map (Value.int .i64) := by
      unfold cellsG
      induction zs.take l with
      | nil => rfl
      | cons y ys ih => simp only [List.flatMap_cons, List.map_cons, enI] at ih ⊢; rw [ih]; rfl
    rw [hfm] at hu
    have hj : j < l := by
      rcases Nat.lt_or_ge j l with h | h
      · exact h
      · rw [List.getElem?_eq_none (by rw [List.length_map, e]; exact h)] at hu; cases hu
    rw [hcell j (by omega)]
    rw [List.getElem?_map, List.getElem?_take_of_lt hj] at hu
    rw [← hu]
    simp [List.getD, show j < zs.length by omega]
theorem bytes_of {H : Type} {encH : TypeId × Value → H} {W : World} {base : Nat} {held : Bool} {fuel : Nat} {cs : List Value} {x : DataW H × List MemPlace} (h : DataW.trod encH Try.prog W base (fun _ => true) held fuel 33 cs = some x) (hw : ∀ m ∈ x.1.weights Try.prog 33, m ≤ reachBytes) :
    ∃ A c b, cs = [.slice A (b : List Int).length c] ∧ Lies W A c b ∧ IsB b ∧ b.length ≤ reachBytes ∧ b.length ≤ c := by
  have h2 := h
  rcases open_ints Try.underlying33 Try.underlying5 (by kernel_rfl) h with ⟨rfl, _⟩ | ⟨a, l, c, zs, rfl, _, hl, hm, hz, hx, hcell, hwz⟩
  · exact ⟨none, 0, [], rfl, Lies.nil _, by intro x hx; simp at hx, by simp, by simp⟩
  · have hz' : zs.length = c := by simpa using hz
    obtain ⟨b, h1, h3, h4, h5, h6⟩ := bytes_of_row (w := W) (a := some a) (len := l) (cap := c) (zs := zs) (.inr ⟨a, rfl, hl, hm, hz', hcell, hwz⟩)
    refine ⟨some a, c, b, by rw [h1], h5, h6, ?_, h3⟩
    have := hw _ (by rw [hx]; simp only [DataW.weights, Try.underlying33]; exact List.mem_cons_self)
    rw [h1]
    simp only [lits, List.length_map, List.length_take, List.length_drop] at this
    rw [show Try.prog.bytesOf 5 = 1 by kernel_rfl, Nat.mul_one] at this
    have hl2 : l ≤ zs.length := by omega
    rw [Nat.min_eq_left hl2] at this
    exact Nat.le_trans (Nat.le_add_right _ _) this
set_option maxRecDepth 20000 in
theorem act_read {H : Type} {encH : TypeId × Value → H} {W : World} {base : Nat} {held : Bool} (n : Nat) (cs : List Value) (y : DataW H × List MemPlace) (h : DataW.trod encH Try.prog W base (fun _ => true) held n 36 cs = some y) (hw : ∀ m ∈ y.1.weights Try.prog 36, m ≤ reachBytes) (hl : cs.length = 6) : ∃ a, cs = enA a ∧ GoodA W a := by
  obtain ⟨xs, m, _, hy, _, hlen, hf⟩ := DataW.trod_struct Try.underlying36 h
  match xs, hlen, cs, hl with
  | [y0, y1, y2, y3, y4, y5], _, [u0, u1, u2, u3, u4, u5], _ =>
    have g0 := hf 0 _ rfl
    have g1 := hf 1 _ rfl
    have g2 := hf 2 _ rfl
    have g3 := hf 3 _ rfl
    have g4 := hf 4 _ rfl
    have g5 := hf 5 _ rfl
    rw [show Try.prog.cellsOf _ = 1 by kernel_rfl] at g0 g1 g2 g3 g4 g5
    obtain ⟨z0, e0, _, hz0⟩ := DataW.trod_int Try.underlying3 g0
    obtain ⟨z1, e1, _, hz1⟩ := DataW.trod_int Try.underlying3 g1
    obtain ⟨s2, e2, ey2, hs2⟩ := DataW.trod_string Try.underlying9 g2
    obtain ⟨s3, e3, ey3, hs3⟩ := DataW.trod_string Try.underlying9 g3
    have q2 := hw s2.data.toList.length (by rw [hy, ey2]; simp [DataW.weights, Try.underlying36, DataW.weightsEach])
    have q3 := hw s3.data.toList.length (by rw [hy, ey3]; simp [DataW.weights, Try.underlying36, DataW.weightsEach])
    obtain ⟨A4, c4, b4, e4, l4, i4, m4, n4⟩ := bytes_of g4 (fun m hm => hw m (by rw [hy]; simp [DataW.weights, Try.underlying36, DataW.weightsEach]; simp [hm]))
    obtain ⟨A5, c5, k5, e5, l5, i5, m5⟩ := ints_of g5
    simp at e0 e1 e2 e3 e4 e5
    subst e0 e1 e2 e3 e4 e5
    exact ⟨⟨z0, z1, s2, s3, A4, c4, b4, A5, c5, k5⟩, rfl, i64_of_wf hz0, i64_of_wf hz1, by simpa using q2, by simpa using q3, l4, i4, m4, n4, l5, i5, m5⟩
set_option maxRecDepth 20000 in
theorem acts_of_arg {H : Type} {encH : TypeId × Value → H} {W : World} {base : Nat} {held : Bool} {fuel : Nat} {a : Option Addr} {len cap : Nat} {x : DataW H × List MemPlace} (h : DataW.trod encH Try.prog W base (fun _ => true) held fuel 22 [.slice a len cap] = some x) (hW : ∀ m ∈ x.1.weights Try.prog 22, m ≤ reachBytes) :
    ∃ l : List Ac, l.length = len ∧ l.length ≤ cap ∧ l.length ≤ maxLen ∧ CellsG enA W a cap l ∧ ∀ a ∈ l, GoodA W a :=
  vals_of_arg_sized 22 36 Try.underlying22 6 (by kernel_rfl) (by omega) enA (fun _ => rfl) (GoodA W) act_read h hW
set_option maxRecDepth 20000 in
theorem act_of_arg {H : Type} {encH : TypeId × Value → H} {W : World} {base : Nat} {held : Bool} {r : Reach} {b0 : Nat} {v : Value} {d : DataW H} {p : List MemPlace} (hv : Value.okWide Try.prog W r b0 36 v) (h : DataW.Trod encH Try.prog W base (fun _ => true) held 36 v d p) (hw : ∀ m ∈ d.weights Try.prog 36, m ≤ reachBytes) : ∃ a, v = .agg (enA a).toArray ∧ GoodA W a := by
  obtain ⟨cs, rfl, hsz⟩ := okWide_struct Try.underlying36 hv
  obtain ⟨fuel, hf⟩ := h
  have h6 : Try.prog.cellsOf 36 = 6 := by kernel_rfl
  obtain ⟨a, h1, h2⟩ := act_read fuel _ _ hf hw (by simp [Value.cells]; omega)
  exact ⟨a, by rw [← h1]; simp [Value.cells], h2⟩
end Go.Proofs.Ytpnlgmnlanoncaa
