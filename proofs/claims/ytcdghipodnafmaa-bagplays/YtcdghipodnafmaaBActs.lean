/-
  An argument that is a call, and one that is a list of calls: its fields, with the bytes behind them; contract of the law's much. Conditions: the bounds of an input.
-/
import Derived.Test.YtcdghipodnafmaaBNew
import Derived.Test.YtcdghipodnafmaaGS
import Derived.Lib.SmallJoins
namespace Go.Proofs.Ytcdghipodnafmaa
open Go.ChangeShapes Go.WideShapes Go.ChangeAt Go.RowKit Go.Joins
set_option linter.unusedVariables false

def I64 (n : Int) : Prop := -9223372036854775808 ≤ n ∧ n ≤ 9223372036854775807
theorem i64_of_wf {n : Int} (h : (Lit.int .i64 n).wf = true) : I64 n := by
  have := bounds_i64 h
  exact ⟨by omega, by omega⟩
/-- A call: what it does, its numbers, its bool, its bytes with where they lie. -/
structure Ac where
  do_ : Int
  i : Int
  j : Int
  up : Bool
  bA : Option Addr
  bc : Nat
  b : List Int
def enA (a : Ac) : List Value := [.int .i64 a.do_, .int .i64 a.i, .int .i64 a.j, .bool a.up, .slice a.bA a.b.length a.bc]
structure GoodA (W : World) (a : Ac) : Prop where
  do_ : I64 a.do_
  i : I64 a.i
  j : I64 a.j
  b : Lies W a.bA a.bc a.b
  isB : IsB a.b
  bl : a.b.length ≤ reachBytes
  bcap : a.b.length ≤ a.bc
theorem bytes_of {H : Type} {encH : TypeId × Value → H} {W : World} {base : Nat} {held : Bool} {fuel : Nat} {cs : List Value} {x : DataW H × List MemPlace} (h : DataW.trod encH Try.prog W base (fun _ => true) held fuel 37 cs = some x) (hw : ∀ m ∈ x.1.weights Try.prog 37, m ≤ reachBytes) :
    ∃ A c b, cs = [.slice A (b : List Int).length c] ∧ Lies W A c b ∧ IsB b ∧ b.length ≤ reachBytes ∧ b.length ≤ c := by
  have h2 := h
  rcases open_ints Try.underlying37 Try.underlying5 (by kernel_rfl) h with ⟨rfl, _⟩ | ⟨a, l, c, zs, rfl, _, hl, hm, hz, hx, hcell, hwz⟩
  · exact ⟨none, 0, [], rfl, Lies.nil _, by intro x hx; simp at hx, by simp, by simp⟩
  · have hz' : zs.length = c := by simpa using hz
    obtain ⟨b, h1, h3, h4, h5, h6⟩ := bytes_of_row (w := W) (a := some a) (len := l) (cap := c) (zs := zs) (.inr ⟨a, rfl, hl, hm, hz', hcell, hwz⟩)
    refine ⟨some a, c, b, by rw [h1], h5, h6, ?_, h3⟩
    have := hw _ (by rw [hx]; simp only [DataW.weights, Try.underlying37]; exact List.mem_cons_self)
    rw [h1]
    simp only [lits, List.length_map, List.length_take, List.length_drop] at this
    rw [show Try.prog.bytesOf 5 = 1 by kernel_rfl, Nat.mul_one] at this
    have hl2 : l ≤ zs.length := by omega
    rw [Nat.min_eq_left hl2] at this
    exact Nat.le_trans (Nat.le_add_right _ _) this
set_option maxRecDepth 20000 in
theorem act_read {H : Type} {encH : TypeId × Value → H} {W : World} {base : Nat} {held : Bool} (n : Nat) (cs : List Value) (y : DataW H × List MemPlace) (h : DataW.trod encH Try.prog W base (fun _ => true) held n 39 cs = some y) (hw : ∀ m ∈ y.1.weights Try.prog 39, m ≤ reachBytes) (hl : cs.length = 5) : ∃ a, cs = enA a ∧ GoodA W a := by
  obtain ⟨xs, m, _, hy, _, hlen, hf⟩ := DataW.trod_struct Try.underlying39 h
  match xs, hlen, cs, hl with
  | [y0, y1, y2, y3, y4], _, [u0, u1, u2, u3, u4], _ =>
    have g0 := hf 0 _ rfl
    have g1 := hf 1 _ rfl
    have g2 := hf 2 _ rfl
    have g3 := hf 3 _ rfl
    have g4 := hf 4 _ rfl
    rw [show Try.prog.cellsOf _ = 1 by kernel_rfl] at g0 g1 g2 g3 g4
    obtain ⟨z0, e0, _, hz0⟩ := DataW.trod_int Try.underlying3 g0
    obtain ⟨z1, e1, _, hz1⟩ := DataW.trod_int Try.underlying3 g1
    obtain ⟨z2, e2, _, hz2⟩ := DataW.trod_int Try.underlying3 g2
    obtain ⟨z3, e3, _⟩ := DataW.trod_bool Try.underlying4 g3
    obtain ⟨A4, c4, b4, e4, l4, i4, m4, n4⟩ := bytes_of g4 (fun m hm => hw m (by rw [hy]; simp [DataW.weights, Try.underlying39, DataW.weightsEach]; simp [hm]))
    simp at e0 e1 e2 e3 e4
    subst e0 e1 e2 e3 e4
    exact ⟨⟨z0, z1, z2, z3, A4, c4, b4⟩, rfl, i64_of_wf hz0, i64_of_wf hz1, i64_of_wf hz2, l4, i4, m4, n4⟩
set_option maxRecDepth 20000 in
theorem acts_of_arg {H : Type} {encH : TypeId × Value → H} {W : World} {base : Nat} {held : Bool} {fuel : Nat} {a : Option Addr} {len cap : Nat} {x : DataW H × List MemPlace} (h : DataW.trod encH Try.prog W base (fun _ => true) held fuel 22 [.slice a len cap] = some x) (hW : ∀ m ∈ x.1.weights Try.prog 22, m ≤ reachBytes) :
    ∃ l : List Ac, l.length = len ∧ l.length ≤ cap ∧ l.length ≤ maxLen ∧ CellsG enA W a cap l ∧ ∀ a ∈ l, GoodA W a :=
  vals_of_arg_sized 22 39 Try.underlying22 5 (by kernel_rfl) (by omega) enA (fun _ => rfl) (GoodA W) act_read h hW
set_option maxRecDepth 20000 in
theorem act_of_arg {H : Type} {encH : TypeId × Value → H} {W : World} {base : Nat} {held : Bool} {r : Reach} {b0 : Nat} {v : Value} {d : DataW H} {p : List MemPlace} (hv : Value.okWide Try.prog W r b0 39 v) (h : DataW.Trod encH Try.prog W base (fun _ => true) held 39 v d p) (hw : ∀ m ∈ d.weights Try.prog 39, m ≤ reachBytes) : ∃ a, v = .agg (enA a).toArray ∧ GoodA W a := by
  obtain ⟨cs, rfl, hsz⟩ := okWide_struct Try.underlying39 hv
  obtain ⟨fuel, hf⟩ := h
  have h6 : Try.prog.cellsOf 39 = 5 := by kernel_rfl
  obtain ⟨a, h1, h2⟩ := act_read fuel _ _ hf hw (by simp [Value.cells]; omega)
  exact ⟨a, by rw [← h1]; simp [Value.cells], h2⟩
theorem elA : El 39 5 56 (.agg #[.int .i64 0, .int .i64 0, .int .i64 0, .bool false, .slice none 0 0]) enA := ⟨by kernel_rfl, rfl, by decide, fun _ => rfl, fun x u hu => by simp [enA] at hu; rcases hu with rfl | rfl | rfl | rfl | rfl <;> rfl⟩
/-- The cells of call i, in the world and later. -/
theorem acts_at {w : World} {A : Option Addr} {c : Nat} {l : List Ac} (h : CellsG enA w A c l) {i : Nat} {a : Ac} (hi : l[i]? = some a) :
    ∃ b o, A = some ⟨b, o, none⟩ ∧ b < w.heap.size ∧ ∀ w' : World, w'.heap[b]? = w.heap[b]? → w'.cell? ⟨b, o + i * 5, none⟩ = some (.int .i64 a.do_) ∧ w'.cell? ⟨b, o + i * 5 + 1, none⟩ = some (.int .i64 a.i) ∧ w'.cell? ⟨b, o + i * 5 + 2, none⟩ = some (.int .i64 a.j) ∧ w'.cell? ⟨b, o + i * 5 + 3, none⟩ = some (.bool a.up) ∧ w'.cell? ⟨b, o + i * 5 + 4, none⟩ = some (.slice a.bA a.b.length a.bc) := by
  have hl : i < l.length := (List.getElem?_eq_some_iff.1 hi).1
  obtain ⟨b, o, hA, hbs, hc⟩ := h.at_ elA (by omega)
  refine ⟨b, o, hA, hbs, fun w' hk => ?_⟩
  have g := fun j hj => (World.cell?_of_block (a := ⟨b, o + (i * 5 + j), none⟩) hk).trans (hc i j a hi hj)
  exact ⟨g 0 (by omega), g 1 (by omega), g 2 (by omega), g 3 (by omega), g 4 (by omega)⟩
def MuchR (l : List Ac) (w : World) (e : Ending) (w' : World) : Prop := ∃ r, e = .returned (.bool r) ∧ (r = false → l.length ≤ 150 ∧ ∀ a ∈ l, a.b.length ≤ 5000) ∧ w = w'
def RelM (l : List Ac) (w : World) (n i : Value) (wr : World) : Prop := ∃ (k q : Nat), n = .int .i64 q ∧ i = .int .i64 k ∧ k ≤ l.length ∧ k ≤ 150 ∧ q ≤ 5000 ∧ (∀ a ∈ l.take k, a.b.length ≤ 5000) ∧ wr = w
set_option maxRecDepth 20000 in
set_option maxHeartbeats 2000000 in
theorem much_calls (A : Option Addr) (c : Nat) (l : List Ac) (w : World) (h : CellsG enA w A c l) (hg : ∀ a ∈ l, GoodA w a) (hl : l.length ≤ maxLen) : Calls Try.prog 6 #[.slice A l.length c] w (MuchR l w) := by
  have HC := Lib.hid h
  have HG := Lib.hid hg
  unfold maxLen at hl
  obtain ⟨n, hn⟩ : ∃ n, n = l.length := ⟨_, rfl⟩
  have HN := Lib.hid hn
  rw [← hn] at hl ⊢
  clear h hg hn
  go_enter Try.func6, Try.ntmps6
  go_wp2
  go_loopw [3, 4] (RelM l w) (fun _ i _ => 150 - (intOf i).toNat)
  case atStart => exact ⟨0, 0, rfl, rfl, by omega, by omega, by omega, by simp, rfl⟩
  case round =>
    obtain ⟨k, q, rfl, rfl, hk, hk2, hq, hall, rfl⟩ := hrel
    rw [← HN.out] at hk
    have HALL := Lib.hid hall
    clear hall
    by_cases hlt : k < n
    · have hlti : (k : Int) < (n : Int) := by omega
      by_cases h150 : k < 150
      · have h150i : (k : Int) < 150 := by omega
        obtain ⟨a, ha⟩ : ∃ a, l[k]? = some a := ⟨l[k]'(by rw [← HN.out]; exact hlt), by simp⟩
        obtain ⟨b, o, hA, hbs, hcc⟩ := acts_at HC.out ha
        obtain ⟨_, _, _, _, g4⟩ := hcc _ rfl
        subst hA
        have hga := (HG.out a (List.mem_of_getElem? ha)).bl
        have hreach : reachBytes = 140737488351232 := rfl
        rw [hreach] at hga
        obtain ⟨x, hx⟩ : ∃ x, x = a.b.length := ⟨_, rfl⟩
        rw [← hx] at g4 hga
        have HA := Lib.hid ha
        have HX := Lib.hid hx
        have hw0 : wrap64 ((q : Int) + (x : Int)) = (q : Int) + (x : Int) := by unfold wrap64; omega
        have hqx : (q : Int) + (x : Int) = ((q + x : Nat) : Int) := by push_cast; rfl
        rw [hqx] at hw0
        have hwq : wrap64 ((q : Int) + (x : Int)) = ((q + x : Nat) : Int) := by rw [hqx]; exact hw0
        by_cases hbig : 5000 < q + x
        · have hd : decide ((5000 : Int) < ((q + x : Nat) : Int)) = true := by simp only [decide_eq_true_eq]; omega
          generalize ((q + x : Nat) : Int) = s at hwq hd
          clear ha hx hcc hga hw0 hqx hbig hq hreach
          go_wp2
          go_ret
          exact ⟨true, rfl, fun h => (by cases h), rfl⟩
        · have hd : decide ((5000 : Int) < ((q + x : Nat) : Int)) = false := by simp only [decide_eq_false_iff_not]; omega
          have HQX := Lib.hid (show q + x ≤ 5000 by omega)
          obtain ⟨s, hs⟩ : ∃ s : Int, s = ((q + x : Nat) : Int) := ⟨_, rfl⟩
          rw [← hs] at hwq hd
          have HS := Lib.hid hs
          clear ha hx hcc hga hw0 hqx hbig hq hreach hs
          go_wp2
          go_roundw
          case rel =>
            refine ⟨k + 1, q + x, by rw [hwq, HS.out], by go_num, by rw [← HN.out]; omega, by omega, HQX.out, ?_, rfl⟩
            intro y hy
            rw [List.take_add_one, HA.out] at hy
            rcases List.mem_append.1 hy with h1 | h1
            · exact HALL.out y h1
            · simp at h1
              subst h1
              have := HQX.out
              have := HX.out
              omega
          case measure => simp [intOf]; omega
      · have h150i : decide ((k : Int) < 150) = false := by simp; omega
        have HK := Lib.hid (show k = 150 by omega)
        by_cases hbig : 150 < n
        · have hd : decide ((150 : Int) < (n : Int)) = true := by simp; omega
          go_wp2
          go_ret
          exact ⟨true, rfl, fun h => (by cases h), rfl⟩
        · omega
    · have hd0 : decide ((k : Int) < (n : Int)) = false := by simp; omega
      have hd : decide ((150 : Int) < (n : Int)) = false := by simp; omega
      have HKN := Lib.hid (show k = n by omega)
      have HK2 := Lib.hid hk2
      have hd3 : ¬ (150 < n) := by omega
      clear hk hk2
      go_wp2
      go_ret
      refine ⟨false, rfl, fun _ => ⟨by rw [← HN.out, ← HKN.out]; exact HK2.out, fun a ha => HALL.out a ?_⟩, rfl⟩
      rw [List.take_of_length_le (by rw [← HN.out, HKN.out]; exact Nat.le_refl _)]
      exact ha
end Go.Proofs.Ytcdghipodnafmaa
