/-
  Contracts of rec.readText, getItems over strings, GetList and of the document texts and GetList. Conditions: slices of at most a million bytes, each from 0 to 255.
  TYPES BY NUMBER: 22 23 48
-/
import Derived.Test.YtimcolanmbklpaaRPut
import Derived.Test.YtimcolanmbklpaaVText
namespace Go.Proofs.Ytimcolanmbklpaa
open Go.ChangeShapes Go.WideShapes Go.ChangeAt Go.RowKit
set_option linter.unusedVariables false

/-- Items read one after the other, behind those of pre. -/
def getFrom {α : Type} (rd : Int → α × Int × Int) (pre : List α) : Nat → Int → List α × Int × Int
  | 0, i => (pre, i, 0)
  | f + 1, i => if (rd i).2.2 = 0 then getFrom rd (pre ++ [(rd i).1]) f (rd i).2.1 else ([], 0, (rd i).2.2)
theorem getFrom_step {α : Type} {rd : Int → α × Int × Int} {pre : List α} {f : Nat} {i x : Int} {s : α} (h : rd i = (s, x, 0)) : getFrom rd pre (f + 1) i = getFrom rd (pre ++ [s]) f x := by
  conv => lhs; unfold getFrom
  rw [h]; simp
theorem getFrom_stop {α : Type} {rd : Int → α × Int × Int} {pre : List α} {f : Nat} {i x e : Int} {s : α} (h : rd i = (s, x, e)) (he : e ≠ 0) : getFrom rd pre (f + 1) i = ([], 0, e) := by
  conv => lhs; unfold getFrom
  rw [h]; simp [he]
/-- .. with their number, m a piece, ahead. -/
def getAll {α : Type} (rd : Int → α × Int × Int) (m : Nat) (r : Int × Int × Int) : List α × Int × Int :=
  if r.2.2 = 0 then if 65536 < r.1 then ([], 0, 9) else getFrom rd [] (r.1.toNat * m) r.2.1 else ([], 0, r.2.2)
/-- One text as a string. -/
def rdS (b : List Int) (i : Int) : ByteArray × Int × Int := (str (getT b i 65536).1, (getT b i 65536).2)

/-- What getting a list answers: a slice of the call own, and two numbers. -/
def GotG {α : Type} (e : TypeId) (sz : Nat) (en : α → List Value) (w : World) (r : List α × Int × Int) (x : Ending) (w' : World) : Prop :=
  ∃ A c, x = .returned (.tuple #[.slice A r.1.length c, .int .i64 r.2.1, .int .i64 r.2.2]) ∧ OwnG e sz en w.heap.size w' A c r.1 ∧ Below w.heap.size w w'
def triS (r : ByteArray × Int × Int) : Value := .tuple #[.string r.1, .int .i64 r.2.1, .int .i64 r.2.2]

theorem readText_calls (A : Option Addr) (c : Nat) (l : List Int) (i : Int) (w : World) (h : Lies w A c l) (hb : IsB l) (hc : l.length ≤ c) (hl : l.length ≤ 1000000) :
    Calls Try.prog 32 #[.slice A l.length c, .int .i64 i] w fun e w' => e = .returned (triS (rdS l i)) ∧ Below w.heap.size w w' := by
  have HP := Lib.hid (getText_calls A c l i 65536 w h hb hc hl (by omega))
  unfold rdS triS
  clear h hb
  unfold triT at HP
  generalize getT l i 65536 = R at *
  go_enter Try.func32, Try.ntmps32
  go_wp2_with (go_at_call 43; refine HP.out.mono ?_; rintro e w1 ⟨rfl, hb1⟩)
  go_ret3
  exact ⟨rfl, hb1⟩

/-- The loop of getItems: k items have been read. -/
def RelG {α : Type} (e : TypeId) (sz : Nat) (en : α → List Value) (rd : Int → α × Int × Int) (w : World) (n : Nat) (R : List α × Int × Int) (v x i : Value) (wr : World) : Prop :=
  ∃ (k : Nat) (A : Option Addr) (c : Nat) (xs : List α) (y : Int), i = .int .i64 k ∧ v = .slice A xs.length c ∧ x = .int .i64 y ∧ k ≤ n ∧ xs.length = k ∧ OwnG e sz en w.heap.size wr A c xs ∧ Below w.heap.size w wr ∧ R = getFrom rd xs (n - k) y

set_option maxRecDepth 20000 in
set_option maxHeartbeats 2000000 in
theorem getItemsS_calls (A : Option Addr) (c : Nat) (l : List Int) (i : Int) (w : World) (h : Lies w A c l) (hb : IsB l) (hc : l.length ≤ c) (hl : l.length ≤ 1000000) :
    Calls Try.prog 31 #[.slice A l.length c, .int .i64 i, .func (.func 32) #[] #[]] w (GotG 9 1 enS w (getAll (rdS l) 1 (getS l i))) := by
  obtain ⟨n0, n1, x0, x1⟩ := getS_range l hb i
  obtain ⟨n, x, e, hg⟩ : ∃ n x e, getS l i = (n, x, e) := ⟨_, _, _, rfl⟩
  have HC := Lib.hid (get_calls A c l i w h hb hc hl)
  rw [hg] at HC n0 n1 x0 x1
  simp only at n0 n1 x0 x1
  have HG := Lib.hid hg
  have HT := Lib.hid (fun (j : Int) (W : World) (hW : Below w.heap.size w W) => readText_calls A c l j W (h.below hW) hb hc hl)
  have HR := Lib.hid (show getAll (rdS l) 1 (getS l i) = if e = 0 then if 65536 < n then ([], 0, 9) else getFrom (rdS l) [] n.toNat x else ([], 0, e) by unfold getAll; rw [hg, Nat.mul_one])
  clear h hb hg
  by_cases he : e = 0
  · subst he
    by_cases hn : 65536 < n
    · have HR1 := Lib.hid (show getAll (rdS l) 1 (getS l i) = ([], 0, 9) by rw [HR.out]; simp [hn])
      clear HR
      go_enter Try.func31, Try.ntmps31
      go_wp2_with (go_at_call 42; refine HC.out.mono ?_; unfold tri; rintro e' w1 ⟨rfl, hb1⟩)
      go_ret3
      rw [HR1.out]
      exact ⟨none, 0, rfl, OwnG.nil _ _, hb1⟩
    · have HR1 := Lib.hid (show getAll (rdS l) 1 (getS l i) = getFrom (rdS l) [] n.toNat x by rw [HR.out]; simp [hn])
      clear HR
      have hn2 : n ≤ 65536 := by omega
      obtain ⟨q, hq⟩ : ∃ q : Nat, n = q := Int.eq_ofNat_of_zero_le n0
      rw [hq, Int.toNat_natCast] at HR1
      have hq2 : q ≤ 65536 := by omega
      have HQ := Lib.hid hq
      clear hq
      obtain ⟨R, hR⟩ : ∃ R, R = getAll (rdS l) 1 (getS l i) := ⟨_, rfl⟩
      rw [← hR] at HR1 ⊢
      clear hR
      go_enter Try.func31, Try.ntmps31
      go_wp2_with (go_at_call 42; refine HC.out.mono ?_; unfold tri; rintro e' w1 ⟨rfl, hb1⟩)
      go_loopw [6, 7, 27] (RelG 9 1 enS (rdS l) w q R) (fun _ _ i _ => q - (intOf i).toNat)
      case atStart => exact ⟨0, none, 0, [], x, rfl, rfl, rfl, by omega, rfl, OwnG.nil _ _, hb1, HR1.out⟩
      case round =>
        obtain ⟨k, A2, c2, xs, y, rfl, rfl, rfl, hk, hxl, hown2, hb2, hres⟩ := hrel
        have HO2 := Lib.hid hown2
        have HRes := Lib.hid hres
        have HXL := Lib.hid hxl
        have hx5 : xs.length ≤ 65536 := by omega
        clear hown2 hres hxl
        by_cases hlt : k < q
        · have hkn : (k : Int) < n := by rw [HQ.out]; omega
          obtain ⟨s, z, e, hrd⟩ : ∃ s z e, rdS l y = (s, z, e) := ⟨_, _, _, rfl⟩
          have HW := Lib.hid (HT.out y wr hb2)
          rw [hrd] at HW
          have hf : q - k = q - (k + 1) + 1 := by omega
          by_cases he : e = 0
          · subst he
            have HN := Lib.hid (show R = getFrom (rdS l) (xs ++ [s]) (q - (k + 1)) z by rw [HRes.out, hf, getFrom_step hrd])
            clear hrd hf
            unfold triS at HW
            go_wp2_with fail
            refine HW.out.mono ?_
            rintro e w3 ⟨rfl, hb3⟩
            have hb4 := Below.on hb2 hb3
            have hO3 := Lib.hid ((HO2.out.below hb3).alloc (.cells #[.string s] 9))
            have hb5 : Below w.heap.size w (w3.alloc (.cells #[.string s] 9)) := hb4.alloc hb4.size _
            go_wp2_with (at_builtin; go_must (refine wpList_append_vals elS rfl _ _ 22 Try.underlying22 rfl w.heap.size A2 c2 xs rfl hO3.out (some ⟨w3.heap.size, 0, none⟩) 1 [s] rfl (cells_one_val elS w3 s #[.string s] rfl) (by simp; omega) (by omega) hb5.size ?_); intro A7 c7 w7 R7 hR7 hown7 hgrow7; have hb7 := OwnG.grow hO3.out hb5 hgrow7 hb5.size)
            go_roundw
            case rel =>
              refine ⟨k + 1, A7, c7, R7, z, by go_num, rfl, rfl, by omega, ?_, hown7, hb7, ?_⟩
              · rw [hR7.out, List.length_append, HXL.out]; rfl
              · rw [HN.out, hR7.out]
            case measure => simp [intOf]; omega
          · have hne : (e == 0) = false := by simpa using he
            have HN := Lib.hid (show R = ([], 0, e) by rw [HRes.out, hf, getFrom_stop hrd he])
            clear hrd he hf
            unfold triS at HW
            go_wp2_with fail
            refine HW.out.mono ?_
            rintro e w3 ⟨rfl, hb3⟩
            go_wp2
            go_ret3
            rw [HN.out]
            exact ⟨none, 0, rfl, OwnG.nil _ _, Below.on hb2 hb3⟩
        · have hkn : ¬ (k : Int) < n := by rw [HQ.out]; omega
          have HN := Lib.hid (show R = (xs, y, 0) by rw [HRes.out, show q - k = 0 by omega]; rfl)
          go_wp2
          go_ret3
          rw [HN.out]
          exact ⟨A2, c2, rfl, HO2.out, hb2⟩
  · have hne : (e == 0) = false := by simpa using he
    have HR1 := Lib.hid (show getAll (rdS l) 1 (getS l i) = ([], 0, e) by rw [HR.out]; simp [he])
    clear HR he
    go_enter Try.func31, Try.ntmps31
    go_wp2_with (go_at_call 42; refine HC.out.mono ?_; unfold tri; rintro e' w1 ⟨rfl, hb1⟩)
    go_ret3
    rw [HR1.out]
    exact ⟨none, 0, rfl, OwnG.nil _ _, hb1⟩

theorem getList_calls (A : Option Addr) (c : Nat) (l : List Int) (i : Int) (w : World) (h : Lies w A c l) (hb : IsB l) (hc : l.length ≤ c) (hl : l.length ≤ 1000000) :
    Calls Try.prog 15 #[.slice A l.length c, .int .i64 i] w (GotG 9 1 enS w (getAll (rdS l) 1 (getS l i))) := by
  have HP := Lib.hid (getItemsS_calls A c l i w h hb hc hl)
  clear h hb
  generalize getAll (rdS l) 1 (getS l i) = R at *
  go_enter Try.func15, Try.ntmps15
  go_wp2_with (go_at_call 31; refine HP.out.mono ?_; rintro e w1 ⟨A1, c1, rfl, hown1, hb1⟩)
  go_ret3
  exact ⟨A1, c1, rfl, hown1, hb1⟩
end Go.Proofs.Ytimcolanmbklpaa
