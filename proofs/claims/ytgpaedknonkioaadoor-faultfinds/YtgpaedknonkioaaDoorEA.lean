/-
  Contracts of fault.addNumbers, calmly's deferred function. Conditions: an error that New, In and Both made, of at most a million bytes of text.
-/
import Derived.Test.YtgpaedknonkioaaDoorEN
import Derived.Test.YtgpaedknonkioaaDoorEG
import Derived.Defers
import Derived.Recover
namespace Go.Proofs.YtgpaedknonkioaaDoor
open Go.ChangeShapes Go.WideShapes Go.ChangeAt Go.RowKit
set_option linter.unusedVariables false

def enN (n : Int) : List Value := [.int .i64 n]
theorem elN : El 39 1 8 (.int .i64 0) enN := { info := by kernel_rfl, zero := rfl, pos := by decide, len := fun _ => rfl, one := fun x u hu => by simp [enN] at hu; subst hu; rfl }

/-- (*joinError).Unwrap. -/
theorem joinUnwrap_calls (p q c : Nat) (w : World) (h : w.cell? ⟨p, 0, none⟩ = some (.slice (some ⟨q, 0, none⟩) 2 c)) : Calls Tryd.prog 83 #[.pointer (some ⟨p, 0, none⟩)] w fun e w' => e = .returned (.slice (some ⟨q, 0, none⟩) 2 c) ∧ w' = w := by
  go_enter Tryd.func83, Tryd.ntmps83
  go_wp2
  go_ret
  exact ⟨rfl, rfl⟩
/-- (Slip).Unwrap. -/
theorem slipUnwrap_calls (s : ByteArray) (no : Int) (u : Value) (w : World) : Calls Tryd.prog 78 #[.agg #[.string s, .int .i64 no, u]] w fun e w' => e = .returned u ∧ Below w.heap.size w w' := by
  go_enter Tryd.func78, Tryd.ntmps78
  go_wp2
  go_ret
  exact ⟨rfl, (Below.refl _ _).alloc (Nat.le_refl _) _⟩

/-- What a list of numbers of the call own becomes. -/
def Nums (B : Nat) (w : World) (r : List Int) (e : Ending) (w' : World) : Prop :=
  ∃ A c, e = .returned (.slice A r.length c) ∧ OwnG 39 1 enN B w' A c r ∧ Below B w w' ∧ Lib.OthersKept 39 none w w'

set_option maxRecDepth 100000 in
set_option maxHeartbeats 2000000 in
theorem addNums_num (n : Int) (B : Nat) (A : Option Addr) (c : Nat) (l : List Int) (w : World) (h : OwnG 39 1 enN B w A c l) (hl : l.length + 1 ≤ 100000000) (hB : B ≤ w.heap.size) :
    Calls Tryd.prog 25 #[.slice A l.length c, .iface 39 (.int .i64 n)] w (Nums B w (l ++ [n])) := by
  have hO := Lib.hid (h.alloc (.cells #[.int .i64 n] 39))
  have hd : Below B w (w.alloc (.cells #[.int .i64 n] 39)) := (Below.refl _ _).alloc hB _
  clear h
  have k1 := n39
  go_enter Tryd.func25, Tryd.ntmps25
  go_wp2_with (at_builtin; go_must (refine wpList_append_vals elN rfl _ _ 34 Tryd.underlying34 rfl B A c l rfl hO.out (some ⟨w.heap.size, 0, none⟩) 1 [n] rfl (cells_one_val elN w n #[.int .i64 n] rfl) (by simp; omega) (by omega) (Nat.le_trans hB hd.size) ?_); intro A3 c3 w3 R3 hR3 hown3 hgrow3)
  go_ret
  obtain rfl := hR3.out
  exact ⟨_, _, rfl, hown3, hO.out.grow hd hgrow3 (Nat.le_trans hB hd.size), (kept_alloc 39 w _).trans (kept_grown hgrow3 fun g hg => (hO.out.row g hg).2)⟩

set_option maxRecDepth 100000 in
set_option maxHeartbeats 2000000 in
theorem addNums_stage (s : ByteArray) (no : Int) (ty : TypeId) (x : Value) (R : List Int) (B : Nat) (A : Option Addr) (c : Nat) (l : List Int) (w : World) (h : OwnG 39 1 enN B w A c l) (hB : B ≤ w.heap.size)
    (HU : Hid (∀ W, Below w.heap.size w W → OwnG 39 1 enN B W A c l → Calls Tryd.prog 25 #[.slice A l.length c, .iface ty x] W (Nums B W R))) :
    Calls Tryd.prog 25 #[.slice A l.length c, .iface 45 (.agg #[.string s, .int .i64 no, .iface ty x])] w (Nums B w R) := by
  have hd : Below w.heap.size w (w.alloc (.cells #[.string s, .int .i64 no, .iface ty x] 45)) := (Below.refl _ _).alloc (Nat.le_refl _) _
  have HC := Lib.hid (HU.out _ hd (h.alloc _))
  clear h HU
  have k1 := n45
  have k2 := s45
  go_enter Tryd.func25, Tryd.ntmps25
  go_wp2_with (go_at_call 25; refine HC.out.mono ?_; rintro e w1 ⟨A1, c1, rfl, ho, hb, hk⟩)
  go_ret
  exact ⟨A1, c1, rfl, ho, (hd.mono hB).trans hb, (kept_alloc 39 w _).trans hk⟩

set_option maxRecDepth 100000 in
set_option maxHeartbeats 2000000 in
theorem addNums_two (p q d : Nat) (ua ub : Value) (R1 R2 : List Int) (B : Nat) (A : Option Addr) (c : Nat) (l : List Int) (w : World) (hB : B ≤ w.heap.size)
    (h0 : w.cell? ⟨p, 0, none⟩ = some (.slice (some ⟨q, 0, none⟩) 2 d)) (h1 : w.cell? ⟨q, 0, none⟩ = some ua) (h2 : w.cell? ⟨q, 1, none⟩ = some ub) (hq : q < B)
    (HA : Hid (Calls Tryd.prog 25 #[.slice A l.length c, ua] w (Nums B w R1)))
    (HU : Hid (∀ W A1 c1, Below B w W → OwnG 39 1 enN B W A1 c1 R1 → Calls Tryd.prog 25 #[.slice A1 R1.length c1, ub] W (Nums B W R2))) :
    Calls Tryd.prog 25 #[.slice A l.length c, .iface 86 (.pointer (some ⟨p, 0, none⟩))] w (Nums B w R2) := by
  have HJ := Lib.hid (joinUnwrap_calls p q d w h0)
  have HB := Lib.hid (fun (W : World) (hb : Below B w W) => (hb.cell (p := ⟨q, 1, none⟩) hq).trans h2)
  clear h2 h0
  have k1 := n86
  have k2 := s86
  have k3 := sev86
  have k4 := joinUn
  go_enter Tryd.func25, Tryd.ntmps25
  go_wp2_with (go_at_call 83; refine HJ.out.mono ?_; rintro e w1 ⟨rfl, rfl⟩)
  refine wp_loop_rounds 3 ?_
  rw [rounds_succ]
  go_wp2_with (go_at_call 25; refine HA.out.mono ?_; rintro e w1 ⟨A1, c1, rfl, ho, hb, hk⟩)
  have hB1 := HB.out w1 hb
  have HC := Lib.hid (HU.out w1 A1 c1 hb ho)
  clear HA HU HB
  go_wp2_with fail
  rw [rounds_succ]
  go_wp2_with (go_at_call 25; refine HC.out.mono ?_; rintro e w2 ⟨A2, c2, rfl, ho2, hb2, hk2⟩)
  rw [rounds_succ]
  go_wp2
  go_ret
  exact ⟨A2, c2, rfl, ho2, hb.trans hb2, hk.trans hk2⟩

/-- addNumbers: the numbers of the error behind those that were there. -/
theorem addNums_calls (w0 : World) : ∀ (t : Er) (v : Value) (w : World) (A : Option Addr) (c : Nat) (l : List Int), IsE w0 t v → Below w0.heap.size w0 w → OwnG 39 1 enN w0.heap.size w A c l → l.length + t.wt ≤ 100000000 →
    Calls Tryd.prog 25 #[.slice A l.length c, v] w (Nums w0.heap.size w (l ++ t.all))
  | .num n, v, w, A, c, l, hv, hb, ho, hl => by
    obtain rfl := hv
    exact addNums_num n _ A c l w ho (by simp only [Er.wt] at hl; omega) hb.size
  | .stage s no t, v, w, A, c, l, ⟨u, hv, hu⟩, hb, ho, hl => by
    subst hv
    obtain ⟨ty, x, rfl⟩ := hu.iface
    exact addNums_stage s no ty x _ _ A c l w ho hb.size (Lib.hid fun W hW hoW => addNums_calls w0 t _ W A c l hu (hb.trans (hW.mono hb.size)) hoW (by simp only [Er.wt] at hl; omega))
  | .two a b, v, w, A, c, l, ⟨p, q, d, ua, ub, hv, k0, k1, k2, ka, kb⟩, hb, ho, hl => by
    subst hv
    simp only [Er.wt] at hl
    have hla := Er.all_le a
    have e0 := (hb.cell (block_lt_of_cell k0)).trans k0
    have e1 := (hb.cell (block_lt_of_cell k1)).trans k1
    have e2 := (hb.cell (block_lt_of_cell k2)).trans k2
    refine addNums_two p q d ua ub (l ++ a.all) (l ++ (Er.two a b).all) _ A c l w hb.size e0 e1 e2 (block_lt_of_cell k1) (Lib.hid (addNums_calls w0 a ua w A c l ka hb ho (by omega))) (Lib.hid fun W A1 c1 hW hoW => ?_)
    have := addNums_calls w0 b ub W A1 c1 (l ++ a.all) kb (hb.trans hW) hoW (by rw [List.length_append]; omega)
    rw [List.append_assoc] at this
    exact this
  termination_by t => t

/-- Nothing in nil. -/
theorem addNums_nil (A : Option Addr) (c n : Nat) (w : World) : Calls Tryd.prog 25 #[.slice A n c, .nilIface] w fun e w' => e = .returned (.slice A n c) ∧ w' = w := by
  have k1 := n0
  have k2 := s0
  have k3 := sev0
  go_enter Tryd.func25, Tryd.ntmps25
  go_wp2
  go_ret
  exact ⟨rfl, rfl⟩

/-- calmly's deferred function, where nothing panics. -/
theorem calm_idle (w : World) : CallsD Tryd.prog 41 #[] .returning w fun e u' w' => e = .returned (.tuple #[]) ∧ u' = .returning ∧ w' = w := by
  refine callsD_of_wpS Tryd.func41 rfl fun c₀ cs hu => ?_
  apply wpS_region
  simp [wpOpsS, go_sem, recoverD, hu, Tryd.ntmps41, bodyPostS, results, Tryd.results41]
  cases c₀
  simp_all

theorem calmly24 (a b : Value) (w : World) (Q : World → Prop) (h : Calls Tryd.prog 24 #[a, b] w fun e w' => e = .returned (.tuple #[]) ∧ Q w') :
    Calls Tryd.prog 23 #[.func (.func 24) #[] #[a, b]] w fun e w' => e = .returned (.tuple #[]) ∧ Q w' := by
  have H := Lib.hid h
  clear h
  go_enter_defers Tryd.func23, Tryd.ntmps23
  go_wp2_with (go_at_call 24; refine H.out.mono ?_; rintro e w1 ⟨rfl, hq⟩)
  refine leaves_cons (f := 41) (args := #[]) (by simp) (by simp [go_sem]) ?_
  refine (calm_idle w1).mono ?_
  rintro e u' w'' ⟨rfl, rfl, rfl⟩
  simpa [Leaves, settle, results, Tryd.results23, go_sem] using hq
theorem calmly26 (a b : Value) (w : World) (Q : World → Prop) (h : Calls Tryd.prog 26 #[a, b] w fun e w' => e = .returned (.tuple #[]) ∧ Q w') :
    Calls Tryd.prog 23 #[.func (.func 26) #[] #[a, b]] w fun e w' => e = .returned (.tuple #[]) ∧ Q w' := by
  have H := Lib.hid h
  clear h
  go_enter_defers Tryd.func23, Tryd.ntmps23
  go_wp2_with (go_at_call 26; refine H.out.mono ?_; rintro e w1 ⟨rfl, hq⟩)
  refine leaves_cons (f := 41) (args := #[]) (by simp) (by simp [go_sem]) ?_
  refine (calm_idle w1).mono ?_
  rintro e u' w'' ⟨rfl, rfl, rfl⟩
  simpa [Leaves, settle, results, Tryd.results23, go_sem] using hq
theorem calmly29 (a b c : Value) (w : World) (Q : World → Prop) (h : Calls Tryd.prog 29 #[a, b, c] w fun e w' => e = .returned (.tuple #[]) ∧ Q w') :
    Calls Tryd.prog 23 #[.func (.func 29) #[] #[a, b, c]] w fun e w' => e = .returned (.tuple #[]) ∧ Q w' := by
  have H := Lib.hid h
  clear h
  go_enter_defers Tryd.func23, Tryd.ntmps23
  go_wp2_with (go_at_call 29; refine H.out.mono ?_; rintro e w1 ⟨rfl, hq⟩)
  refine leaves_cons (f := 41) (args := #[]) (by simp) (by simp [go_sem]) ?_
  refine (calm_idle w1).mono ?_
  rintro e u' w'' ⟨rfl, rfl, rfl⟩
  simpa [Leaves, settle, results, Tryd.results23, go_sem] using hq
theorem calmly30 (a b : Value) (w : World) (Q : World → Prop) (h : Calls Tryd.prog 30 #[a, b] w fun e w' => e = .returned (.tuple #[]) ∧ Q w') :
    Calls Tryd.prog 23 #[.func (.func 30) #[] #[a, b]] w fun e w' => e = .returned (.tuple #[]) ∧ Q w' := by
  have H := Lib.hid h
  clear h
  go_enter_defers Tryd.func23, Tryd.ntmps23
  go_wp2_with (go_at_call 30; refine H.out.mono ?_; rintro e w1 ⟨rfl, hq⟩)
  refine leaves_cons (f := 41) (args := #[]) (by simp) (by simp [go_sem]) ?_
  refine (calm_idle w1).mono ?_
  rintro e u' w'' ⟨rfl, rfl, rfl⟩
  simpa [Leaves, settle, results, Tryd.results23, go_sem] using hq

theorem make_func (fn : Fn) (first cap : Array Value) (w : World) : (Instr.makeFunc fn first cap).run Tryd.prog w = .ok (.func fn first cap) w := rfl

end Go.Proofs.YtgpaedknonkioaaDoor
