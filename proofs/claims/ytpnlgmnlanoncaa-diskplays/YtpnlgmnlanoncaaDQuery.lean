/-
  Contracts of slices.Clone at bytes, New, Arm, Dead, Room, State, Read, at a disk and at nil. Conditions: names of at most maxLen bytes; slices of at most 2000000 bytes.
-/
import Derived.Test.YtpnlgmnlanoncaaDBegin
import Derived.Lib.SliceRun
import Derived.Deep.QuietTactic
import Derived.BigQuiet
namespace Go.Proofs.Ytpnlgmnlanoncaa
open Go.ChangeShapes Go.WideShapes Go.ChangeAt Go.RowKit
set_option linter.unusedVariables false

theorem clone_calls (A : Option Addr) (c : Nat) (l : List Int) (w : World) (h : Lies w A c l) (hl : l.length ≤ 2000000) :
    Calls Try.prog 27 #[.slice A l.length c] w (Own w.heap.size w l) := by
  have hnil : ∀ (w : World) (a : Option Addr) (n c n' c' : Nat), (binOp .eql 33 (.slice a n c) (.slice none n' c')).run Try.prog w = .ok (.bool a.isNone) w := fun w a n c n' c' => Lib.run_eql_slice_nil w 33 5 a n c n' c' Try.underlying33
  rcases h with ⟨rfl, rfl, rfl⟩ | ⟨a, rfl, h⟩
  · simp only [List.length_nil]
    go_enter Try.func27, Try.ntmps27
    go_wp2
    go_ret
    exact ⟨none, 0, rfl, OwnS.nil _ _, Below.refl _ _⟩
  · have H := Lib.hid (show Lies w (some a) c l from .inr ⟨a, rfl, h⟩)
    have hb1 : Below w.heap.size w (w.alloc (.cells #[] 5)) := (Below.refl _ _).alloc (Nat.le_refl _) _
    have hown1 : OwnS w.heap.size (w.alloc (.cells #[] 5)) (some ⟨w.heap.size, 0, none⟩) 0 [] := World.ownsRow_lit (size := 1) w #[] 0 (Nat.le_refl _) (by unfold maxLen; omega) rfl
    clear h
    go_enter Try.func27, Try.ntmps27
    go_wp2_with (at_builtin; go_must (refine wpList_append_bytes rfl _ _ rfl w.heap.size (some ⟨w.heap.size, 0, none⟩) 0 [] rfl hown1 (some a) c l rfl (H.out.below hb1) (by simp; omega) hb1.size ?_); intro A2 c2 w2 L2 hL2 hown2 hgrow2)
    go_ret
    have hb2 := OwnS.grow hown1 hb1 hgrow2 hb1.size
    obtain rfl : L2 = l := by rw [hL2.out]; rfl
    exact ⟨A2, c2, rfl, hown2, hb2⟩

/-! nil -/
theorem arm_nil (n : Int) (w : World) : Calls Try.prog 21 #[.pointer none, .int .i64 n] w fun e w' => e = .returned (.tuple #[]) ∧ w = w' := by
  go_enter Try.func21, Try.ntmps21
  go_wp2
  refine bodyPost_ret (results_none rfl _ _ _) rfl ?_
  exact ⟨rfl, rfl⟩
theorem dead_nil (w : World) : Calls Try.prog 23 #[.pointer none] w fun e w' => e = .returned (.bool false) ∧ w = w' := by
  go_enter Try.func23, Try.ntmps23
  go_wp2
  go_ret
  exact ⟨rfl, rfl⟩
theorem room_nil (w : World) : Calls Try.prog 25 #[.pointer none] w fun e w' => e = .returned (.int .i64 0) ∧ w = w' := by
  go_enter Try.func25, Try.ntmps25
  go_wp2
  go_ret
  exact ⟨rfl, rfl⟩
theorem state_nil (s : ByteArray) (w : World) : Calls Try.prog 22 #[.pointer none, .string s] w fun e w' => e = .returned (.tuple #[.int .i64 0, .int .i64 0, .bool false]) ∧ w = w' := by
  go_enter Try.func22, Try.ntmps22
  go_wp2
  go_ret3
  exact ⟨rfl, rfl⟩
theorem list_nil (w : World) : Calls Try.prog 24 #[.pointer none] w fun e w' => e = .returned (.slice none 0 0) ∧ w = w' := by
  go_enter Try.func24, Try.ntmps24
  go_wp2
  go_ret
  exact ⟨rfl, rfl⟩
theorem read_nil (s : ByteArray) (w : World) : Calls Try.prog 15 #[.pointer none, .string s] w fun e w' => e = .returned (.tuple #[.slice none 0 0, .int .i64 7]) ∧ Below w.heap.size w w' := by
  go_enter Try.func15, Try.ntmps15
  go_wp2_with (go_at_call 36; refine (valid_nil _ _).mono ?_; rintro e w' ⟨rfl, rfl⟩)
  go_ret2
  exact ⟨rfl, (Below.refl _ _).alloc (Nat.le_refl _) _⟩

/-! a disk -/
section
variable {S : Nat → Prop} {w : World} {sb : Nat} {d : St}
theorem dead_calls (h : DiskAt S w sb d) : Calls Try.prog 23 #[at_ sb] w fun e w' => e = .returned (.bool d.dead) ∧ w = w' := by
  obtain ⟨bm, L, D, h⟩ := h
  obtain ⟨c0, c1, c2, c3⟩ := h.cells
  clear h
  unfold at_
  go_enter Try.func23, Try.ntmps23
  go_wp2
  go_ret
  exact ⟨rfl, rfl⟩
theorem room_calls (h : DiskAt S w sb d) : Calls Try.prog 25 #[at_ sb] w fun e w' => e = .returned (.int .i64 (d.cap - total d.fs)) ∧ w = w' := by
  obtain ⟨bm, L, D, h⟩ := h
  obtain ⟨c0, c1, c2, c3⟩ := h.cells
  clear h
  unfold at_
  go_enter Try.func25, Try.ntmps25
  go_wp2
  go_ret
  exact ⟨rfl, rfl⟩
theorem Ok.arm (h : Ok d) (n : Int) (h0 : -9223372036854775808 ≤ n) (h1 : n ≤ 9223372036854775807) : Ok (armS d n) := ⟨h.srt, h.lo, h.hi, h.fits, h.many, (fun hd => by cases hd), ⟨h0, h1⟩, h.files⟩
theorem arm_open {bm : Nat} {L : List Fr} {D : DataW Value} (h : Open S w sb bm L D d) (n : Int) (h0 : -9223372036854775808 ≤ n) (h1 : n ≤ 9223372036854775807) :
    Calls Try.prog 21 #[at_ sb, .int .i64 n] w fun e w' => e = .returned (.tuple #[]) ∧ Open S w' sb bm L D (armS d n) ∧ Touch S w w' ∧ w'.heap.size = w.heap.size := by
  obtain ⟨c0, c1, c2, c3⟩ := h.cells
  have f2 := h.blk.free 2
  have k1 := h.blk.set 2 (.int .i64 n)
  have c4 := k1.cell 3
  have f4 := k1.free 3
  have hk2 := k1.set 3 (.bool false)
  have HK := Lib.hid hk2
  have HO := Lib.hid h
  have HA := Lib.hid (h.ok.arm n h0 h1)
  unfold dcells at c4
  clear h h0 h1 hk2
  unfold at_
  go_enter Try.func21, Try.ntmps21
  go_wp2
  refine bodyPost_end (results_none rfl _ _ _) rfl ?_
  refine ⟨rfl, HO.out.redo HK.out (fun k hk => ?_) (by rw [setCell_size, setCell_size]) rfl HA.out, (Touch.set HO.out.inS w 2 _).more (Touch.set HO.out.inS _ 3 _), by rw [setCell_size, setCell_size]⟩
  rw [Below.heap_setCell _ _ _ k hk, Below.heap_setCell _ _ _ k hk]
theorem arm_calls (h : DiskAt S w sb d) (n : Int) (h0 : -9223372036854775808 ≤ n) (h1 : n ≤ 9223372036854775807) :
    Calls Try.prog 21 #[at_ sb, .int .i64 n] w fun e w' => e = .returned (.tuple #[]) ∧ DiskAt S w' sb (armS d n) ∧ Touch S w w' ∧ w'.heap.size = w.heap.size := by
  obtain ⟨bm, L, D, h⟩ := h
  refine (arm_open h n h0 h1).mono ?_
  rintro e w' ⟨h1, h2, h3⟩
  exact ⟨h1, h2.disk, h3⟩
/-- What State tells. -/
def stateS (d : St) (s : ByteArray) : Value := match fd Fl.name d.fs s with | none => .tuple #[.int .i64 0, .int .i64 0, .bool false] | some f => .tuple #[.int .i64 f.syn, .int .i64 f.b.length, .bool true]
set_option maxRecDepth 20000 in
set_option maxHeartbeats 1000000 in
theorem state_calls (h : DiskAt S w sb d) (s : ByteArray) (hs : s.size ≤ maxLen) : Calls Try.prog 22 #[at_ sb, .string s] w fun e w' => e = .returned (stateS d s) ∧ Below w.heap.size w w' := by
  obtain ⟨bm, L, D, h⟩ := h
  have hlook := h.look s hs
  obtain ⟨c0, c1, c2, c3⟩ := h.cells
  unfold stateS
  rw [h.finds]
  cases hf : fd Fr.name L s with
  | none =>
    rw [hf] at hlook
    simp only [ptrOf] at hlook
    clear h hf
    unfold at_
    go_enter Try.func22, Try.ntmps22
    go_wp2
    go_ret3
    exact ⟨rfl, Below.refl _ _⟩
  | some r =>
    rw [hf] at hlook
    simp only [ptrOf] at hlook
    simp only [Option.map_some]
    have hb := (h.files r (fd_some hf).1).blk
    have e0 := hb.cell 0
    have e1 := hb.cell 1
    unfold fcells at e0 e1
    clear h hf hb
    unfold at_ at hlook ⊢
    go_enter Try.func22, Try.ntmps22
    go_wp2_with fail
    go_quiet (fail)
    go_wp2
    go_ret3
    exact ⟨rfl, ⟨rfl, rfl, rfl, Nat.le_refl _, fun _ _ => rfl⟩⟩
/-- What Read tells. -/
def readS (d : St) (s : ByteArray) : List Int × Int := if bad s then ([], 1) else match fd Fl.name d.fs s with | none => ([], 6) | some f => (f.b, 0)
set_option maxRecDepth 20000 in
set_option maxHeartbeats 1000000 in
theorem read_calls (h : DiskAt S w sb d) (s : ByteArray) (hs : s.size ≤ maxLen) : Calls Try.prog 15 #[at_ sb, .string s] w (OwnE w.heap.size w (readS d s)) := by
  obtain ⟨bm, L, D, h⟩ := h
  have hb1 : Below w.heap.size w (w.alloc (.cells #[.string s] 9)) := (Below.refl _ _).alloc (Nat.le_refl _) _
  have h2 : Open S (w.alloc (.cells #[.string s] 9)) sb bm L D d := h.kept (fun k hk => hb1.block k (h.lt k hk)) (fun _ h => h) (fun k hk => Nat.lt_of_lt_of_le (h.lt k hk) hb1.size)
  have HV := Lib.hid (valid_calls sb (some ⟨w.heap.size, 0, none⟩) 1 [s] (w.alloc (.cells #[.string s] 9)) (cells_one_val elS w s #[.string s] rfl) (by intro x hx; simp at hx; subst hx; exact hs) (by unfold maxLen; simp))
  have hlook := h2.look s hs
  obtain ⟨c0, c1, c2, c3⟩ := h2.cells
  obtain ⟨r, hr⟩ : ∃ r, r = readS d s := ⟨_, rfl⟩
  rw [← hr]
  unfold readS at hr
  rw [h.finds] at hr
  have HB := Lib.hid hb1
  by_cases hbad : bad s = true
  · have HR := Lib.hid (show r = ([], 1) by rw [hr, if_pos hbad])
    simp only [List.any_cons, List.any_nil, Bool.or_false, hbad, List.length_cons, List.length_nil, Nat.zero_add, if_true] at HV
    unfold at_ at HV ⊢
    clear h h2 hr hb1
    go_enter Try.func15, Try.ntmps15
    go_wp2_with (go_at_call 36; refine (HV.out).mono ?_; rintro e w' ⟨rfl, rfl⟩)
    go_ret2
    rw [HR.out]
    exact ⟨none, 0, rfl, OwnS.nil _ _, HB.out⟩
  · have hbad' : bad s = false := by simpa using hbad
    simp only [List.any_cons, List.any_nil, Bool.or_false, hbad', List.length_cons, List.length_nil, Nat.zero_add] at HV
    rw [if_neg hbad] at hr
    cases hf : fd Fr.name L s with
    | none =>
      rw [hf] at hlook hr
      simp only [ptrOf] at hlook
      have HR := Lib.hid (show r = ([], 6) from hr)
      unfold at_ at HV ⊢
      clear h h2 hr hb1 hf
      go_enter Try.func15, Try.ntmps15
      go_wp2_with (go_at_call 36; refine (HV.out).mono ?_; rintro e w' ⟨rfl, rfl⟩)
      go_ret2
      rw [HR.out]
      exact ⟨none, 0, rfl, OwnS.nil _ _, HB.out⟩
    | some x =>
      rw [hf] at hlook hr
      simp only [ptrOf] at hlook
      have HR := Lib.hid (show r = (x.f.b, 0) from hr)
      have hx := (fd_some hf).1
      have hfile := h2.files x hx
      have e0 := hfile.blk.cell 0
      unfold fcells at e0
      have hm : x.f ∈ d.fs := by rw [← h.fs]; exact List.mem_map.2 ⟨x, hx, rfl⟩
      have hlen : x.f.b.length ≤ 2000000 := by
        have := total_mem hm; have := h.ok.fits; have := h.ok.hi; omega
      have HCl := Lib.hid (clone_calls x.A x.c x.f.b _ hfile.own.lies hlen)
      unfold at_ at HV hlook ⊢
      clear h h2 hr hb1 hf hm hlen hfile hx
      go_enter Try.func15, Try.ntmps15
      go_wp2_with (first | (go_at_call 36; refine (HV.out).mono ?_; rintro e w' ⟨rfl, rfl⟩) | (go_at_call 27; refine (HCl.out).mono ?_; rintro e w' ⟨A', c', rfl, hown', hb'⟩))
      go_ret2
      rw [HR.out]
      exact ⟨A', c', rfl, OwnS.mono hown' (by simp), HB.out.trans (hb'.mono HB.out.size)⟩
end
end Go.Proofs.Ytpnlgmnlanoncaa
