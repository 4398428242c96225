/-
  A disk of the law's own: what each call makes of it; the law's own guard returns true. Conditions: as in the premises.
-/
import Derived.Test.YtpnlgmnlanoncaaDCrash
import Derived.Test.YtpnlgmnlanoncaaDAppend
import Derived.Test.YtpnlgmnlanoncaaDRename
import Derived.Test.YtpnlgmnlanoncaaDNil
import Derived.Lib.SlBytesConst
namespace Go.Proofs.Ytpnlgmnlanoncaa
open Go.ChangeShapes Go.WideShapes Go.ChangeAt Go.RowKit
set_option linter.unusedVariables false

/-- A disk whose blocks lie from B on, below N. -/
def DiskB (B N : Nat) (w : World) (sb : Nat) (d : St) : Prop := ∃ S, DiskAt S w sb d ∧ ∀ k, S k → B ≤ k ∧ k < N
def DoneB (B : Nat) (w : World) (sb : Nat) (r : St × Int) (e : Ending) (w' : World) : Prop := e = .returned (.int .i64 r.2) ∧ DiskB B w'.heap.size w' sb r.1 ∧ Below B w w'
section
variable {B N : Nat} {w : World} {sb : Nat} {d : St}
theorem DiskB.below {w' : World} (h : DiskB B N w sb d) (hb : Below w.heap.size w w') : DiskB B N w' sb d := by
  obtain ⟨S, h, hS⟩ := h
  exact ⟨S, h.below hb, hS⟩
theorem DiskB.upto (h : DiskB B N w sb d) : DiskB B w.heap.size w sb d := by
  obtain ⟨S, h, hS⟩ := h
  exact ⟨S, h, fun k hk => ⟨(hS k hk).1, h.lt k hk⟩⟩
theorem DiskB.ok (h : DiskB B N w sb d) : Ok d := by obtain ⟨S, h, _⟩ := h; exact h.ok
theorem done_b {S : Nat → Prop} {r : St × Int} {e : Ending} {w' : World} (hS : ∀ k, S k → B ≤ k ∧ k < N) (hB : B ≤ w.heap.size) (h : Done S w sb r e w') : DoneB B w sb r e w' := by
  obtain ⟨h1, h2, h3⟩ := h
  refine ⟨h1, ⟨_, h2, fun k hk => ?_⟩, h3.below (fun k hk => (hS k hk).1) hB⟩
  rcases hk with hk | hk
  · exact ⟨(hS k hk).1, h2.lt k (.inl hk)⟩
  · exact ⟨by omega, hk.2⟩
theorem sync_b (h : DiskB B N w sb d) (hB : B ≤ w.heap.size) (s : ByteArray) (hs : s.size ≤ maxLen) : Calls Try.prog 18 #[at_ sb, .string s] w (DoneB B w sb (syncS d s)) := by
  obtain ⟨S, h, hS⟩ := h
  exact (sync_calls h s hs).mono fun e w' h => done_b hS hB h
theorem rename_b (h : DiskB B N w sb d) (hB : B ≤ w.heap.size) (s t : ByteArray) (hs : s.size ≤ maxLen) (ht : t.size ≤ maxLen) : Calls Try.prog 20 #[at_ sb, .string s, .string t] w (DoneB B w sb (renameS d s t)) := by
  obtain ⟨S, h, hS⟩ := h
  exact (rename_calls h s t hs ht).mono fun e w' h => done_b hS hB h
theorem append_b (h : DiskB B N w sb d) (hB : B ≤ w.heap.size) (s : ByteArray) (hs : s.size ≤ maxLen) (A : Option Addr) (c : Nat) (b : List Int) (hb : Lies w A c b) (hA : b ≠ [] → ∀ a, A = some a → (a.block < B ∨ N ≤ a.block) ∧ a.block < w.heap.size) (hIB : IsB b) (hbl : b.length ≤ maxLen) :
    Calls Try.prog 13 #[at_ sb, .string s, .slice A b.length c] w (DoneB B w sb (appendS d s b)) := by
  obtain ⟨S, h, hS⟩ := h
  exact (append_calls h s hs A c b hb (fun hne a ha hSa => by have := hS _ hSa; have := (hA hne a ha).1; omega) (fun hne a ha => (hA hne a ha).2) hIB hbl).mono fun e w' h => done_b hS hB h
theorem crash_b (h : DiskB B N w sb d) (hB : B ≤ w.heap.size) (A : Option Addr) (c : Nat) (keep : List Int) (hk : CellsG enI w A c keep) (hA : keep ≠ [] → ∀ a, A = some a → a.block < B ∨ N ≤ a.block) (hr : ∀ x ∈ keep, -9223372036854775808 ≤ x ∧ x ≤ 9223372036854775807) (hl : keep.length ≤ maxLen) :
    Calls Try.prog 19 #[at_ sb, .slice A keep.length c] w fun e w' => e = .returned (.tuple #[]) ∧ DiskB B w'.heap.size w' sb (crashS d keep) ∧ Below B w w' := by
  obtain ⟨S, h, hS⟩ := h
  refine (crash_calls h A c keep hk (fun hne a ha hSa => by have := hS _ hSa; have := hA hne a ha; omega) hr hl).mono ?_
  rintro e w' ⟨h1, h2, h3⟩
  refine ⟨h1, ⟨_, h2, fun k hk => ?_⟩, h3.below (fun k hk => (hS k hk).1) hB⟩
  rcases hk with hk | hk
  · exact ⟨(hS k hk).1, h2.lt k (.inl hk)⟩
  · exact ⟨by omega, hk.2⟩
theorem read_b (h : DiskB B N w sb d) (s : ByteArray) (hs : s.size ≤ maxLen) : Calls Try.prog 15 #[at_ sb, .string s] w (OwnE w.heap.size w (readS d s)) := by
  obtain ⟨S, h, hS⟩ := h
  exact read_calls h s hs
theorem new_b (room : Int) (h0 : 1 ≤ room) (h1 : room ≤ 1048576) (w : World) : Calls Try.prog 9 #[.int .i64 room] w fun e w' => ∃ sb, e = .returned (.tuple #[at_ sb, .int .i64 0]) ∧ DiskB w.heap.size w'.heap.size w' sb (newS room) ∧ Below w.heap.size w w' := by
  refine (new_good room h0 h1 w).mono ?_
  rintro e w' ⟨sb, h1, h2, h3⟩
  exact ⟨sb, h1, ⟨_, h2, fun k hk => hk⟩, h3⟩
end
/-- Bytes that a literal lays. -/
theorem lies_new (w : World) (l : List Int) (cs : Array Value) (q : Nat × Nat) (hcs : cs.toList = cellsOf l) (c : Nat) : Lies (w.alloc (.cells cs 5 q)) (some ⟨w.heap.size, 0, none⟩) c l := by
  refine .inr ⟨_, rfl, fun j u hu => ?_⟩
  have e : (⟨w.heap.size, 0, none⟩ : Addr).add j = ⟨w.heap.size, j, none⟩ := by
    unfold Addr.add
    split
    · rename_i hz; rw [hz]
    · simp
  have hb := heap_alloc_new w (.cells cs 5 q)
  rw [e]
  unfold World.cell?
  simp only [hb]
  rw [← hcs] at hu
  simpa using hu

def nmA : ByteArray := { data := #[97] }
def hello : List Int := [104, 101, 108, 108, 111]
def abc : List Int := [97, 98, 99]
def d1 : St := ⟨20, [⟨nmA, hello, 0, false⟩], -1, false⟩
def d2 : St := ⟨20, [⟨nmA, hello, 5, true⟩], -1, false⟩
def d3 : St := ⟨20, [⟨nmA, hello ++ abc, 5, true⟩], -1, false⟩
def d4 : St := ⟨20, [⟨nmA, [104, 101, 108, 108, 111, 97, 98], 7, true⟩], -1, false⟩
theorem st1 : appendS (newS 20) nmA hello = (d1, 0) := by kernel_rfl
theorem st2 : syncS d1 nmA = (d2, 0) := by kernel_rfl
theorem st3 : appendS d2 nmA abc = (d3, 0) := by kernel_rfl
theorem st4 : crashS d3 [2] = d4 := by kernel_rfl
theorem st5 : readS d4 nmA = ([104, 101, 108, 108, 111, 97, 98], 0) := by kernel_rfl

def helloCells : Array Value := #[.int .u8 104, .int .u8 101, .int .u8 108, .int .u8 108, .int .u8 111]
def abcCells : Array Value := #[.int .u8 97, .int .u8 98, .int .u8 99]
theorem live_app1 (B : Nat) (w1 : World) (sb : Nat) (h : DiskB B w1.heap.size w1 sb (newS 20)) (hB : B ≤ w1.heap.size) : Calls Try.prog 13 #[.pointer (some ⟨sb, 0, none⟩), .string { data := #[97] }, .slice (some ⟨w1.heap.size, 0, none⟩) 5 5] (w1.alloc (.cells helloCells 5 (5, 6))) fun e w' => e = .returned (.int .i64 0) ∧ DiskB B w'.heap.size w' sb d1 ∧ Below B w1 w' := by
  have H := append_b (h.below (below_one w1 (.cells helloCells 5 (5, 6)))) (by simp; omega) nmA (by decide) (some ⟨w1.heap.size, 0, none⟩) 5 hello (lies_new w1 hello helloCells _ rfl 5) (fun _ a ha => by injection ha with ha; subst ha; exact ⟨.inr (Nat.le_refl _), by simp⟩) (by intro x hx; simp [hello] at hx; omega) (by decide)
  rw [st1] at H
  refine H.mono ?_
  rintro e w' ⟨h1, h2, h3⟩
  exact ⟨h1, h2, ((below_one w1 _).mono hB).trans h3⟩
theorem live_app2 (B : Nat) (w1 : World) (sb : Nat) (h : DiskB B w1.heap.size w1 sb d2) (hB : B ≤ w1.heap.size) : Calls Try.prog 13 #[.pointer (some ⟨sb, 0, none⟩), .string { data := #[97] }, .slice (some ⟨w1.heap.size, 0, none⟩) 3 3] (w1.alloc (.cells abcCells 5 (3, 4))) fun e w' => e = .returned (.int .i64 0) ∧ DiskB B w'.heap.size w' sb d3 ∧ Below B w1 w' := by
  have H := append_b (h.below (below_one w1 (.cells abcCells 5 (3, 4)))) (by simp; omega) nmA (by decide) (some ⟨w1.heap.size, 0, none⟩) 3 abc (lies_new w1 abc abcCells _ rfl 3) (fun _ a ha => by injection ha with ha; subst ha; exact ⟨.inr (Nat.le_refl _), by simp⟩) (by intro x hx; simp [abc] at hx; omega) (by decide)
  rw [st3] at H
  refine H.mono ?_
  rintro e w' ⟨h1, h2, h3⟩
  exact ⟨h1, h2, ((below_one w1 _).mono hB).trans h3⟩
theorem live_sync (B : Nat) (w1 : World) (sb : Nat) (h : DiskB B w1.heap.size w1 sb d1) (hB : B ≤ w1.heap.size) : Calls Try.prog 18 #[.pointer (some ⟨sb, 0, none⟩), .string { data := #[97] }] w1 fun e w' => e = .returned (.int .i64 0) ∧ DiskB B w'.heap.size w' sb d2 ∧ Below B w1 w' := by
  have H := sync_b h hB nmA (by decide)
  rw [st2] at H
  exact H
theorem crash_lit (B : Nat) (w1 : World) (sb : Nat) (d : St) (x : Int) (hx : -9223372036854775808 ≤ x ∧ x ≤ 9223372036854775807) (h : DiskB B w1.heap.size w1 sb d) (hB : B ≤ w1.heap.size) : Calls Try.prog 19 #[.pointer (some ⟨sb, 0, none⟩), .slice (some ⟨w1.heap.size, 0, none⟩) 1 1] (w1.alloc (.cells #[.int .i64 x] 3)) fun e w' => e = .returned (.tuple #[]) ∧ DiskB B w'.heap.size w' sb (crashS d [x]) ∧ Below B w1 w' := by
  have H := crash_b (h.below (below_one w1 (.cells #[.int .i64 x] 3))) (by simp; omega) (some ⟨w1.heap.size, 0, none⟩) 1 [x] (cells_one_val elI w1 x #[.int .i64 x] rfl) (fun _ a ha => by injection ha with ha; subst ha; exact .inr (Nat.le_refl _)) (by intro y hy; simp at hy; subst hy; exact hx) (by unfold maxLen; simp)
  refine H.mono ?_
  rintro e w' ⟨h1, h2, h3⟩
  exact ⟨h1, h2, ((below_one w1 _).mono hB).trans h3⟩
theorem live_read (B : Nat) (w1 : World) (sb : Nat) (h : DiskB B w1.heap.size w1 sb d4) : Calls Try.prog 15 #[.pointer (some ⟨sb, 0, none⟩), .string { data := #[97] }] w1 (OwnE w1.heap.size w1 ([104, 101, 108, 108, 111, 97, 98], 0)) := by
  have H := read_b h nmA (by decide)
  rw [st5] at H
  exact H

set_option maxRecDepth 20000 in
set_option maxHeartbeats 4000000 in
theorem live_calls (w : World) : Calls Try.prog 8 #[] w fun e w' => e = .returned (.bool true) ∧ Below w.heap.size w w' := by
  have kc := fun (w : World) (C : Array Value) (n c : Nat) => Lib.run_convert_bytes_const (P := Try.prog) w 33 5 C n c Try.underlying33 Try.underlying5
  go_enter Try.func8, Try.ntmps8
  go_wp2_with fail
  refine (new_b 20 (by omega) (by omega) w).mono ?_
  rintro e w1 ⟨sb, rfl, hD1, hb1⟩
  have HD1 := Lib.hid hD1
  have HB1 := Lib.hid hb1
  clear hD1 hb1
  unfold at_
  dsimp only
  go_wp2_with (go_at_call 10; refine (code_calls _ _).mono ?_; rintro e w' ⟨rfl, rfl⟩)
  refine (live_app1 w.heap.size w1 sb HD1.out HB1.out.size).mono ?_
  rintro e w2 ⟨rfl, hD2, hb2⟩
  have HD2 := Lib.hid hD2
  have HB2 := Lib.hid (HB1.out.trans hb2)
  clear hD2 hb2
  dsimp only
  go_wp2_with fail
  refine (live_sync w.heap.size w2 sb HD2.out HB2.out.size).mono ?_
  rintro e w3 ⟨rfl, hD3, hb3⟩
  have HD3 := Lib.hid hD3
  have HB3 := Lib.hid (HB2.out.trans hb3)
  clear hD3 hb3
  dsimp only
  go_wp2_with fail
  refine (live_app2 w.heap.size w3 sb HD3.out HB3.out.size).mono ?_
  rintro e w4 ⟨rfl, hD4, hb4⟩
  have HD4 := Lib.hid hD4
  have HB4 := Lib.hid (HB3.out.trans hb4)
  clear hD4 hb4
  dsimp only
  go_wp2_with fail
  refine (crash_lit w.heap.size w4 sb d3 2 (by omega) HD4.out HB4.out.size).mono ?_
  rintro e w5 ⟨rfl, hD5, hb5⟩
  rw [st4] at hD5
  have HD5 := Lib.hid hD5
  have HB5 := Lib.hid (HB4.out.trans hb5)
  clear hD5 hb5
  dsimp only
  go_wp2_with fail
  refine (live_read w.heap.size w5 sb HD5.out).mono ?_
  rintro e w6 ⟨A, c, rfl, hown, hb6⟩
  have hconv := run_str hown.lies
  have HB6 := Lib.hid (HB5.out.trans (hb6.mono HB5.out.size))
  have HEQ := Lib.hid (show ((str [104, 101, 108, 108, 111, 97, 98]).toList == ([104, 101, 108, 108, 111, 97, 98] : List UInt8)) = true by kernel_rfl)
  clear hown hb6
  dsimp only at hconv ⊢
  simp only [List.length_cons, List.length_nil, Nat.zero_add, Nat.reduceAdd] at hconv ⊢
  go_wp2_with (go_at_call 10; refine (code_calls _ _).mono ?_; rintro e w' ⟨rfl, rfl⟩)
  go_ret
  exact ⟨congrArg (fun b => Ending.returned (.bool b)) HEQ.out, HB6.out⟩
end Go.Proofs.Ytpnlgmnlanoncaa
