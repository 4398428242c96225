/-
  Contracts of crc.Of, crc.More and the closure that continues a checksum, and of the document Of. Conditions: slices of at most a million bytes, each from 0 to 255.
-/
import Derived.Test.YtikeebgclplphaaCByte
namespace Go.Proofs.Ytikeebgclplphaa
open Go.ChangeShapes Go.WideShapes Go.ChangeAt Go.RowKit
set_option linter.unusedVariables false

theorem runZ_one (s : Int) {l : List Int} {k : Nat} (h : k < l.length) : runZ s (l.take (k + 1)) = byteZ (runZ s (l.take k)) (l.getD k 0) := by
  rw [take_one h, runZ_append]
  rfl

theorem not32 (y : Int) (h0 : 0 ≤ y) (h1 : y ≤ 4294967295) : bits .xor .u32 IntKind.u32.max y = 4294967295 - y := by
  obtain ⟨n, rfl⟩ := Int.eq_ofNat_of_zero_le h0
  have h := u32_xor_nat 4294967295 n (by omega) (by omega)
  rw [Nat.xor_comm, ← compl_xor (by omega)] at h
  rw [show IntKind.u32.max = ((4294967295 : Nat) : Int) by decide, h]
  omega

/-- The relation of the closure loop: k bytes have been taken into the captured state. -/
def RelK (w0 : World) (B : Nat) (s : Int) (l : List Int) (i : Value) (wr : World) : Prop :=
  ∃ k : Nat, k ≤ l.length ∧ i = .int .i64 k ∧ wr.heap[B]? = some (.cells #[.int .u32 (runZ s (l.take k))] 63 (0, 0)) ∧ Below w0.heap.size w0 wr

theorem relK_step {w0 wr : World} {B k : Nat} {s y x : Int} {l : List Int} (hB : w0.heap.size ≤ B) (hk : k < l.length) (hy : y = runZ s (l.take k)) (hx : x = l.getD k 0) (h : wr.heap[B]? = some (.cells #[.int .u32 y] 63 (0, 0))) (hb : Below w0.heap.size w0 wr) :
    RelK w0 B s l (.int .i64 ((k : Int) + 1)) (wr.setCell ⟨B, 0, none⟩ (.int .u32 (byteZ y x))) := by
  refine ⟨k + 1, by omega, by go_num, ?_, hb.setCell (p := ⟨B, 0, none⟩) hB _⟩
  rw [runZ_one s hk, ← hy, ← hx]
  exact one_setCell h

set_option maxHeartbeats 1000000 in
theorem closure_calls (w0 w : World) (A : Option Addr) (c B : Nat) (l : List Int) (s : Int) (h : Lies w0 A c l) (hlb : IsB l) (hl : l.length ≤ 1000000) (h0 : 0 ≤ s) (h1 : s ≤ 4294967295)
    (hB : w0.heap.size ≤ B) (hb : Below w0.heap.size w0 w) (hcell : w.heap[B]? = some (.cells #[.int .u32 s] 63 (0, 0))) :
    Calls Try.prog 46 #[.slice A l.length c, .pointer (some ⟨B, 0, none⟩)] w fun e w' => e = .returned (.int .u32 (4294967295 - runZ s l)) ∧ Below w0.heap.size w0 w' := by
  have HC := Lib.hid hcell
  have H := Lib.hid h
  have HB := Lib.hid hlb
  clear hcell h hlb
  go_enter Try.func46, Try.ntmps46
  go_wp2
  go_loopw [8] (RelK w0 B s l) (fun i _ => l.length - (intOf i).toNat)
  case atStart => exact ⟨0, by omega, rfl, HC.out, hb⟩
  case round =>
    obtain ⟨k, hk, rfl, hcell, hbr⟩ := hrel
    obtain ⟨y, ey⟩ : ∃ y, y = runZ s (l.take k) := ⟨_, rfl⟩
    rw [← ey] at hcell
    have hyr := runZ_range (l.take k) s h0 h1 (HB.out.take k)
    rw [← ey] at hyr
    obtain ⟨hy0, hy1⟩ := hyr
    have EY := Lib.hid ey
    have HK := Lib.hid hcell
    have hc1 := cell_of_one hcell
    have hf1 := free_of_one hcell
    clear ey hcell
    by_cases hlt : k < l.length
    · obtain ⟨b, o, rfl, hbl, hcells⟩ := H.out.at_ (by omega)
      obtain ⟨hx0, hx1⟩ := HB.out.getD hlt
      have hck : wr.cell? ⟨b, o + k, none⟩ = some (.int .u8 (l.getD k 0)) := by
        rw [hbr.cell hbl]; exact hcells k hlt
      obtain ⟨x, ex⟩ : ∃ x, x = l.getD k 0 := ⟨_, rfl⟩
      rw [← ex] at hx0 hx1 hck
      have EX := Lib.hid ex
      clear ex hcells
      go_wp2_with (go_at_call 47; refine (byte_calls _ _ _ hy0 hy1 hx0 hx1).mono ?_; rintro e w' ⟨rfl, rfl⟩)
      go_roundw
      case rel => exact relK_step hB hlt EY.out EX.out HK.out hbr
      case measure => simp [intOf]; omega
    · obtain rfl : k = l.length := by omega
      go_wp2
      go_ret
      refine ⟨ret_int ?_, hbr⟩
      rw [not32 y hy0 hy1, EY.out, List.take_length]

theorem more_calls (A : Option Addr) (c : Nat) (l : List Int) (s : Int) (w : World) (h : Lies w A c l) (hlb : IsB l) (hl : l.length ≤ 1000000) (h0 : 0 ≤ s) (h1 : s ≤ 4294967295) :
    Calls Try.prog 41 #[.int .u32 s, .slice A l.length c] w fun e w' => e = .returned (.int .u32 (4294967295 - runZ (4294967295 - s) l)) ∧ Below w.heap.size w w' := by
  have H := Lib.hid h
  have HB := Lib.hid hlb
  have HN := Lib.hid (not32 s h0 h1)
  have hmf : ∀ (fn : Fn) (first cap : Array Value) (w : World), (Instr.makeFunc fn first cap).run Try.prog w = .ok (.func fn first cap) w := fun _ _ _ _ => rfl
  clear h hlb
  go_enter Try.func41, Try.ntmps41
  go_wp2_with (go_at_call 44; go_enter Try.func44, Try.ntmps44)
  rw [HN.out]
  refine (closure_calls w _ A c w.heap.size l (4294967295 - s) H.out HB.out hl (by omega) (by omega) (Nat.le_refl _) ((Below.refl _ _).alloc (Nat.le_refl _) _) (heap_alloc_new _ _)).mono ?_
  rintro e w1 ⟨rfl, hb1⟩
  go_wp2
  go_ret
  exact ⟨rfl, hb1⟩

theorem of_calls (A : Option Addr) (c : Nat) (l : List Int) (w : World) (h : Lies w A c l) (hlb : IsB l) (hl : l.length ≤ 1000000) :
    Calls Try.prog 31 #[.slice A l.length c] w fun e w' => e = .returned (.int .u32 (sumZ l)) ∧ Below w.heap.size w w' := by
  have HM := Lib.hid (more_calls A c l 0 w h hlb hl (by omega) (by omega))
  clear h hlb
  go_enter Try.func31, Try.ntmps31
  go_wp2_with fail
  refine HM.out.mono ?_
  rintro e w1 ⟨rfl, hb1⟩
  go_wp2
  go_ret
  exact ⟨rfl, hb1⟩

set_option maxHeartbeats 1000000 in
theorem rof_calls (A : Option Addr) (c : Nat) (l : List Int) (w : World) (h : Lies w A c l) (hlb : IsB l) (hl : l.length ≤ 1000000) :
    Calls Try.prog 32 #[.slice A l.length c] w fun e w' => e = .returned (.int .u32 (sumZ l)) ∧ w = w' := by
  have H := Lib.hid h
  have HB := Lib.hid hlb
  clear h hlb
  go_enter Try.func32, Try.ntmps32
  go_wp2
  go_loop [3, 4] (fun v i => ∃ k : Nat, k ≤ l.length ∧ i = .int .i64 k ∧ v = .int .u32 (runZ 4294967295 (l.take k))) (fun _ i => l.length - (intOf i).toNat)
  case atStart => exact ⟨0, by omega, rfl, rfl⟩
  case round =>
    obtain ⟨k, hk, rfl, rfl⟩ := hrel
    have hyr := runZ_range (l.take k) 4294967295 (by omega) (by omega) (HB.out.take k)
    obtain ⟨y, ey⟩ : ∃ y, y = runZ 4294967295 (l.take k) := ⟨_, rfl⟩
    rw [← ey] at hyr ⊢
    obtain ⟨hy0, hy1⟩ := hyr
    have EY := Lib.hid ey
    clear ey
    by_cases hlt : k < l.length
    · obtain ⟨b, o, rfl, hbl, hcells⟩ := H.out.at_ (by omega)
      obtain ⟨hx0, hx1⟩ := HB.out.getD hlt
      have hck := hcells k hlt
      obtain ⟨x, ex⟩ : ∃ x, x = l.getD k 0 := ⟨_, rfl⟩
      rw [← ex] at hx0 hx1 hck
      have EX := Lib.hid ex
      clear ex hcells
      go_wp2_with (go_at_call 42; refine (rbyte_calls _ _ _ hy0 hy1 hx0 hx1).mono ?_; rintro e w' ⟨rfl, rfl⟩)
      go_round
      case rel => exact ⟨k + 1, by omega, by go_num, by rw [runZ_one _ hlt, EY.out, EX.out]⟩
      case measure => simp [intOf]; omega
    · obtain rfl : k = l.length := by omega
      go_wp2
      go_ret
      refine ⟨ret_int ?_, rfl⟩
      rw [EY.out, List.take_length]
      rfl

end Go.Proofs.Ytikeebgclplphaa
