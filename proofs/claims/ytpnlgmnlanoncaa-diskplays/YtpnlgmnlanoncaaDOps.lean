/-
  Contracts of Sync, Remove and Cut. Conditions: names of at most maxLen bytes; the number is an int.
-/
import Derived.Test.YtpnlgmnlanoncaaDCrashF
namespace Go.Proofs.Ytpnlgmnlanoncaa
open Go.ChangeShapes Go.WideShapes Go.ChangeAt Go.RowKit
set_option linter.unusedVariables false

theorem start_ok {d : St} {ss : List ByteArray} (h : (beginS d ss).2 = 0) : (beginS d ss).1 = burn d ∧ ∀ k, startS d ss k = k (burn d) := by
  unfold beginS startS at h ⊢
  by_cases hb : ss.any bad = true
  · simp [hb] at h
  · by_cases h0 : d.left = 0
    · simp [hb, h0] at h
    · simp [hb, h0]
theorem start_err {d : St} {ss : List ByteArray} (h : (beginS d ss).2 ≠ 0) : ∀ k, startS d ss k = beginS d ss := by
  unfold beginS startS at h ⊢
  intro k
  by_cases hb : ss.any bad = true
  · simp [hb]
  · by_cases h0 : d.left = 0
    · simp [hb, h0]
    · simp [hb, h0] at h
/-- What a call on a disk leaves: its answer, the disk, what was touched. -/
def Done (S : Nat → Prop) (w : World) (sb : Nat) (r : St × Int) (e : Ending) (w' : World) : Prop := e = .returned (.int .i64 r.2) ∧ DiskAt (Ext S w w') w' sb r.1 ∧ Touch S w w'
section
variable {S : Nat → Prop} {w : World} {sb bm : Nat} {L : List Fr} {D : DataW Value} {d : St}
theorem Open.alloc (h : Open S w sb bm L D d) (o : Obj) : Open S (w.alloc o) sb bm L D d := by
  have hb1 : Below w.heap.size w (w.alloc o) := (Below.refl _ _).alloc (Nat.le_refl _) _
  exact h.kept (fun k hk => hb1.block k (h.lt k hk)) (fun _ h => h) (fun k hk => Nat.lt_of_lt_of_le (h.lt k hk) hb1.size)
/-- begin, with one name. -/
theorem begin_one (h : Open S w sb bm L D d) (s : ByteArray) (hs : s.size ≤ maxLen) : Calls Try.prog 28 #[.pointer (some ⟨sb, 0, none⟩), .slice (some ⟨w.heap.size, 0, none⟩) 1 1] (w.alloc (.cells #[.string s] 9)) fun e w' =>
    e = .returned (.int .i64 (beginS d [s]).2) ∧ Open S w' sb bm L D (beginS d [s]).1 ∧ Touch S w w' ∧ w'.heap.size = w.heap.size + 1 := by
  have := begin_calls (h.alloc (.cells #[.string s] 9)) (some ⟨w.heap.size, 0, none⟩) 1 [s] (cells_one_val elS w s #[.string s] rfl) (by intro x hx; simp at hx; subst hx; exact hs) (by unfold maxLen; simp)
  refine this.mono ?_
  rintro e w' ⟨h1, h2, h3, h4⟩
  exact ⟨h1, h2, (Touch.alloc S w _).more h3, by rw [h4]; simp⟩
theorem Open.done {L' : List Fr} {D' : DataW Value} {d' : St} {w1 : World} (h : Open S w1 sb bm L' D' d') (hs : ∀ k, S k → k < w.heap.size) (hl : w.heap.size ≤ w1.heap.size) : DiskAt (Ext S w w1) w1 sb d' :=
  h.disk.wider (fun k hk => .inl hk) fun k hk => by
    rcases hk with hk | hk
    · exact h.lt k hk
    · exact hk.2
end

set_option maxRecDepth 20000 in
set_option maxHeartbeats 2000000 in
theorem sync_calls {S : Nat → Prop} {w : World} {sb : Nat} {d : St} (h : DiskAt S w sb d) (s : ByteArray) (hs : s.size ≤ maxLen) : Calls Try.prog 18 #[at_ sb, .string s] w (Done S w sb (syncS d s)) := by
  obtain ⟨bm, L, D, h⟩ := h
  have HB := Lib.hid (begin_one h s hs)
  have hlt := h.lt
  by_cases hx : (beginS d [s]).2 = 0
  · obtain ⟨he, hk⟩ := start_ok hx
    rw [hx, he] at HB
    obtain ⟨r, hr⟩ : ∃ r, r = syncS d s := ⟨_, rfl⟩
    rw [← hr]
    unfold syncS at hr
    rw [hk] at hr
    unfold onS at hr
    have HR := Lib.hid hr
    clear hr hk he hx h
    unfold at_
    go_enter Try.func18, Try.ntmps18
    go_wp2_with fail
    refine (HB.out).mono ?_
    rintro e w1 ⟨rfl, hO, ht, hsz⟩
    dsimp only
    have hlook := hO.look s hs
    obtain ⟨c0, c1, c2, c3⟩ := hO.cells
    have hfd := hO.finds s
    cases hf : fd Fr.name L s with
    | none =>
      rw [hf] at hlook hfd
      simp only [ptrOf] at hlook
      have HRR := Lib.hid (show r = (burn d, 6) by rw [HR.out, hfd]; rfl)
      have HO := Lib.hid hO
      clear hO hfd hf c1 c2 c3
      go_wp2
      go_ret
      rw [HRR.out]
      exact ⟨rfl, HO.out.done hlt (by omega), ht⟩
    | some x =>
      rw [hf] at hlook hfd
      simp only [ptrOf, at_] at hlook
      have hx := (fd_some hf).1
      have hfile := hO.files x hx
      have HRR := Lib.hid (show r = ({ burn d with fs := wi Fl.name (burn d).fs { x.f with syn := x.f.b.length, ever := true } }, 0) by rw [HR.out, hfd]; rfl)
      have k0 := hfile.blk
      unfold fcells at k0
      have e0 := k0.cell 0
      have e1 := k0.cell 1
      have f1 := k0.free 1
      have k1 := k0.set 1 (.int .i64 (x.f.b.length : Int))
      have e2 := k1.cell 2
      have f2 := k1.free 2
      have HO := Lib.hid hO
      have hin := hfile.inS
      have HF := Lib.hid ((hO.setFile hx 1 (.int .i64 (x.f.b.length : Int)) ⟨fsyn x.f x.f.b.length, x.p, x.A, x.c⟩ rfl rfl rfl rfl rfl (Nat.le_refl _) rfl).setFile2 (r := ⟨fsyn x.f x.f.b.length, x.p, x.A, x.c⟩) 2 (.bool true) ⟨{ x.f with syn := x.f.b.length, ever := true }, x.p, x.A, x.c⟩ rfl rfl rfl rfl rfl (Nat.le_refl _) rfl)
      have HT := fun v v' => Lib.hid (ht.more ((Touch.set hin w1 1 v).more (Touch.set hin _ 2 v')))
      clear hO hfd hf c1 c2 c3 hfile hx k0 k1
      go_wp2
      go_ret
      rw [HRR.out]
      exact ⟨rfl, HF.out.done hlt (by rw [setCell_size, setCell_size]; omega), (HT _ _).out⟩
  · have hk := start_err hx (fun d => onS d s fun f => ({ d with fs := wi Fl.name d.fs { f with syn := f.b.length, ever := true } }, 0))
    have HR := Lib.hid (show syncS d s = beginS d [s] from hk)
    obtain ⟨x, hx'⟩ : ∃ x, x = (beginS d [s]).2 := ⟨_, rfl⟩
    rw [← hx'] at HB hx
    have HX := Lib.hid hx'
    have e1 : (x != 0) = true := by simpa using hx
    clear hk hx' h
    unfold at_
    go_enter Try.func18, Try.ntmps18
    go_wp2_with (go_at_call 28; refine (HB.out).mono ?_; rintro e w1 ⟨rfl, hO, ht, hsz⟩)
    go_ret
    rw [HR.out]
    exact ⟨by rw [← HX.out]; rfl, hO.done hlt (by omega), ht⟩

set_option maxRecDepth 20000 in
set_option maxHeartbeats 2000000 in
theorem remove_calls {S : Nat → Prop} {w : World} {sb : Nat} {d : St} (h : DiskAt S w sb d) (s : ByteArray) (hs : s.size ≤ maxLen) : Calls Try.prog 12 #[at_ sb, .string s] w (Done S w sb (removeS d s)) := by
  obtain ⟨bm, L, D, h⟩ := h
  have HB := Lib.hid (begin_one h s hs)
  have hlt := h.lt
  by_cases hx : (beginS d [s]).2 = 0
  · obtain ⟨he, hk⟩ := start_ok hx
    rw [hx, he] at HB
    obtain ⟨r, hr⟩ : ∃ r, r = removeS d s := ⟨_, rfl⟩
    rw [← hr]
    unfold removeS at hr
    rw [hk] at hr
    unfold onS at hr
    have HR := Lib.hid hr
    clear hr hk he hx h
    unfold at_
    go_enter Try.func12, Try.ntmps12
    go_wp2_with fail
    refine (HB.out).mono ?_
    rintro e w1 ⟨rfl, hO, ht, hsz⟩
    dsimp only
    have hlook := hO.look s hs
    obtain ⟨c0, c1, c2, c3⟩ := hO.cells
    have hfd := hO.finds s
    cases hf : fd Fr.name L s with
    | none =>
      rw [hf] at hlook hfd
      simp only [ptrOf] at hlook
      have HRR := Lib.hid (show r = (burn d, 6) by rw [HR.out, hfd]; rfl)
      have HO := Lib.hid hO
      clear hO hfd hf c1 c2 c3
      go_wp2
      go_ret
      rw [HRR.out]
      exact ⟨rfl, HO.out.done hlt (by omega), ht⟩
    | some x =>
      rw [hf] at hlook hfd
      simp only [ptrOf, at_] at hlook
      have HRR := Lib.hid (show r = ({ burn d with fs := wo Fl.name (burn d).fs s }, 0) by rw [HR.out, hfd]; rfl)
      have HD := Lib.hid (drop_calls hO s x hf)
      unfold at_ at HD
      clear hO hfd hf c1 c2 c3
      go_wp2_with (go_at_call 29; refine (HD.out).mono ?_; rintro e w2 ⟨rfl, hO2, ht2, hs2⟩)
      go_ret
      rw [HRR.out]
      exact ⟨rfl, hO2.done hlt (by omega), ht.more ht2⟩
  · have hk := start_err hx (fun d => onS d s fun f => ({ d with fs := wo Fl.name d.fs s }, 0))
    have HR := Lib.hid (show removeS d s = beginS d [s] from hk)
    obtain ⟨x, hx'⟩ : ∃ x, x = (beginS d [s]).2 := ⟨_, rfl⟩
    rw [← hx'] at HB hx
    have HX := Lib.hid hx'
    have e1 : (x != 0) = true := by simpa using hx
    clear hk hx' h
    unfold at_
    go_enter Try.func12, Try.ntmps12
    go_wp2_with (go_at_call 28; refine (HB.out).mono ?_; rintro e w1 ⟨rfl, hO, ht, hsz⟩)
    go_ret
    rw [HR.out]
    exact ⟨by rw [← HX.out]; rfl, hO.done hlt (by omega), ht⟩

set_option maxRecDepth 20000 in
set_option maxHeartbeats 2000000 in
theorem cut_calls {S : Nat → Prop} {w : World} {sb : Nat} {d : St} (h : DiskAt S w sb d) (s : ByteArray) (hs : s.size ≤ maxLen) (n : Int) (hn0 : -9223372036854775808 ≤ n) (hn1 : n ≤ 9223372036854775807) : Calls Try.prog 26 #[at_ sb, .string s, .int .i64 n] w (Done S w sb (cutS d s n)) := by
  obtain ⟨bm, L, D, h⟩ := h
  have HB := Lib.hid (begin_one h s hs)
  have hlt := h.lt
  by_cases hx : (beginS d [s]).2 = 0
  · obtain ⟨he, hk⟩ := start_ok hx
    rw [hx, he] at HB
    obtain ⟨r, hr⟩ : ∃ r, r = cutS d s n := ⟨_, rfl⟩
    rw [← hr]
    unfold cutS at hr
    rw [hk] at hr
    unfold onS at hr
    have HR := Lib.hid hr
    clear hr hk he hx h
    unfold at_
    go_enter Try.func26, Try.ntmps26
    go_wp2_with fail
    refine (HB.out).mono ?_
    rintro e w1 ⟨rfl, hO, ht, hsz⟩
    dsimp only
    have hlook := hO.look s hs
    obtain ⟨c0, c1, c2, c3⟩ := hO.cells
    have hfd := hO.finds s
    cases hf : fd Fr.name L s with
    | none =>
      rw [hf] at hlook hfd
      simp only [ptrOf] at hlook
      have HRR := Lib.hid (show r = (burn d, 6) by rw [HR.out, hfd]; rfl)
      have HO := Lib.hid hO
      clear hO hfd hf c1 c2 c3
      go_wp2
      go_ret
      rw [HRR.out]
      exact ⟨rfl, HO.out.done hlt (by omega), ht⟩
    | some x =>
      rw [hf] at hlook hfd
      simp only [ptrOf, at_] at hlook
      have hx := (fd_some hf).1
      have hsm := (hO.small hx).1
      have k0 := (hO.files x hx).blk
      unfold fcells at k0
      have e0 := k0.cell 0
      obtain ⟨k, hk⟩ : ∃ k, k = x.f.b.length := ⟨_, rfl⟩
      have HK := Lib.hid hk
      rw [← hk] at e0 hsm
      clear k0 hk
      have HO := Lib.hid hO
      by_cases h1 : n < 0
      · have HRR := Lib.hid (show r = (burn d, 1) by rw [HR.out, hfd]; exact if_pos (.inl h1))
        have hd : decide (n < 0) = true := by simpa using h1
        clear hO hfd hf c1 c2 c3 hx
        go_wp2
        go_ret
        rw [HRR.out]
        exact ⟨rfl, HO.out.done hlt (by omega), ht⟩
      · have hd : decide (n < 0) = false := by simpa using h1
        by_cases h2 : (k : Int) < n
        · have HRR := Lib.hid (show r = (burn d, 1) by rw [HR.out, hfd]; exact if_pos (.inr (by rw [← HK.out]; exact h2)))
          have hd2 : decide ((k : Int) < n) = true := by simpa using h2
          clear hO hfd hf c1 c2 c3 hx
          go_wp2
          go_ret
          rw [HRR.out]
          exact ⟨rfl, HO.out.done hlt (by omega), ht⟩
        · have HRR := Lib.hid (show r = ({ burn d with fs := wi Fl.name (burn d).fs (short x.f n.toNat) }, 0) by rw [HR.out, hfd]; exact if_neg (fun h => h.elim h1 (fun h => h2 (by rw [HK.out]; exact h))))
          have hd2 : decide ((k : Int) < n) = false := by simpa using h2
          have HS := Lib.hid (shorten_any hO 0 x hx n.toNat n (by omega) (by rw [← HK.out]; omega))
          rw [show w1.drewN 0 = w1 from rfl] at HS
          clear hO hfd hf c1 c2 c3 hx
          go_wp2_with (go_at_call 41; refine (HS.out).mono ?_; rintro e w2 ⟨rfl, hO2, ht2, hs2⟩)
          go_ret
          rw [HRR.out]
          exact ⟨rfl, hO2.done hlt (by omega), ht.more ht2⟩
  · have hk := start_err hx (fun d => onS d s fun f => if n < 0 ∨ (f.b.length : Int) < n then (d, 1) else ({ d with fs := wi Fl.name d.fs (short f n.toNat) }, 0))
    have HR := Lib.hid (show cutS d s n = beginS d [s] from hk)
    obtain ⟨x, hx'⟩ : ∃ x, x = (beginS d [s]).2 := ⟨_, rfl⟩
    rw [← hx'] at HB hx
    have HX := Lib.hid hx'
    have e1 : (x != 0) = true := by simpa using hx
    clear hk hx' h
    unfold at_
    go_enter Try.func26, Try.ntmps26
    go_wp2_with (go_at_call 28; refine (HB.out).mono ?_; rintro e w1 ⟨rfl, hO, ht, hsz⟩)
    go_ret
    rw [HR.out]
    exact ⟨by rw [← HX.out]; rfl, hO.done hlt (by omega), ht⟩
end Go.Proofs.Ytpnlgmnlanoncaa
