/-
  Contract of the bag's Move. Conditions: the bag lies in memory.
-/
import Derived.Test.YtcdghipodnafmaaBTake
import Derived.Test.YtcdghipodnafmaaBIns
namespace Go.Proofs.Ytcdghipodnafmaa
open Go.ChangeShapes Go.WideShapes Go.ChangeAt Go.RowKit
set_option linter.unusedVariables false
def moveS (g : Bg) (i j : Int) : Bg × Bool := if g.has i && g.has j then ({ g with ms := insd (wout g.ms i.toNat) j.toNat (g.ms.getD i.toNat m0) }, true) else (g, false)
theorem mem_insd {α : Type} {l : List α} {j : Nat} {x y : α} (h : y ∈ insd l j x) : y = x ∨ y ∈ l := by
  unfold insd at h
  rcases List.mem_append.1 h with h | h
  · exact .inr (List.mem_of_mem_take h)
  · rcases List.mem_cons.1 h with h | h
    · exact .inl h
    · exact .inr (List.mem_of_mem_drop h)
theorem insd_map {α β : Type} (f : α → β) (l : List α) (j : Nat) (x : α) : (insd l j x).map f = insd (l.map f) j (f x) := by unfold insd; simp [List.map_take, List.map_drop]
section
variable {S : Nat → Prop} {w : World} {p : Nat} {A : Option Addr} {c : Nat} {rs : List Mr} {g : Bg}
theorem row_end (h : Open S w p A c rs g) {w4 w5 : World} (hb : Below w.heap.size w w4) {A5 : Option Addr} {c5 : Nat} {R : List Mr} (ho5 : OwnG 48 3 enM 0 w5 A5 c5 R) (hg : w4.grownBy w5 (Value.slice A rs.length c).ownBlock) (hbb : A5.map Addr.block = A.map Addr.block ∨ A5.map Addr.block = some w4.heap.size)
    (hd : ∀ r ∈ R, Out S w r.A r.c r.m.b) {ms : List Mg} (hm : R.map Mr.m = ms) (hok : Ok { g with ms := ms }) : Done S w p { g with ms := ms } (w5.setCell ⟨p, 0, none⟩ (.slice A5 R.length c5)) := by
  have hpl := h.blk.lt
  have hw4 := hb.size
  have hrow : ∀ k, (Value.slice A rs.length c).ownBlock = some k → S k ∧ k < w.heap.size ∧ k ≠ p := fun k hk => by
    cases A with
    | none => simp [Value.ownBlock] at hk
    | some a =>
      have e : a.block = k := Option.some.inj hk
      subst e
      exact ⟨h.rowS a rfl, h.lt _ (h.rowS a rfl), h.row_ne a rfl⟩
  have t5 : Touch S w w5 := (Touch.of_below hb).on (Touch.grown (S := S) hg fun k hk => (hrow k hk).1) fun b hb => .inl hb
  have t6 : Touch S w (w5.setCell ⟨p, 0, none⟩ (.slice A5 R.length c5)) := t5.more (Touch.set h.pS _ 0 _)
  have hA5 : ∀ a, A5 = some a → (S a.block ∧ a.block < w.heap.size ∧ a.block ≠ p) ∨ a.block = w4.heap.size := fun a ha => by
    subst ha
    rcases hbb with e | e
    · cases A with
      | none => cases e
      | some b =>
        have e2 : a.block = b.block := Option.some.inj e
        rw [e2]
        exact .inl (hrow b.block rfl)
    · exact .inr (Option.some.inj e)
  have hsub : Sub (fun k => k = p ∨ ∃ a, A5 = some a ∧ k = a.block) S w := fun k hk => by
    rcases hk with rfl | ⟨a, ha, rfl⟩
    · exact .inl h.pS
    · rcases hA5 a ha with h1 | h1
      · exact .inl h1.1
      · exact .inr (by omega)
  have bp5 : Blk w5 p (bcells A rs.length c g) 56 := (h.blk.belowAll hb).grown hg fun e => (hrow p e).2.2 rfl
  have bp6 := bp5.set 0 (.slice A5 R.length c5)
  rw [bcells_0] at bp6
  have hne5 : ∀ a, A5 = some a → a.block ≠ p := fun a ha => by
    rcases hA5 a ha with h1 | h1
    · exact h1.2.2
    · omega
  refine ⟨fun k => k = p ∨ ∃ a, A5 = some a ∧ k = a.block, ⟨A5, c5, R, bp6, .inl rfl, ?_, fun a ha => .inr ⟨a, ha, rfl⟩, fun k hk => ?_, fun r hr => (hd r hr).step t6 hsub, hm, hok⟩, t6, hsub⟩
  · exact ho5.blocks fun a ha => Below.heap_setCell _ _ _ _ (hne5 a ha)
  · rcases hk with rfl | ⟨a, ha, rfl⟩
    · exact Nat.lt_of_lt_of_le hpl t6.size
    · obtain ⟨cur, q, hq⟩ := (ho5.row a.block (by rw [ha]; rfl)).2
      have h1 : a.block < w5.heap.size := (Array.getElem?_eq_some_iff.1 hq).1
      simpa [World.setCell] using h1
theorem Done.after {w2 w' : World} (ht : Touch S w w2) (h : Done S w2 p g w') : Done S w p g w' := by
  obtain ⟨S', h1, h2, h3⟩ := h
  exact ⟨S', h1, ht.more h2, fun k hk => by
    rcases h3 k hk with h4 | h4
    · exact .inl h4
    · have := ht.size; exact .inr (by omega)⟩
theorem move_nil (i j : Int) (w : World) : Calls Try.prog 19 #[.pointer none, .int .i64 i, .int .i64 j] w fun e w' => e = .returned (.bool false) ∧ w = w' := by
  have HH := Lib.hid (has_nil i w)
  go_enter Try.func19, Try.ntmps19
  go_wp2_with (go_at_call 26; refine HH.out.mono ?_; rintro e w1 ⟨rfl, rfl⟩)
  go_ret
  exact ⟨rfl, rfl⟩
set_option maxRecDepth 20000 in
set_option maxHeartbeats 4000000 in
theorem move_calls (h : BagAt S w p g) (i j : Int) : Calls Try.prog 19 #[at_ p, .int .i64 i, .int .i64 j] w (DoneB S w p (moveS g i j)) := by
  have H1 := Lib.hid (has_calls h i)
  have H2 := Lib.hid (has_calls h j)
  unfold moveS
  unfold at_ at *
  cases hi : g.has i with
  | false =>
    rw [hi] at H1
    have HB := Lib.hid h
    clear h hi
    simp only [Bool.false_and, Bool.false_eq_true, if_false]
    go_enter Try.func19, Try.ntmps19
    go_wp2_with fail
    refine H1.out.mono ?_
    rintro e w1 ⟨rfl, rfl⟩
    go_wp2
    go_ret
    exact ⟨rfl, Done.refl HB.out⟩
  | true =>
    rw [hi] at H1
    cases hj : g.has j with
    | false =>
      rw [hj] at H2
      have HB := Lib.hid h
      clear h hi hj
      simp only [Bool.true_and, Bool.false_eq_true, if_false]
      go_enter Try.func19, Try.ntmps19
      go_wp2_with fail
      refine H1.out.mono ?_
      rintro e w1 ⟨rfl, rfl⟩
      go_wp2_with fail
      refine H2.out.mono ?_
      rintro e w2 ⟨rfl, rfl⟩
      go_wp2
      go_ret
      exact ⟨rfl, Done.refl HB.out⟩
    | true =>
      rw [hj] at H2
      obtain ⟨k, rfl, hk⟩ := has_nat hi
      obtain ⟨m, rfl, hm⟩ := has_nat hj
      obtain ⟨A, c, rs, h⟩ := h
      have hlen := h.len
      obtain ⟨r, hr⟩ : ∃ r, rs[k]? = some r := ⟨rs[k]'(by rw [h.len]; exact hk), by simp⟩
      have hgk : g.ms.getD k m0 = r.m := by
        have : g.ms[k]? = some r.m := by rw [← h.fs, List.getElem?_map, hr]; rfl
        simp [List.getD, this]
      have hrm : r.m ∈ g.ms := by rw [← h.fs]; exact List.mem_map.2 ⟨r, List.mem_of_getElem? hr, rfl⟩
      have HR := Lib.hid (remove_calls h k r hr)
      unfold at_ at HR
      have HD := Lib.hid (h.data r (List.mem_of_getElem? hr))
      have hcap := h.row.cap
      have hmany := h.ok.many
      have hm2 := h.ok.m2
      have hwl : (wout rs k).length = rs.length - 1 := wout_len rs k (by omega)
      have HROOM := Lib.hid (show (wout rs k).length + 1 ≤ c by omega)
      have HMANY := Lib.hid (show (wout rs k).length ≤ 512 by omega)
      have HM := Lib.hid (show m ≤ (wout rs k).length by omega)
      have HOK := Lib.hid (show Ok { g with ms := insd (wout g.ms k) m r.m } from h.ok.fewer (fun x hx => by
        rcases mem_insd hx with rfl | h1
        · exact hrm
        · exact mem_wout h1) (by rw [insd_len _ _ _ (by rw [wout_len _ _ hk]; omega), wout_len _ _ hk]; omega))
      simp only [Bool.true_and, if_true, Int.toNat_natCast]
      rw [hgk]
      obtain ⟨f, hf⟩ : ∃ f, f = r.m.frm := ⟨_, rfl⟩
      obtain ⟨t, ht⟩ : ∃ t, t = r.m.tgt := ⟨_, rfl⟩
      obtain ⟨n, hn⟩ : ∃ n, n = r.m.b.length := ⟨_, rfl⟩
      have HV := Lib.hid (show #[Value.int .i64 r.m.frm, .int .i64 r.m.tgt, .slice r.A r.m.b.length r.c] = #[Value.int .i64 f, .int .i64 t, .slice r.A n r.c] by rw [hf, ht, hn])
      rw [← hf, ← ht, ← hn] at HR
      obtain ⟨rs', hrs'⟩ : ∃ rs', rs' = wout rs k := ⟨_, rfl⟩
      have HRS := Lib.hid hrs'
      rw [← hrs'] at HR HROOM HMANY HM
      obtain ⟨nr, hnr⟩ : ∃ nr, nr = rs'.length := ⟨_, rfl⟩
      have HNR := Lib.hid hnr
      clear h hi hj hk hm hr hgk hrm hlen hcap hmany hm2 hwl hf ht hn hrs' hnr
      go_enter Try.func19, Try.ntmps19
      go_wp2_with fail
      refine H1.out.mono ?_
      rintro e w1 ⟨rfl, rfl⟩
      go_wp2_with fail
      refine H2.out.mono ?_
      rintro e w1 ⟨rfl, rfl⟩
      go_wp2_with fail
      refine HR.out.mono ?_
      rintro e w2 ⟨rfl, ho, ht⟩
      have hb3 := below_one w2 (.cells #[.int .i64 f, .int .i64 t, .slice r.A n r.c] 48)
      have hb4 := below_two w2 (.cells #[.int .i64 f, .int .i64 t, .slice r.A n r.c] 48) (.cells #[.int .i64 f, .int .i64 t, .slice r.A n r.c] 48)
      have HB4 := Lib.hid hb4
      have c0 : (w2.alloc (.cells #[.int .i64 f, .int .i64 t, .slice r.A n r.c] 48)).cell? ⟨p, 0, none⟩ = some (.slice A nr c) := by rw [HNR.out]; exact (ho.blk.belowAll hb3).cell 0
      have c1 : ((w2.alloc (.cells #[.int .i64 f, .int .i64 t, .slice r.A n r.c] 48)).alloc (.cells #[.int .i64 f, .int .i64 t, .slice r.A n r.c] 48)).cell? ⟨p, 0, none⟩ = some (.slice A nr c) := by rw [HNR.out]; exact (ho.blk.belowAll hb4).cell 0
      obtain ⟨x0, x1, x2⟩ := (Blk.new w2 #[.int .i64 f, .int .i64 t, .slice r.A n r.c] 48).cells3
      have HI := Lib.hid (show Calls Try.prog 30 #[.slice A nr c, .int .i64 (m : Int), .slice (some ⟨w2.heap.size + 1, 0, none⟩) 1 1] ((w2.alloc (.cells #[.int .i64 f, .int .i64 t, .slice r.A n r.c] 48)).drew.alloc (.cells #[.int .i64 f, .int .i64 t, .slice r.A n r.c] 48)) fun e w' => ∃ A' c', e = .returned (.slice A' (insd rs' m r).length c') ∧ OwnG 48 3 enM 0 w' A' c' (insd rs' m r) ∧ ((w2.alloc (.cells #[.int .i64 f, .int .i64 t, .slice r.A n r.c] 48)).drew.alloc (.cells #[.int .i64 f, .int .i64 t, .slice r.A n r.c] 48)).grownBy w' (Value.slice A rs'.length c).ownBlock ∧ (A'.map Addr.block = A.map Addr.block ∨ A'.map Addr.block = some (w2.heap.size + 2)) from by
        have hX : Below w2.heap.size w2 ((w2.alloc (.cells #[.int .i64 f, .int .i64 t, .slice r.A n r.c] 48)).drew.alloc (.cells #[.int .i64 f, .int .i64 t, .slice r.A n r.c] 48)) := (hb3.drew).alloc (by simp) _
        have h9 := insert_calls (ho.row.below hX) HROOM.out HMANY.out m HM.out r (w2.heap.size + 1) (by rw [HV.out]; exact Blk.newAt _ _ _ (by simp)) (fun a ha e => by have := ho.lt _ (ho.rowS a ha); omega)
        rw [← HNR.out] at h9
        rw [← HNR.out]
        have e9 : ((w2.alloc (.cells #[.int .i64 f, .int .i64 t, .slice r.A n r.c] 48)).drew.alloc (.cells #[.int .i64 f, .int .i64 t, .slice r.A n r.c] 48)).heap.size = w2.heap.size + 2 := by simp
        rw [e9] at h9
        exact h9)
      have HO := Lib.hid ho
      have HT := Lib.hid ht
      have HPNE := Lib.hid (show (Value.slice A rs'.length c).ownBlock ≠ some p from fun e => by
        cases A with
        | none => cases e
        | some a => exact ho.row_ne a rfl (Option.some.inj e))
      clear ho ht hb3 hb4
      go_wp2_with fail
      have HEND := Lib.hid (show ∀ w5 A5 c5, OwnG 48 3 enM 0 w5 A5 c5 (insd rs' m r) → ((w2.alloc (.cells #[.int .i64 f, .int .i64 t, .slice r.A n r.c] 48)).drew.alloc (.cells #[.int .i64 f, .int .i64 t, .slice r.A n r.c] 48)).grownBy w5 (Value.slice A rs'.length c).ownBlock → (A5.map Addr.block = A.map Addr.block ∨ A5.map Addr.block = some (w2.heap.size + 2)) → Done S w p { g with ms := insd (wout g.ms k) m r.m } (w5.setCell ⟨p, 0, none⟩ (.slice A5 (insd rs' m r).length c5)) ∧ Blk w5 p (bcells A rs'.length c { g with ms := wout g.ms k }) 56 from fun w5 A5 c5 h1 h2 h3 => by
        have hX : Below w2.heap.size w2 ((w2.alloc (.cells #[.int .i64 f, .int .i64 t, .slice r.A n r.c] 48)).drew.alloc (.cells #[.int .i64 f, .int .i64 t, .slice r.A n r.c] 48)) := ((below_one w2 _).drew).alloc (by simp) _
        refine ⟨Done.after HT.out (row_end HO.out hX h1 h2 (by
          have e9 : ((w2.alloc (.cells #[.int .i64 f, .int .i64 t, .slice r.A n r.c] 48)).drew.alloc (.cells #[.int .i64 f, .int .i64 t, .slice r.A n r.c] 48)).heap.size = w2.heap.size + 2 := by simp
          rw [e9]; exact h3) (fun x hx => ?_) ?_ HOK.out), (HO.out.blk.belowAll hX).grown h2 HPNE.out⟩
        · rcases mem_insd hx with rfl | h4
          · exact HD.out.step HT.out (Sub.refl _ _)
          · exact HO.out.data x h4
        · rw [insd_map, HO.out.fs])
      go_region_law (first | (go_simp; refine HI.out.mono ?_; rintro e w5 ⟨A5, c5, rfl, ho5, hg5, hb5⟩; obtain ⟨hD, hP⟩ := HEND.out w5 A5 c5 ho5 hg5 hb5; have s0 : w5.cell? ⟨p, 0, none⟩ = some (.slice A nr c) := (by rw [HNR.out]; exact hP.cell 0); have s1 := hP.free 0; have HDN := Lib.hid hD; clear ho5 hg5 hb5 hP hD))
      all_goals
        go_wp2
        go_ret
        exact ⟨rfl, HDN.out⟩
end
end Go.Proofs.Ytcdghipodnafmaa
