/-
  The walk of the law that plays a list of calls and keeps what was sent. Conditions: the bounds of an input.
-/
import Derived.Test.YtcdghipodnafmaaLKeeps
namespace Go.Proofs.Ytcdghipodnafmaa
open Go.ChangeShapes Go.WideShapes Go.ChangeAt Go.RowKit
set_option linter.unusedVariables false

/-- The inner loop: whether the message that was taken has been found so far. -/
def RelF (ss : List Mr) (m : Mg) (ok : Bool) (W0 : World) (s11 s12 : Value) (W : World) : Prop := ∃ (j : Nat) (r : Bool), s11 = .bool r ∧ s12 = .int .i64 j ∧ j ≤ ss.length ∧ (r = true ↔ (ok = false ∨ m ∈ (ss.take j).map Mr.m)) ∧ Below W0.heap.size W0 W
theorem take_isB {g : Bg} (h : Ok g) (i : Int) : IsB (takeS g i).2.1.b := by
  unfold takeS
  cases hi : g.has i with
  | false => intro x hx; cases hx
  | true =>
    obtain ⟨j, rfl, hj⟩ := has_nat hi
    simp only [if_true, Int.toNat_natCast]
    split
    · exact (h.msgs _ (getD_mem hj)).isB
    · intro x hx; cases hx
theorem wpList_append_vals2 {α : Type} {e : TypeId} {sz bt : Nat} {z : Value} {en : α → List Value} (E : El e sz bt z en) {w : World} {ops : Array Oper} {rest : List Oper} {o : Oper} {a : Act} {Q : Exit → Act → World → Prop} (hgd : o.guard = none) (s x : Operand) (T : TypeId) (hT : Try.prog.underlying T = some (.slice e))
    (ho : o.op = .call { callee := .builtin .append, args := #[s, x], argTypes := #[T, T] })
    (base : Nat) (A : Option Addr) (c : Nat) (xs : List α) (hs : a.eval s = .slice A xs.length c) (hown : OwnG e sz en base w A c xs)
    (B : Option Addr) (d : Nat) (ns : List α) (hx : a.eval x = .slice B ns.length d) (hr : CellsG en w B d ns) (h63 : xs.length + ns.length ≤ 1000000000) (hbt : bt ≤ 1000) (hbase : base ≤ w.heap.size)
    (h : ∀ A' c' w' R, Hid (R = xs ++ ns) → OwnG e sz en base w' A' c' R → w.grownBy w' (Value.slice A xs.length c).ownBlock → (A'.map Addr.block = A.map Addr.block ∨ A'.map Addr.block = some w.heap.size) → wpList Try.prog ops Q rest (a.put o.dst (.slice A' R.length c')) w') : wpList Try.prog ops Q (o :: rest) a w := by
  obtain ⟨A', c', w', hrun, h2, h3, h4⟩ := run_append_vals2 E T o.type hT w base A c xs hown B d ns hr h63 hbt hbase
  refine wpList_plain hgd fun K hK => ?_
  unfold Oper.wp execOp
  simp only [ho, resolve, invoke, builtin, Sem.run_bind, Sem.run_pure, Result.andThen_ok, List.map_toArray, List.map_cons, List.map_nil, hs, hx, hrun]
  exact hK _ _ (h A' c' w' _ (Lib.hid rfl) h2 h3 h4)
def TrueR (w : World) (e : Ending) (w' : World) : Prop := e = .returned (.bool true) ∧ Below w.heap.size w w'
set_option maxRecDepth 20000 in
set_option maxHeartbeats 16000000 in
theorem keeps_calls (A : Option Addr) (c : Nat) (l : List Ac) (w : World) (hm : l.length ≤ maxLen) (hc : CellsG enA w A c l) (hg : ∀ a ∈ l, GoodA w a) : Calls Try.prog 4 #[.slice A l.length c] w (TrueR w) := by
  have HMU := Lib.hid (much_calls A c l w hc hg hm)
  have HNW := Lib.hid (new_calls 3 20 w (by omega) (by omega) (by omega) (by omega))
  unfold at_ at HNW
  have HC := Lib.hid hc
  have HG := Lib.hid hg
  unfold maxLen at hm
  obtain ⟨n, hn⟩ : ∃ n, n = l.length := ⟨_, rfl⟩
  have HN := Lib.hid hn
  rw [← hn] at HMU hm ⊢
  clear hc hg hn
  go_enter Try.func4, Try.ntmps4
  go_wp2_with fail
  refine HMU.out.mono ?_
  rintro e w0 ⟨r, rfl, hr, h1⟩
  subst w0
  cases r with
  | true =>
    clear hr
    go_wp2_with fail
    refine (live_calls w).mono ?_
    rintro e w1 ⟨rfl, hb1⟩
    have HB1 := Lib.hid hb1
    clear hb1
    go_wp2
    go_ret
    exact ⟨rfl, HB1.out⟩
  | false =>
    obtain ⟨hl150, hl5⟩ := hr rfl
    rw [← HN.out] at hl150
    have HL5 := Lib.hid hl5
    clear hl5 hr
    go_wp2_with fail
    refine HNW.out.mono ?_
    rintro e w1 ⟨rfl, hB1, hb1⟩
    dsimp only
    have HB1 := Lib.hid hB1
    have HW1 := Lib.hid hb1
    clear hB1 hb1
    go_wp2_with (go_at_call 9; refine (code_calls _ _).mono ?_; rintro e w' ⟨rfl, rfl⟩)
    go_loopw [5, 6, 7] (RelK n w w.heap.size) (fun _ _ i _ => n - (intOf i).toNat)
    case atStart =>
      exact ⟨0, _, newG 3 20, none, 0, [], 0, rfl, rfl, rfl, Nat.zero_le _, HB1.out, fun b hb => Nat.le_of_eq (show b = w.heap.size from hb).symm, HW1.out, OwnG.nil _ _, fun a ha => (by cases ha), fun s hs => (by cases hs), Bal.new 3 20, Nat.le_refl _⟩
    case round =>
      obtain ⟨k, S, g, A2, c2, ss, nev, rfl, rfl, rfl, hk, K⟩ := hrel
      have HK := Lib.hid K
      obtain ⟨ns, hns⟩ : ∃ ns, ns = ss.length := ⟨_, rfl⟩
      have HNS := Lib.hid hns
      by_cases hlt : k < n
      · have hlti : (k : Int) < (n : Int) := by omega
        obtain ⟨a, ha⟩ : ∃ a, l[k]? = some a := ⟨l[k]'(by rw [← HN.out]; exact hlt), by simp⟩
        have hga := HG.out a (List.mem_of_getElem? ha)
        have hb5 := HL5.out a (List.mem_of_getElem? ha)
        obtain ⟨b0, o0, hA, hbs, hcc⟩ := acts_at HC.out ha
        obtain ⟨j0, j1, j2, j3, j4⟩ := hcc wr (K.below.block b0 hbs)
        subst hA
        obtain ⟨x, hx⟩ : ∃ x, x = a.do_ := ⟨_, rfl⟩
        obtain ⟨y, hy⟩ : ∃ y, y = a.i := ⟨_, rfl⟩
        obtain ⟨z, hz⟩ : ∃ z, z = a.j := ⟨_, rfl⟩
        obtain ⟨u, hu⟩ : ∃ u, u = a.up := ⟨_, rfl⟩
        obtain ⟨lb, hlb⟩ : ∃ lb, lb = a.b.length := ⟨_, rfl⟩
        rw [← hx] at j0
        rw [← hy] at j1
        rw [← hz] at j2
        rw [← hu] at j3
        rw [← hlb] at j4
        have hbx := below_one wr (.cells #[.int .i64 x, .int .i64 y, .int .i64 z, .bool u, .slice a.bA lb a.bc] 39)
        have b8 := Blk.new wr #[.int .i64 x, .int .i64 y, .int .i64 z, .bool u, .slice a.bA lb a.bc] 39
        obtain ⟨W8, hW8⟩ : ∃ W8, W8 = wr.alloc (.cells #[.int .i64 x, .int .i64 y, .int .i64 z, .bool u, .slice a.bA lb a.bc] 39) := ⟨_, rfl⟩
        rw [← hW8] at hbx b8
        have HK8 := Lib.hid (K.on hbx)
        have HX8 := Lib.hid b8
        obtain ⟨e0, e1, e2, e3, e4⟩ := b8.cells5
        have HGA := Lib.hid hga
        have HB5 := Lib.hid hb5
        have HLB := Lib.hid hlb
        have HLOW := Lib.hid (K.inv.low (by omega))
        have hnev := K.inv.n1
        have hnev0 := K.inv.n0
        have hfew := K.few
        rw [← hns] at hfew ⊢
        clear hx hy hz hu hlb ha hga hb5 hcc hns hbx b8 K
        by_cases hx0 : x = 0
        · subst hx0
          have HTK := Lib.hid (take_calls HK8.out.bag HLOW.out y)
          unfold at_ at HTK
          have HIT := Lib.hid (HK8.out.inv.take y)
          have HIB := Lib.hid (take_isB HK8.out.bag.ok y)
          obtain ⟨tr, htr⟩ : ∃ tr, tr = takeS g y := ⟨_, rfl⟩
          rw [← htr] at HTK HIT HIB
          obtain ⟨g2, m, ok⟩ := tr
          clear htr
          go_wp2_with fail
          rw [← hW8]
          refine HTK.out.mono ?_
          rintro e w2 ⟨S2, A3, c3, rfl, hB2, ht2, hs2, hout⟩
          dsimp only at hB2 hout ⊢
          obtain ⟨S3, K3⟩ := HK8.out.done ⟨S2, hB2, ht2, hs2⟩ HIT.out.1 (Nat.le_succ k)
          obtain ⟨mf, hmf⟩ : ∃ mf, mf = m.frm := ⟨_, rfl⟩
          obtain ⟨mt, hmt⟩ : ∃ mt, mt = m.tgt := ⟨_, rfl⟩
          obtain ⟨ml, hml⟩ : ∃ ml, ml = m.b.length := ⟨_, rfl⟩
          rw [← hmf, ← hmt, ← hml]
          have HMV := Lib.hid (show #[Value.int .i64 m.frm, .int .i64 m.tgt, .slice A3 m.b.length c3] = #[Value.int .i64 mf, .int .i64 mt, .slice A3 ml c3] by rw [hmf, hmt, hml])
          have hb9 := below_one w2 (.cells #[.int .i64 mf, .int .i64 mt, .slice A3 ml c3] 48)
          have b9 := Blk.new w2 #[.int .i64 mf, .int .i64 mt, .slice A3 ml c3] 48
          obtain ⟨W9, hW9⟩ : ∃ W9, W9 = w2.alloc (.cells #[.int .i64 mf, .int .i64 mt, .slice A3 ml c3] 48) := ⟨_, rfl⟩
          rw [← hW9] at hb9 b9
          have HK9 := Lib.hid (K3.on hb9)
          have HX9 := Lib.hid b9
          have HL9 := Lib.hid (hout.1.below hb9)
          clear hB2 ht2 hs2 hout K3 hmf hmt hml hb9 b9 e0 e1 e2 e3 e4 j0 j1 j2 j3 j4
          go_wp2
          rw [← hW9]
          clear hW9 hW8
          go_loopw [11, 12] (RelF ss m ok W9) (fun _ i _ => ns - (intOf i).toNat)
          case atStart => exact ⟨0, !ok, rfl, rfl, Nat.zero_le _, by cases ok <;> simp, Below.refl _ _⟩
          case round =>
            obtain ⟨j, r, rfl, rfl, hj, hr, hbr⟩ := hrel
            rw [← HNS.out] at hj
            have HR := Lib.hid hr
            have HBR := Lib.hid hbr
            have K9 := HK9.out.on hbr
            have HKR := Lib.hid K9
            by_cases hlt2 : j < ns
            · have hlti2 : (j : Int) < (ns : Int) := by omega
              obtain ⟨sm, hs⟩ : ∃ sm, ss[j]? = some sm := ⟨ss[j]'(by rw [← HNS.out]; exact hlt2), by simp⟩
              obtain ⟨gb, hA2, _, hgl, hcell⟩ := K9.row.at0 elM (by rw [← HNS.out]; omega)
              have z0 := hcell j 0 sm hs (by omega)
              have z1 := hcell j 1 sm hs (by omega)
              have z2 := hcell j 2 sm hs (by omega)
              simp only [enM] at z0 z1 z2
              obtain ⟨hsl, hsb⟩ := K9.data sm (List.mem_of_getElem? hs)
              have hsl' := hsl.below K9.below
              subst hA2
              obtain ⟨sf, hsf⟩ : ∃ sf, sf = sm.m.frm := ⟨_, rfl⟩
              obtain ⟨st, hst⟩ : ∃ st, st = sm.m.tgt := ⟨_, rfl⟩
              obtain ⟨sl, hsl2⟩ : ∃ sl, sl = sm.m.b.length := ⟨_, rfl⟩
              have HSV := Lib.hid (show #[Value.int .i64 sm.m.frm, .int .i64 sm.m.tgt, .slice sm.A sm.m.b.length sm.c] = #[Value.int .i64 sf, .int .i64 st, .slice sm.A sl sm.c] by rw [hsf, hst, hsl2])
              have HSJ := Lib.hid (show (ss.take (j + 1)).map Mr.m = (ss.take j).map Mr.m ++ [sm.m] by rw [List.take_add_one, hs, List.map_append]; rfl)
              rw [← hsf] at z0
              rw [← hst] at z1
              rw [← hsl2] at z2
              have z0' : wr.cell? ⟨gb, j * 3, none⟩ = some (.int .i64 sf) := z0
              have z1' : wr.cell? ⟨gb, j * 3 + 1, none⟩ = some (.int .i64 st) := z1
              have z2' : wr.cell? ⟨gb, j * 3 + 2, none⟩ = some (.slice sm.A sl sm.c) := z2
              have b9 := HX9.out.belowAll hbr
              obtain ⟨q0, q1, q2⟩ := b9.cells3
              clear z0 z1 z2 hcell hs hsf hst hsl2 hsl
              cases r with
              | true =>
                clear hr hsl' hsb K9 b9
                go_wp2_with fail
                go_quiet (fail)
                go_wp2
                go_roundw
                case rel =>
                  refine ⟨j + 1, true, rfl, by go_num, by rw [← HNS.out]; omega, ⟨fun _ => ?_, fun _ => rfl⟩, HBR.out.trans ((below_drewN _ _).mono HBR.out.size)⟩
                  rcases (show ok = false ∨ m ∈ (ss.take j).map Mr.m from HR.out.1 (by trivial)) with h1 | h1
                  · exact .inl h1
                  · rw [HSJ.out]; exact .inr (List.mem_append_left _ h1)
                case measure => simp [intOf]; omega
              | false =>
                have hlm := HL9.out.below hbr
                have HSA := Lib.hid (show ∀ (W : World) (b1 b2 : Nat), Blk W b1 #[.int .i64 mf, .int .i64 mt, .slice A3 ml c3] 48 → Blk W b2 #[.int .i64 sf, .int .i64 st, .slice sm.A sl sm.c] 48 → Below wr.heap.size wr W → Calls Try.prog 13 #[.slice (some ⟨b1, 0, none⟩) 1 1, .slice (some ⟨b2, 0, none⟩) 1 1] W fun e w' => (∃ r, e = .returned (.bool r) ∧ (r = true ↔ m = sm.m)) ∧ Below W.heap.size W w' from fun W b1 b2 h1 h2 h3 => same_blks W b1 b2 m sm.m A3 sm.A c3 sm.c (by rw [HMV.out]; exact h1) (by rw [HSV.out]; exact h2) (hlm.below h3) (hsl'.below h3) HIB.out hsb)
                have F1 := Lib.hid (show Blk ((wr.alloc (.cells #[.int .i64 mf, .int .i64 mt, .slice A3 ml c3] 48)).alloc (.cells #[.int .i64 sf, .int .i64 st, .slice sm.A sl sm.c] 48)).drew wr.heap.size #[.int .i64 mf, .int .i64 mt, .slice A3 ml c3] 48 from (Blk.new wr #[.int .i64 mf, .int .i64 mt, .slice A3 ml c3] 48).alloc (.cells #[.int .i64 sf, .int .i64 st, .slice sm.A sl sm.c] 48))
                have F2 := Lib.hid (show Blk ((wr.alloc (.cells #[.int .i64 mf, .int .i64 mt, .slice A3 ml c3] 48)).alloc (.cells #[.int .i64 sf, .int .i64 st, .slice sm.A sl sm.c] 48)).drew (wr.heap.size + 1) #[.int .i64 sf, .int .i64 st, .slice sm.A sl sm.c] 48 from Blk.newAt (wr.alloc (.cells #[.int .i64 mf, .int .i64 mt, .slice A3 ml c3] 48)) #[.int .i64 sf, .int .i64 st, .slice sm.A sl sm.c] 48 (by simp))
                have F3 := Lib.hid (show Blk ((wr.alloc (.cells #[.int .i64 sf, .int .i64 st, .slice sm.A sl sm.c] 48)).alloc (.cells #[.int .i64 mf, .int .i64 mt, .slice A3 ml c3] 48)).drew (wr.heap.size + 1) #[.int .i64 mf, .int .i64 mt, .slice A3 ml c3] 48 from Blk.newAt (wr.alloc (.cells #[.int .i64 sf, .int .i64 st, .slice sm.A sl sm.c] 48)) #[.int .i64 mf, .int .i64 mt, .slice A3 ml c3] 48 (by simp))
                have F4 := Lib.hid (show Blk ((wr.alloc (.cells #[.int .i64 sf, .int .i64 st, .slice sm.A sl sm.c] 48)).alloc (.cells #[.int .i64 mf, .int .i64 mt, .slice A3 ml c3] 48)).drew wr.heap.size #[.int .i64 sf, .int .i64 st, .slice sm.A sl sm.c] 48 from (Blk.new wr #[.int .i64 sf, .int .i64 st, .slice sm.A sl sm.c] 48).alloc (.cells #[.int .i64 mf, .int .i64 mt, .slice A3 ml c3] 48))
                have F5 := Lib.hid (below_two wr (.cells #[.int .i64 mf, .int .i64 mt, .slice A3 ml c3] 48) (.cells #[.int .i64 sf, .int .i64 st, .slice sm.A sl sm.c] 48)).drew
                have F6 := Lib.hid (below_two wr (.cells #[.int .i64 sf, .int .i64 st, .slice sm.A sl sm.c] 48) (.cells #[.int .i64 mf, .int .i64 mt, .slice A3 ml c3] 48)).drew
                have hba := below_one wr (.cells #[.int .i64 mf, .int .i64 mt, .slice A3 ml c3] 48)
                have y0 := (hba.cell (p := ⟨gb, j * 3, none⟩) hgl).trans z0'
                have y1 := (hba.cell (p := ⟨gb, j * 3 + 1, none⟩) hgl).trans z1'
                have y2 := (hba.cell (p := ⟨gb, j * 3 + 2, none⟩) hgl).trans z2'
                obtain ⟨t0, t1, t2⟩ := (b9.alloc (.cells #[.int .i64 sf, .int .i64 st, .slice sm.A sl sm.c] 48)).cells3
                clear hr hsl' hsb K9 b9 hlm hba
                go_wp2_with fail
                go_region_law (first | (go_simp; refine (HSA.out _ _ _ (by first | with_reducible exact F1.out | with_reducible exact F3.out) (by first | with_reducible exact F2.out | with_reducible exact F4.out) (by first | with_reducible exact F5.out | with_reducible exact F6.out)).mono ?_; rintro e w5 ⟨⟨r2, rfl, hr2⟩, hb5⟩; have HR2 := Lib.hid hr2; have HB5' := Lib.hid (Below.trans (by first | with_reducible exact F5.out | with_reducible exact F6.out) (hb5.mono (by simp; omega))); clear hr2 hb5))
                all_goals
                  go_wp2
                  go_roundw
                  case rel =>
                    refine ⟨j + 1, r2, rfl, by go_num, by rw [← HNS.out]; omega, ?_, HBR.out.trans (HB5'.out.mono HBR.out.size)⟩
                    have hno : ¬ (ok = false ∨ m ∈ (ss.take j).map Mr.m) := fun h => by have := HR.out.2 h; cases this
                    rw [HSJ.out]
                    constructor
                    · intro h
                      exact .inr (List.mem_append_right _ (List.mem_singleton.2 (HR2.out.1 h)))
                    · rintro (h | h)
                      · exact absurd (.inl h) hno
                      · rcases List.mem_append.1 h with h1 | h1
                        · exact absurd (.inr h1) hno
                        · exact HR2.out.2 (List.mem_singleton.1 h1)
                  case measure => simp [intOf]; omega
            · have hd2 : decide ((j : Int) < (ns : Int)) = false := by simp; omega
              have hrt : r = true := hr.2 (by
                have hj2 : j = ns := by omega
                rw [List.take_of_length_le (by rw [← HNS.out, hj2]; exact Nat.le_refl _)]
                cases ok with
                | false => exact .inl rfl
                | true => exact .inr (HIT.out.2 rfl))
              subst hrt
              clear hr K9
              go_wp2
              go_roundw
              case rel => exact ⟨k + 1, S3, g2, A2, c2, ss, nev, by rw [HNS.out], rfl, by go_num, by omega, HKR.out⟩
              case measure => simp [intOf]; omega
        · have d0 : (x == 0) = false := by simp [hx0]
          by_cases hx1 : x = 1
          · subst hx1
            go_wp2_with fail
            rw [← hW8]
            refine (lose_calls HK8.out.bag HLOW.out y).mono ?_
            rintro e w2 ⟨rfl, hD⟩
            obtain ⟨S2, K2⟩ := HK8.out.done hD (HK8.out.inv.lose y) (Nat.le_succ k)
            have HK2 := Lib.hid K2
            clear hD K2
            dsimp only
            go_wp2
            go_roundw
            case rel => exact ⟨k + 1, S2, _, A2, c2, ss, nev, by rw [HNS.out], rfl, by go_num, by omega, HK2.out⟩
            case measure => simp [intOf]; omega
          · have d1 : (x == 1) = false := by simp [hx1]
            by_cases hx2 : x = 2
            · subst hx2
              go_wp2_with fail
              rw [← hW8]
              refine (twice_calls HK8.out.bag HLOW.out y).mono ?_
              rintro e w2 ⟨rfl, hD⟩
              obtain ⟨S2, K2⟩ := HK8.out.done hD (HK8.out.inv.twice y) (Nat.le_succ k)
              have HK2 := Lib.hid K2
              clear hD K2
              dsimp only
              go_wp2
              go_roundw
              case rel => exact ⟨k + 1, S2, _, A2, c2, ss, nev, by rw [HNS.out], rfl, by go_num, by omega, HK2.out⟩
              case measure => simp [intOf]; omega
            · have d2 : (x == 2) = false := by simp [hx2]
              by_cases hx3 : x = 3
              · subst hx3
                go_wp2_with fail
                rw [← hW8]
                refine (move_calls HK8.out.bag y z).mono ?_
                rintro e w2 ⟨rfl, hD⟩
                obtain ⟨S2, K2⟩ := HK8.out.done hD (HK8.out.inv.move y z) (Nat.le_succ k)
                have HK2 := Lib.hid K2
                clear hD K2
                dsimp only
                go_wp2
                go_roundw
                case rel => exact ⟨k + 1, S2, _, A2, c2, ss, nev, by rw [HNS.out], rfl, by go_num, by omega, HK2.out⟩
                case measure => simp [intOf]; omega
              · have d3 : (x == 3) = false := by simp [hx3]
                by_cases hx4 : x = 4
                · subst hx4
                  have HSD := Lib.hid (send_calls HK8.out.bag HLOW.out y z a.bA a.bc a.b ((HGA.out.b).below HK8.out.below) HGA.out.isB (by have := HB5.out; omega))
                  unfold at_ at HSD
                  rw [← HLB.out] at HSD
                  have hnS : ¬ S wr.heap.size := fun hs => by have := HK.out.bag.lt _ hs; omega
                  go_wp2_with fail
                  rw [← hW8]
                  refine HSD.out.mono ?_
                  rintro e w2 ⟨rfl, hD⟩
                  have b8' : Blk w2 wr.heap.size #[.int .i64 4, .int .i64 y, .int .i64 z, .bool u, .slice a.bA lb a.bc] 39 := by
                    obtain ⟨_, _, ht2, _⟩ := hD
                    exact (ht2.block _ HX8.out.lt hnS).trans HX8.out
                  obtain ⟨_, f1, f2, _, f4⟩ := b8'.cells5
                  have HW := HK8.out.inv.send y z a.b
                  obtain ⟨cd, hcd⟩ : ∃ cd, cd = (sendS g y z a.b).2 := ⟨_, rfl⟩
                  rw [← hcd] at HW ⊢
                  clear b8' hcd e0 e1 e2 e3 e4
                  dsimp only
                  rcases HW with ⟨rfl, hinv⟩ | ⟨rfl, hinv⟩ | ⟨hc0, hc9, hinv⟩
                  · obtain ⟨S2, K2⟩ := HK8.out.done hD hinv (Nat.le_succ k)
                    have K3 := K2.on (below_one w2 (.cells #[.int .i64 y, .int .i64 z, .slice a.bA lb a.bc] 48))
                    have HK3 := Lib.hid K3
                    have hks : w.heap.size ≤ (w2.alloc (.cells #[.int .i64 y, .int .i64 z, .slice a.bA lb a.bc] 48)).heap.size := K3.below.size
                    have HKS := Lib.hid hks
                    have HCO := Lib.hid (show CellsG enM (w2.alloc (.cells #[.int .i64 y, .int .i64 z, .slice a.bA lb a.bc] 48)) (some ⟨w2.heap.size, 0, none⟩) 1 [⟨⟨y, z, a.b⟩, a.bA, a.bc⟩] from cells_one_val elM w2 ⟨⟨y, z, a.b⟩, a.bA, a.bc⟩ _ (by rw [HLB.out]; rfl))
                    clear hD hinv K2 K3 hks
                    go_wp2_with (first | (go_at_call 9; refine (code_calls _ _).mono ?_; rintro e w' ⟨rfl, rfl⟩) | (at_builtin; refine wpList_append_vals2 elM rfl _ _ 31 Try.underlying31 rfl w.heap.size A2 c2 ss (by rw [← HNS.out]; rfl) HK3.out.row (some ⟨w2.heap.size, 0, none⟩) 1 [⟨⟨y, z, a.b⟩, a.bA, a.bc⟩] rfl HCO.out (by rw [← HNS.out]; simp; omega) (by decide) HKS.out ?_; intro A4 c4 w4 R hR ho4 hg4 hb4))
                    have HK5 := Lib.hid (HK3.out.push ⟨⟨y, z, a.b⟩, a.bA, a.bc⟩ HGA.out.b HGA.out.isB hR.out ho4 hg4 hb4 (by rw [hR.out, List.length_append, ← HNS.out]; simp; omega))
                    go_roundw
                    case rel =>
                      refine ⟨k + 1, S2, (sendS g y z a.b).1, A4, c4, R, nev, rfl, rfl, by go_num, by omega, ?_⟩
                      have h9 := HK5.out
                      rw [show R.map Mr.m = ss.map Mr.m ++ [⟨y, z, a.b⟩] by rw [hR.out, List.map_append]; rfl]
                      exact h9
                    case measure => simp [intOf]; omega
                  · obtain ⟨S2, K2⟩ := HK8.out.done hD hinv (Nat.le_succ k)
                    have HK2 := Lib.hid K2
                    have hwn : wrap64 (nev + 1) = nev + 1 := by unfold wrap64; omega
                    clear hD hinv K2
                    go_wp2_with (go_at_call 9; refine (code_calls _ _).mono ?_; rintro e w' ⟨rfl, rfl⟩)
                    go_roundw
                    case rel => exact ⟨k + 1, S2, _, A2, c2, ss, nev + 1, by rw [HNS.out], by first | rfl | rw [hwn], by go_num, by omega, HK2.out⟩
                    case measure => simp [intOf]; omega
                  · obtain ⟨S2, K2⟩ := HK8.out.done hD hinv (Nat.le_succ k)
                    have HK2 := Lib.hid K2
                    have d8 : (cd == 0) = false := by simp [hc0]
                    have d9 : (cd == 9) = false := by simp [hc9]
                    clear hD hinv K2
                    go_wp2_with (go_at_call 9; refine (code_calls _ _).mono ?_; rintro e w' ⟨rfl, rfl⟩)
                    go_roundw
                    case rel => exact ⟨k + 1, S2, _, A2, c2, ss, nev, by rw [HNS.out], rfl, by go_num, by omega, HK2.out⟩
                    case measure => simp [intOf]; omega
                · have d4 : (x == 4) = false := by simp [hx4]
                  by_cases hx5 : x = 5
                  · subst hx5
                    go_wp2_with fail
                    rw [← hW8]
                    refine (set_calls HK8.out.bag y u).mono ?_
                    rintro e w2 ⟨rfl, hD⟩
                    obtain ⟨S2, K2⟩ := HK8.out.done hD (HK8.out.inv.set y u) (Nat.le_succ k)
                    have HK2 := Lib.hid K2
                    clear hD K2
                    dsimp only
                    go_wp2
                    go_roundw
                    case rel => exact ⟨k + 1, S2, _, A2, c2, ss, nev, by rw [HNS.out], rfl, by go_num, by omega, HK2.out⟩
                    case measure => simp [intOf]; omega
                  · have d5 : (x == 5) = false := by simp [hx5]
                    go_wp2
                    go_roundw
                    case rel => exact ⟨k + 1, S, g, A2, c2, ss, nev, by rw [HNS.out], rfl, by go_num, by omega, by rw [← hW8]; exact HK8.out.next HK8.out.inv.next (Nat.le_succ k)⟩
                    case measure => simp [intOf]; omega
      · have hd : decide ((k : Int) < (n : Int)) = false := by simp; omega
        have HCN := Lib.hid (counts_calls K.bag)
        have HLN := Lib.hid (fun q => len_calls (K.bag.drewN q))
        unfold at_ at HCN HLN
        have hsum := K.inv.sum
        have h1 := K.inv.s
        have h2 := K.inv.t
        have h3 := K.inv.l
        have h4 := K.inv.n1
        have h5 := K.inv.n0
        have h6 := K.bag.ok.many
        have h7 := K.bag.ok.m2
        have h8 := K.bag.ok.s0
        have h9 := K.bag.ok.t0
        have h10 := K.bag.ok.l0
        obtain ⟨gs, hgs⟩ : ∃ gs, gs = g.sent := ⟨_, rfl⟩
        obtain ⟨gt, hgt⟩ : ∃ gt, gt = g.taken := ⟨_, rfl⟩
        obtain ⟨gl, hgl⟩ : ∃ gl, gl = g.lost := ⟨_, rfl⟩
        obtain ⟨gm, hgm⟩ : ∃ gm : Int, gm = (g.ms.length : Int) := ⟨_, rfl⟩
        have hgm0 : 0 ≤ gm := by omega
        rw [← hgs, ← hgt, ← hgl] at HCN
        rw [← hgm] at HLN
        rw [← hgs, ← hgt, ← hgl, ← hgm] at hsum
        rw [← hgs] at h1
        rw [← hgt] at h2 h9
        rw [← hgl] at h3 h10
        rw [← hgm] at h6
        have HSUM := Lib.hid (show (gs == wrap64 (wrap64 (wrap64 (gm + gt) + gl) - nev)) = true by
          have e1 : wrap64 (gm + gt) = gm + gt := by unfold wrap64; omega
          have e2 : wrap64 (gm + gt + gl) = gm + gt + gl := by clear e1; unfold wrap64; omega
          have e3 : wrap64 (gm + gt + gl - nev) = gm + gt + gl - nev := by clear e1 e2; unfold wrap64; omega
          rw [e1, e2, e3, hsum]
          simp)
        have HKB := Lib.hid K.below
        rw [← hns]
        clear K hgs hgt hgl hgm hsum h1 h2 h3 h4 h5 h6 h7 h8 h9 h10 hgm0 hns
        go_wp2_with fail
        refine HCN.out.mono ?_
        rintro e w2 ⟨rfl, q, rfl⟩
        dsimp only
        go_wp2_with fail
        refine (HLN.out q).mono ?_
        rintro e w3 ⟨rfl, h1⟩
        subst w3
        have hsum := HSUM.out
        dsimp only
        go_wp2_with fail
        refine (live_calls _).mono ?_
        rintro e w3 ⟨rfl, hb3⟩
        have HB3 := Lib.hid (Below.on (HKB.out.trans ((below_drewN wr q).mono HKB.out.size)) hb3)
        clear hb3
        dsimp only
        go_wp2
        go_ret
        exact ⟨rfl, HB3.out⟩
end Go.Proofs.Ytcdghipodnafmaa
