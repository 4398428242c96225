/-
  Contracts of the program's Put and of the document's Bytes. Conditions: bytes and texts of at most 10,000; numbers of 64 bits.
-/
import Derived.Test.YtdgdkkapikopnaaDoorNBPl
import Derived.Test.YtdgdkkapikopnaaDoorNCat
namespace Go.Proofs.YtdgdkkapikopnaaDoor
open Go.ChangeShapes Go.WideShapes Go.ChangeAt Go.RowKit
set_option linter.unusedVariables false
set_option maxRecDepth 20000
theorem lies_oneAt (w : World) (x : Int) {g : Nat} (hg : g = w.heap.size) : Lies (w.alloc (.cells #[.int .u8 x] 5)) (some ⟨g, 0, none⟩) 1 [x] := by subst hg; exact lies_one w x
theorem cells_two_rows (w : World) (r q : Elt) : CellsL (w.alloc (.cells #[eltVal r, eltVal q] 24)) (some ⟨w.heap.size, 0, none⟩) 2 [r, q] := by
  refine .inr ⟨_, rfl, fun j u hu => ?_⟩
  have hj : j < 2 := by
    rcases Nat.lt_or_ge j 2 with h | h
    · exact h
    · rw [List.getElem?_eq_none (by simp [cellsL]; omega)] at hu; cases hu
  have hb := heap_alloc_new w (.cells #[eltVal r, eltVal q] 24)
  have : j = 0 ∨ j = 1 := by omega
  rcases this with rfl | rfl <;> simp [cellsL] at hu <;> subst hu <;> (unfold World.cell?; simp only [Addr.add]; first | (rw [if_pos trivial]; simp only [hb]; rfl) | (rw [if_neg (by decide)]; simp only [hb]; rfl))
/-- Two slices, one behind the other, in new memory. -/
theorem cat2_calls {w w4 : World} (A : Option Addr) (c : Nat) (l : List Int) (h : Lies w A c l) (hl : l.length ≤ 100000) (hb4 : Below w.heap.size w w4) {B : Nat} (A4 : Option Addr) (c4 : Nat) (X : List Int) (hX : w4.ownsRow B 5 1 (.slice A4 X.length c4) X.length (cellsOf X)) (hXl : X.length ≤ 100000) :
    Calls Tryd.prog 24 #[.slice (some ⟨w4.heap.size, 0, none⟩) 2 2] (w4.alloc (.cells #[.slice A l.length c, .slice A4 X.length c4] 24)) (Own w.heap.size w (l ++ X)) := by
  have hb5 : Below w.heap.size w (w4.alloc (.cells #[.slice A l.length c, .slice A4 X.length c4] 24)) := hb4.alloc hb4.size _
  refine (concat_calls (some ⟨w4.heap.size, 0, none⟩) 2 [(A, c, l), (A4, c4, X)] (w4.alloc (.cells #[.slice A l.length c, .slice A4 X.length c4] 24)) (cells_two_rows w4 (A, c, l) (A4, c4, X))
    (by
      intro q hq
      simp only [List.mem_cons, List.not_mem_nil, or_false] at hq
      rcases hq with rfl | rfl
      · exact h.below hb5
      · exact (Lies.of_own hX).below ((Below.refl _ _).alloc (Nat.le_refl _) _))
    (by simp) (by simp) (by simp [flatL, listsOf]; omega)).mono ?_
  rintro e w6 ⟨A6, c6, rfl, hown6, hb6⟩
  have e6 : flatL [(A, c, l), (A4, c4, X)] = l ++ X := by simp [flatL, listsOf]
  rw [e6] at hown6 ⊢
  exact ⟨A6, c6, rfl, OwnS.mono hown6 hb5.size, Below.on hb5 hb6⟩
set_option maxHeartbeats 2000000 in
theorem putv_calls (A : Option Addr) (c : Nat) (l : List Int) (v : Vl) (w : World) (h : Lies w A c l) (hl : l.length ≤ 10000) (h0 : -9223372036854775808 ≤ v.n) (h1 : v.n ≤ 9223372036854775807) (hs : v.s.size ≤ 10000) :
    Calls Tryd.prog 7 #[.slice A l.length c, v.v] w (Own w.heap.size w (l ++ encV v)) := by
  have HH := Lib.hid h
  have HP := Lib.hid (plain_calls v)
  obtain ⟨k, n, s⟩ := v
  unfold Vl.v at *
  dsimp only at h0 h1 hs HP ⊢
  obtain ⟨R, hR⟩ : ∃ R, R = l ++ encV ⟨k, n, s⟩ := ⟨_, rfl⟩
  rw [← hR]
  have HRR := Lib.hid hR
  clear hR
  obtain ⟨ln, hln⟩ : ∃ ln, ln = l.length := ⟨_, rfl⟩
  have HLN := Lib.hid hln
  rw [← hln]
  clear h hln
  have hB1 := below_one w (.cells #[.int .u8 k, .int .i64 n, .string s] 23)
  have bx := Blk.new w #[.int .u8 k, .int .i64 n, .string s] 23
  obtain ⟨x0, x1, x2⟩ := bx.cells3
  have HB1 := Lib.hid hB1
  have HX := Lib.hid bx
  clear hB1 bx
  by_cases hk : k = 0
  · have HE := Lib.hid (show encV ⟨k, n, s⟩ = [0] ++ enc (zig n) by unfold encV; rw [if_pos hk]; rfl)
    subst hk
    rw [show plainV ⟨0, n, s⟩ = ⟨0, n, ⟨#[]⟩⟩ from rfl] at HP
    dsimp only at HP
    go_enter Tryd.func7, Tryd.ntmps7
    go_wp2_with fail
    refine (HP.out _).mono ?_
    rintro e w1 ⟨rfl, hb1⟩
    have b1 := HX.out.belowAll hb1
    have hc1 := HB1.out.trans (hb1.mono HB1.out.size)
    obtain ⟨f0, f1, f2⟩ := b1.free3
    obtain ⟨y0, y1, y2⟩ := b1.cells3
    have b3 := (b1.set3 (.int .u8 0) (.int .i64 n) (.string ⟨#[]⟩)).alloc (.cells #[.int .u8 0] 5)
    obtain ⟨u0, u1, u2⟩ := b3.cells3
    have hsz : (((w1.setCell ⟨w.heap.size, 0, none⟩ (.int .u8 0)).setCell ⟨w.heap.size, 1, none⟩ (.int .i64 n)).setCell ⟨w.heap.size, 2, none⟩ (.string ⟨#[]⟩)).heap.size = w1.heap.size := by simp [World.setCell]
    have hc3 : Below w.heap.size w ((((w1.setCell ⟨w.heap.size, 0, none⟩ (.int .u8 0)).setCell ⟨w.heap.size, 1, none⟩ (.int .i64 n)).setCell ⟨w.heap.size, 2, none⟩ (.string ⟨#[]⟩)).alloc (.cells #[.int .u8 0] 5)) := (below_set3 hc1 (Nat.le_refl _) _ _ _).alloc (by rw [hsz]; exact hc1.size) _
    have HC3 := Lib.hid hc3
    have HPI := Lib.hid (putInt_calls (some ⟨w1.heap.size, 0, none⟩) 1 [0] n ((((w1.setCell ⟨w.heap.size, 0, none⟩ (.int .u8 0)).setCell ⟨w.heap.size, 1, none⟩ (.int .i64 n)).setCell ⟨w.heap.size, 2, none⟩ (.string ⟨#[]⟩)).alloc (.cells #[.int .u8 0] 5)) (lies_oneAt (((w1.setCell ⟨w.heap.size, 0, none⟩ (.int .u8 0)).setCell ⟨w.heap.size, 1, none⟩ (.int .i64 n)).setCell ⟨w.heap.size, 2, none⟩ (.string ⟨#[]⟩)) 0 hsz.symm) (by decide) h0 h1)
    clear b1 b3 hb1 hc1 hsz hc3
    dsimp only
    go_wp2_with fail
    refine HPI.out.mono ?_
    rintro e w4 ⟨A4, c4, rfl, hown4, hb4⟩
    have hc4 := Below.on HC3.out hb4
    obtain ⟨X, hX⟩ : ∃ X, X = [0] ++ enc (zig n) := ⟨_, rfl⟩
    rw [← hX] at hown4
    have HXX := Lib.hid hX
    have hXl : X.length ≤ 20000 := by
      rw [hX]
      have := encV_length ⟨0, n, s⟩
      rw [HE.out] at this
      have hs9 : s.size ≤ 10000 := hs
      show List.length _ ≤ _
      dsimp only at this
      omega
    have HCAT := Lib.hid (cat2_calls A c l HH.out (by omega) hc4 A4 c4 X hown4 (by omega))
    rw [← HLN.out] at HCAT
    clear hown4 hb4 hc4
    obtain ⟨m, hm⟩ : ∃ m, m = X.length := ⟨_, rfl⟩
    rw [← hX, ← hm]
    rw [← hm] at HCAT
    clear hm hXl hX
    dsimp only
    go_wp2_with fail
    refine HCAT.out.mono ?_
    rintro e w9 hq
    obtain ⟨A9, c9, rfl, ho9, hb9⟩ := hq
    dsimp only
    go_wp2
    go_ret
    obtain rfl : R = l ++ X := by rw [HRR.out, HE.out, HXX.out]
    exact ⟨A9, c9, rfl, ho9, hb9⟩
  · have HE := Lib.hid (show encV ⟨k, n, s⟩ = [1] ++ enc s.size ++ sl s by unfold encV encT; rw [if_neg hk]; simp [sl_length])
    have hk' : (k == 0) = false := by simpa using hk
    rw [show plainV ⟨k, n, s⟩ = ⟨1, 0, s⟩ by unfold plainV; rw [if_neg hk]] at HP
    dsimp only at HP
    go_enter Tryd.func7, Tryd.ntmps7
    go_wp2_with fail
    refine (HP.out _).mono ?_
    rintro e w1 ⟨rfl, hb1⟩
    have b1 := HX.out.belowAll hb1
    have hc1 := HB1.out.trans (hb1.mono HB1.out.size)
    obtain ⟨f0, f1, f2⟩ := b1.free3
    obtain ⟨y0, y1, y2⟩ := b1.cells3
    have b3 := (b1.set3 (.int .u8 1) (.int .i64 0) (.string s)).alloc (.cells #[.int .u8 1] 5)
    obtain ⟨u0, u1, u2⟩ := b3.cells3
    have hsz : (((w1.setCell ⟨w.heap.size, 0, none⟩ (.int .u8 1)).setCell ⟨w.heap.size, 1, none⟩ (.int .i64 0)).setCell ⟨w.heap.size, 2, none⟩ (.string s)).heap.size = w1.heap.size := by simp [World.setCell]
    have hc3 : Below w.heap.size w ((((w1.setCell ⟨w.heap.size, 0, none⟩ (.int .u8 1)).setCell ⟨w.heap.size, 1, none⟩ (.int .i64 0)).setCell ⟨w.heap.size, 2, none⟩ (.string s)).alloc (.cells #[.int .u8 1] 5)) := (below_set3 hc1 (Nat.le_refl _) _ _ _).alloc (by rw [hsz]; exact hc1.size) _
    have HC3 := Lib.hid hc3
    have HPI := Lib.hid (putText_calls (some ⟨w1.heap.size, 0, none⟩) 1 [1] s ((((w1.setCell ⟨w.heap.size, 0, none⟩ (.int .u8 1)).setCell ⟨w.heap.size, 1, none⟩ (.int .i64 0)).setCell ⟨w.heap.size, 2, none⟩ (.string s)).alloc (.cells #[.int .u8 1] 5)) (lies_oneAt (((w1.setCell ⟨w.heap.size, 0, none⟩ (.int .u8 1)).setCell ⟨w.heap.size, 1, none⟩ (.int .i64 0)).setCell ⟨w.heap.size, 2, none⟩ (.string s)) 1 hsz.symm) (by decide) (by omega))
    clear b1 b3 hb1 hc1 hsz hc3
    dsimp only
    go_wp2_with fail
    refine HPI.out.mono ?_
    rintro e w4 ⟨A4, c4, rfl, hown4, hb4⟩
    have hc4 := Below.on HC3.out hb4
    obtain ⟨X, hX⟩ : ∃ X, X = [1] ++ enc s.size ++ sl s := ⟨_, rfl⟩
    rw [← hX] at hown4
    have HXX := Lib.hid hX
    have hXl : X.length ≤ 20000 := by
      rw [hX]
      have := encV_length ⟨k, n, s⟩
      rw [HE.out] at this
      have hs9 : s.size ≤ 10000 := hs
      show List.length _ ≤ _
      dsimp only at this
      omega
    have HCAT := Lib.hid (cat2_calls A c l HH.out (by omega) hc4 A4 c4 X hown4 (by omega))
    rw [← HLN.out] at HCAT
    clear hown4 hb4 hc4
    obtain ⟨m, hm⟩ : ∃ m, m = X.length := ⟨_, rfl⟩
    rw [← hX, ← hm]
    rw [← hm] at HCAT
    clear hm hXl hX
    dsimp only
    go_wp2_with fail
    refine HCAT.out.mono ?_
    rintro e w9 hq
    obtain ⟨A9, c9, rfl, ho9, hb9⟩ := hq
    dsimp only
    go_wp2
    go_ret
    obtain rfl : R = l ++ X := by rw [HRR.out, HE.out, HXX.out]
    exact ⟨A9, c9, rfl, ho9, hb9⟩
set_option maxHeartbeats 2000000 in
theorem rbytesv_calls (v : Vl) (w : World) (h0 : -9223372036854775808 ≤ v.n) (h1 : v.n ≤ 9223372036854775807) (hs : v.s.size ≤ 10000) :
    Calls Tryd.prog 10 #[v.v] w (Own w.heap.size w (encV v)) := by
  obtain ⟨k, n, s⟩ := v
  unfold Vl.v
  dsimp only at h0 h1 hs ⊢
  obtain ⟨R, hR⟩ : ∃ R, R = encV ⟨k, n, s⟩ := ⟨_, rfl⟩
  rw [← hR]
  have HRR := Lib.hid hR
  clear hR
  have hB1 := below_one w (.cells #[.int .u8 k, .int .i64 n, .string s] 23)
  have bx := Blk.new w #[.int .u8 k, .int .i64 n, .string s] 23
  obtain ⟨x0, x1, x2⟩ := bx.cells3
  have HB1 := Lib.hid hB1
  by_cases hk : k = 0
  · have HE := Lib.hid (show encV ⟨k, n, s⟩ = [0] ++ enc (zig n) by unfold encV; rw [if_pos hk]; rfl)
    subst hk
    have hz := zig_range n h0 h1
    have b3 := bx.alloc (.cells #[.int .u8 0] 5)
    obtain ⟨u0, u1, u2⟩ := b3.cells3
    have hown : OwnS w.heap.size ((w.alloc (.cells #[.int .u8 0, .int .i64 n, .string s] 23)).alloc (.cells #[.int .u8 0] 5)) (some ⟨(w.alloc (.cells #[.int .u8 0, .int .i64 n, .string s] 23)).heap.size, 0, none⟩) 1 [0] := World.ownsRow_lit (size := 1) (base := w.heap.size) (e := 5) (w.alloc (.cells #[.int .u8 0, .int .i64 n, .string s] 23)) #[.int .u8 0] 1 (by simp) (by unfold maxLen; omega) rfl
    rw [World.size_alloc] at hown
    have hB2 : Below w.heap.size w ((w.alloc (.cells #[.int .u8 0, .int .i64 n, .string s] 23)).alloc (.cells #[.int .u8 0] 5)) := below_two w _ _
    have HO := Lib.hid hown
    have HB2 := Lib.hid hB2
    have HS := Lib.hid (fun W => signed_calls n W h0 h1)
    have HBY := Lib.hid (fun W => bytes_calls (zig n) W hz.1 hz.2)
    clear hz
    clear hB1 bx b3 hown hB2
    go_enter Tryd.func10, Tryd.ntmps10
    go_wp2_with fail
    refine (HS.out _).mono ?_
    rintro e w4 ⟨rfl, h4⟩
    subst w4
    dsimp only
    go_wp2_with fail
    refine (HBY.out _).mono ?_
    rintro e w5 ⟨A5, c5, rfl, hown5, hb5⟩
    have ho5 := HO.out.below hb5
    have hc5 := HB2.out.trans (hb5.mono HB2.out.size)
    have hX5 := Lies.of_own hown5
    obtain ⟨X, hX⟩ : ∃ X, X = enc (zig n) := ⟨_, rfl⟩
    rw [← hX] at hown5 hX5 ⊢
    have HXX := Lib.hid hX
    have hXl : X.length ≤ 20000 := by
      rw [hX]
      have := encV_length ⟨0, n, s⟩
      rw [HE.out] at this
      have hs9 : s.size ≤ 10000 := hs
      dsimp only at this
      simp only [List.length_append, List.length_cons, List.length_nil] at this ⊢
      omega
    have HO5 := Lib.hid ho5
    have HC5 := Lib.hid hc5
    have HX5 := Lib.hid hX5
    clear ho5 hc5 hX5 hown5 hb5 hX
    dsimp only
    go_wp2_with (at_builtin; go_must (refine wpList_append_bytes rfl _ _ rfl w.heap.size (some ⟨w.heap.size + 1, 0, none⟩) 1 [0] rfl HO5.out A5 c5 X rfl HX5.out (by simp; omega) HC5.out.size ?_); intro A9 c9 w9 L9 hL9 hown9 hgrow9; have hb9 := OwnS.grow HO5.out HC5.out hgrow9 HC5.out.size)
    go_ret
    obtain rfl : R = L9 := by rw [HRR.out, HE.out, hL9.out, HXX.out]
    exact ⟨A9, c9, rfl, hown9, hb9⟩
  · have HE := Lib.hid (show encV ⟨k, n, s⟩ = [1] ++ (enc s.size ++ sl s) by unfold encV encT; rw [if_neg hk]; simp [sl_length])
    have hk' : (k == 0) = false := by simpa using hk
    have b3 := bx.alloc (.cells #[.int .u8 1] 5)
    obtain ⟨u0, u1, u2⟩ := b3.cells3
    have hown : OwnS w.heap.size ((w.alloc (.cells #[.int .u8 k, .int .i64 n, .string s] 23)).alloc (.cells #[.int .u8 1] 5)) (some ⟨(w.alloc (.cells #[.int .u8 k, .int .i64 n, .string s] 23)).heap.size, 0, none⟩) 1 [1] := World.ownsRow_lit (size := 1) (base := w.heap.size) (e := 5) (w.alloc (.cells #[.int .u8 k, .int .i64 n, .string s] 23)) #[.int .u8 1] 1 (by simp) (by unfold maxLen; omega) rfl
    rw [World.size_alloc] at hown
    have hB2 : Below w.heap.size w ((w.alloc (.cells #[.int .u8 k, .int .i64 n, .string s] 23)).alloc (.cells #[.int .u8 1] 5)) := below_two w _ _
    have HO := Lib.hid hown
    have HB2 := Lib.hid hB2
    have HTX := Lib.hid (fun W => text_calls s W (by omega))
    clear hB1 bx b3 hown hB2
    go_enter Tryd.func10, Tryd.ntmps10
    go_wp2_with fail
    refine (HTX.out _).mono ?_
    rintro e w5 ⟨A5, c5, rfl, hown5, hb5⟩
    have ho5 := HO.out.below hb5
    have hc5 := HB2.out.trans (hb5.mono HB2.out.size)
    have hX5 := Lies.of_own hown5
    obtain ⟨X, hX⟩ : ∃ X, X = enc s.size ++ sl s := ⟨_, rfl⟩
    rw [← hX] at hown5 hX5 ⊢
    have HXX := Lib.hid hX
    have hXl : X.length ≤ 20000 := by
      rw [hX]
      have := encV_length ⟨k, n, s⟩
      rw [HE.out] at this
      have hs9 : s.size ≤ 10000 := hs
      dsimp only at this
      simp only [List.length_append, List.length_cons, List.length_nil] at this ⊢
      omega
    have HO5 := Lib.hid ho5
    have HC5 := Lib.hid hc5
    have HX5 := Lib.hid hX5
    clear ho5 hc5 hX5 hown5 hb5 hX
    dsimp only
    go_wp2_with (at_builtin; go_must (refine wpList_append_bytes rfl _ _ rfl w.heap.size (some ⟨w.heap.size + 1, 0, none⟩) 1 [1] rfl HO5.out A5 c5 X rfl HX5.out (by simp; omega) HC5.out.size ?_); intro A9 c9 w9 L9 hL9 hown9 hgrow9; have hb9 := OwnS.grow HO5.out HC5.out hgrow9 HC5.out.size)
    go_ret
    obtain rfl : R = L9 := by rw [HRR.out, HE.out, hL9.out, HXX.out]
    exact ⟨A9, c9, rfl, hown9, hb9⟩
end Go.Proofs.YtdgdkkapikopnaaDoor
