/-
  A region that draws its order, by a relation between the slots that have been written and the world: for regions whose operations change memory that other slots speak of (append beside calls). Each operation is looked at once, whatever order is drawn. Conditions: the edges lead backwards and no slot is written twice (computed checks), and what each operation obligation asks.
-/
import Derived.Test.YtcdghipodnafmaaInv
namespace Go.Proofs.Ytcdghipodnafmaa

/-- What has been written so far. -/
def updO (σ : Nat → Option Value) (d : Option Nat) (v : Value) : Nat → Option Value :=
  match d with
  | none => σ
  | some d => fun k => if k = d then some v else σ k

def histB (ops : List Oper) (size : Nat) (ds : List (List Nat)) : Bool := invB ops size ds && decide (dsts ops).Nodup

section
variable (P : Program) (Q : Exit → Act → World → Prop) (J : (Nat → Option Value) → World → Prop) (a0 : Act) (ops : List Oper)
def ToldH (a : Act) (σ : Nat → Option Value) : List Nat → Prop
  | [] => True
  | d :: r => (∃ v, σ d = some v ∧ a.tmps.getD d undef = v) ∧ ToldH a σ r
def OneH (o : Oper) (ds : List Nat) : Prop :=
  ∀ (σ : Nat → Option Value) (a : Act) (W : World), J σ W → (∀ t, t ∉ dsts ops → a.tmps.getD t undef = a0.tmps.getD t undef) → (∀ t, σ t = none → a.tmps.getD t undef = a0.tmps.getD t undef) → (∀ d, o.dst = some d → σ d = none) → ToldH a σ ds →
    if Region.wanted o (yielded ops.toArray a.tmps) then o.wp P a W (fun a' W' => ∃ v, a' = a.put o.dst v ∧ J (updO σ o.dst v) W') Q
    else J (updO σ o.dst undef) W
def AllH : List Oper → List (List Nat) → Prop
  | o :: r, ds :: rs => OneH P Q J a0 ops o ds ∧ AllH r rs
  | _, _ => True
end

section
variable {P : Program} {Q : Exit → Act → World → Prop} {J : (Nat → Option Value) → World → Prop} {a0 : Act} {ops : List Oper}
theorem allH_at : ∀ {l : List Oper} {ds : List (List Nat)}, AllH P Q J a0 ops l ds → ∀ {i : Nat} {o : Oper} {d : List Nat}, l[i]? = some o → ds[i]? = some d → OneH P Q J a0 ops o d
  | [], _, _, _, _, _, h, _ => by simp at h
  | _ :: _, [], _, _, _, _, _, h => by simp at h
  | x :: l, y :: ds, h, 0, o, d, h1, h2 => by
    simp at h1 h2
    subst h1 h2
    exact h.1
  | x :: l, y :: ds, h, i + 1, o, d, h1, h2 => allH_at h.2 (by simpa using h1) (by simpa using h2)
theorem toldH_of {a : Act} {σ : Nat → Option Value} : ∀ {ds : List Nat}, (∀ d ∈ ds, ∃ v, σ d = some v ∧ a.tmps.getD d undef = v) → ToldH a σ ds
  | [], _ => trivial
  | d :: r, h => ⟨h d (by simp), toldH_of fun x hx => h x (by simp [hx])⟩

structure InvH (J : (Nat → Option Value) → World → Prop) (a0 : Act) (ops : List Oper) (listed : Array Bool) (σ : Nat → Option Value) (a : Act) (W : World) : Prop where
  here : J σ W
  size : listed.size = ops.length
  tmps : a.tmps.size = a0.tmps.size
  defers : a.defers = a0.defers
  same : ∀ t, t ∉ dsts ops → a.tmps.getD t undef = a0.tmps.getD t undef
  old : ∀ t, σ t = none → a.tmps.getD t undef = a0.tmps.getD t undef
  holds : ∀ d v, σ d = some v → a.tmps.getD d undef = v
  told : ∀ i o d, ops[i]? = some o → listed.getD i false = true → o.dst = some d → ∃ v, σ d = some v
  only : ∀ d v, σ d = some v → ∃ (i : Nat) (o : Oper), ops[i]? = some o ∧ listed.getD i false = true ∧ o.dst = some d

theorem nodup_dst : ∀ {ops : List Oper}, (dsts ops).Nodup → ∀ {i j : Nat} {o o' : Oper} {d : Nat}, ops[i]? = some o → ops[j]? = some o' → o.dst = some d → o'.dst = some d → i = j
  | [], _, i, _, _, _, _, h, _, _, _ => by simp at h
  | x :: ops, hn, 0, 0, _, _, _, _, _, _, _ => rfl
  | x :: ops, hn, 0, j + 1, o, o', d, h1, h2, h3, h4 => by
    simp at h1 h2
    subst h1
    have : dsts (x :: ops) = d :: dsts ops := by simp [dsts, h3]
    rw [this, List.nodup_cons] at hn
    exact absurd (mem_dsts h2 h4) hn.1
  | x :: ops, hn, i + 1, 0, o, o', d, h1, h2, h3, h4 => by
    simp at h1 h2
    subst h2
    have : dsts (x :: ops) = d :: dsts ops := by simp [dsts, h4]
    rw [this, List.nodup_cons] at hn
    exact absurd (mem_dsts h1 h3) hn.1
  | x :: ops, hn, i + 1, j + 1, o, o', d, h1, h2, h3, h4 => by
    have hn' : (dsts ops).Nodup := by
      cases hx : x.dst with
      | none => simpa [dsts, hx] using hn
      | some e => have : dsts (x :: ops) = e :: dsts ops := by simp [dsts, hx]
                  rw [this, List.nodup_cons] at hn
                  exact hn.2
    have h1' : ops[i]? = some o := by simpa using h1
    have h2' : ops[j]? = some o' := by simpa using h2
    have := nodup_dst hn' h1' h2' h3 h4
    omega

theorem InvH.step (hsz : ∀ d ∈ dsts ops, d < a0.tmps.size) {listed : Array Bool} {σ : Nat → Option Value} {a : Act} {W W' : World} {i : Nat} {o : Oper} {v : Value} (h : InvH J a0 ops listed σ a W)
    (ho : ops[i]? = some o) (hJ : J (updO σ o.dst v) W') : InvH J a0 ops (listed.setIfInBounds i true) (updO σ o.dst v) (a.put o.dst v) W' := by
  have hi : i < ops.length := (List.getElem?_eq_some_iff.1 ho).1
  have hli : i < listed.size := by rw [h.size]; exact hi
  have hnew : (listed.setIfInBounds i true).getD i false = true := by
    rw [Array.getD_eq_getD_getElem?, Array.getElem?_setIfInBounds_self_of_lt hli]; rfl
  have hmono : ∀ j, listed.getD j false = true → (listed.setIfInBounds i true).getD j false = true := by
    intro j hj
    by_cases e : j = i
    · subst e; exact hnew
    · rw [Array.getD_eq_getD_getElem?, Array.getElem?_setIfInBounds_ne (Ne.symm e), ← Array.getD_eq_getD_getElem?]; exact hj
  refine ⟨hJ, by simpa using h.size, ?_, ?_, fun t ht => ?_, fun t ht => ?_, fun d u hu => ?_, fun j o' d hj hl hd => ?_, fun d u hu => ?_⟩
  · cases hd : o.dst with
    | none => simpa [Act.put] using h.tmps
    | some d => simpa [Act.put] using h.tmps
  · cases hd : o.dst with
    | none => simpa [Act.put] using h.defers
    | some d => simpa [Act.put] using h.defers
  · cases hd : o.dst with
    | none => simpa [Act.put] using h.same t ht
    | some d =>
      rw [getD_put_other (fun e => ht (by rw [← e]; exact mem_dsts ho hd))]
      exact h.same t ht
  · cases hd : o.dst with
    | none => rw [hd] at ht; simpa [Act.put] using h.old t ht
    | some e =>
      rw [hd] at ht
      simp only [updO] at ht
      by_cases he : t = e
      · rw [if_pos he] at ht; cases ht
      · rw [if_neg he] at ht
        rw [getD_put_other (Ne.symm he)]
        exact h.old t ht
  · cases hd : o.dst with
    | none => rw [hd] at hu; simpa [Act.put] using h.holds d u hu
    | some e =>
      rw [hd] at hu
      simp only [updO] at hu
      by_cases he : d = e
      · subst he
        rw [if_pos rfl] at hu
        injection hu with hu
        rw [getD_put_same (by rw [h.tmps]; exact hsz d (mem_dsts ho hd)), hu]
      · rw [if_neg he] at hu
        rw [getD_put_other (Ne.symm he)]
        exact h.holds d u hu
  · by_cases hji : j = i
    · subst hji
      rw [ho] at hj
      injection hj with hj
      subst hj
      exact ⟨v, by rw [hd]; simp [updO]⟩
    · have hl' : listed.getD j false = true := by
        rw [Array.getD_eq_getD_getElem?, Array.getElem?_setIfInBounds_ne (Ne.symm hji)] at hl
        rw [Array.getD_eq_getD_getElem?]
        exact hl
      obtain ⟨u, hu⟩ := h.told j o' d hj hl' hd
      cases hd0 : o.dst with
      | none => exact ⟨u, hu⟩
      | some e =>
        by_cases he : d = e
        · exact ⟨v, by simp [updO, he]⟩
        · exact ⟨u, by simp [updO, he, hu]⟩
  · cases hd : o.dst with
    | none =>
      rw [hd] at hu
      obtain ⟨j, o', h1, h2, h3⟩ := h.only d u hu
      exact ⟨j, o', h1, hmono j h2, h3⟩
    | some e =>
      rw [hd] at hu
      simp only [updO] at hu
      by_cases he : d = e
      · subst he
        exact ⟨i, o, ho, hnew, hd⟩
      · rw [if_neg he] at hu
        obtain ⟨j, o', h1, h2, h3⟩ := h.only d u hu
        exact ⟨j, o', h1, hmono j h2, h3⟩

theorem wpAny_hist (ds : List (List Nat)) (hB : histB ops a0.tmps.size ds = true) (hall : AllH P Q J a0 ops ops ds)
    (hend : ∀ σ a W, J σ W → a.tmps.size = a0.tmps.size → a.defers = a0.defers → (∀ t, t ∉ dsts ops → a.tmps.getD t undef = a0.tmps.getD t undef) → (∀ d ∈ dsts ops, ∃ v, σ d = some v ∧ a.tmps.getD d undef = v) → Q .normal a W) :
    ∀ (fuel : Nat) (listed : Array Bool) (σ : Nat → Option Value) (a : Act) (W : World), InvH J a0 ops listed σ a W → left listed ≤ fuel → wpAny P .any ops.toArray Q fuel listed a W := by
  simp only [histB, invB, Bool.and_eq_true, decide_eq_true_eq, List.all_eq_true] at hB
  obtain ⟨⟨⟨⟨hup, hsz⟩, hlen⟩, hds⟩, hnd⟩ := hB
  have fin : ∀ (listed : Array Bool) (σ : Nat → Option Value) (a : Act) (W : World), InvH J a0 ops listed σ a W → (∀ i, i < ops.length → listed.getD i false = true) → Q .normal a W := by
    intro listed σ a W h hl
    refine hend σ a W h.here h.tmps h.defers h.same fun d hd => ?_
    unfold dsts at hd
    rw [List.mem_filterMap] at hd
    obtain ⟨o, ho, hod⟩ := hd
    obtain ⟨i, hi, he⟩ := List.getElem_of_mem ho
    obtain ⟨v, hv⟩ := h.told i o d (by rw [List.getElem?_eq_getElem hi, he]) (hl i hi) hod
    exact ⟨v, hv, h.holds d v hv⟩
  have all : ∀ (listed : Array Bool), listed.size = ops.length → Region.ready .any ops.toArray listed = [] → ∀ i, i < ops.length → listed.getD i false = true := by
    intro listed hs hr i
    induction i using Nat.strongRecOn with
    | ind i ih =>
      intro hi
      rcases Bool.eq_false_or_eq_true (listed.getD i false) with h | h
      · exact h
      · exfalso
        have hmem : i ∈ Region.ready .any ops.toArray listed := by
          unfold Region.ready
          rw [List.mem_filter, List.mem_range]
          have hli : i < listed.size := by omega
          refine ⟨by simpa using hi, ?_⟩
          have h2 : listed.getD i true = false := by
            rw [Array.getD_eq_getD_getElem?, Array.getElem?_eq_getElem hli] at h ⊢
            simpa using h
          have hu := hup i (by simpa using hi)
          rw [List.getElem?_eq_getElem hi] at hu
          simp only [Option.map_some, Option.getD_some, Array.all_eq_true'] at hu
          rw [h2]
          simp only [Bool.not_false, Bool.true_and, List.getElem?_toArray, List.getElem?_eq_getElem hi, Option.map_some, Option.getD_some, Array.all_eq_true']
          intro e he
          have := hu e he
          simp only [Bool.or_eq_true, decide_eq_true_eq] at this ⊢
          rcases this with h3 | h3
          · exact .inl h3
          · exact .inr (ih e.on h3 (by omega))
        rw [hr] at hmem
        simp at hmem
  intro fuel
  induction fuel with
  | zero =>
    intro listed σ a W h hl
    have hf : ∀ i, i < ops.length → listed.getD i false = true := by
      intro i hi
      rcases Bool.eq_false_or_eq_true (listed.getD i false) with h1 | h1
      · exact h1
      · exfalso
        have hli : i < listed.size := by rw [h.size]; exact hi
        have : listed[i]? = some false := by
          rw [Array.getD_eq_getD_getElem?, Array.getElem?_eq_getElem hli] at h1
          rw [Array.getElem?_eq_getElem hli]
          simpa using h1
        have := left_set this
        omega
    refine ⟨?_, fin listed σ a W h hf⟩
    unfold Region.ready
    rw [List.filter_eq_nil_iff]
    intro i hi
    have hi' : i < ops.length := by simpa using hi
    have h1 := hf i hi'
    have hli : i < listed.size := by rw [h.size]; exact hi'
    have h2 : listed.getD i true = true := by
      rw [Array.getD_eq_getD_getElem?, Array.getElem?_eq_getElem hli] at h1 ⊢
      simpa using h1
    simp [h2]
  | succ fuel ih =>
    intro listed σ a W h hl
    refine ⟨fun hr => fin listed σ a W h (all listed h.size hr), fun i hi => ?_⟩
    unfold Region.ready at hi
    rw [List.mem_filter, List.mem_range] at hi
    obtain ⟨hi, hrd⟩ := hi
    have hi' : i < ops.length := by simpa using hi
    have hli : i < listed.size := by rw [h.size]; exact hi'
    have ho : ops[i]? = some ops[i] := List.getElem?_eq_getElem hi'
    simp only [List.getElem?_toArray, ho, Option.map_some, Option.getD_some, Bool.and_eq_true, Bool.not_eq_true', Array.all_eq_true'] at hrd
    obtain ⟨hnl, haf⟩ := hrd
    have hfalse : listed[i]? = some false := by
      rw [Array.getD_eq_getD_getElem?, Array.getElem?_eq_getElem hli] at hnl
      rw [Array.getElem?_eq_getElem hli]
      simpa using hnl
    have hlt := left_set hfalse
    have hdi : i < ds.length := by omega
    have one := allH_at hall ho (List.getElem?_eq_getElem hdi)
    have hfree : ∀ d, ops[i].dst = some d → σ d = none := by
      intro d hd
      cases hs : σ d with
      | none => rfl
      | some v =>
        obtain ⟨j, o', h1, h2, h3⟩ := h.only d v hs
        have : j = i := nodup_dst hnd h1 ho h3 hd
        subst this
        rw [Array.getD_eq_getD_getElem?, hfalse] at h2
        simp at h2
    have htold : ToldH a σ ds[i] := toldH_of fun d hd => by
      have hz : (ops[i], ds[i]) ∈ ops.zip ds := by
        have : (ops.zip ds)[i]'(by simp; omega) = (ops[i], ds[i]) := by simp
        rw [← this]
        exact List.getElem_mem _
      have := hds _ hz d hd
      unfold deps at this
      rw [List.mem_filterMap] at this
      obtain ⟨e, he, hed⟩ := this
      rw [List.mem_filter] at he
      obtain ⟨he, hbind⟩ := he
      have hl2 := haf e (by simpa using he)
      rw [hbind] at hl2
      simp only [Bool.not_true, Bool.false_or] at hl2
      cases hoe : ops[e.on]? with
      | none => rw [hoe] at hed; simp at hed
      | some o' =>
        rw [hoe] at hed
        obtain ⟨v, hv⟩ := h.told e.on o' d hoe hl2 (by simpa using hed)
        exact ⟨v, hv, h.holds d v hv⟩
    have hone := one σ a W h.here h.same h.old hfree htold
    unfold wpOp
    simp only [List.getElem?_toArray, ho]
    split
    · rename_i hw
      rw [if_pos hw] at hone
      refine .inl (Oper.wp_mono ?_ hone)
      rintro a' W' ⟨v, rfl, hJ⟩
      exact ih _ _ _ _ (h.step hsz ho hJ) (by omega)
    · rename_i hw
      rw [if_neg hw] at hone
      exact ih _ _ _ _ (h.step hsz ho hone) (by omega)

/-- THE LAW: the region, whatever order is drawn. -/
theorem wp_region_hist {id : Nat} {w : World} (hm : P.follows .mixedOrders = true) (J : (Nat → Option Value) → World → Prop) (ds : List (List Nat))
    (hB : histB ops a0.tmps.size ds = true) (hJ : J (fun _ => none) w.drew) (hall : AllH P Q J a0 ops ops ds)
    (hend : ∀ σ a W, J σ W → a.tmps.size = a0.tmps.size → a.defers = a0.defers → (∀ t, t ∉ dsts ops → a.tmps.getD t undef = a0.tmps.getD t undef) → (∀ d ∈ dsts ops, ∃ v, σ d = some v ∧ a.tmps.getD d undef = v) → Q .normal a W) :
    (Code.region id ops.toArray true).wp P Q a0 w := by
  refine wp_region_any hm ?_
  refine wpAny_hist ds hB hall hend _ _ (fun _ => none) _ _ ⟨hJ, by simp, rfl, rfl, (fun _ _ => rfl), (fun _ _ => rfl), (fun d v h => nomatch h), (fun i o d hi hl _ => ?_), (fun d v h => nomatch h)⟩ (by rw [left_none]; simp)
  rw [Array.getD_eq_getD_getElem?] at hl
  simp [Array.getElem?_replicate] at hl
  split at hl <;> simp at hl
end

/-- A relation of this form: a predicate a slot, and one of some slots and the world. -/
def SlotsAre (V : Nat → Value → Prop) (σ : Nat → Option Value) : Prop := ∀ d v, σ d = some v → V d v
theorem SlotsAre.none (V : Nat → Value → Prop) : SlotsAre V (fun _ => none) := fun _ _ h => by cases h
theorem SlotsAre.upd {V : Nat → Value → Prop} {σ : Nat → Option Value} {d : Nat} {v : Value} (h : SlotsAre V σ) (hv : V d v) : SlotsAre V (updO σ (some d) v) := by
  intro k u hu
  simp only [updO] at hu
  split at hu
  · rename_i e; subst e; injection hu with hu; subst hu; exact hv
  · exact h k u hu
theorem updO_ne {σ : Nat → Option Value} {d k : Nat} {v : Value} (h : k ≠ d) : updO σ (some d) v k = σ k := by simp [updO, h]
theorem updO_eq {σ : Nat → Option Value} {d : Nat} {v : Value} : updO σ (some d) v d = some v := by simp [updO]
end Go.Proofs.Ytcdghipodnafmaa
