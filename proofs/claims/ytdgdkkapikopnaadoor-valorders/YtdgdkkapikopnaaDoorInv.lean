/-
  A region that draws its order, by an invariant: what each slot holds is told by a predicate of the world, which later steps keep; each operation is looked at once, whatever order is drawn. Conditions: the edges lead backwards (a computed check), and what each operation obligation asks.
-/
import Derived.Orders
import Derived.KernelRfl
import Derived.Laws.World
namespace Go.Proofs.YtdgdkkapikopnaaDoor

/-- The slots that the region writes. -/
def dsts (ops : List Oper) : List Nat := ops.filterMap (·.dst)
/-- The slots that are written ahead of an operation, by its edges. -/
def deps (ops : List Oper) (o : Oper) : List Nat := (o.after.toList.filter (Region.binds .any)).filterMap fun e => (ops[e.on]?).bind (·.dst)

/-- The edges lead backwards; the slots lie in the frame; the slots asked for are written ahead. -/
def invB (ops : List Oper) (size : Nat) (ds : List (List Nat)) : Bool :=
  ((List.range ops.length).all fun i => ((ops[i]?).map fun o => o.after.all fun e => !Region.binds .any e || decide (e.on < i)).getD true) &&
  ((dsts ops).all fun d => decide (d < size)) && decide (ds.length = ops.length) &&
  ((ops.zip ds).all fun x => x.2.all fun d => decide (d ∈ deps ops x.1))

section
variable (P : Program) (Q : Exit → Act → World → Prop) (I : World → Prop) (S : World → World → Prop) (V : Nat → World → Value → Prop) (a0 : Act) (ops : List Oper)

/-- What holds of the slots ds. -/
def Told (ds : List Nat) (a : Act) (W : World) : Prop :=
  match ds with
  | [] => True
  | d :: r => V d W (a.tmps.getD d undef) ∧ Told r a W

/-- What an operation must come to: its value satisfies its slot predicate. -/
def Yields (dst : Option Nat) (a : Act) (W : World) (a' : Act) (W' : World) : Prop := ∃ v, a' = a.put dst v ∧ I W' ∧ S W W' ∧ ∀ d, dst = some d → V d W' v

/-- One operation, in whatever frame and world it comes up: it yields what its slot predicate says. -/
def OneOk (o : Oper) (ds : List Nat) : Prop :=
  ∀ (a : Act) (W : World), I W → (∀ t, t ∉ dsts ops → a.tmps.getD t undef = a0.tmps.getD t undef) → Told V ds a W →
    if Region.wanted o (yielded ops.toArray a.tmps) then o.wp P a W (Yields I S V o.dst a W) Q
    else ∀ d, o.dst = some d → V d W undef

def AllOk : List Oper → List (List Nat) → Prop
  | o :: r, ds :: rs => OneOk P Q I S V a0 ops o ds ∧ AllOk r rs
  | _, _ => True
end

section
variable {P : Program} {Q : Exit → Act → World → Prop} {I : World → Prop} {S : World → World → Prop} {V : Nat → World → Value → Prop} {a0 : Act} {ops : List Oper}

/-- A guard that has said yes. -/
theorem wanted_true {o : Oper} {a : Act} {j d : Nat} (hg : o.guard = some (j, true)) (hd : (ops[j]?).bind (·.dst) = some d) (hv : a.tmps.getD d undef = .bool true) :
    Region.wanted o (yielded ops.toArray a.tmps) = true := by
  have h : a.tmps[d]? = some (.bool true) := by
    rw [Array.getD_eq_getD_getElem?] at hv
    cases ht : a.tmps[d]? with
    | none => rw [ht] at hv; exact absurd hv (by simp [undef])
    | some v => rw [ht] at hv; simpa using hv
  have hy : yielded ops.toArray a.tmps j = some true := by
    unfold yielded
    rw [List.getElem?_toArray, hd]
    simp [h]
  unfold Region.wanted
  rw [hg]
  simp [hy]

theorem told_of {a : Act} {W : World} : ∀ {ds : List Nat}, (∀ d ∈ ds, V d W (a.tmps.getD d undef)) → Told V ds a W
  | [], _ => trivial
  | d :: r, h => ⟨h d (by simp), told_of fun x hx => h x (by simp [hx])⟩

theorem allOk_at : ∀ {l : List Oper} {ds : List (List Nat)}, AllOk P Q I S V a0 ops l ds → ∀ {i : Nat} {o : Oper} {d : List Nat}, l[i]? = some o → ds[i]? = some d → OneOk P Q I S V a0 ops o d
  | [], _, _, _, _, _, h, _ => by simp at h
  | _ :: _, [], _, _, _, _, _, h => by simp at h
  | x :: l, y :: ds, h, 0, o, d, h1, h2 => by
    simp at h1 h2
    subst h1 h2
    exact h.1
  | x :: l, y :: ds, h, i + 1, o, d, h1, h2 => allOk_at h.2 (by simpa using h1) (by simpa using h2)

/-- The invariant. -/
structure Inv (I : World → Prop) (V : Nat → World → Value → Prop) (a0 : Act) (ops : List Oper) (listed : Array Bool) (a : Act) (W : World) : Prop where
  here : I W
  size : listed.size = ops.length
  tmps : a.tmps.size = a0.tmps.size
  defers : a.defers = a0.defers
  same : ∀ t, t ∉ dsts ops → a.tmps.getD t undef = a0.tmps.getD t undef
  told : ∀ i o d, ops[i]? = some o → listed.getD i false = true → o.dst = some d → V d W (a.tmps.getD d undef)

theorem mem_dsts {i : Nat} {o : Oper} {d : Nat} (h : ops[i]? = some o) (hd : o.dst = some d) : d ∈ dsts ops := by
  unfold dsts
  rw [List.mem_filterMap]
  exact ⟨o, List.mem_of_getElem? h, hd⟩

theorem getD_put_same {a : Act} {d : Nat} {v : Value} (h : d < a.tmps.size) : (a.put (some d) v).tmps.getD d undef = v := by
  simp [Act.put, Array.getD, h]
theorem getD_put_other {a : Act} {d t : Nat} {v : Value} (h : d ≠ t) : (a.put (some d) v).tmps.getD t undef = a.tmps.getD t undef := by
  simp only [Act.put, Array.getD_eq_getD_getElem?, Array.getElem?_setIfInBounds_ne h]

/-- One step of the invariant. -/
theorem Inv.step (hV : ∀ d W W' v, S W W' → V d W v → V d W' v) (hsz : ∀ d ∈ dsts ops, d < a0.tmps.size) {listed : Array Bool} {a : Act} {W W' : World} {i : Nat} {o : Oper} {v : Value} (h : Inv I V a0 ops listed a W)
    (ho : ops[i]? = some o) (hI : I W') (hS : S W W') (hv : ∀ d, o.dst = some d → V d W' v) : Inv I V a0 ops (listed.setIfInBounds i true) (a.put o.dst v) W' := by
  have hi : i < ops.length := by
    rcases Nat.lt_or_ge i ops.length with h1 | h1
    · exact h1
    · rw [List.getElem?_eq_none h1] at ho; cases ho
  refine ⟨hI, by simpa using h.size, ?_, ?_, fun t ht => ?_, fun j o' d hj hl hd => ?_⟩
  · cases hd : o.dst with
    | none => simpa [Act.put] using h.tmps
    | some d => simpa [Act.put] using h.tmps
  · cases hd : o.dst with
    | none => simpa [Act.put] using h.defers
    | some d => simpa [Act.put] using h.defers
  · cases hd : o.dst with
    | none => simpa [Act.put] using h.same t ht
    | some d =>
      rw [getD_put_other (fun e => ht (by rw [← e]; exact mem_dsts ho hd))]
      exact h.same t ht
  · by_cases hdd : o.dst = some d
    · rw [hdd, getD_put_same (by rw [h.tmps]; exact hsz d (mem_dsts ho hdd))]
      exact hv d hdd
    · have hji : j ≠ i := by
        rintro rfl
        rw [ho] at hj
        injection hj with hj
        subst hj
        exact hdd hd
      have hl' : listed.getD j false = true := by
        rw [Array.getD_eq_getD_getElem?, Array.getElem?_setIfInBounds_ne (Ne.symm hji)] at hl
        rw [Array.getD_eq_getD_getElem?]
        exact hl
      have hold := hV d W W' _ hS (h.told j o' d hj hl' hd)
      cases hd0 : o.dst with
      | none => simpa [Act.put] using hold
      | some d0 =>
        rw [getD_put_other (fun e => hdd (by rw [hd0, e]))]
        exact hold

/-- How many have not come up yet. -/
def left (listed : Array Bool) : Nat := listed.toList.countP (fun b => !b)
theorem left_set {listed : Array Bool} {i : Nat} (h : listed[i]? = some false) : left (listed.setIfInBounds i true) + 1 = left listed := by
  unfold left
  have hi : i < listed.toList.length := by
    rcases Nat.lt_or_ge i listed.size with h1 | h1
    · simpa using h1
    · rw [Array.getElem?_eq_none h1] at h; cases h
  have e : listed.toList[i] = false := by
    have : listed.toList[i]? = some false := by simpa using h
    rw [List.getElem?_eq_getElem hi] at this
    injection this
  rw [Array.toList_setIfInBounds, List.countP_set hi, e]
  have hp : 0 < listed.toList.countP (fun b => !b) := List.countP_pos_iff.2 ⟨false, by rw [← e]; exact List.getElem_mem hi, rfl⟩
  simp only [Bool.not_false, Bool.not_true, if_true, Bool.false_eq_true, if_false]
  omega

theorem wpAny_inv (hR : ∀ W, S W W) (hV : ∀ d W W' v, S W W' → V d W v → V d W' v) (ds : List (List Nat)) (hB : invB ops a0.tmps.size ds = true) (hall : AllOk P Q I S V a0 ops ops ds)
    (hend : ∀ a W, I W → a.tmps.size = a0.tmps.size → a.defers = a0.defers → (∀ t, t ∉ dsts ops → a.tmps.getD t undef = a0.tmps.getD t undef) → (∀ d ∈ dsts ops, V d W (a.tmps.getD d undef)) → Q .normal a W) :
    ∀ (fuel : Nat) (listed : Array Bool) (a : Act) (W : World), Inv I V a0 ops listed a W → left listed ≤ fuel → wpAny P .any ops.toArray Q fuel listed a W := by
  simp only [invB, Bool.and_eq_true, decide_eq_true_eq, List.all_eq_true] at hB
  obtain ⟨⟨⟨hup, hsz⟩, hlen⟩, hds⟩ := hB
  -- all have come up: the end
  have fin : ∀ (listed : Array Bool) (a : Act) (W : World), Inv I V a0 ops listed a W → (∀ i, i < ops.length → listed.getD i false = true) → Q .normal a W := by
    intro listed a W h hl
    refine hend a W h.here h.tmps h.defers h.same fun d hd => ?_
    unfold dsts at hd
    rw [List.mem_filterMap] at hd
    obtain ⟨o, ho, hod⟩ := hd
    obtain ⟨i, hi, he⟩ := List.getElem_of_mem ho
    exact h.told i o d (by rw [List.getElem?_eq_getElem hi, he]) (hl i hi) hod
  -- none is ready: all have come up
  have all : ∀ (listed : Array Bool), listed.size = ops.length → Region.ready .any ops.toArray listed = [] → ∀ i, i < ops.length → listed.getD i false = true := by
    intro listed hs hr i
    induction i using Nat.strongRecOn with
    | ind i ih =>
      intro hi
      rcases Bool.eq_false_or_eq_true (listed.getD i false) with h | h
      · exact h
      · exfalso
        have hmem : i ∈ Region.ready .any ops.toArray listed := by
          unfold Region.ready
          rw [List.mem_filter, List.mem_range]
          have hli : i < listed.size := by omega
          refine ⟨by simpa using hi, ?_⟩
          have h2 : listed.getD i true = false := by
            rw [Array.getD_eq_getD_getElem?, Array.getElem?_eq_getElem hli] at h ⊢
            simpa using h
          have hu := hup i (by simpa using hi)
          rw [List.getElem?_eq_getElem hi] at hu
          simp only [Option.map_some, Option.getD_some, Array.all_eq_true'] at hu
          rw [h2]
          simp only [Bool.not_false, Bool.true_and, List.getElem?_toArray, List.getElem?_eq_getElem hi, Option.map_some, Option.getD_some, Array.all_eq_true']
          intro e he
          have := hu e he
          simp only [Bool.or_eq_true, decide_eq_true_eq] at this ⊢
          rcases this with h3 | h3
          · exact .inl h3
          · exact .inr (ih e.on h3 (by omega))
        rw [hr] at hmem
        simp at hmem
  intro fuel
  induction fuel with
  | zero =>
    intro listed a W h hl
    have hf : ∀ i, i < ops.length → listed.getD i false = true := by
      intro i hi
      rcases Bool.eq_false_or_eq_true (listed.getD i false) with h1 | h1
      · exact h1
      · exfalso
        have hli : i < listed.size := by rw [h.size]; exact hi
        have : listed[i]? = some false := by
          rw [Array.getD_eq_getD_getElem?, Array.getElem?_eq_getElem hli] at h1
          rw [Array.getElem?_eq_getElem hli]
          simpa using h1
        have := left_set this
        omega
    refine ⟨?_, fin listed a W h hf⟩
    unfold Region.ready
    rw [List.filter_eq_nil_iff]
    intro i hi
    have hi' : i < ops.length := by simpa using hi
    have h1 := hf i hi'
    have hli : i < listed.size := by rw [h.size]; exact hi'
    have h2 : listed.getD i true = true := by
      rw [Array.getD_eq_getD_getElem?, Array.getElem?_eq_getElem hli] at h1 ⊢
      simpa using h1
    simp [h2]
  | succ fuel ih =>
    intro listed a W h hl
    refine ⟨fun hr => fin listed a W h (all listed h.size hr), fun i hi => ?_⟩
    unfold Region.ready at hi
    rw [List.mem_filter, List.mem_range] at hi
    obtain ⟨hi, hrd⟩ := hi
    have hi' : i < ops.length := by simpa using hi
    have hli : i < listed.size := by rw [h.size]; exact hi'
    have ho : ops[i]? = some ops[i] := List.getElem?_eq_getElem hi'
    simp only [List.getElem?_toArray, ho, Option.map_some, Option.getD_some, Bool.and_eq_true, Bool.not_eq_true', Array.all_eq_true'] at hrd
    obtain ⟨hnl, haf⟩ := hrd
    have hfalse : listed[i]? = some false := by
      rw [Array.getD_eq_getD_getElem?, Array.getElem?_eq_getElem hli] at hnl
      rw [Array.getElem?_eq_getElem hli]
      simpa using hnl
    have hlt := left_set hfalse
    have hdi : i < ds.length := by omega
    have one := allOk_at hall ho (List.getElem?_eq_getElem hdi)
    have htold : Told V ds[i] a W := told_of fun d hd => by
      have hz : (ops[i], ds[i]) ∈ ops.zip ds := by
        have : (ops.zip ds)[i]'(by simp; omega) = (ops[i], ds[i]) := by simp
        rw [← this]
        exact List.getElem_mem _
      have := hds _ hz d hd
      unfold deps at this
      rw [List.mem_filterMap] at this
      obtain ⟨e, he, hed⟩ := this
      rw [List.mem_filter] at he
      obtain ⟨he, hbind⟩ := he
      have hl2 := haf e (by simpa using he)
      rw [hbind] at hl2
      simp only [Bool.not_true, Bool.false_or] at hl2
      cases hoe : ops[e.on]? with
      | none => rw [hoe] at hed; simp at hed
      | some o' =>
        rw [hoe] at hed
        exact h.told e.on o' d hoe hl2 (by simpa using hed)
    have hone := one a W h.here h.same htold
    unfold wpOp
    simp only [List.getElem?_toArray, ho]
    split
    · rename_i hw
      rw [if_pos hw] at hone
      refine .inl (Oper.wp_mono ?_ hone)
      rintro a' W' ⟨v, rfl, hI, hS, hv⟩
      exact ih _ _ _ (h.step hV hsz ho hI hS hv) (by omega)
    · rename_i hw
      rw [if_neg hw] at hone
      exact ih _ _ _ (h.step hV hsz ho h.here (hR W) hone) (by omega)

theorem left_none (n : Nat) : left (Array.replicate n false) = n := by
  unfold left
  simp [List.countP_replicate]

/-- THE LAW: the region, whatever order is drawn. -/
theorem wp_region_inv {id : Nat} {w : World} (hm : P.follows .mixedOrders = true) (I : World → Prop) (S : World → World → Prop) (V : Nat → World → Value → Prop) (ds : List (List Nat))
    (hB : invB ops a0.tmps.size ds = true) (hR : ∀ W, S W W) (hV : ∀ d W W' v, S W W' → V d W v → V d W' v) (hI : I w.drew) (hall : AllOk P Q I S V a0 ops ops ds)
    (hend : ∀ a W, I W → a.tmps.size = a0.tmps.size → a.defers = a0.defers → (∀ t, t ∉ dsts ops → a.tmps.getD t undef = a0.tmps.getD t undef) → (∀ d ∈ dsts ops, V d W (a.tmps.getD d undef)) → Q .normal a W) :
    (Code.region id ops.toArray true).wp P Q a0 w := by
  refine wp_region_any hm ?_
  refine wpAny_inv hR hV ds hB hall hend _ _ _ _ ⟨hI, by simp, rfl, rfl, fun _ _ => rfl, fun i o d hi hl _ => ?_⟩ (by rw [left_none]; simp)
  rw [Array.getD_eq_getD_getElem?] at hl
  simp [Array.getElem?_replicate] at hl
  split at hl <;> simp at hl
end

/-- The slots of a frame, one by one. -/
def AllAt (a : Act) : Nat → List Value → Prop
  | _, [] => True
  | k, v :: r => a.tmps.getD k undef = v ∧ AllAt a (k + 1) r
theorem allAt_get {a : Act} : ∀ {l : List Value} {k : Nat}, AllAt a k l → ∀ i, i < l.length → a.tmps.getD (k + i) undef = l.getD i undef
  | [], _, _, i, hi => by simp at hi
  | v :: r, k, h, 0, _ => by simpa using h.1
  | v :: r, k, h, i + 1, hi => by
    have := allAt_get h.2 i (by simpa using hi)
    rw [show k + (i + 1) = k + 1 + i by omega, this]
    simp
/-- A frame whose slots are known is known. -/
theorem act_of {a : Act} {l : List Value} {ds : List Deferred} (hs : a.tmps.size = l.length) (hd : a.defers = ds) (h : AllAt a 0 l) : a = { tmps := l.toArray, defers := ds } := by
  obtain ⟨t, d⟩ := a
  simp only at hs hd
  subst hd
  congr 1
  apply Array.ext
  · simpa using hs
  · intro i h1 h2
    have := allAt_get h i (by simpa using h2)
    simp only [Nat.zero_add, Array.getD_eq_getD_getElem?] at this
    rw [Array.getElem?_eq_getElem h1] at this
    simp only [Option.getD_some] at this
    rw [this]
    have h3 : i < l.length := by simpa using h2
    simp [h3]
/-- A guard that has said no, where no is asked. -/
theorem wanted_false {ops : List Oper} {o : Oper} {a : Act} {j d : Nat} (hg : o.guard = some (j, false)) (hd : (ops[j]?).bind (·.dst) = some d) (hv : a.tmps.getD d undef = .bool false) :
    Region.wanted o (yielded ops.toArray a.tmps) = true := by
  have h : a.tmps[d]? = some (.bool false) := by
    rw [Array.getD_eq_getD_getElem?] at hv
    cases ht : a.tmps[d]? with
    | none => rw [ht] at hv; exact absurd hv (by simp [undef])
    | some v => rw [ht] at hv; simpa using hv
  have hy : yielded ops.toArray a.tmps j = some false := by
    unfold yielded
    rw [List.getElem?_toArray, hd]
    simp [h]
  unfold Region.wanted
  rw [hg]
  simp [hy]

end Go.Proofs.YtdgdkkapikopnaaDoor
