/-
  Files of a disk, plain: a list of files sorted by name, what each call makes of it. No function of the program in sight. No conditions.
-/
import Derived.Test.YtpnlgmnlanoncaaBase
import Derived.Test.YtpnlgmnlanoncaaDLt
namespace Go.Proofs.Ytpnlgmnlanoncaa
set_option linter.unusedVariables false

theorem ba_ext {a b : ByteArray} (h : a.data.toList = b.data.toList) : a = b := ByteArray.ext (Array.toList_inj.1 h)
theorem sl_inj {a b : ByteArray} (h : sl a = sl b) : a = b := by rw [← str_sl a, h, str_sl]
/-- The order of names. -/
def nlt (a b : ByteArray) : Bool := ltT (sl a) (sl b)
theorem nlt_irrefl (a : ByteArray) : nlt a a = false := ltT_irrefl _
theorem nlt_asymm {a b : ByteArray} (h : nlt a b = true) : nlt b a = false := ltT_asymm _ _ h
theorem nlt_trans {a b c : ByteArray} (h : nlt a b = true) (k : nlt b c = true) : nlt a c = true := ltT_trans _ _ _ h k
theorem nlt_total {a b : ByteArray} (h : nlt a b = false) (hne : a ≠ b) : nlt b a = true := by
  cases hb : nlt b a with
  | true => rfl
  | false => exact absurd (sl_inj (ltT_total _ _ h hb)) hne
theorem nlt_ne {a b : ByteArray} (h : nlt a b = true) : a ≠ b := by
  intro e; subst e; rw [nlt_irrefl] at h; cases h

section
variable {α β : Type} (nm : α → ByteArray)
def fd (L : List α) (s : ByteArray) : Option α := L.find? fun r => decide (nm r = s)
def wo (L : List α) (s : ByteArray) : List α := L.filter fun r => decide (nm r ≠ s)
def ins (x : α) : List α → List α
  | [] => [x]
  | y :: r => if nlt (nm x) (nm y) then x :: y :: r else y :: ins x r
def wi (L : List α) (x : α) : List α := ins nm x (wo nm L (nm x))
def Srt (L : List α) : Prop := L.Pairwise fun a b => nlt (nm a) (nm b) = true
variable {nm}
theorem fd_some {L : List α} {s : ByteArray} {r : α} (h : fd nm L s = some r) : r ∈ L ∧ nm r = s := by
  unfold fd at h
  have h2 := List.find?_some h
  exact ⟨List.mem_of_find?_eq_some h, by simpa using h2⟩
theorem fd_none {L : List α} {s : ByteArray} (h : fd nm L s = none) : ∀ r ∈ L, nm r ≠ s := by
  unfold fd at h
  intro r hr
  have := List.find?_eq_none.1 h r hr
  simpa using this
theorem fd_none_of {L : List α} {s : ByteArray} (h : ∀ r ∈ L, nm r ≠ s) : fd nm L s = none := by
  unfold fd
  exact List.find?_eq_none.2 fun r hr => by simpa using h r hr
theorem fd_nil (s : ByteArray) : fd nm [] s = none := rfl
theorem fd_cons (x : α) (L : List α) (s : ByteArray) : fd nm (x :: L) s = if nm x = s then some x else fd nm L s := by
  unfold fd
  rw [List.find?_cons]
  by_cases h : nm x = s <;> simp [h]
theorem wo_cons (x : α) (L : List α) (s : ByteArray) : wo nm (x :: L) s = if nm x = s then wo nm L s else x :: wo nm L s := by
  unfold wo
  by_cases h : nm x = s <;> simp [h]
theorem fd_wo (L : List α) (s t : ByteArray) : fd nm (wo nm L s) t = if t = s then none else fd nm L t := by
  induction L with
  | nil => simp [wo, fd]
  | cons x L ih =>
    rw [wo_cons]
    by_cases h : nm x = s
    · rw [if_pos h, ih, fd_cons]
      by_cases ht : t = s
      · rw [if_pos ht, if_pos ht]
      · rw [if_neg ht, if_neg ht, if_neg (fun e => ht (by rw [← e, h]))]
    · rw [if_neg h, fd_cons, fd_cons, ih]
      by_cases hx : nm x = t
      · rw [if_pos hx, if_pos hx, if_neg (fun e => h (by rw [hx, e]))]
      · rw [if_neg hx, if_neg hx]
theorem fd_ins (x : α) (L : List α) (t : ByteArray) (h : ∀ y ∈ L, nm y ≠ nm x) : fd nm (ins nm x L) t = if t = nm x then some x else fd nm L t := by
  induction L with
  | nil =>
    unfold ins
    rw [fd_cons]
    by_cases ht : t = nm x
    · rw [if_pos ht.symm, if_pos ht]
    · rw [if_neg (fun e => ht e.symm), if_neg ht]
  | cons y L ih =>
    have ih := ih fun z hz => h z (by simp [hz])
    unfold ins
    split
    · rw [fd_cons]
      by_cases ht : t = nm x
      · rw [if_pos ht.symm, if_pos ht]
      · rw [if_neg (fun e => ht e.symm), if_neg ht]
    · rw [fd_cons, ih, fd_cons]
      by_cases hy : nm y = t
      · rw [if_pos hy, if_pos hy, if_neg (fun e => h y (by simp) (by rw [hy, e]))]
      · rw [if_neg hy, if_neg hy]
theorem mem_wo {L : List α} {s : ByteArray} {r : α} : r ∈ wo nm L s ↔ r ∈ L ∧ nm r ≠ s := by simp [wo]
theorem mem_ins {x r : α} {L : List α} : r ∈ ins nm x L ↔ r = x ∨ r ∈ L := by
  induction L with
  | nil => simp [ins]
  | cons y L ih =>
    unfold ins
    split
    · simp
    · simp only [List.mem_cons, ih]
      constructor
      · rintro (h | h | h)
        · exact .inr (.inl h)
        · exact .inl h
        · exact .inr (.inr h)
      · rintro (h | h | h)
        · exact .inr (.inl h)
        · exact .inl h
        · exact .inr (.inr h)
theorem mem_wi {x r : α} {L : List α} : r ∈ wi nm L x ↔ r = x ∨ (r ∈ L ∧ nm r ≠ nm x) := by unfold wi; rw [mem_ins, mem_wo]
theorem fd_wi (L : List α) (x : α) (t : ByteArray) : fd nm (wi nm L x) t = if t = nm x then some x else fd nm L t := by
  unfold wi
  rw [fd_ins _ _ _ (fun y hy => (mem_wo.1 hy).2), fd_wo]
  by_cases h : t = nm x
  · rw [if_pos h, if_pos h]
  · rw [if_neg h, if_neg h, if_neg h]
theorem Srt.wo {L : List α} (h : Srt nm L) (s : ByteArray) : Srt nm (wo nm L s) := List.Pairwise.filter _ h
theorem Srt.ins {x : α} : ∀ {L : List α}, Srt nm L → (∀ y ∈ L, nm y ≠ nm x) → Srt nm (ins nm x L)
  | [], _, _ => by unfold Go.Proofs.Ytpnlgmnlanoncaa.ins; exact List.pairwise_singleton _ _
  | y :: L, h, hn => by
    unfold Go.Proofs.Ytpnlgmnlanoncaa.ins
    obtain ⟨h1, h2⟩ := List.pairwise_cons.1 h
    split
    · rename_i hlt
      refine List.pairwise_cons.2 ⟨fun z hz => ?_, h⟩
      rcases List.mem_cons.1 hz with rfl | hz
      · exact hlt
      · exact nlt_trans hlt (h1 z hz)
    · rename_i hlt
      refine List.pairwise_cons.2 ⟨fun z hz => ?_, Srt.ins h2 fun z hz => hn z (by simp [hz])⟩
      rcases mem_ins.1 hz with rfl | hz
      · exact nlt_total (by simpa using hlt) (fun e => hn y (by simp) e.symm)
      · exact h1 z hz
theorem Srt.wi {L : List α} (h : Srt nm L) (x : α) : Srt nm (wi nm L x) := (h.wo _).ins fun y hy => (mem_wo.1 hy).2
theorem Srt.uniq {L : List α} (h : Srt nm L) {r s : α} (hr : r ∈ L) (hs : s ∈ L) (e : nm r = nm s) : r = s := by
  induction L with
  | nil => cases hr
  | cons y L ih =>
    obtain ⟨h1, h2⟩ := List.pairwise_cons.1 h
    rcases List.mem_cons.1 hr with rfl | hr' <;> rcases List.mem_cons.1 hs with rfl | hs'
    · rfl
    · exact absurd e (nlt_ne (h1 s hs'))
    · exact absurd e.symm (nlt_ne (h1 r hr'))
    · exact ih h2 hr' hs'
theorem fd_mem {L : List α} (h : Srt nm L) {r : α} (hr : r ∈ L) : fd nm L (nm r) = some r := by
  cases hf : fd nm L (nm r) with
  | none => exact absurd rfl (fd_none hf r hr)
  | some s =>
    obtain ⟨h1, h2⟩ := fd_some hf
    rw [h.uniq h1 hr h2]
theorem wo_all {L : List α} {s : ByteArray} (h : ∀ r ∈ L, nm r ≠ s) : wo nm L s = L := by
  unfold wo
  exact List.filter_eq_self.2 fun r hr => by simpa using h r hr
theorem wo_append (L M : List α) (s : ByteArray) : wo nm (L ++ M) s = wo nm L s ++ wo nm M s := by simp [wo]
theorem Srt.parts {pre post : List α} {r : α} (h : Srt nm (pre ++ r :: post)) : (∀ y ∈ pre, nlt (nm y) (nm r) = true) ∧ (∀ y ∈ post, nlt (nm r) (nm y) = true) := by
  obtain ⟨_, h2, h3⟩ := List.pairwise_append.1 h
  exact ⟨fun y hy => h3 y hy r (by simp), (List.pairwise_cons.1 h2).1⟩
theorem wo_mid {pre post : List α} {r : α} (h : Srt nm (pre ++ r :: post)) : wo nm (pre ++ r :: post) (nm r) = pre ++ post := by
  obtain ⟨h1, h2⟩ := h.parts
  rw [wo_append, wo_cons, if_pos rfl, wo_all fun y hy => nlt_ne (h1 y hy), wo_all fun y hy => (nlt_ne (h2 y hy)).symm]
theorem ins_mid {pre post : List α} {x : α} (h1 : ∀ y ∈ pre, nlt (nm y) (nm x) = true) (h2 : ∀ y ∈ post, nlt (nm x) (nm y) = true) : ins nm x (pre ++ post) = pre ++ x :: post := by
  induction pre with
  | nil =>
    cases post with
    | nil => rfl
    | cons y post => simp only [List.nil_append]; unfold ins; rw [if_pos (h2 y (by simp))]
  | cons y pre ih =>
    simp only [List.cons_append]
    unfold ins
    rw [if_neg (by rw [nlt_asymm (h1 y (by simp))]; simp), ih fun z hz => h1 z (by simp [hz])]
theorem wi_mid {pre post : List α} {r x : α} (h : Srt nm (pre ++ r :: post)) (hx : nm x = nm r) : wi nm (pre ++ r :: post) x = pre ++ x :: post := by
  unfold wi
  rw [hx, wo_mid h]
  obtain ⟨h1, h2⟩ := h.parts
  exact ins_mid (fun y hy => by rw [hx]; exact h1 y hy) (fun y hy => by rw [hx]; exact h2 y hy)
theorem wi_same {L : List α} (h : Srt nm L) {r : α} (hr : r ∈ L) : wi nm L r = L := by
  obtain ⟨pre, post, rfl⟩ := List.append_of_mem hr
  exact wi_mid h rfl
theorem wo_wi {L : List α} (x : α) : wi nm (wo nm L (nm x)) x = wi nm L x := by
  unfold wi
  rw [wo_all (L := wo nm L (nm x)) fun y hy => (mem_wo.1 hy).2]
variable {nn : β → ByteArray} {g : α → β}
theorem fd_map (hg : ∀ x, nn (g x) = nm x) (L : List α) (s : ByteArray) : fd nn (L.map g) s = (fd nm L s).map g := by
  induction L with
  | nil => rfl
  | cons x L ih =>
    rw [List.map_cons, fd_cons, fd_cons, ih, hg]
    by_cases h : nm x = s <;> simp [h]
theorem map_wo (hg : ∀ x, nn (g x) = nm x) (L : List α) (s : ByteArray) : (wo nm L s).map g = wo nn (L.map g) s := by
  induction L with
  | nil => rfl
  | cons x L ih =>
    rw [List.map_cons, wo_cons, wo_cons, hg]
    by_cases h : nm x = s <;> simp [h, ih]
theorem map_ins (hg : ∀ x, nn (g x) = nm x) (x : α) (L : List α) : (ins nm x L).map g = ins nn (g x) (L.map g) := by
  induction L with
  | nil => rfl
  | cons y L ih =>
    simp only [List.map_cons]
    unfold ins
    rw [hg, hg]
    split
    · rfl
    · rw [List.map_cons, ih]
theorem map_wi (hg : ∀ x, nn (g x) = nm x) (L : List α) (x : α) : (wi nm L x).map g = wi nn (L.map g) (g x) := by
  unfold wi
  rw [map_ins hg, map_wo hg, hg]
theorem Srt.map (hg : ∀ x, nn (g x) = nm x) {L : List α} : Srt nn (L.map g) ↔ Srt nm L := by
  unfold Srt
  rw [List.pairwise_map]
  simp only [hg]
theorem ins_length (x : α) (L : List α) : (ins nm x L).length = L.length + 1 := by
  induction L with
  | nil => rfl
  | cons y L ih =>
    unfold ins
    split <;> simp [ih]
theorem wo_length_le (L : List α) (s : ByteArray) : (wo nm L s).length ≤ L.length := List.length_filter_le _ _
theorem wo_length_some {L : List α} (h : Srt nm L) {s : ByteArray} {r : α} (hf : fd nm L s = some r) : (wo nm L s).length + 1 = L.length := by
  obtain ⟨hr, rfl⟩ := fd_some hf
  obtain ⟨pre, post, rfl⟩ := List.append_of_mem hr
  rw [wo_mid h]
  simp; omega
end

/-- A file: its name, bytes, how many of them are synced, whether it was ever synced. -/
structure Fl where
  name : ByteArray
  b : List Int
  syn : Nat
  ever : Bool
/-- A disk: its capacity, files, the calls that are left (negative: no end is set), whether one was refused. -/
structure St where
  cap : Int
  fs : List Fl
  left : Int
  dead : Bool
def total : List Fl → Nat
  | [] => 0
  | f :: r => f.b.length + total r
theorem total_append (a b : List Fl) : total (a ++ b) = total a + total b := by
  induction a with
  | nil => simp [total]
  | cons f a ih => simp only [List.cons_append, total, ih]; omega
theorem total_ins (f : Fl) (L : List Fl) : total (ins Fl.name f L) = f.b.length + total L := by
  induction L with
  | nil => rfl
  | cons y L ih =>
    unfold ins
    split
    · rfl
    · simp only [total, ih]; omega
theorem total_wo_some {L : List Fl} (h : Srt Fl.name L) {s : ByteArray} {f : Fl} (hf : fd Fl.name L s = some f) : total (wo Fl.name L s) + f.b.length = total L := by
  obtain ⟨hr, rfl⟩ := fd_some hf
  obtain ⟨pre, post, rfl⟩ := List.append_of_mem hr
  rw [wo_mid h, total_append, total_append, total]
  omega
theorem total_wo_none {L : List Fl} {s : ByteArray} (hf : fd Fl.name L s = none) : wo Fl.name L s = L := wo_all (fd_none hf)
theorem total_mem {L : List Fl} {f : Fl} (h : f ∈ L) : f.b.length ≤ total L := by
  induction L with
  | nil => cases h
  | cons y L ih =>
    rcases List.mem_cons.1 h with rfl | h
    · simp [total]
    · have := ih h; simp [total]; omega
theorem total_wo_le (L : List Fl) (s : ByteArray) : total (wo Fl.name L s) ≤ total L := by
  induction L with
  | nil => simp [wo]
  | cons y L ih =>
    rw [wo_cons]
    split
    · simp [total]; omega
    · simp [total]; omega

def bad (s : ByteArray) : Bool := decide (s.size < 1) || decide (64 < s.size)
/-- One call more. -/
def burn (d : St) : St := if d.left = 0 then { d with dead := true } else if 0 < d.left then { d with left := d.left - 1 } else d
/-- The start of every call that changes files. -/
def startS (d : St) (names : List ByteArray) (k : St → St × Int) : St × Int :=
  if names.any bad then (d, 1) else if d.left = 0 then (burn d, 61) else k (burn d)
def onS (d : St) (name : ByteArray) (k : Fl → St × Int) : St × Int :=
  match fd Fl.name d.fs name with
  | none => (d, 6)
  | some f => k f
def appS (d : St) (name : ByteArray) (b : List Int) : St × Int :=
  if d.cap - total d.fs < b.length then (d, 60) else
  match fd Fl.name d.fs name with
  | none => if 65536 ≤ d.fs.length then (d, 9) else ({ d with fs := wi Fl.name d.fs ⟨name, b, 0, false⟩ }, 0)
  | some f => ({ d with fs := wi Fl.name d.fs { f with b := f.b ++ b } }, 0)
def appendS (d : St) (name : ByteArray) (b : List Int) : St × Int := startS d [name] fun d => appS d name b
def syncS (d : St) (name : ByteArray) : St × Int := startS d [name] fun d => onS d name fun f => ({ d with fs := wi Fl.name d.fs { f with syn := f.b.length, ever := true } }, 0)
def removeS (d : St) (name : ByteArray) : St × Int := startS d [name] fun d => onS d name fun f => ({ d with fs := wo Fl.name d.fs name }, 0)
def short (f : Fl) (n : Nat) : Fl := { f with b := f.b.take n, syn := min f.syn n }
def cutS (d : St) (name : ByteArray) (n : Int) : St × Int := startS d [name] fun d => onS d name fun f => if n < 0 ∨ (f.b.length : Int) < n then (d, 1) else ({ d with fs := wi Fl.name d.fs (short f n.toNat) }, 0)
def renameS (d : St) (name to : ByteArray) : St × Int := startS d [name, to] fun d => onS d name fun f => ({ d with fs := wi Fl.name (wo Fl.name d.fs name) { f with name := to } }, 0)
def armS (d : St) (n : Int) : St := { d with left := n, dead := false }
/-- How many bytes a crash leaves. -/
def keptN (f : Fl) (k : Int) : Nat := f.syn + min (max k 0).toNat (f.b.length - f.syn)
def crash1 (f : Fl) (k : Int) : Fl := { f with b := f.b.take (keptN f k), syn := keptN f k, ever := f.ever || decide (0 < keptN f k) }
def crashO (f : Fl) (k : Int) : List Fl := if (crash1 f k).ever then [crash1 f k] else []
/-- The first i files behind a crash. -/
def crashN (fs : List Fl) (keep : List Int) : Nat → List Fl
  | 0 => []
  | i + 1 => crashN fs keep i ++ (match fs[i]? with | some f => crashO f (keep.getD i 0) | none => [])
def crashS (d : St) (keep : List Int) : St := { armS d (-1) with fs := crashN d.fs keep d.fs.length }

/-- What every disk keeps. -/
structure Ok (d : St) : Prop where
  srt : Srt Fl.name d.fs
  lo : 1 ≤ d.cap
  hi : d.cap ≤ 1048576
  fits : (total d.fs : Int) ≤ d.cap
  many : d.fs.length ≤ 65536
  dead : d.dead = true → d.left = 0
  small : -9223372036854775808 ≤ d.left ∧ d.left ≤ 9223372036854775807
  files : ∀ f ∈ d.fs, f.syn ≤ f.b.length ∧ IsB f.b ∧ bad f.name = false
end Go.Proofs.Ytpnlgmnlanoncaa
