/-
  No cell of these rows narrows 'for every input' (looked for: loops, veiled, ifaces, maps, wideKeys, modest, calm, conditions, laid).
  DERIVED. THE GIVEN ROWS OF THIS SEAT. 3 by the template 'for every input the law returns true; each argument reads behind the call as it read before'; 0 by the template 'total and deterministic' (their statements: YtcdghipodnafmaaTotals.lean).
  GIVEN WITH THE SEED: the statements are not yours to turn. If you find one false, say at which input.
  Laid BY PROGRAM, IN A SANDBOX (cutbox-rows.mjs): the forced cells as the released guide's own fill.sh prints them over the translation bb19c22b494afd5f… (all of the seat's roots in one cut). By AI agents, Wed Nov 11 2026. No macro, syntax, notation, axiom, sorry.
-/
import Derived.Test.YtcdghipodnafmaaChecked
import GoSem.Claim
import GoSem.ClaimJoined
import GoSem.ClaimMapViews
import Derived.JoinedTies
import Derived.KernelRfl
namespace Go.Proofs.Ytcdghipodnafmaa
/- THE CELL 'sum', in the pinned program and in every row, IS THE sha256 OF THE DUMP (.gsa) THAT YtcdghipodnafmaaProg.lean LOADS. Nothing in Lean hashes anything: it is a label: what it is worth is what the hold of that sum in a sandbox is worth. -/
noncomputable def Try.pinned : Pinned := { name := "ytcdghipodnafmaa", sum := "bb19c22b494afd5f0c2ff8fb19a8c5289d3ba9947f1e6e6f53695e582559fa77", checked := Try.checked }
namespace Rows
def none {H : Type} : Left H := { results := [], args := [] }

/-- 'gristmilllaw07.BagPlays': WHATEVER THE INPUT: true; the input reads as it did. -/
def bagPlaysSpec : ChangeSpec := { name := "bagPlays", fn := fun _ => fun
  | [d1, d2, d3] => { results := [.lit (.bool true)], args := [d1, d2, d3] }
  | _ => none }
def bagPlaysRow : OpenClaim := { program := "ytcdghipodnafmaa", sum := "bb19c22b494afd5f0c2ff8fb19a8c5289d3ba9947f1e6e6f53695e582559fa77", func := "gristmill/gristmilllaw07.BagPlays", spec := "bagPlays", inPlace := ["slices.overlaps[gristmill/api.Msg]"], apart := false }
def BagPlaysSaid : Prop := bagPlaysRow.holds Try.pinned (OpenSpec.ofChange bagPlaysSpec)

/-- ITS FALSE NEIGHBOUR: 'it returns false'. Refute it at one input. -/
def bagPlaysWrong : ChangeSpec := { name := "bagPlays", fn := fun _ => fun
  | [d1, d2, d3] => { results := [.lit (.bool false)], args := [d1, d2, d3] }
  | _ => none }
def BagPlaysWrongFalsely : Prop := bagPlaysRow.holds Try.pinned (OpenSpec.ofChange bagPlaysWrong)

/-- 'gristmilllaw07.BagKeeps': WHATEVER THE INPUT: true; the input reads as it did. -/
def bagKeepsSpec : ChangeSpec := { name := "bagKeeps", fn := fun _ => fun
  | [d] => { results := [.lit (.bool true)], args := [d] }
  | _ => none }
def bagKeepsRow : OpenClaim := { program := "ytcdghipodnafmaa", sum := "bb19c22b494afd5f0c2ff8fb19a8c5289d3ba9947f1e6e6f53695e582559fa77", func := "gristmill/gristmilllaw07.BagKeeps", spec := "bagKeeps", inPlace := ["slices.overlaps[gristmill/api.Msg]"], apart := false }
def BagKeepsSaid : Prop := bagKeepsRow.holds Try.pinned (OpenSpec.ofChange bagKeepsSpec)

/-- ITS FALSE NEIGHBOUR: 'it returns false'. Refute it at one input. -/
def bagKeepsWrong : ChangeSpec := { name := "bagKeeps", fn := fun _ => fun
  | [d] => { results := [.lit (.bool false)], args := [d] }
  | _ => none }
def BagKeepsWrongFalsely : Prop := bagKeepsRow.holds Try.pinned (OpenSpec.ofChange bagKeepsWrong)

/-- 'gristmilllaw07.BagNils': WHATEVER THE INPUT: true; the input reads as it did. -/
def bagNilsSpec : ChangeSpec := { name := "bagNils", fn := fun _ => fun
  | [d] => { results := [.lit (.bool true)], args := [d] }
  | _ => none }
def bagNilsRow : OpenClaim := { program := "ytcdghipodnafmaa", sum := "bb19c22b494afd5f0c2ff8fb19a8c5289d3ba9947f1e6e6f53695e582559fa77", func := "gristmill/gristmilllaw07.BagNils", spec := "bagNils", inPlace := ["slices.overlaps[gristmill/api.Msg]"], apart := false }
def BagNilsSaid : Prop := bagNilsRow.holds Try.pinned (OpenSpec.ofChange bagNilsSpec)

/-- ITS FALSE NEIGHBOUR: 'it returns false'. Refute it at one input. -/
def bagNilsWrong : ChangeSpec := { name := "bagNils", fn := fun _ => fun
  | [d] => { results := [.lit (.bool false)], args := [d] }
  | _ => none }
def BagNilsWrongFalsely : Prop := bagNilsRow.holds Try.pinned (OpenSpec.ofChange bagNilsWrong)

/- THE SECOND FORM. 'bulk': how many values and letters a reading holds, each counted each time it is reached (what is shared counts as often as it is met; a slice's spare places count too). A statement '..UptoSaid' is the law's where the arguments, and the package variables that the reading takes, are together of bulk at most 1048576: NARROWER than '..Said'. Prove '..Said' where nothing that the law and all that it calls make is longer than what came in: it says more and counts as full. Else prove '..UptoSaid'. A law counts once. -/
mutual
def uptoBulk {H : Type} : DataW H → Nat
  | .lit (.string bytes) => bytes.length + 1
  | .lit _ => 1
  | .nil => 1
  | .ptr d => uptoBulk d + 1
  | .slice elems spare => uptoBulkAll elems + uptoBulkAll spare + 1
  | .agg parts => uptoBulkAll parts + 1
  | .iface _ d => uptoBulk d + 1
  | .map entries => uptoBulkEntries entries + 1
  | .held _ => 1
def uptoBulkAll {H : Type} : List (DataW H) → Nat
  | [] => 0
  | d :: r => uptoBulk d + uptoBulkAll r
def uptoBulkEntries {H : Type} : List (Lit × DataW H) → Nat
  | [] => 0
  | x :: r => uptoBulkEntry x + uptoBulkEntries r
def uptoBulkEntry {H : Type} : Lit × DataW H → Nat
  | (.string bytes, d) => bytes.length + uptoBulk d + 1
  | (_, d) => uptoBulk d + 1
 end
def uptoSmall : (H : Type) → List (DataW H) → Bool := fun _ ds => decide (uptoBulkAll ds ≤ 1048576)
def OpenSpec.upto (s : _root_.Go.ChangeSpec) : _root_.Go.OpenSpec := { _root_.Go.OpenSpec.ofChange s with cond := some uptoSmall }

/-- 'gristmilllaw07.BagPlays', WHERE WHAT IT READS IS OF BULK AT MOST 1048576: true; the input reads as it did. -/
def bagPlaysUptoRow : OpenClaim := { program := "ytcdghipodnafmaa", sum := "bb19c22b494afd5f0c2ff8fb19a8c5289d3ba9947f1e6e6f53695e582559fa77", func := "gristmill/gristmilllaw07.BagPlays", spec := "bagPlays", inPlace := ["slices.overlaps[gristmill/api.Msg]"], apart := false, narrowed := true }
def BagPlaysUptoSaid : Prop := bagPlaysUptoRow.holds Try.pinned (OpenSpec.upto bagPlaysSpec)

/-- 'gristmilllaw07.BagKeeps', WHERE WHAT IT READS IS OF BULK AT MOST 1048576: true; the input reads as it did. -/
def bagKeepsUptoRow : OpenClaim := { program := "ytcdghipodnafmaa", sum := "bb19c22b494afd5f0c2ff8fb19a8c5289d3ba9947f1e6e6f53695e582559fa77", func := "gristmill/gristmilllaw07.BagKeeps", spec := "bagKeeps", inPlace := ["slices.overlaps[gristmill/api.Msg]"], apart := false, narrowed := true }
def BagKeepsUptoSaid : Prop := bagKeepsUptoRow.holds Try.pinned (OpenSpec.upto bagKeepsSpec)

/-- 'gristmilllaw07.BagNils', WHERE WHAT IT READS IS OF BULK AT MOST 1048576: true; the input reads as it did. -/
def bagNilsUptoRow : OpenClaim := { program := "ytcdghipodnafmaa", sum := "bb19c22b494afd5f0c2ff8fb19a8c5289d3ba9947f1e6e6f53695e582559fa77", func := "gristmill/gristmilllaw07.BagNils", spec := "bagNils", inPlace := ["slices.overlaps[gristmill/api.Msg]"], apart := false, narrowed := true }
def BagNilsUptoSaid : Prop := bagNilsUptoRow.holds Try.pinned (OpenSpec.upto bagNilsSpec)

end Rows
end Go.Proofs.Ytcdghipodnafmaa
