/-
  DERIVED. GIVEN WITH THE SEED: THE CARDS: each row of YtjignlemahdoeaaDoorRows.lean that lists a variable, with what it lists TIED to the program's text (the seventh form; the later family's looks); each row that meets fmt, with fmt's text TOLD by the authors' own Lean function (tested against real Go, not proved from fmt's source: count such statements apart). THE CARD IS WHAT COUNTS. Prove the row's statement (the work); the ties are given (YtjignlemahdoeaaDoorTie.lean); close each card by the builder's one call (the guide's Derived/Test/ToyasCard.lean, 'card_holds'). Laid BY PROGRAM, IN A SANDBOX (cutbox-door.mjs). By AI agents, Wed Nov 11 2026. No macro, syntax, notation, axiom, sorry.
-/
import Derived.Test.YtjignlemahdoeaaDoorRows
import GoSem.ClaimSeven
namespace Go.Proofs.YtjignlemahdoeaaDoor
namespace Rows

/-- THE TIED CARD OF 'gristmilllaw10.TokenReads'. -/
def tokenReadsCard : Claim7 := { stood := { row := tokenReadsRow, standIns := [], harness := (true, "9a92455f175a39bd7c7d4fa5106363744a83e67dfeccd4ae559b61f3f1883075"), looks := true }, kinds := [], alts := [], laidByText := true, laidKinds := [.data, .data, .data, .data, .sentinel, .sentinel, .pinned], laidTests := true, laidLooks := .later }
def TokenReadsCardSaid : Prop := Claim7.holds Tryd.pinned (.plain (OpenSpec.ofChange tokenReadsSpec)) tokenReadsCard

/-- THE TIED CARD OF 'gristmilllaw10.TokenLines'. -/
def tokenLinesCard : Claim7 := { stood := { row := tokenLinesRow, standIns := [], harness := (true, "9a92455f175a39bd7c7d4fa5106363744a83e67dfeccd4ae559b61f3f1883075"), looks := true }, kinds := [], alts := [], laidByText := true, laidKinds := [.data, .data, .data, .data, .sentinel, .sentinel, .pinned], laidTests := true, laidLooks := .later }
def TokenLinesCardSaid : Prop := Claim7.holds Tryd.pinned (.plain (OpenSpec.ofChange tokenLinesSpec)) tokenLinesCard

/-- THE TIED CARD OF 'gristmilllaw10.TokenExprs'. -/
def tokenExprsCard : Claim7 := { stood := { row := tokenExprsRow, standIns := [], harness := (true, "9a92455f175a39bd7c7d4fa5106363744a83e67dfeccd4ae559b61f3f1883075"), looks := true }, kinds := [], alts := [], laidByText := true, laidKinds := [.data, .data, .data, .data, .sentinel, .sentinel, .pinned], laidTests := true, laidLooks := .later }
def TokenExprsCardSaid : Prop := Claim7.holds Tryd.pinned (.plain (OpenSpec.ofChange tokenExprsSpec)) tokenExprsCard

/-- THE SECOND FORM's CARD OF 'gristmilllaw10.TokenReads'. -/
def tokenReadsUptoCard : Claim7 := { stood := { row := tokenReadsUptoRow, standIns := [], harness := (true, "9a92455f175a39bd7c7d4fa5106363744a83e67dfeccd4ae559b61f3f1883075"), looks := true }, kinds := [], alts := [], laidByText := true, laidKinds := [.data, .data, .data, .data, .sentinel, .sentinel, .pinned], laidTests := true, laidLooks := .later }
def TokenReadsUptoCardSaid : Prop := Claim7.holds Tryd.pinned (.plain (OpenSpec.upto tokenReadsSpec)) tokenReadsUptoCard

/-- THE SECOND FORM's CARD OF 'gristmilllaw10.TokenLines'. -/
def tokenLinesUptoCard : Claim7 := { stood := { row := tokenLinesUptoRow, standIns := [], harness := (true, "9a92455f175a39bd7c7d4fa5106363744a83e67dfeccd4ae559b61f3f1883075"), looks := true }, kinds := [], alts := [], laidByText := true, laidKinds := [.data, .data, .data, .data, .sentinel, .sentinel, .pinned], laidTests := true, laidLooks := .later }
def TokenLinesUptoCardSaid : Prop := Claim7.holds Tryd.pinned (.plain (OpenSpec.upto tokenLinesSpec)) tokenLinesUptoCard

/-- THE SECOND FORM's CARD OF 'gristmilllaw10.TokenExprs'. -/
def tokenExprsUptoCard : Claim7 := { stood := { row := tokenExprsUptoRow, standIns := [], harness := (true, "9a92455f175a39bd7c7d4fa5106363744a83e67dfeccd4ae559b61f3f1883075"), looks := true }, kinds := [], alts := [], laidByText := true, laidKinds := [.data, .data, .data, .data, .sentinel, .sentinel, .pinned], laidTests := true, laidLooks := .later }
def TokenExprsUptoCardSaid : Prop := Claim7.holds Tryd.pinned (.plain (OpenSpec.upto tokenExprsSpec)) tokenExprsUptoCard
end Rows
end Go.Proofs.YtjignlemahdoeaaDoor
