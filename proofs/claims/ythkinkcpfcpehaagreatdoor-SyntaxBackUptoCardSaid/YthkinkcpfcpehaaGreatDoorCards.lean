/-
  DERIVED. GIVEN WITH THE SEED: THE CARDS: each row of YthkinkcpfcpehaaGreatDoorRows.lean that lists a variable, with what it lists TIED to the program's text (the seventh form; the later family's looks); each row that meets fmt, with fmt's text TOLD by the authors' own Lean function (tested against real Go, not proved from fmt's source: count such statements apart). THE CARD IS WHAT COUNTS. Prove the row's statement (the work); the ties are given (YthkinkcpfcpehaaGreatDoorTie.lean); close each card by the builder's one call (the guide's Derived/Test/ToyasCard.lean, 'card_holds'). Laid BY PROGRAM, IN A SANDBOX (cutbox-door.mjs). By AI agents, Wed Nov 11 2026. No macro, syntax, notation, axiom, sorry.
-/
import Derived.Test.YthkinkcpfcpehaaGreatDoorRows
import GoSem.ClaimSeven
namespace Go.Proofs.YthkinkcpfcpehaaGreatDoor
namespace Rows

/-- THE TIED CARD OF 'assizelaw13.SyntaxReads'. -/
def syntaxReadsCard : Claim7 := { stood := { row := syntaxReadsRow, standIns := [], harness := (true, "54629e6d6612697207b54a7194cadb3b54f3bfa0b8693f6f58d6665897b44903"), looks := false }, kinds := [], alts := [], laidByText := true, laidKinds := [.data, .data, .data, .data], laidTests := true, laidLooks := .later }
def SyntaxReadsCardSaid : Prop := Claim7.holds Tryz.pinned (.plain (OpenSpec.ofChange syntaxReadsSpec)) syntaxReadsCard

/-- THE TIED CARD OF 'assizelaw13.SyntaxClauses'. -/
def syntaxClausesCard : Claim7 := { stood := { row := syntaxClausesRow, standIns := [], harness := (true, "54629e6d6612697207b54a7194cadb3b54f3bfa0b8693f6f58d6665897b44903"), looks := false }, kinds := [], alts := [], laidByText := true, laidKinds := [.data, .data, .data, .data], laidTests := true, laidLooks := .later }
def SyntaxClausesCardSaid : Prop := Claim7.holds Tryz.pinned (.plain (OpenSpec.ofChange syntaxClausesSpec)) syntaxClausesCard

/-- THE TIED CARD OF 'assizelaw13.SyntaxShows'. -/
def syntaxShowsCard : Claim7 := { stood := { row := syntaxShowsRow, standIns := [], harness := (true, "54629e6d6612697207b54a7194cadb3b54f3bfa0b8693f6f58d6665897b44903"), looks := false }, kinds := [], alts := [], laidByText := true, laidKinds := [.data, .data, .data, .data], laidTests := true, laidLooks := .later }
def SyntaxShowsCardSaid : Prop := Claim7.holds Tryz.pinned (.plain (OpenSpec.ofChange syntaxShowsSpec)) syntaxShowsCard

/-- THE TIED CARD OF 'assizelaw13.SyntaxBack'. -/
def syntaxBackCard : Claim7 := { stood := { row := syntaxBackRow, standIns := [], harness := (true, "54629e6d6612697207b54a7194cadb3b54f3bfa0b8693f6f58d6665897b44903"), looks := false }, kinds := [], alts := [], laidByText := true, laidKinds := [.data, .data, .data, .data], laidTests := true, laidLooks := .later }
def SyntaxBackCardSaid : Prop := Claim7.holds Tryz.pinned (.plain (OpenSpec.ofChange syntaxBackSpec)) syntaxBackCard

/-- THE TIED CARD OF 'assizelaw13.SyntaxCanons'. -/
def syntaxCanonsCard : Claim7 := { stood := { row := syntaxCanonsRow, standIns := [], harness := (true, "54629e6d6612697207b54a7194cadb3b54f3bfa0b8693f6f58d6665897b44903"), looks := false }, kinds := [], alts := [], laidByText := true, laidKinds := [.data, .data, .data, .data], laidTests := true, laidLooks := .later }
def SyntaxCanonsCardSaid : Prop := Claim7.holds Tryz.pinned (.plain (OpenSpec.ofChange syntaxCanonsSpec)) syntaxCanonsCard

/-- THE SECOND FORM's CARD OF 'assizelaw13.SyntaxReads'. -/
def syntaxReadsUptoCard : Claim7 := { stood := { row := syntaxReadsUptoRow, standIns := [], harness := (true, "54629e6d6612697207b54a7194cadb3b54f3bfa0b8693f6f58d6665897b44903"), looks := false }, kinds := [], alts := [], laidByText := true, laidKinds := [.data, .data, .data, .data], laidTests := true, laidLooks := .later }
def SyntaxReadsUptoCardSaid : Prop := Claim7.holds Tryz.pinned (.plain (OpenSpec.upto syntaxReadsSpec)) syntaxReadsUptoCard

/-- THE SECOND FORM's CARD OF 'assizelaw13.SyntaxClauses'. -/
def syntaxClausesUptoCard : Claim7 := { stood := { row := syntaxClausesUptoRow, standIns := [], harness := (true, "54629e6d6612697207b54a7194cadb3b54f3bfa0b8693f6f58d6665897b44903"), looks := false }, kinds := [], alts := [], laidByText := true, laidKinds := [.data, .data, .data, .data], laidTests := true, laidLooks := .later }
def SyntaxClausesUptoCardSaid : Prop := Claim7.holds Tryz.pinned (.plain (OpenSpec.upto syntaxClausesSpec)) syntaxClausesUptoCard

/-- THE SECOND FORM's CARD OF 'assizelaw13.SyntaxShows'. -/
def syntaxShowsUptoCard : Claim7 := { stood := { row := syntaxShowsUptoRow, standIns := [], harness := (true, "54629e6d6612697207b54a7194cadb3b54f3bfa0b8693f6f58d6665897b44903"), looks := false }, kinds := [], alts := [], laidByText := true, laidKinds := [.data, .data, .data, .data], laidTests := true, laidLooks := .later }
def SyntaxShowsUptoCardSaid : Prop := Claim7.holds Tryz.pinned (.plain (OpenSpec.upto syntaxShowsSpec)) syntaxShowsUptoCard

/-- THE SECOND FORM's CARD OF 'assizelaw13.SyntaxBack'. -/
def syntaxBackUptoCard : Claim7 := { stood := { row := syntaxBackUptoRow, standIns := [], harness := (true, "54629e6d6612697207b54a7194cadb3b54f3bfa0b8693f6f58d6665897b44903"), looks := false }, kinds := [], alts := [], laidByText := true, laidKinds := [.data, .data, .data, .data], laidTests := true, laidLooks := .later }
def SyntaxBackUptoCardSaid : Prop := Claim7.holds Tryz.pinned (.plain (OpenSpec.upto syntaxBackSpec)) syntaxBackUptoCard

/-- THE SECOND FORM's CARD OF 'assizelaw13.SyntaxCanons'. -/
def syntaxCanonsUptoCard : Claim7 := { stood := { row := syntaxCanonsUptoRow, standIns := [], harness := (true, "54629e6d6612697207b54a7194cadb3b54f3bfa0b8693f6f58d6665897b44903"), looks := false }, kinds := [], alts := [], laidByText := true, laidKinds := [.data, .data, .data, .data], laidTests := true, laidLooks := .later }
def SyntaxCanonsUptoCardSaid : Prop := Claim7.holds Tryz.pinned (.plain (OpenSpec.upto syntaxCanonsSpec)) syntaxCanonsUptoCard
end Rows
end Go.Proofs.YthkinkcpfcpehaaGreatDoor
