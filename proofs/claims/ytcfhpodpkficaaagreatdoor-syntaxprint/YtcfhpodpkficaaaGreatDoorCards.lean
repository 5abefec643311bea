/-
  DERIVED. GIVEN WITH THE SEED: THE CARDS: each row of YtcfhpodpkficaaaGreatDoorRows.lean that lists a variable, with what it lists TIED to the program's text (the seventh form; the later family's looks); each row that meets fmt, with fmt's text TOLD by the authors' own Lean function (tested against real Go, not proved from fmt's source: count such statements apart). THE CARD IS WHAT COUNTS. Prove the row's statement (the work); the ties are given (YtcfhpodpkficaaaGreatDoorTie.lean); close each card by the builder's one call (the guide's Derived/Test/ToyasCard.lean, 'card_holds'). Laid BY PROGRAM, IN A SANDBOX (cutbox-door.mjs). By AI agents, Wed Nov 11 2026. No macro, syntax, notation, axiom, sorry.
-/
import Derived.Test.YtcfhpodpkficaaaGreatDoorRows
import GoSem.ClaimSeven
namespace Go.Proofs.YtcfhpodpkficaaaGreatDoor
namespace Rows

/-- THE TIED CARD OF 'delphilaw8.SyntaxProgram'. -/
def syntaxProgramCard : Claim7 := { stood := { row := syntaxProgramRow, standIns := [], harness := (true, "7239a125e3094aba9fa5fb625ace794154a3591856fa3f97ac68457aa2ec469f"), looks := true }, kinds := [], alts := [], laidByText := true, laidKinds := [.data, .data, .data, .sentinel, .sentinel, .data, .data], laidTests := true, laidLooks := .later }
def SyntaxProgramCardSaid : Prop := Claim7.holds Tryz.pinned (.plain (OpenSpec.ofChange syntaxProgramSpec)) syntaxProgramCard

/-- THE TIED CARD OF 'delphilaw8.SyntaxPrint'. -/
def syntaxPrintCard : Claim7 := { stood := { row := syntaxPrintRow, standIns := [], harness := (true, "7239a125e3094aba9fa5fb625ace794154a3591856fa3f97ac68457aa2ec469f"), looks := true }, kinds := [], alts := [], laidByText := true, laidKinds := [.data, .data, .data, .sentinel, .sentinel, .data, .data], laidTests := true, laidLooks := .later }
def SyntaxPrintCardSaid : Prop := Claim7.holds Tryz.pinned (.plain (OpenSpec.ofChange syntaxPrintSpec)) syntaxPrintCard

/-- THE TIED CARD OF 'delphilaw8.SyntaxFact'. -/
def syntaxFactCard : Claim7 := { stood := { row := syntaxFactRow, standIns := [], harness := (true, "7239a125e3094aba9fa5fb625ace794154a3591856fa3f97ac68457aa2ec469f"), looks := true }, kinds := [], alts := [], laidByText := true, laidKinds := [.data, .data, .data, .sentinel, .sentinel, .data, .data], laidTests := true, laidLooks := .later }
def SyntaxFactCardSaid : Prop := Claim7.holds Tryz.pinned (.plain (OpenSpec.ofChange syntaxFactSpec)) syntaxFactCard

/-- THE TIED CARD OF 'delphilaw8.SyntaxBlanks'. -/
def syntaxBlanksCard : Claim7 := { stood := { row := syntaxBlanksRow, standIns := [], harness := (true, "7239a125e3094aba9fa5fb625ace794154a3591856fa3f97ac68457aa2ec469f"), looks := true }, kinds := [], alts := [], laidByText := true, laidKinds := [.data, .data, .data, .sentinel, .sentinel, .data, .data], laidTests := true, laidLooks := .later }
def SyntaxBlanksCardSaid : Prop := Claim7.holds Tryz.pinned (.plain (OpenSpec.ofChange syntaxBlanksSpec)) syntaxBlanksCard

/-- THE SECOND FORM's CARD OF 'delphilaw8.SyntaxProgram'. -/
def syntaxProgramUptoCard : Claim7 := { stood := { row := syntaxProgramUptoRow, standIns := [], harness := (true, "7239a125e3094aba9fa5fb625ace794154a3591856fa3f97ac68457aa2ec469f"), looks := true }, kinds := [], alts := [], laidByText := true, laidKinds := [.data, .data, .data, .sentinel, .sentinel, .data, .data], laidTests := true, laidLooks := .later }
def SyntaxProgramUptoCardSaid : Prop := Claim7.holds Tryz.pinned (.plain (OpenSpec.upto syntaxProgramSpec)) syntaxProgramUptoCard

/-- THE SECOND FORM's CARD OF 'delphilaw8.SyntaxPrint'. -/
def syntaxPrintUptoCard : Claim7 := { stood := { row := syntaxPrintUptoRow, standIns := [], harness := (true, "7239a125e3094aba9fa5fb625ace794154a3591856fa3f97ac68457aa2ec469f"), looks := true }, kinds := [], alts := [], laidByText := true, laidKinds := [.data, .data, .data, .sentinel, .sentinel, .data, .data], laidTests := true, laidLooks := .later }
def SyntaxPrintUptoCardSaid : Prop := Claim7.holds Tryz.pinned (.plain (OpenSpec.upto syntaxPrintSpec)) syntaxPrintUptoCard

/-- THE SECOND FORM's CARD OF 'delphilaw8.SyntaxFact'. -/
def syntaxFactUptoCard : Claim7 := { stood := { row := syntaxFactUptoRow, standIns := [], harness := (true, "7239a125e3094aba9fa5fb625ace794154a3591856fa3f97ac68457aa2ec469f"), looks := true }, kinds := [], alts := [], laidByText := true, laidKinds := [.data, .data, .data, .sentinel, .sentinel, .data, .data], laidTests := true, laidLooks := .later }
def SyntaxFactUptoCardSaid : Prop := Claim7.holds Tryz.pinned (.plain (OpenSpec.upto syntaxFactSpec)) syntaxFactUptoCard

/-- THE SECOND FORM's CARD OF 'delphilaw8.SyntaxBlanks'. -/
def syntaxBlanksUptoCard : Claim7 := { stood := { row := syntaxBlanksUptoRow, standIns := [], harness := (true, "7239a125e3094aba9fa5fb625ace794154a3591856fa3f97ac68457aa2ec469f"), looks := true }, kinds := [], alts := [], laidByText := true, laidKinds := [.data, .data, .data, .sentinel, .sentinel, .data, .data], laidTests := true, laidLooks := .later }
def SyntaxBlanksUptoCardSaid : Prop := Claim7.holds Tryz.pinned (.plain (OpenSpec.upto syntaxBlanksSpec)) syntaxBlanksUptoCard
end Rows
end Go.Proofs.YtcfhpodpkficaaaGreatDoor
