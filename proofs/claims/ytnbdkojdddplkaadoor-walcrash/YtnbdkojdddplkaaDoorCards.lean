/-
  DERIVED. GIVEN WITH THE SEED: THE CARDS: each row of YtnbdkojdddplkaaDoorRows.lean that lists a variable, with what it lists TIED to the program's text (the seventh form; the later family's looks); each row that meets fmt, with fmt's text TOLD by the authors' own Lean function (tested against real Go, not proved from fmt's source: count such statements apart). THE CARD IS WHAT COUNTS. Prove the row's statement (the work); the ties are given (YtnbdkojdddplkaaDoorTie.lean); close each card by the builder's one call (the guide's Derived/Test/ToyasCard.lean, 'card_holds'). Laid BY PROGRAM, IN A SANDBOX (cutbox-door.mjs). By AI agents, Wed Nov 11 2026. No macro, syntax, notation, axiom, sorry.
-/
import Derived.Test.YtnbdkojdddplkaaDoorRows
import GoSem.ClaimSeven
namespace Go.Proofs.YtnbdkojdddplkaaDoor
namespace Rows

/-- THE TIED CARD OF 'delphilaw4.WalAll'. -/
def walAllCard : Claim7 := { stood := { row := walAllRow, standIns := [], harness := (true, "93c345c18e0f12bf01c4699a524a0ee23f79583de2e8457b79a3a3d9c0c1d9ac"), looks := false }, kinds := [], alts := [], laidByText := true, laidKinds := [.data], laidTests := true, laidLooks := .later }
def WalAllCardSaid : Prop := Claim7.holds Tryd.pinned (.plain (OpenSpec.ofChange walAllSpec)) walAllCard

/-- THE TIED CARD OF 'delphilaw4.WalCrash'. -/
def walCrashCard : Claim7 := { stood := { row := walCrashRow, standIns := [], harness := (true, "93c345c18e0f12bf01c4699a524a0ee23f79583de2e8457b79a3a3d9c0c1d9ac"), looks := false }, kinds := [], alts := [], laidByText := true, laidKinds := [.data], laidTests := true, laidLooks := .later }
def WalCrashCardSaid : Prop := Claim7.holds Tryd.pinned (.plain (OpenSpec.ofChange walCrashSpec)) walCrashCard

/-- THE TIED CARD OF 'delphilaw4.WalForged'. -/
def walForgedCard : Claim7 := { stood := { row := walForgedRow, standIns := [], harness := (true, "93c345c18e0f12bf01c4699a524a0ee23f79583de2e8457b79a3a3d9c0c1d9ac"), looks := false }, kinds := [], alts := [], laidByText := true, laidKinds := [.data], laidTests := true, laidLooks := .later }
def WalForgedCardSaid : Prop := Claim7.holds Tryd.pinned (.plain (OpenSpec.ofChange walForgedSpec)) walForgedCard

/-- THE TIED CARD OF 'delphilaw4.WalFull'. -/
def walFullCard : Claim7 := { stood := { row := walFullRow, standIns := [], harness := (true, "93c345c18e0f12bf01c4699a524a0ee23f79583de2e8457b79a3a3d9c0c1d9ac"), looks := false }, kinds := [], alts := [], laidByText := true, laidKinds := [.data], laidTests := true, laidLooks := .later }
def WalFullCardSaid : Prop := Claim7.holds Tryd.pinned (.plain (OpenSpec.ofChange walFullSpec)) walFullCard

/-- THE TIED CARD OF 'delphilaw4.WalNone'. -/
def walNoneCard : Claim7 := { stood := { row := walNoneRow, standIns := [], harness := (true, "93c345c18e0f12bf01c4699a524a0ee23f79583de2e8457b79a3a3d9c0c1d9ac"), looks := false }, kinds := [], alts := [], laidByText := true, laidKinds := [.data], laidTests := true, laidLooks := .later }
def WalNoneCardSaid : Prop := Claim7.holds Tryd.pinned (.plain (OpenSpec.ofChange walNoneSpec)) walNoneCard

/-- THE TIED CARD OF 'delphilaw4.WalEnds'. -/
def walEndsCard : Claim7 := { stood := { row := walEndsRow, standIns := [], harness := (true, "93c345c18e0f12bf01c4699a524a0ee23f79583de2e8457b79a3a3d9c0c1d9ac"), looks := false }, kinds := [], alts := [], laidByText := true, laidKinds := [.data], laidTests := true, laidLooks := .later }
def WalEndsCardSaid : Prop := Claim7.holds Tryd.pinned (.plain (OpenSpec.ofChange walEndsSpec)) walEndsCard

/-- THE SECOND FORM's CARD OF 'delphilaw4.WalAll'. -/
def walAllUptoCard : Claim7 := { stood := { row := walAllUptoRow, standIns := [], harness := (true, "93c345c18e0f12bf01c4699a524a0ee23f79583de2e8457b79a3a3d9c0c1d9ac"), looks := false }, kinds := [], alts := [], laidByText := true, laidKinds := [.data], laidTests := true, laidLooks := .later }
def WalAllUptoCardSaid : Prop := Claim7.holds Tryd.pinned (.plain (OpenSpec.upto walAllSpec)) walAllUptoCard

/-- THE SECOND FORM's CARD OF 'delphilaw4.WalCrash'. -/
def walCrashUptoCard : Claim7 := { stood := { row := walCrashUptoRow, standIns := [], harness := (true, "93c345c18e0f12bf01c4699a524a0ee23f79583de2e8457b79a3a3d9c0c1d9ac"), looks := false }, kinds := [], alts := [], laidByText := true, laidKinds := [.data], laidTests := true, laidLooks := .later }
def WalCrashUptoCardSaid : Prop := Claim7.holds Tryd.pinned (.plain (OpenSpec.upto walCrashSpec)) walCrashUptoCard

/-- THE SECOND FORM's CARD OF 'delphilaw4.WalForged'. -/
def walForgedUptoCard : Claim7 := { stood := { row := walForgedUptoRow, standIns := [], harness := (true, "93c345c18e0f12bf01c4699a524a0ee23f79583de2e8457b79a3a3d9c0c1d9ac"), looks := false }, kinds := [], alts := [], laidByText := true, laidKinds := [.data], laidTests := true, laidLooks := .later }
def WalForgedUptoCardSaid : Prop := Claim7.holds Tryd.pinned (.plain (OpenSpec.upto walForgedSpec)) walForgedUptoCard

/-- THE SECOND FORM's CARD OF 'delphilaw4.WalFull'. -/
def walFullUptoCard : Claim7 := { stood := { row := walFullUptoRow, standIns := [], harness := (true, "93c345c18e0f12bf01c4699a524a0ee23f79583de2e8457b79a3a3d9c0c1d9ac"), looks := false }, kinds := [], alts := [], laidByText := true, laidKinds := [.data], laidTests := true, laidLooks := .later }
def WalFullUptoCardSaid : Prop := Claim7.holds Tryd.pinned (.plain (OpenSpec.upto walFullSpec)) walFullUptoCard

/-- THE SECOND FORM's CARD OF 'delphilaw4.WalNone'. -/
def walNoneUptoCard : Claim7 := { stood := { row := walNoneUptoRow, standIns := [], harness := (true, "93c345c18e0f12bf01c4699a524a0ee23f79583de2e8457b79a3a3d9c0c1d9ac"), looks := false }, kinds := [], alts := [], laidByText := true, laidKinds := [.data], laidTests := true, laidLooks := .later }
def WalNoneUptoCardSaid : Prop := Claim7.holds Tryd.pinned (.plain (OpenSpec.upto walNoneSpec)) walNoneUptoCard

/-- THE SECOND FORM's CARD OF 'delphilaw4.WalEnds'. -/
def walEndsUptoCard : Claim7 := { stood := { row := walEndsUptoRow, standIns := [], harness := (true, "93c345c18e0f12bf01c4699a524a0ee23f79583de2e8457b79a3a3d9c0c1d9ac"), looks := false }, kinds := [], alts := [], laidByText := true, laidKinds := [.data], laidTests := true, laidLooks := .later }
def WalEndsUptoCardSaid : Prop := Claim7.holds Tryd.pinned (.plain (OpenSpec.upto walEndsSpec)) walEndsUptoCard
end Rows
end Go.Proofs.YtnbdkojdddplkaaDoor
