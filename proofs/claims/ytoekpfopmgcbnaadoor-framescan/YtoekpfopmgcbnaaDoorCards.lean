/-
  DERIVED. GIVEN WITH THE SEED: THE CARDS: each row of YtoekpfopmgcbnaaDoorRows.lean that lists a variable, with what it lists TIED to the program's text (the seventh form; the later family's looks); each row that meets fmt, with fmt's text TOLD by the authors' own Lean function (tested against real Go, not proved from fmt's source: count such statements apart). THE CARD IS WHAT COUNTS. Prove the row's statement (the work); the ties are given (YtoekpfopmgcbnaaDoorTie.lean); close each card by the builder's one call (the guide's Derived/Test/ToyasCard.lean, 'card_holds'). Laid BY PROGRAM, IN A SANDBOX (cutbox-door.mjs). By AI agents, Wed Nov 11 2026. No macro, syntax, notation, axiom, sorry.
-/
import Derived.Test.YtoekpfopmgcbnaaDoorRows
import GoSem.ClaimSeven
namespace Go.Proofs.YtoekpfopmgcbnaaDoor
namespace Rows

/-- THE TIED CARD OF 'delphilaw2.FrameSeal'. -/
def frameSealCard : Claim7 := { stood := { row := frameSealRow, standIns := [], harness := (true, "9ded2c36a4d495530b10f17bd8446ce888b2a6fa6a18fb57b546f5cc1359a0cb"), looks := false }, kinds := [], alts := [], laidByText := true, laidKinds := [.data], laidTests := true, laidLooks := .later }
def FrameSealCardSaid : Prop := Claim7.holds Tryd.pinned (.plain (OpenSpec.ofChange frameSealSpec)) frameSealCard

/-- THE TIED CARD OF 'delphilaw2.FrameScan'. -/
def frameScanCard : Claim7 := { stood := { row := frameScanRow, standIns := [], harness := (true, "9ded2c36a4d495530b10f17bd8446ce888b2a6fa6a18fb57b546f5cc1359a0cb"), looks := false }, kinds := [], alts := [], laidByText := true, laidKinds := [.data], laidTests := true, laidLooks := .later }
def FrameScanCardSaid : Prop := Claim7.holds Tryd.pinned (.plain (OpenSpec.ofChange frameScanSpec)) frameScanCard

/-- THE TIED CARD OF 'delphilaw2.FrameBig'. -/
def frameBigCard : Claim7 := { stood := { row := frameBigRow, standIns := [], harness := (true, "9ded2c36a4d495530b10f17bd8446ce888b2a6fa6a18fb57b546f5cc1359a0cb"), looks := false }, kinds := [], alts := [], laidByText := true, laidKinds := [.data], laidTests := true, laidLooks := .later }
def FrameBigCardSaid : Prop := Claim7.holds Tryd.pinned (.plain (OpenSpec.ofChange frameBigSpec)) frameBigCard

/-- THE TIED CARD OF 'delphilaw2.FrameFlip'. -/
def frameFlipCard : Claim7 := { stood := { row := frameFlipRow, standIns := [], harness := (true, "9ded2c36a4d495530b10f17bd8446ce888b2a6fa6a18fb57b546f5cc1359a0cb"), looks := false }, kinds := [], alts := [], laidByText := true, laidKinds := [.data], laidTests := true, laidLooks := .later }
def FrameFlipCardSaid : Prop := Claim7.holds Tryd.pinned (.plain (OpenSpec.ofChange frameFlipSpec)) frameFlipCard

/-- THE TIED CARD OF 'delphilaw2.FrameCut'. -/
def frameCutCard : Claim7 := { stood := { row := frameCutRow, standIns := [], harness := (true, "9ded2c36a4d495530b10f17bd8446ce888b2a6fa6a18fb57b546f5cc1359a0cb"), looks := false }, kinds := [], alts := [], laidByText := true, laidKinds := [.data], laidTests := true, laidLooks := .later }
def FrameCutCardSaid : Prop := Claim7.holds Tryd.pinned (.plain (OpenSpec.ofChange frameCutSpec)) frameCutCard

/-- THE SECOND FORM's CARD OF 'delphilaw2.FrameSeal'. -/
def frameSealUptoCard : Claim7 := { stood := { row := frameSealUptoRow, standIns := [], harness := (true, "9ded2c36a4d495530b10f17bd8446ce888b2a6fa6a18fb57b546f5cc1359a0cb"), looks := false }, kinds := [], alts := [], laidByText := true, laidKinds := [.data], laidTests := true, laidLooks := .later }
def FrameSealUptoCardSaid : Prop := Claim7.holds Tryd.pinned (.plain (OpenSpec.upto frameSealSpec)) frameSealUptoCard

/-- THE SECOND FORM's CARD OF 'delphilaw2.FrameScan'. -/
def frameScanUptoCard : Claim7 := { stood := { row := frameScanUptoRow, standIns := [], harness := (true, "9ded2c36a4d495530b10f17bd8446ce888b2a6fa6a18fb57b546f5cc1359a0cb"), looks := false }, kinds := [], alts := [], laidByText := true, laidKinds := [.data], laidTests := true, laidLooks := .later }
def FrameScanUptoCardSaid : Prop := Claim7.holds Tryd.pinned (.plain (OpenSpec.upto frameScanSpec)) frameScanUptoCard

/-- THE SECOND FORM's CARD OF 'delphilaw2.FrameBig'. -/
def frameBigUptoCard : Claim7 := { stood := { row := frameBigUptoRow, standIns := [], harness := (true, "9ded2c36a4d495530b10f17bd8446ce888b2a6fa6a18fb57b546f5cc1359a0cb"), looks := false }, kinds := [], alts := [], laidByText := true, laidKinds := [.data], laidTests := true, laidLooks := .later }
def FrameBigUptoCardSaid : Prop := Claim7.holds Tryd.pinned (.plain (OpenSpec.upto frameBigSpec)) frameBigUptoCard

/-- THE SECOND FORM's CARD OF 'delphilaw2.FrameFlip'. -/
def frameFlipUptoCard : Claim7 := { stood := { row := frameFlipUptoRow, standIns := [], harness := (true, "9ded2c36a4d495530b10f17bd8446ce888b2a6fa6a18fb57b546f5cc1359a0cb"), looks := false }, kinds := [], alts := [], laidByText := true, laidKinds := [.data], laidTests := true, laidLooks := .later }
def FrameFlipUptoCardSaid : Prop := Claim7.holds Tryd.pinned (.plain (OpenSpec.upto frameFlipSpec)) frameFlipUptoCard

/-- THE SECOND FORM's CARD OF 'delphilaw2.FrameCut'. -/
def frameCutUptoCard : Claim7 := { stood := { row := frameCutUptoRow, standIns := [], harness := (true, "9ded2c36a4d495530b10f17bd8446ce888b2a6fa6a18fb57b546f5cc1359a0cb"), looks := false }, kinds := [], alts := [], laidByText := true, laidKinds := [.data], laidTests := true, laidLooks := .later }
def FrameCutUptoCardSaid : Prop := Claim7.holds Tryd.pinned (.plain (OpenSpec.upto frameCutSpec)) frameCutUptoCard
end Rows
end Go.Proofs.YtoekpfopmgcbnaaDoor
