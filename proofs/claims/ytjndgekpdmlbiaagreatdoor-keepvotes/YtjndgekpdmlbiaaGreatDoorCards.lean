/-
  DERIVED. GIVEN WITH THE SEED: THE CARDS: each row of YtjndgekpdmlbiaaGreatDoorRows.lean that lists a variable, with what it lists TIED to the program's text (the seventh form; the later family's looks); each row that meets fmt, with fmt's text TOLD by the authors' own Lean function (tested against real Go, not proved from fmt's source: count such statements apart). THE CARD IS WHAT COUNTS. Prove the row's statement (the work); the ties are given (YtjndgekpdmlbiaaGreatDoorTie.lean); close each card by the builder's one call (the guide's Derived/Test/ToyasCard.lean, 'card_holds'). Laid BY PROGRAM, IN A SANDBOX (cutbox-door.mjs). By AI agents, Wed Nov 11 2026. No macro, syntax, notation, axiom, sorry.
-/
import Derived.Test.YtjndgekpdmlbiaaGreatDoorRows
import GoSem.ClaimSeven
namespace Go.Proofs.YtjndgekpdmlbiaaGreatDoor
namespace Rows

/-- THE TIED CARD OF 'delphilaw5.KeepAll'. -/
def keepAllCard : Claim7 := { stood := { row := keepAllRow, standIns := [], harness := (true, "2680229b15b3011775773c946b21a742bea54b9e52016fe6eede2784b28a3926"), looks := false }, kinds := [], alts := [], laidByText := true, laidKinds := [.data], laidTests := true, laidLooks := .later }
def KeepAllCardSaid : Prop := Claim7.holds Tryz.pinned (.plain (OpenSpec.ofChange keepAllSpec)) keepAllCard

/-- THE TIED CARD OF 'delphilaw5.KeepCrash'. -/
def keepCrashCard : Claim7 := { stood := { row := keepCrashRow, standIns := [], harness := (true, "2680229b15b3011775773c946b21a742bea54b9e52016fe6eede2784b28a3926"), looks := false }, kinds := [], alts := [], laidByText := true, laidKinds := [.data], laidTests := true, laidLooks := .later }
def KeepCrashCardSaid : Prop := Claim7.holds Tryz.pinned (.plain (OpenSpec.ofChange keepCrashSpec)) keepCrashCard

/-- THE TIED CARD OF 'delphilaw5.KeepNone'. -/
def keepNoneCard : Claim7 := { stood := { row := keepNoneRow, standIns := [], harness := (true, "2680229b15b3011775773c946b21a742bea54b9e52016fe6eede2784b28a3926"), looks := false }, kinds := [], alts := [], laidByText := true, laidKinds := [.data], laidTests := true, laidLooks := .later }
def KeepNoneCardSaid : Prop := Claim7.holds Tryz.pinned (.plain (OpenSpec.ofChange keepNoneSpec)) keepNoneCard

/-- THE TIED CARD OF 'delphilaw5.KeepVotes'. -/
def keepVotesCard : Claim7 := { stood := { row := keepVotesRow, standIns := [], harness := (true, "2680229b15b3011775773c946b21a742bea54b9e52016fe6eede2784b28a3926"), looks := false }, kinds := [], alts := [], laidByText := true, laidKinds := [.data], laidTests := true, laidLooks := .later }
def KeepVotesCardSaid : Prop := Claim7.holds Tryz.pinned (.plain (OpenSpec.ofChange keepVotesSpec)) keepVotesCard

/-- THE TIED CARD OF 'delphilaw5.KeepGrows'. -/
def keepGrowsCard : Claim7 := { stood := { row := keepGrowsRow, standIns := [], harness := (true, "2680229b15b3011775773c946b21a742bea54b9e52016fe6eede2784b28a3926"), looks := false }, kinds := [], alts := [], laidByText := true, laidKinds := [.data], laidTests := true, laidLooks := .later }
def KeepGrowsCardSaid : Prop := Claim7.holds Tryz.pinned (.plain (OpenSpec.ofChange keepGrowsSpec)) keepGrowsCard

/-- THE SECOND FORM's CARD OF 'delphilaw5.KeepAll'. -/
def keepAllUptoCard : Claim7 := { stood := { row := keepAllUptoRow, standIns := [], harness := (true, "2680229b15b3011775773c946b21a742bea54b9e52016fe6eede2784b28a3926"), looks := false }, kinds := [], alts := [], laidByText := true, laidKinds := [.data], laidTests := true, laidLooks := .later }
def KeepAllUptoCardSaid : Prop := Claim7.holds Tryz.pinned (.plain (OpenSpec.upto keepAllSpec)) keepAllUptoCard

/-- THE SECOND FORM's CARD OF 'delphilaw5.KeepCrash'. -/
def keepCrashUptoCard : Claim7 := { stood := { row := keepCrashUptoRow, standIns := [], harness := (true, "2680229b15b3011775773c946b21a742bea54b9e52016fe6eede2784b28a3926"), looks := false }, kinds := [], alts := [], laidByText := true, laidKinds := [.data], laidTests := true, laidLooks := .later }
def KeepCrashUptoCardSaid : Prop := Claim7.holds Tryz.pinned (.plain (OpenSpec.upto keepCrashSpec)) keepCrashUptoCard

/-- THE SECOND FORM's CARD OF 'delphilaw5.KeepNone'. -/
def keepNoneUptoCard : Claim7 := { stood := { row := keepNoneUptoRow, standIns := [], harness := (true, "2680229b15b3011775773c946b21a742bea54b9e52016fe6eede2784b28a3926"), looks := false }, kinds := [], alts := [], laidByText := true, laidKinds := [.data], laidTests := true, laidLooks := .later }
def KeepNoneUptoCardSaid : Prop := Claim7.holds Tryz.pinned (.plain (OpenSpec.upto keepNoneSpec)) keepNoneUptoCard

/-- THE SECOND FORM's CARD OF 'delphilaw5.KeepVotes'. -/
def keepVotesUptoCard : Claim7 := { stood := { row := keepVotesUptoRow, standIns := [], harness := (true, "2680229b15b3011775773c946b21a742bea54b9e52016fe6eede2784b28a3926"), looks := false }, kinds := [], alts := [], laidByText := true, laidKinds := [.data], laidTests := true, laidLooks := .later }
def KeepVotesUptoCardSaid : Prop := Claim7.holds Tryz.pinned (.plain (OpenSpec.upto keepVotesSpec)) keepVotesUptoCard

/-- THE SECOND FORM's CARD OF 'delphilaw5.KeepGrows'. -/
def keepGrowsUptoCard : Claim7 := { stood := { row := keepGrowsUptoRow, standIns := [], harness := (true, "2680229b15b3011775773c946b21a742bea54b9e52016fe6eede2784b28a3926"), looks := false }, kinds := [], alts := [], laidByText := true, laidKinds := [.data], laidTests := true, laidLooks := .later }
def KeepGrowsUptoCardSaid : Prop := Claim7.holds Tryz.pinned (.plain (OpenSpec.upto keepGrowsSpec)) keepGrowsUptoCard
end Rows
end Go.Proofs.YtjndgekpdmlbiaaGreatDoor
