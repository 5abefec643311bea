/-
  NARROWER THAN 'FOR EVERY INPUT', by the rows' own cells (each row's printed sentence says how): KeepAll: laid · KeepCrash: laid · KeepNone: laid · KeepVotes: laid · KeepGrows: laid.
  DERIVED. THE GIVEN ROWS OF THIS SEAT. 5 by the template 'for every input the law returns true; each argument reads behind the call as it read before'; 0 by the template 'total and deterministic' (their statements: YtjndgekpdmlbiaaGreatDoorTotals.lean).
  GIVEN WITH THE SEED: the statements are not yours to turn. If you find one false, say at which input.
  Laid BY PROGRAM, IN A SANDBOX (cutbox-rows.mjs): the forced cells as the released guide's own fill.sh prints them over the translation b40344ad5d41532d… (all of the seat's roots in one cut). By AI agents, Wed Nov 11 2026. No macro, syntax, notation, axiom, sorry.
-/
import Derived.Test.YtjndgekpdmlbiaaGreatDoorChecked
import GoSem.Claim
import GoSem.ClaimJoined
import GoSem.ClaimMapViews
import Derived.JoinedTies
import Derived.KernelRfl
namespace Go.Proofs.YtjndgekpdmlbiaaGreatDoor
/- THE CELL 'sum', in the pinned program and in every row, IS THE sha256 OF THE DUMP (.gsa) THAT YtjndgekpdmlbiaaGreatDoorProg.lean LOADS. Nothing in Lean hashes anything: it is a label: what it is worth is what the hold of that sum in a sandbox is worth. -/
noncomputable def Tryz.pinned : Pinned := { name := "ytjndgekpdmlbiaagreatdoor", sum := "b40344ad5d41532de3ccd6167beef14835172e026e7da9e069594b013da3ae53", checked := Tryz.checked }
namespace Rows
def none {H : Type} : Left H := { results := [], args := [] }

/- WHAT THE LISTED PACKAGE-LEVEL VARIABLES READ AS WHEN THE CALL BEGINS. Each datum BY PROGRAM (the guide's laid-datum.mjs) off the statement by which the dump's own 'gosem.cut.vars' lays the variable. In a bare row this is a premise. The card (YtjndgekpdmlbiaaGreatDoorCards.lean) ties it to the program's text. -/
def laid_delphi_frame_nibbleSums {H : Type} : DataW H := .agg [.lit (.int .u32 0), .lit (.int .u32 498536548), .lit (.int .u32 997073096), .lit (.int .u32 651767980), .lit (.int .u32 1994146192), .lit (.int .u32 1802195444), .lit (.int .u32 1303535960), .lit (.int .u32 1342533948), .lit (.int .u32 3988292384), .lit (.int .u32 4027552580), .lit (.int .u32 3604390888), .lit (.int .u32 3412177804), .lit (.int .u32 2607071920), .lit (.int .u32 2262029012), .lit (.int .u32 2685067896), .lit (.int .u32 3183342108)]

/-- 'delphilaw5.KeepAll': WHATEVER THE INPUT: true; the input reads as it did. -/
def keepAllSpec : ChangeSpec := { name := "keepAll", fn := fun _ => fun
  | [d] => { results := [.lit (.bool true)], args := [d] }
  | _ => none }
def keepAllRow : OpenClaim := { program := "ytjndgekpdmlbiaagreatdoor", sum := "b40344ad5d41532de3ccd6167beef14835172e026e7da9e069594b013da3ae53", func := "delphi/delphilaw5.KeepAll", spec := "keepAll", inPlace := ["internal/bytealg.abigen_runtime_cmpstring", "slices.overlaps[delphi/disk.file]"], unfollowed := true, recurses := true, named := ["delphi/frame.nibbleSums"], apart := false, laid := [("delphi/frame.nibbleSums", laid_delphi_frame_nibbleSums)] }
def KeepAllSaid : Prop := keepAllRow.holds Tryz.pinned (OpenSpec.ofChange keepAllSpec)

/-- ITS FALSE NEIGHBOUR: 'it returns false'. Refute it at one input. -/
def keepAllWrong : ChangeSpec := { name := "keepAll", fn := fun _ => fun
  | [d] => { results := [.lit (.bool false)], args := [d] }
  | _ => none }
def KeepAllWrongFalsely : Prop := keepAllRow.holds Tryz.pinned (OpenSpec.ofChange keepAllWrong)

/-- 'delphilaw5.KeepCrash': WHATEVER THE INPUT: true; the input reads as it did. -/
def keepCrashSpec : ChangeSpec := { name := "keepCrash", fn := fun _ => fun
  | [d1, d2, d3, d4, d5] => { results := [.lit (.bool true)], args := [d1, d2, d3, d4, d5] }
  | _ => none }
def keepCrashRow : OpenClaim := { program := "ytjndgekpdmlbiaagreatdoor", sum := "b40344ad5d41532de3ccd6167beef14835172e026e7da9e069594b013da3ae53", func := "delphi/delphilaw5.KeepCrash", spec := "keepCrash", inPlace := ["internal/bytealg.abigen_runtime_cmpstring", "slices.overlaps[delphi/disk.file]"], unfollowed := true, recurses := true, named := ["delphi/frame.nibbleSums"], apart := false, laid := [("delphi/frame.nibbleSums", laid_delphi_frame_nibbleSums)] }
def KeepCrashSaid : Prop := keepCrashRow.holds Tryz.pinned (OpenSpec.ofChange keepCrashSpec)

/-- ITS FALSE NEIGHBOUR: 'it returns false'. Refute it at one input. -/
def keepCrashWrong : ChangeSpec := { name := "keepCrash", fn := fun _ => fun
  | [d1, d2, d3, d4, d5] => { results := [.lit (.bool false)], args := [d1, d2, d3, d4, d5] }
  | _ => none }
def KeepCrashWrongFalsely : Prop := keepCrashRow.holds Tryz.pinned (OpenSpec.ofChange keepCrashWrong)

/-- 'delphilaw5.KeepNone': WHATEVER THE INPUT: true; the input reads as it did. -/
def keepNoneSpec : ChangeSpec := { name := "keepNone", fn := fun _ => fun
  | [] => { results := [.lit (.bool true)], args := [] }
  | _ => none }
def keepNoneRow : OpenClaim := { program := "ytjndgekpdmlbiaagreatdoor", sum := "b40344ad5d41532de3ccd6167beef14835172e026e7da9e069594b013da3ae53", func := "delphi/delphilaw5.KeepNone", spec := "keepNone", inPlace := ["internal/bytealg.abigen_runtime_cmpstring", "slices.overlaps[delphi/disk.file]"], unfollowed := true, recurses := true, named := ["delphi/frame.nibbleSums"], apart := false, laid := [("delphi/frame.nibbleSums", laid_delphi_frame_nibbleSums)] }
def KeepNoneSaid : Prop := keepNoneRow.holds Tryz.pinned (OpenSpec.ofChange keepNoneSpec)

/-- ITS FALSE NEIGHBOUR: 'it returns false'. Refute it at one input. -/
def keepNoneWrong : ChangeSpec := { name := "keepNone", fn := fun _ => fun
  | [] => { results := [.lit (.bool false)], args := [] }
  | _ => none }
def KeepNoneWrongFalsely : Prop := keepNoneRow.holds Tryz.pinned (OpenSpec.ofChange keepNoneWrong)

/-- 'delphilaw5.KeepVotes': WHATEVER THE INPUT: true; the input reads as it did. -/
def keepVotesSpec : ChangeSpec := { name := "keepVotes", fn := fun _ => fun
  | [d1, d2, d3] => { results := [.lit (.bool true)], args := [d1, d2, d3] }
  | _ => none }
def keepVotesRow : OpenClaim := { program := "ytjndgekpdmlbiaagreatdoor", sum := "b40344ad5d41532de3ccd6167beef14835172e026e7da9e069594b013da3ae53", func := "delphi/delphilaw5.KeepVotes", spec := "keepVotes", inPlace := ["internal/bytealg.abigen_runtime_cmpstring", "slices.overlaps[delphi/disk.file]"], unfollowed := true, recurses := true, named := ["delphi/frame.nibbleSums"], apart := false, laid := [("delphi/frame.nibbleSums", laid_delphi_frame_nibbleSums)] }
def KeepVotesSaid : Prop := keepVotesRow.holds Tryz.pinned (OpenSpec.ofChange keepVotesSpec)

/-- ITS FALSE NEIGHBOUR: 'it returns false'. Refute it at one input. -/
def keepVotesWrong : ChangeSpec := { name := "keepVotes", fn := fun _ => fun
  | [d1, d2, d3] => { results := [.lit (.bool false)], args := [d1, d2, d3] }
  | _ => none }
def KeepVotesWrongFalsely : Prop := keepVotesRow.holds Tryz.pinned (OpenSpec.ofChange keepVotesWrong)

/-- 'delphilaw5.KeepGrows': WHATEVER THE INPUT: true; the input reads as it did. -/
def keepGrowsSpec : ChangeSpec := { name := "keepGrows", fn := fun _ => fun
  | [d1, d2] => { results := [.lit (.bool true)], args := [d1, d2] }
  | _ => none }
def keepGrowsRow : OpenClaim := { program := "ytjndgekpdmlbiaagreatdoor", sum := "b40344ad5d41532de3ccd6167beef14835172e026e7da9e069594b013da3ae53", func := "delphi/delphilaw5.KeepGrows", spec := "keepGrows", inPlace := ["internal/bytealg.abigen_runtime_cmpstring", "slices.overlaps[delphi/disk.file]"], unfollowed := true, recurses := true, named := ["delphi/frame.nibbleSums"], apart := false, laid := [("delphi/frame.nibbleSums", laid_delphi_frame_nibbleSums)] }
def KeepGrowsSaid : Prop := keepGrowsRow.holds Tryz.pinned (OpenSpec.ofChange keepGrowsSpec)

/-- ITS FALSE NEIGHBOUR: 'it returns false'. Refute it at one input. -/
def keepGrowsWrong : ChangeSpec := { name := "keepGrows", fn := fun _ => fun
  | [d1, d2] => { results := [.lit (.bool false)], args := [d1, d2] }
  | _ => none }
def KeepGrowsWrongFalsely : Prop := keepGrowsRow.holds Tryz.pinned (OpenSpec.ofChange keepGrowsWrong)

/- THE SECOND FORM. 'bulk': how many values and letters a reading holds, each counted each time it is reached (what is shared counts as often as it is met; a slice's spare places count too). A statement '..UptoSaid' is the law's where the arguments, and the package variables that the reading takes, are together of bulk at most 1048576: NARROWER than '..Said'. Prove '..Said' where nothing that the law and all that it calls make is longer than what came in: it says more and counts as full. Else prove '..UptoSaid'. A law counts once. -/
mutual
def uptoBulk {H : Type} : DataW H → Nat
  | .lit (.string bytes) => bytes.length + 1
  | .lit _ => 1
  | .nil => 1
  | .ptr d => uptoBulk d + 1
  | .slice elems spare => uptoBulkAll elems + uptoBulkAll spare + 1
  | .agg parts => uptoBulkAll parts + 1
  | .iface _ d => uptoBulk d + 1
  | .map entries => uptoBulkEntries entries + 1
  | .held _ => 1
def uptoBulkAll {H : Type} : List (DataW H) → Nat
  | [] => 0
  | d :: r => uptoBulk d + uptoBulkAll r
def uptoBulkEntries {H : Type} : List (Lit × DataW H) → Nat
  | [] => 0
  | x :: r => uptoBulkEntry x + uptoBulkEntries r
def uptoBulkEntry {H : Type} : Lit × DataW H → Nat
  | (.string bytes, d) => bytes.length + uptoBulk d + 1
  | (_, d) => uptoBulk d + 1
 end
def uptoSmall : (H : Type) → List (DataW H) → Bool := fun _ ds => decide (uptoBulkAll ds ≤ 1048576)
def OpenSpec.upto (s : _root_.Go.ChangeSpec) : _root_.Go.OpenSpec := { _root_.Go.OpenSpec.ofChange s with cond := some uptoSmall }

/-- 'delphilaw5.KeepAll', WHERE WHAT IT READS IS OF BULK AT MOST 1048576: true; the input reads as it did. -/
def keepAllUptoRow : OpenClaim := { program := "ytjndgekpdmlbiaagreatdoor", sum := "b40344ad5d41532de3ccd6167beef14835172e026e7da9e069594b013da3ae53", func := "delphi/delphilaw5.KeepAll", spec := "keepAll", inPlace := ["internal/bytealg.abigen_runtime_cmpstring", "slices.overlaps[delphi/disk.file]"], unfollowed := true, recurses := true, named := ["delphi/frame.nibbleSums"], apart := false, laid := [("delphi/frame.nibbleSums", laid_delphi_frame_nibbleSums)], narrowed := true }
def KeepAllUptoSaid : Prop := keepAllUptoRow.holds Tryz.pinned (OpenSpec.upto keepAllSpec)

/-- 'delphilaw5.KeepCrash', WHERE WHAT IT READS IS OF BULK AT MOST 1048576: true; the input reads as it did. -/
def keepCrashUptoRow : OpenClaim := { program := "ytjndgekpdmlbiaagreatdoor", sum := "b40344ad5d41532de3ccd6167beef14835172e026e7da9e069594b013da3ae53", func := "delphi/delphilaw5.KeepCrash", spec := "keepCrash", inPlace := ["internal/bytealg.abigen_runtime_cmpstring", "slices.overlaps[delphi/disk.file]"], unfollowed := true, recurses := true, named := ["delphi/frame.nibbleSums"], apart := false, laid := [("delphi/frame.nibbleSums", laid_delphi_frame_nibbleSums)], narrowed := true }
def KeepCrashUptoSaid : Prop := keepCrashUptoRow.holds Tryz.pinned (OpenSpec.upto keepCrashSpec)

/-- 'delphilaw5.KeepNone', WHERE WHAT IT READS IS OF BULK AT MOST 1048576: true; the input reads as it did. -/
def keepNoneUptoRow : OpenClaim := { program := "ytjndgekpdmlbiaagreatdoor", sum := "b40344ad5d41532de3ccd6167beef14835172e026e7da9e069594b013da3ae53", func := "delphi/delphilaw5.KeepNone", spec := "keepNone", inPlace := ["internal/bytealg.abigen_runtime_cmpstring", "slices.overlaps[delphi/disk.file]"], unfollowed := true, recurses := true, named := ["delphi/frame.nibbleSums"], apart := false, laid := [("delphi/frame.nibbleSums", laid_delphi_frame_nibbleSums)], narrowed := true }
def KeepNoneUptoSaid : Prop := keepNoneUptoRow.holds Tryz.pinned (OpenSpec.upto keepNoneSpec)

/-- 'delphilaw5.KeepVotes', WHERE WHAT IT READS IS OF BULK AT MOST 1048576: true; the input reads as it did. -/
def keepVotesUptoRow : OpenClaim := { program := "ytjndgekpdmlbiaagreatdoor", sum := "b40344ad5d41532de3ccd6167beef14835172e026e7da9e069594b013da3ae53", func := "delphi/delphilaw5.KeepVotes", spec := "keepVotes", inPlace := ["internal/bytealg.abigen_runtime_cmpstring", "slices.overlaps[delphi/disk.file]"], unfollowed := true, recurses := true, named := ["delphi/frame.nibbleSums"], apart := false, laid := [("delphi/frame.nibbleSums", laid_delphi_frame_nibbleSums)], narrowed := true }
def KeepVotesUptoSaid : Prop := keepVotesUptoRow.holds Tryz.pinned (OpenSpec.upto keepVotesSpec)

/-- 'delphilaw5.KeepGrows', WHERE WHAT IT READS IS OF BULK AT MOST 1048576: true; the input reads as it did. -/
def keepGrowsUptoRow : OpenClaim := { program := "ytjndgekpdmlbiaagreatdoor", sum := "b40344ad5d41532de3ccd6167beef14835172e026e7da9e069594b013da3ae53", func := "delphi/delphilaw5.KeepGrows", spec := "keepGrows", inPlace := ["internal/bytealg.abigen_runtime_cmpstring", "slices.overlaps[delphi/disk.file]"], unfollowed := true, recurses := true, named := ["delphi/frame.nibbleSums"], apart := false, laid := [("delphi/frame.nibbleSums", laid_delphi_frame_nibbleSums)], narrowed := true }
def KeepGrowsUptoSaid : Prop := keepGrowsUptoRow.holds Tryz.pinned (OpenSpec.upto keepGrowsSpec)

end Rows
end Go.Proofs.YtjndgekpdmlbiaaGreatDoor
