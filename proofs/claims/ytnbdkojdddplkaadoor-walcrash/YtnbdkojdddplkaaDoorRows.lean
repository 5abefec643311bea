/-
  NARROWER THAN 'FOR EVERY INPUT', by the rows' own cells (each row's printed sentence says how): WalAll: laid · WalCrash: laid · WalForged: laid · WalFull: laid · WalNone: laid · WalEnds: laid.
  DERIVED. THE GIVEN ROWS OF THIS SEAT. 6 by the template 'for every input the law returns true; each argument reads behind the call as it read before'; 0 by the template 'total and deterministic' (their statements: YtnbdkojdddplkaaDoorTotals.lean).
  GIVEN WITH THE SEED: the statements are not yours to turn. If you find one false, say at which input.
  Laid BY PROGRAM, IN A SANDBOX (cutbox-rows.mjs): the forced cells as the released guide's own fill.sh prints them over the translation 2fd537b1bdce5191… (all of the seat's roots in one cut). By AI agents, Wed Nov 11 2026. No macro, syntax, notation, axiom, sorry.
-/
import Derived.Test.YtnbdkojdddplkaaDoorChecked
import GoSem.Claim
import GoSem.ClaimJoined
import GoSem.ClaimMapViews
import Derived.JoinedTies
import Derived.KernelRfl
namespace Go.Proofs.YtnbdkojdddplkaaDoor
/- THE CELL 'sum', in the pinned program and in every row, IS THE sha256 OF THE DUMP (.gsa) THAT YtnbdkojdddplkaaDoorProg.lean LOADS. Nothing in Lean hashes anything: it is a label: what it is worth is what the hold of that sum in a sandbox is worth. -/
noncomputable def Tryd.pinned : Pinned := { name := "ytnbdkojdddplkaadoor", sum := "2fd537b1bdce51913e6e800c9b87dd4657456253f86b3608650f79244dc58e3d", checked := Tryd.checked }
namespace Rows
def none {H : Type} : Left H := { results := [], args := [] }

/- WHAT THE LISTED PACKAGE-LEVEL VARIABLES READ AS WHEN THE CALL BEGINS. Each datum BY PROGRAM (the guide's laid-datum.mjs) off the statement by which the dump's own 'gosem.cut.vars' lays the variable. In a bare row this is a premise. The card (YtnbdkojdddplkaaDoorCards.lean) ties it to the program's text. -/
def laid_delphi_frame_nibbleSums {H : Type} : DataW H := .agg [.lit (.int .u32 0), .lit (.int .u32 498536548), .lit (.int .u32 997073096), .lit (.int .u32 651767980), .lit (.int .u32 1994146192), .lit (.int .u32 1802195444), .lit (.int .u32 1303535960), .lit (.int .u32 1342533948), .lit (.int .u32 3988292384), .lit (.int .u32 4027552580), .lit (.int .u32 3604390888), .lit (.int .u32 3412177804), .lit (.int .u32 2607071920), .lit (.int .u32 2262029012), .lit (.int .u32 2685067896), .lit (.int .u32 3183342108)]

/-- 'delphilaw4.WalAll': WHATEVER THE INPUT: true; the input reads as it did. -/
def walAllSpec : ChangeSpec := { name := "walAll", fn := fun _ => fun
  | [d] => { results := [.lit (.bool true)], args := [d] }
  | _ => none }
def walAllRow : OpenClaim := { program := "ytnbdkojdddplkaadoor", sum := "2fd537b1bdce51913e6e800c9b87dd4657456253f86b3608650f79244dc58e3d", func := "delphi/delphilaw4.WalAll", spec := "walAll", inPlace := ["internal/bytealg.abigen_runtime_cmpstring", "slices.overlaps[delphi/disk.file]"], unfollowed := true, recurses := true, named := ["delphi/frame.nibbleSums"], apart := false, laid := [("delphi/frame.nibbleSums", laid_delphi_frame_nibbleSums)] }
def WalAllSaid : Prop := walAllRow.holds Tryd.pinned (OpenSpec.ofChange walAllSpec)

/-- ITS FALSE NEIGHBOUR: 'it returns false'. Refute it at one input. -/
def walAllWrong : ChangeSpec := { name := "walAll", fn := fun _ => fun
  | [d] => { results := [.lit (.bool false)], args := [d] }
  | _ => none }
def WalAllWrongFalsely : Prop := walAllRow.holds Tryd.pinned (OpenSpec.ofChange walAllWrong)

/-- 'delphilaw4.WalCrash': WHATEVER THE INPUT: true; the input reads as it did. -/
def walCrashSpec : ChangeSpec := { name := "walCrash", fn := fun _ => fun
  | [d1, d2, d3, d4] => { results := [.lit (.bool true)], args := [d1, d2, d3, d4] }
  | _ => none }
def walCrashRow : OpenClaim := { program := "ytnbdkojdddplkaadoor", sum := "2fd537b1bdce51913e6e800c9b87dd4657456253f86b3608650f79244dc58e3d", func := "delphi/delphilaw4.WalCrash", spec := "walCrash", inPlace := ["internal/bytealg.abigen_runtime_cmpstring", "slices.overlaps[delphi/disk.file]"], unfollowed := true, recurses := true, named := ["delphi/frame.nibbleSums"], apart := false, laid := [("delphi/frame.nibbleSums", laid_delphi_frame_nibbleSums)] }
def WalCrashSaid : Prop := walCrashRow.holds Tryd.pinned (OpenSpec.ofChange walCrashSpec)

/-- ITS FALSE NEIGHBOUR: 'it returns false'. Refute it at one input. -/
def walCrashWrong : ChangeSpec := { name := "walCrash", fn := fun _ => fun
  | [d1, d2, d3, d4] => { results := [.lit (.bool false)], args := [d1, d2, d3, d4] }
  | _ => none }
def WalCrashWrongFalsely : Prop := walCrashRow.holds Tryd.pinned (OpenSpec.ofChange walCrashWrong)

/-- 'delphilaw4.WalForged': WHATEVER THE INPUT: true; the input reads as it did. -/
def walForgedSpec : ChangeSpec := { name := "walForged", fn := fun _ => fun
  | [d1, d2] => { results := [.lit (.bool true)], args := [d1, d2] }
  | _ => none }
def walForgedRow : OpenClaim := { program := "ytnbdkojdddplkaadoor", sum := "2fd537b1bdce51913e6e800c9b87dd4657456253f86b3608650f79244dc58e3d", func := "delphi/delphilaw4.WalForged", spec := "walForged", inPlace := ["internal/bytealg.abigen_runtime_cmpstring", "slices.overlaps[delphi/disk.file]"], unfollowed := true, recurses := true, named := ["delphi/frame.nibbleSums"], apart := false, laid := [("delphi/frame.nibbleSums", laid_delphi_frame_nibbleSums)] }
def WalForgedSaid : Prop := walForgedRow.holds Tryd.pinned (OpenSpec.ofChange walForgedSpec)

/-- ITS FALSE NEIGHBOUR: 'it returns false'. Refute it at one input. -/
def walForgedWrong : ChangeSpec := { name := "walForged", fn := fun _ => fun
  | [d1, d2] => { results := [.lit (.bool false)], args := [d1, d2] }
  | _ => none }
def WalForgedWrongFalsely : Prop := walForgedRow.holds Tryd.pinned (OpenSpec.ofChange walForgedWrong)

/-- 'delphilaw4.WalFull': WHATEVER THE INPUT: true; the input reads as it did. -/
def walFullSpec : ChangeSpec := { name := "walFull", fn := fun _ => fun
  | [d1, d2] => { results := [.lit (.bool true)], args := [d1, d2] }
  | _ => none }
def walFullRow : OpenClaim := { program := "ytnbdkojdddplkaadoor", sum := "2fd537b1bdce51913e6e800c9b87dd4657456253f86b3608650f79244dc58e3d", func := "delphi/delphilaw4.WalFull", spec := "walFull", inPlace := ["internal/bytealg.abigen_runtime_cmpstring", "slices.overlaps[delphi/disk.file]"], unfollowed := true, recurses := true, named := ["delphi/frame.nibbleSums"], apart := false, laid := [("delphi/frame.nibbleSums", laid_delphi_frame_nibbleSums)] }
def WalFullSaid : Prop := walFullRow.holds Tryd.pinned (OpenSpec.ofChange walFullSpec)

/-- ITS FALSE NEIGHBOUR: 'it returns false'. Refute it at one input. -/
def walFullWrong : ChangeSpec := { name := "walFull", fn := fun _ => fun
  | [d1, d2] => { results := [.lit (.bool false)], args := [d1, d2] }
  | _ => none }
def WalFullWrongFalsely : Prop := walFullRow.holds Tryd.pinned (OpenSpec.ofChange walFullWrong)

/-- 'delphilaw4.WalNone': WHATEVER THE INPUT: true; the input reads as it did. -/
def walNoneSpec : ChangeSpec := { name := "walNone", fn := fun _ => fun
  | [] => { results := [.lit (.bool true)], args := [] }
  | _ => none }
def walNoneRow : OpenClaim := { program := "ytnbdkojdddplkaadoor", sum := "2fd537b1bdce51913e6e800c9b87dd4657456253f86b3608650f79244dc58e3d", func := "delphi/delphilaw4.WalNone", spec := "walNone", inPlace := ["internal/bytealg.abigen_runtime_cmpstring", "slices.overlaps[delphi/disk.file]"], unfollowed := true, recurses := true, named := ["delphi/frame.nibbleSums"], apart := false, laid := [("delphi/frame.nibbleSums", laid_delphi_frame_nibbleSums)] }
def WalNoneSaid : Prop := walNoneRow.holds Tryd.pinned (OpenSpec.ofChange walNoneSpec)

/-- ITS FALSE NEIGHBOUR: 'it returns false'. Refute it at one input. -/
def walNoneWrong : ChangeSpec := { name := "walNone", fn := fun _ => fun
  | [] => { results := [.lit (.bool false)], args := [] }
  | _ => none }
def WalNoneWrongFalsely : Prop := walNoneRow.holds Tryd.pinned (OpenSpec.ofChange walNoneWrong)

/-- 'delphilaw4.WalEnds': WHATEVER THE INPUT: true; the input reads as it did. -/
def walEndsSpec : ChangeSpec := { name := "walEnds", fn := fun _ => fun
  | [d1, d2, d3, d4] => { results := [.lit (.bool true)], args := [d1, d2, d3, d4] }
  | _ => none }
def walEndsRow : OpenClaim := { program := "ytnbdkojdddplkaadoor", sum := "2fd537b1bdce51913e6e800c9b87dd4657456253f86b3608650f79244dc58e3d", func := "delphi/delphilaw4.WalEnds", spec := "walEnds", inPlace := ["internal/bytealg.abigen_runtime_cmpstring", "slices.overlaps[delphi/disk.file]"], unfollowed := true, recurses := true, named := ["delphi/frame.nibbleSums"], apart := false, laid := [("delphi/frame.nibbleSums", laid_delphi_frame_nibbleSums)] }
def WalEndsSaid : Prop := walEndsRow.holds Tryd.pinned (OpenSpec.ofChange walEndsSpec)

/-- ITS FALSE NEIGHBOUR: 'it returns false'. Refute it at one input. -/
def walEndsWrong : ChangeSpec := { name := "walEnds", fn := fun _ => fun
  | [d1, d2, d3, d4] => { results := [.lit (.bool false)], args := [d1, d2, d3, d4] }
  | _ => none }
def WalEndsWrongFalsely : Prop := walEndsRow.holds Tryd.pinned (OpenSpec.ofChange walEndsWrong)

/- THE SECOND FORM. 'bulk': how many values and letters a reading holds, each counted each time it is reached (what is shared counts as often as it is met; a slice's spare places count too). A statement '..UptoSaid' is the law's where the arguments, and the package variables that the reading takes, are together of bulk at most 1048576: NARROWER than '..Said'. Prove '..Said' where nothing that the law and all that it calls make is longer than what came in: it says more and counts as full. Else prove '..UptoSaid'. A law counts once. -/
mutual
def uptoBulk {H : Type} : DataW H → Nat
  | .lit (.string bytes) => bytes.length + 1
  | .lit _ => 1
  | .nil => 1
  | .ptr d => uptoBulk d + 1
  | .slice elems spare => uptoBulkAll elems + uptoBulkAll spare + 1
  | .agg parts => uptoBulkAll parts + 1
  | .iface _ d => uptoBulk d + 1
  | .map entries => uptoBulkEntries entries + 1
  | .held _ => 1
def uptoBulkAll {H : Type} : List (DataW H) → Nat
  | [] => 0
  | d :: r => uptoBulk d + uptoBulkAll r
def uptoBulkEntries {H : Type} : List (Lit × DataW H) → Nat
  | [] => 0
  | x :: r => uptoBulkEntry x + uptoBulkEntries r
def uptoBulkEntry {H : Type} : Lit × DataW H → Nat
  | (.string bytes, d) => bytes.length + uptoBulk d + 1
  | (_, d) => uptoBulk d + 1
 end
def uptoSmall : (H : Type) → List (DataW H) → Bool := fun _ ds => decide (uptoBulkAll ds ≤ 1048576)
def OpenSpec.upto (s : _root_.Go.ChangeSpec) : _root_.Go.OpenSpec := { _root_.Go.OpenSpec.ofChange s with cond := some uptoSmall }

/-- 'delphilaw4.WalAll', WHERE WHAT IT READS IS OF BULK AT MOST 1048576: true; the input reads as it did. -/
def walAllUptoRow : OpenClaim := { program := "ytnbdkojdddplkaadoor", sum := "2fd537b1bdce51913e6e800c9b87dd4657456253f86b3608650f79244dc58e3d", func := "delphi/delphilaw4.WalAll", spec := "walAll", inPlace := ["internal/bytealg.abigen_runtime_cmpstring", "slices.overlaps[delphi/disk.file]"], unfollowed := true, recurses := true, named := ["delphi/frame.nibbleSums"], apart := false, laid := [("delphi/frame.nibbleSums", laid_delphi_frame_nibbleSums)], narrowed := true }
def WalAllUptoSaid : Prop := walAllUptoRow.holds Tryd.pinned (OpenSpec.upto walAllSpec)

/-- 'delphilaw4.WalCrash', WHERE WHAT IT READS IS OF BULK AT MOST 1048576: true; the input reads as it did. -/
def walCrashUptoRow : OpenClaim := { program := "ytnbdkojdddplkaadoor", sum := "2fd537b1bdce51913e6e800c9b87dd4657456253f86b3608650f79244dc58e3d", func := "delphi/delphilaw4.WalCrash", spec := "walCrash", inPlace := ["internal/bytealg.abigen_runtime_cmpstring", "slices.overlaps[delphi/disk.file]"], unfollowed := true, recurses := true, named := ["delphi/frame.nibbleSums"], apart := false, laid := [("delphi/frame.nibbleSums", laid_delphi_frame_nibbleSums)], narrowed := true }
def WalCrashUptoSaid : Prop := walCrashUptoRow.holds Tryd.pinned (OpenSpec.upto walCrashSpec)

/-- 'delphilaw4.WalForged', WHERE WHAT IT READS IS OF BULK AT MOST 1048576: true; the input reads as it did. -/
def walForgedUptoRow : OpenClaim := { program := "ytnbdkojdddplkaadoor", sum := "2fd537b1bdce51913e6e800c9b87dd4657456253f86b3608650f79244dc58e3d", func := "delphi/delphilaw4.WalForged", spec := "walForged", inPlace := ["internal/bytealg.abigen_runtime_cmpstring", "slices.overlaps[delphi/disk.file]"], unfollowed := true, recurses := true, named := ["delphi/frame.nibbleSums"], apart := false, laid := [("delphi/frame.nibbleSums", laid_delphi_frame_nibbleSums)], narrowed := true }
def WalForgedUptoSaid : Prop := walForgedUptoRow.holds Tryd.pinned (OpenSpec.upto walForgedSpec)

/-- 'delphilaw4.WalFull', WHERE WHAT IT READS IS OF BULK AT MOST 1048576: true; the input reads as it did. -/
def walFullUptoRow : OpenClaim := { program := "ytnbdkojdddplkaadoor", sum := "2fd537b1bdce51913e6e800c9b87dd4657456253f86b3608650f79244dc58e3d", func := "delphi/delphilaw4.WalFull", spec := "walFull", inPlace := ["internal/bytealg.abigen_runtime_cmpstring", "slices.overlaps[delphi/disk.file]"], unfollowed := true, recurses := true, named := ["delphi/frame.nibbleSums"], apart := false, laid := [("delphi/frame.nibbleSums", laid_delphi_frame_nibbleSums)], narrowed := true }
def WalFullUptoSaid : Prop := walFullUptoRow.holds Tryd.pinned (OpenSpec.upto walFullSpec)

/-- 'delphilaw4.WalNone', WHERE WHAT IT READS IS OF BULK AT MOST 1048576: true; the input reads as it did. -/
def walNoneUptoRow : OpenClaim := { program := "ytnbdkojdddplkaadoor", sum := "2fd537b1bdce51913e6e800c9b87dd4657456253f86b3608650f79244dc58e3d", func := "delphi/delphilaw4.WalNone", spec := "walNone", inPlace := ["internal/bytealg.abigen_runtime_cmpstring", "slices.overlaps[delphi/disk.file]"], unfollowed := true, recurses := true, named := ["delphi/frame.nibbleSums"], apart := false, laid := [("delphi/frame.nibbleSums", laid_delphi_frame_nibbleSums)], narrowed := true }
def WalNoneUptoSaid : Prop := walNoneUptoRow.holds Tryd.pinned (OpenSpec.upto walNoneSpec)

/-- 'delphilaw4.WalEnds', WHERE WHAT IT READS IS OF BULK AT MOST 1048576: true; the input reads as it did. -/
def walEndsUptoRow : OpenClaim := { program := "ytnbdkojdddplkaadoor", sum := "2fd537b1bdce51913e6e800c9b87dd4657456253f86b3608650f79244dc58e3d", func := "delphi/delphilaw4.WalEnds", spec := "walEnds", inPlace := ["internal/bytealg.abigen_runtime_cmpstring", "slices.overlaps[delphi/disk.file]"], unfollowed := true, recurses := true, named := ["delphi/frame.nibbleSums"], apart := false, laid := [("delphi/frame.nibbleSums", laid_delphi_frame_nibbleSums)], narrowed := true }
def WalEndsUptoSaid : Prop := walEndsUptoRow.holds Tryd.pinned (OpenSpec.upto walEndsSpec)

end Rows
end Go.Proofs.YtnbdkojdddplkaaDoor
