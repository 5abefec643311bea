/-
  NARROWER THAN 'FOR EVERY INPUT', by the rows' own cells (each row's printed sentence says how): FrameSeal: laid · FrameScan: laid · FrameBig: laid · FrameFlip: laid · FrameCut: laid.
  DERIVED. THE GIVEN ROWS OF THIS SEAT. 5 by the template 'for every input the law returns true; each argument reads behind the call as it read before'; 0 by the template 'total and deterministic' (their statements: YtoekpfopmgcbnaaDoorTotals.lean).
  GIVEN WITH THE SEED: the statements are not yours to turn. If you find one false, say at which input.
  Laid BY PROGRAM, IN A SANDBOX (cutbox-rows.mjs): the forced cells as the released guide's own fill.sh prints them over the translation e74e2b96e1732612… (all of the seat's roots in one cut). By AI agents, Wed Nov 11 2026. No macro, syntax, notation, axiom, sorry.
-/
import Derived.Test.YtoekpfopmgcbnaaDoorChecked
import GoSem.Claim
import GoSem.ClaimJoined
import GoSem.ClaimMapViews
import Derived.JoinedTies
import Derived.KernelRfl
namespace Go.Proofs.YtoekpfopmgcbnaaDoor
/- THE CELL 'sum', in the pinned program and in every row, IS THE sha256 OF THE DUMP (.gsa) THAT YtoekpfopmgcbnaaDoorProg.lean LOADS. Nothing in Lean hashes anything: it is a label: what it is worth is what the hold of that sum in a sandbox is worth. -/
noncomputable def Tryd.pinned : Pinned := { name := "ytoekpfopmgcbnaadoor", sum := "e74e2b96e173261218888a175888abd53f88d889957c1a4fc7d93f227708b5ed", checked := Tryd.checked }
namespace Rows
def none {H : Type} : Left H := { results := [], args := [] }

/- WHAT THE LISTED PACKAGE-LEVEL VARIABLES READ AS WHEN THE CALL BEGINS. Each datum BY PROGRAM (the guide's laid-datum.mjs) off the statement by which the dump's own 'gosem.cut.vars' lays the variable. In a bare row this is a premise. The card (YtoekpfopmgcbnaaDoorCards.lean) ties it to the program's text. -/
def laid_delphi_frame_nibbleSums {H : Type} : DataW H := .agg [.lit (.int .u32 0), .lit (.int .u32 498536548), .lit (.int .u32 997073096), .lit (.int .u32 651767980), .lit (.int .u32 1994146192), .lit (.int .u32 1802195444), .lit (.int .u32 1303535960), .lit (.int .u32 1342533948), .lit (.int .u32 3988292384), .lit (.int .u32 4027552580), .lit (.int .u32 3604390888), .lit (.int .u32 3412177804), .lit (.int .u32 2607071920), .lit (.int .u32 2262029012), .lit (.int .u32 2685067896), .lit (.int .u32 3183342108)]

/-- 'delphilaw2.FrameSeal': WHATEVER THE INPUT: true; the input reads as it did. -/
def frameSealSpec : ChangeSpec := { name := "frameSeal", fn := fun _ => fun
  | [d] => { results := [.lit (.bool true)], args := [d] }
  | _ => none }
def frameSealRow : OpenClaim := { program := "ytoekpfopmgcbnaadoor", sum := "e74e2b96e173261218888a175888abd53f88d889957c1a4fc7d93f227708b5ed", func := "delphi/delphilaw2.FrameSeal", spec := "frameSeal", named := ["delphi/frame.nibbleSums"], apart := false, laid := [("delphi/frame.nibbleSums", laid_delphi_frame_nibbleSums)] }
def FrameSealSaid : Prop := frameSealRow.holds Tryd.pinned (OpenSpec.ofChange frameSealSpec)

/-- ITS FALSE NEIGHBOUR: 'it returns false'. Refute it at one input. -/
def frameSealWrong : ChangeSpec := { name := "frameSeal", fn := fun _ => fun
  | [d] => { results := [.lit (.bool false)], args := [d] }
  | _ => none }
def FrameSealWrongFalsely : Prop := frameSealRow.holds Tryd.pinned (OpenSpec.ofChange frameSealWrong)

/-- 'delphilaw2.FrameScan': WHATEVER THE INPUT: true; the input reads as it did. -/
def frameScanSpec : ChangeSpec := { name := "frameScan", fn := fun _ => fun
  | [d1, d2, d3, d4] => { results := [.lit (.bool true)], args := [d1, d2, d3, d4] }
  | _ => none }
def frameScanRow : OpenClaim := { program := "ytoekpfopmgcbnaadoor", sum := "e74e2b96e173261218888a175888abd53f88d889957c1a4fc7d93f227708b5ed", func := "delphi/delphilaw2.FrameScan", spec := "frameScan", named := ["delphi/frame.nibbleSums"], apart := false, laid := [("delphi/frame.nibbleSums", laid_delphi_frame_nibbleSums)] }
def FrameScanSaid : Prop := frameScanRow.holds Tryd.pinned (OpenSpec.ofChange frameScanSpec)

/-- ITS FALSE NEIGHBOUR: 'it returns false'. Refute it at one input. -/
def frameScanWrong : ChangeSpec := { name := "frameScan", fn := fun _ => fun
  | [d1, d2, d3, d4] => { results := [.lit (.bool false)], args := [d1, d2, d3, d4] }
  | _ => none }
def FrameScanWrongFalsely : Prop := frameScanRow.holds Tryd.pinned (OpenSpec.ofChange frameScanWrong)

/-- 'delphilaw2.FrameBig': WHATEVER THE INPUT: true; the input reads as it did. -/
def frameBigSpec : ChangeSpec := { name := "frameBig", fn := fun _ => fun
  | [] => { results := [.lit (.bool true)], args := [] }
  | _ => none }
def frameBigRow : OpenClaim := { program := "ytoekpfopmgcbnaadoor", sum := "e74e2b96e173261218888a175888abd53f88d889957c1a4fc7d93f227708b5ed", func := "delphi/delphilaw2.FrameBig", spec := "frameBig", named := ["delphi/frame.nibbleSums"], apart := false, laid := [("delphi/frame.nibbleSums", laid_delphi_frame_nibbleSums)] }
def FrameBigSaid : Prop := frameBigRow.holds Tryd.pinned (OpenSpec.ofChange frameBigSpec)

/-- ITS FALSE NEIGHBOUR: 'it returns false'. Refute it at one input. -/
def frameBigWrong : ChangeSpec := { name := "frameBig", fn := fun _ => fun
  | [] => { results := [.lit (.bool false)], args := [] }
  | _ => none }
def FrameBigWrongFalsely : Prop := frameBigRow.holds Tryd.pinned (OpenSpec.ofChange frameBigWrong)

/-- 'delphilaw2.FrameFlip': WHATEVER THE INPUT: true; the input reads as it did. -/
def frameFlipSpec : ChangeSpec := { name := "frameFlip", fn := fun _ => fun
  | [d1, d2, d3] => { results := [.lit (.bool true)], args := [d1, d2, d3] }
  | _ => none }
def frameFlipRow : OpenClaim := { program := "ytoekpfopmgcbnaadoor", sum := "e74e2b96e173261218888a175888abd53f88d889957c1a4fc7d93f227708b5ed", func := "delphi/delphilaw2.FrameFlip", spec := "frameFlip", named := ["delphi/frame.nibbleSums"], apart := false, laid := [("delphi/frame.nibbleSums", laid_delphi_frame_nibbleSums)] }
def FrameFlipSaid : Prop := frameFlipRow.holds Tryd.pinned (OpenSpec.ofChange frameFlipSpec)

/-- ITS FALSE NEIGHBOUR: 'it returns false'. Refute it at one input. -/
def frameFlipWrong : ChangeSpec := { name := "frameFlip", fn := fun _ => fun
  | [d1, d2, d3] => { results := [.lit (.bool false)], args := [d1, d2, d3] }
  | _ => none }
def FrameFlipWrongFalsely : Prop := frameFlipRow.holds Tryd.pinned (OpenSpec.ofChange frameFlipWrong)

/-- 'delphilaw2.FrameCut': WHATEVER THE INPUT: true; the input reads as it did. -/
def frameCutSpec : ChangeSpec := { name := "frameCut", fn := fun _ => fun
  | [d1, d2, d3] => { results := [.lit (.bool true)], args := [d1, d2, d3] }
  | _ => none }
def frameCutRow : OpenClaim := { program := "ytoekpfopmgcbnaadoor", sum := "e74e2b96e173261218888a175888abd53f88d889957c1a4fc7d93f227708b5ed", func := "delphi/delphilaw2.FrameCut", spec := "frameCut", named := ["delphi/frame.nibbleSums"], apart := false, laid := [("delphi/frame.nibbleSums", laid_delphi_frame_nibbleSums)] }
def FrameCutSaid : Prop := frameCutRow.holds Tryd.pinned (OpenSpec.ofChange frameCutSpec)

/-- ITS FALSE NEIGHBOUR: 'it returns false'. Refute it at one input. -/
def frameCutWrong : ChangeSpec := { name := "frameCut", fn := fun _ => fun
  | [d1, d2, d3] => { results := [.lit (.bool false)], args := [d1, d2, d3] }
  | _ => none }
def FrameCutWrongFalsely : Prop := frameCutRow.holds Tryd.pinned (OpenSpec.ofChange frameCutWrong)

/- THE SECOND FORM. 'bulk': how many values and letters a reading holds, each counted each time it is reached (what is shared counts as often as it is met; a slice's spare places count too). A statement '..UptoSaid' is the law's where the arguments, and the package variables that the reading takes, are together of bulk at most 1048576: NARROWER than '..Said'. Prove '..Said' where nothing that the law and all that it calls make is longer than what came in: it says more and counts as full. Else prove '..UptoSaid'. A law counts once. -/
mutual
def uptoBulk {H : Type} : DataW H → Nat
  | .lit (.string bytes) => bytes.length + 1
  | .lit _ => 1
  | .nil => 1
  | .ptr d => uptoBulk d + 1
  | .slice elems spare => uptoBulkAll elems + uptoBulkAll spare + 1
  | .agg parts => uptoBulkAll parts + 1
  | .iface _ d => uptoBulk d + 1
  | .map entries => uptoBulkEntries entries + 1
  | .held _ => 1
def uptoBulkAll {H : Type} : List (DataW H) → Nat
  | [] => 0
  | d :: r => uptoBulk d + uptoBulkAll r
def uptoBulkEntries {H : Type} : List (Lit × DataW H) → Nat
  | [] => 0
  | x :: r => uptoBulkEntry x + uptoBulkEntries r
def uptoBulkEntry {H : Type} : Lit × DataW H → Nat
  | (.string bytes, d) => bytes.length + uptoBulk d + 1
  | (_, d) => uptoBulk d + 1
 end
def uptoSmall : (H : Type) → List (DataW H) → Bool := fun _ ds => decide (uptoBulkAll ds ≤ 1048576)
def OpenSpec.upto (s : _root_.Go.ChangeSpec) : _root_.Go.OpenSpec := { _root_.Go.OpenSpec.ofChange s with cond := some uptoSmall }

/-- 'delphilaw2.FrameSeal', WHERE WHAT IT READS IS OF BULK AT MOST 1048576: true; the input reads as it did. -/
def frameSealUptoRow : OpenClaim := { program := "ytoekpfopmgcbnaadoor", sum := "e74e2b96e173261218888a175888abd53f88d889957c1a4fc7d93f227708b5ed", func := "delphi/delphilaw2.FrameSeal", spec := "frameSeal", named := ["delphi/frame.nibbleSums"], apart := false, laid := [("delphi/frame.nibbleSums", laid_delphi_frame_nibbleSums)], narrowed := true }
def FrameSealUptoSaid : Prop := frameSealUptoRow.holds Tryd.pinned (OpenSpec.upto frameSealSpec)

/-- 'delphilaw2.FrameScan', WHERE WHAT IT READS IS OF BULK AT MOST 1048576: true; the input reads as it did. -/
def frameScanUptoRow : OpenClaim := { program := "ytoekpfopmgcbnaadoor", sum := "e74e2b96e173261218888a175888abd53f88d889957c1a4fc7d93f227708b5ed", func := "delphi/delphilaw2.FrameScan", spec := "frameScan", named := ["delphi/frame.nibbleSums"], apart := false, laid := [("delphi/frame.nibbleSums", laid_delphi_frame_nibbleSums)], narrowed := true }
def FrameScanUptoSaid : Prop := frameScanUptoRow.holds Tryd.pinned (OpenSpec.upto frameScanSpec)

/-- 'delphilaw2.FrameBig', WHERE WHAT IT READS IS OF BULK AT MOST 1048576: true; the input reads as it did. -/
def frameBigUptoRow : OpenClaim := { program := "ytoekpfopmgcbnaadoor", sum := "e74e2b96e173261218888a175888abd53f88d889957c1a4fc7d93f227708b5ed", func := "delphi/delphilaw2.FrameBig", spec := "frameBig", named := ["delphi/frame.nibbleSums"], apart := false, laid := [("delphi/frame.nibbleSums", laid_delphi_frame_nibbleSums)], narrowed := true }
def FrameBigUptoSaid : Prop := frameBigUptoRow.holds Tryd.pinned (OpenSpec.upto frameBigSpec)

/-- 'delphilaw2.FrameFlip', WHERE WHAT IT READS IS OF BULK AT MOST 1048576: true; the input reads as it did. -/
def frameFlipUptoRow : OpenClaim := { program := "ytoekpfopmgcbnaadoor", sum := "e74e2b96e173261218888a175888abd53f88d889957c1a4fc7d93f227708b5ed", func := "delphi/delphilaw2.FrameFlip", spec := "frameFlip", named := ["delphi/frame.nibbleSums"], apart := false, laid := [("delphi/frame.nibbleSums", laid_delphi_frame_nibbleSums)], narrowed := true }
def FrameFlipUptoSaid : Prop := frameFlipUptoRow.holds Tryd.pinned (OpenSpec.upto frameFlipSpec)

/-- 'delphilaw2.FrameCut', WHERE WHAT IT READS IS OF BULK AT MOST 1048576: true; the input reads as it did. -/
def frameCutUptoRow : OpenClaim := { program := "ytoekpfopmgcbnaadoor", sum := "e74e2b96e173261218888a175888abd53f88d889957c1a4fc7d93f227708b5ed", func := "delphi/delphilaw2.FrameCut", spec := "frameCut", named := ["delphi/frame.nibbleSums"], apart := false, laid := [("delphi/frame.nibbleSums", laid_delphi_frame_nibbleSums)], narrowed := true }
def FrameCutUptoSaid : Prop := frameCutUptoRow.holds Tryd.pinned (OpenSpec.upto frameCutSpec)

end Rows
end Go.Proofs.YtoekpfopmgcbnaaDoor
