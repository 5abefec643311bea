/-
  NARROWER THAN 'FOR EVERY INPUT', by the rows' own cells (each row's printed sentence says how): LexScan: laid · LexLong: laid · LexApart: laid.
  DERIVED. THE GIVEN ROWS OF THIS SEAT. 3 by the template 'for every input the law returns true; each argument reads behind the call as it read before'; 0 by the template 'total and deterministic' (their statements: YtpbfimjfplemhaaDoorTotals.lean).
  GIVEN WITH THE SEED: the statements are not yours to turn. If you find one false, say at which input.
  Laid BY PROGRAM, IN A SANDBOX (cutbox-rows.mjs): the forced cells as the released guide's own fill.sh prints them over the translation f64cd400e833634f… (all of the seat's roots in one cut). By AI agents, Wed Nov 11 2026. No macro, syntax, notation, axiom, sorry.
-/
import Derived.Test.YtpbfimjfplemhaaDoorChecked
import GoSem.Claim
import GoSem.ClaimJoined
import GoSem.ClaimMapViews
import Derived.JoinedTies
import Derived.KernelRfl
namespace Go.Proofs.YtpbfimjfplemhaaDoor
/- THE CELL 'sum', in the pinned program and in every row, IS THE sha256 OF THE DUMP (.gsa) THAT YtpbfimjfplemhaaDoorProg.lean LOADS. Nothing in Lean hashes anything: it is a label: what it is worth is what the hold of that sum in a sandbox is worth. -/
noncomputable def Tryd.pinned : Pinned := { name := "ytpbfimjfplemhaadoor", sum := "f64cd400e833634fe410913c3506e0a5d7dc8776ff568de438aee22024475c9a", checked := Tryd.checked }
namespace Rows
def none {H : Type} : Left H := { results := [], args := [] }

/- WHAT THE LISTED PACKAGE-LEVEL VARIABLES READ AS WHEN THE CALL BEGINS. Each datum BY PROGRAM (the guide's laid-datum.mjs) off the statement by which the dump's own 'gosem.cut.vars' lays the variable. In a bare row this is a premise. The card (YtpbfimjfplemhaaDoorCards.lean) ties it to the program's text. -/
def laid_delphi_lex_signs {H : Type} : DataW H := .agg [.lit (.string [40]), .lit (.string [41]), .lit (.string [44]), .lit (.string [46]), .lit (.string [58, 45]), .lit (.string [33, 61]), .lit (.string [33]), .lit (.string [61]), .lit (.string [60, 61]), .lit (.string [60])]

/-- 'delphilaw7.LexScan': WHATEVER THE INPUT: true; the input reads as it did. -/
def lexScanSpec : ChangeSpec := { name := "lexScan", fn := fun _ => fun
  | [d] => { results := [.lit (.bool true)], args := [d] }
  | _ => none }
def lexScanRow : OpenClaim := { program := "ytpbfimjfplemhaadoor", sum := "f64cd400e833634fe410913c3506e0a5d7dc8776ff568de438aee22024475c9a", func := "delphi/delphilaw7.LexScan", spec := "lexScan", inPlace := ["internal/bytealg.IndexByteString"], unfollowed := true, recurses := true, named := ["delphi/lex.signs"], apart := false, laid := [("delphi/lex.signs", laid_delphi_lex_signs)] }
def LexScanSaid : Prop := lexScanRow.holds Tryd.pinned (OpenSpec.ofChange lexScanSpec)

/-- ITS FALSE NEIGHBOUR: 'it returns false'. Refute it at one input. -/
def lexScanWrong : ChangeSpec := { name := "lexScan", fn := fun _ => fun
  | [d] => { results := [.lit (.bool false)], args := [d] }
  | _ => none }
def LexScanWrongFalsely : Prop := lexScanRow.holds Tryd.pinned (OpenSpec.ofChange lexScanWrong)

/-- 'delphilaw7.LexLong': WHATEVER THE INPUT: true; the input reads as it did. -/
def lexLongSpec : ChangeSpec := { name := "lexLong", fn := fun _ => fun
  | [d1, d2, d3] => { results := [.lit (.bool true)], args := [d1, d2, d3] }
  | _ => none }
def lexLongRow : OpenClaim := { program := "ytpbfimjfplemhaadoor", sum := "f64cd400e833634fe410913c3506e0a5d7dc8776ff568de438aee22024475c9a", func := "delphi/delphilaw7.LexLong", spec := "lexLong", inPlace := ["internal/bytealg.IndexByteString"], unfollowed := true, recurses := true, named := ["delphi/lex.signs"], apart := false, laid := [("delphi/lex.signs", laid_delphi_lex_signs)] }
def LexLongSaid : Prop := lexLongRow.holds Tryd.pinned (OpenSpec.ofChange lexLongSpec)

/-- ITS FALSE NEIGHBOUR: 'it returns false'. Refute it at one input. -/
def lexLongWrong : ChangeSpec := { name := "lexLong", fn := fun _ => fun
  | [d1, d2, d3] => { results := [.lit (.bool false)], args := [d1, d2, d3] }
  | _ => none }
def LexLongWrongFalsely : Prop := lexLongRow.holds Tryd.pinned (OpenSpec.ofChange lexLongWrong)

/-- 'delphilaw7.LexApart': WHATEVER THE INPUT: true; the input reads as it did. -/
def lexApartSpec : ChangeSpec := { name := "lexApart", fn := fun _ => fun
  | [d] => { results := [.lit (.bool true)], args := [d] }
  | _ => none }
def lexApartRow : OpenClaim := { program := "ytpbfimjfplemhaadoor", sum := "f64cd400e833634fe410913c3506e0a5d7dc8776ff568de438aee22024475c9a", func := "delphi/delphilaw7.LexApart", spec := "lexApart", inPlace := ["internal/bytealg.IndexByteString"], unfollowed := true, recurses := true, named := ["delphi/lex.signs"], apart := false, laid := [("delphi/lex.signs", laid_delphi_lex_signs)] }
def LexApartSaid : Prop := lexApartRow.holds Tryd.pinned (OpenSpec.ofChange lexApartSpec)

/-- ITS FALSE NEIGHBOUR: 'it returns false'. Refute it at one input. -/
def lexApartWrong : ChangeSpec := { name := "lexApart", fn := fun _ => fun
  | [d] => { results := [.lit (.bool false)], args := [d] }
  | _ => none }
def LexApartWrongFalsely : Prop := lexApartRow.holds Tryd.pinned (OpenSpec.ofChange lexApartWrong)

/- THE SECOND FORM. 'bulk': how many values and letters a reading holds, each counted each time it is reached (what is shared counts as often as it is met; a slice's spare places count too). A statement '..UptoSaid' is the law's where the arguments, and the package variables that the reading takes, are together of bulk at most 1048576: NARROWER than '..Said'. Prove '..Said' where nothing that the law and all that it calls make is longer than what came in: it says more and counts as full. Else prove '..UptoSaid'. A law counts once. -/
mutual
def uptoBulk {H : Type} : DataW H → Nat
  | .lit (.string bytes) => bytes.length + 1
  | .lit _ => 1
  | .nil => 1
  | .ptr d => uptoBulk d + 1
  | .slice elems spare => uptoBulkAll elems + uptoBulkAll spare + 1
  | .agg parts => uptoBulkAll parts + 1
  | .iface _ d => uptoBulk d + 1
  | .map entries => uptoBulkEntries entries + 1
  | .held _ => 1
def uptoBulkAll {H : Type} : List (DataW H) → Nat
  | [] => 0
  | d :: r => uptoBulk d + uptoBulkAll r
def uptoBulkEntries {H : Type} : List (Lit × DataW H) → Nat
  | [] => 0
  | x :: r => uptoBulkEntry x + uptoBulkEntries r
def uptoBulkEntry {H : Type} : Lit × DataW H → Nat
  | (.string bytes, d) => bytes.length + uptoBulk d + 1
  | (_, d) => uptoBulk d + 1
 end
def uptoSmall : (H : Type) → List (DataW H) → Bool := fun _ ds => decide (uptoBulkAll ds ≤ 1048576)
def OpenSpec.upto (s : _root_.Go.ChangeSpec) : _root_.Go.OpenSpec := { _root_.Go.OpenSpec.ofChange s with cond := some uptoSmall }

/-- 'delphilaw7.LexScan', WHERE WHAT IT READS IS OF BULK AT MOST 1048576: true; the input reads as it did. -/
def lexScanUptoRow : OpenClaim := { program := "ytpbfimjfplemhaadoor", sum := "f64cd400e833634fe410913c3506e0a5d7dc8776ff568de438aee22024475c9a", func := "delphi/delphilaw7.LexScan", spec := "lexScan", inPlace := ["internal/bytealg.IndexByteString"], unfollowed := true, recurses := true, named := ["delphi/lex.signs"], apart := false, laid := [("delphi/lex.signs", laid_delphi_lex_signs)], narrowed := true }
def LexScanUptoSaid : Prop := lexScanUptoRow.holds Tryd.pinned (OpenSpec.upto lexScanSpec)

/-- 'delphilaw7.LexLong', WHERE WHAT IT READS IS OF BULK AT MOST 1048576: true; the input reads as it did. -/
def lexLongUptoRow : OpenClaim := { program := "ytpbfimjfplemhaadoor", sum := "f64cd400e833634fe410913c3506e0a5d7dc8776ff568de438aee22024475c9a", func := "delphi/delphilaw7.LexLong", spec := "lexLong", inPlace := ["internal/bytealg.IndexByteString"], unfollowed := true, recurses := true, named := ["delphi/lex.signs"], apart := false, laid := [("delphi/lex.signs", laid_delphi_lex_signs)], narrowed := true }
def LexLongUptoSaid : Prop := lexLongUptoRow.holds Tryd.pinned (OpenSpec.upto lexLongSpec)

/-- 'delphilaw7.LexApart', WHERE WHAT IT READS IS OF BULK AT MOST 1048576: true; the input reads as it did. -/
def lexApartUptoRow : OpenClaim := { program := "ytpbfimjfplemhaadoor", sum := "f64cd400e833634fe410913c3506e0a5d7dc8776ff568de438aee22024475c9a", func := "delphi/delphilaw7.LexApart", spec := "lexApart", inPlace := ["internal/bytealg.IndexByteString"], unfollowed := true, recurses := true, named := ["delphi/lex.signs"], apart := false, laid := [("delphi/lex.signs", laid_delphi_lex_signs)], narrowed := true }
def LexApartUptoSaid : Prop := lexApartUptoRow.holds Tryd.pinned (OpenSpec.upto lexApartSpec)

end Rows
end Go.Proofs.YtpbfimjfplemhaaDoor
