/-
  No cell of these rows narrows 'for every input' (looked for: loops, veiled, ifaces, maps, wideKeys, modest, calm, conditions, laid).
  DERIVED. THE GIVEN ROWS OF THIS SEAT. 2 by the template 'for every input the law returns true; each argument reads behind the call as it read before'; 0 by the template 'total and deterministic' (their statements: YtdmhajeaphnebaaTotals.lean).
  GIVEN WITH THE SEED: the statements are not yours to turn. If you find one false, say at which input.
  Laid BY PROGRAM, IN A SANDBOX (cutbox-rows.mjs): the forced cells as the released guide's own fill.sh prints them over the translation 734f0202824fef65… (all of the seat's roots in one cut). By AI agents, Wed Nov 11 2026. No macro, syntax, notation, axiom, sorry.
-/
import Derived.Test.YtdmhajeaphnebaaChecked
import GoSem.Claim
import GoSem.ClaimJoined
import GoSem.ClaimMapViews
import Derived.JoinedTies
import Derived.KernelRfl
namespace Go.Proofs.Ytdmhajeaphnebaa
/- THE CELL 'sum', in the pinned program and in every row, IS THE sha256 OF THE DUMP (.gsa) THAT YtdmhajeaphnebaaProg.lean LOADS. Nothing in Lean hashes anything: it is a label: what it is worth is what the hold of that sum in a sandbox is worth. -/
noncomputable def Try.pinned : Pinned := { name := "ytdmhajeaphnebaa", sum := "734f0202824fef65cae657d0d40f31d9db41f7185c909dcd47cf7d34323a90f2", checked := Try.checked }
namespace Rows
def none {H : Type} : Left H := { results := [], args := [] }

/-- 'delphilaw10.StrataAll': WHATEVER THE INPUT: true; the input reads as it did. -/
def strataAllSpec : ChangeSpec := { name := "strataAll", fn := fun _ => fun
  | [d1, d2] => { results := [.lit (.bool true)], args := [d1, d2] }
  | _ => none }
def strataAllRow : OpenClaim := { program := "ytdmhajeaphnebaa", sum := "734f0202824fef65cae657d0d40f31d9db41f7185c909dcd47cf7d34323a90f2", func := "delphi/delphilaw10.StrataAll", spec := "strataAll", unfollowed := true, recurses := true, apart := false }
def StrataAllSaid : Prop := strataAllRow.holds Try.pinned (OpenSpec.ofChange strataAllSpec)

/-- ITS FALSE NEIGHBOUR: 'it returns false'. Refute it at one input. -/
def strataAllWrong : ChangeSpec := { name := "strataAll", fn := fun _ => fun
  | [d1, d2] => { results := [.lit (.bool false)], args := [d1, d2] }
  | _ => none }
def StrataAllWrongFalsely : Prop := strataAllRow.holds Try.pinned (OpenSpec.ofChange strataAllWrong)

/-- 'delphilaw10.StrataChain': WHATEVER THE INPUT: true; the input reads as it did. -/
def strataChainSpec : ChangeSpec := { name := "strataChain", fn := fun _ => fun
  | [d1, d2] => { results := [.lit (.bool true)], args := [d1, d2] }
  | _ => none }
def strataChainRow : OpenClaim := { program := "ytdmhajeaphnebaa", sum := "734f0202824fef65cae657d0d40f31d9db41f7185c909dcd47cf7d34323a90f2", func := "delphi/delphilaw10.StrataChain", spec := "strataChain", unfollowed := true, recurses := true, apart := false }
def StrataChainSaid : Prop := strataChainRow.holds Try.pinned (OpenSpec.ofChange strataChainSpec)

/-- ITS FALSE NEIGHBOUR: 'it returns false'. Refute it at one input. -/
def strataChainWrong : ChangeSpec := { name := "strataChain", fn := fun _ => fun
  | [d1, d2] => { results := [.lit (.bool false)], args := [d1, d2] }
  | _ => none }
def StrataChainWrongFalsely : Prop := strataChainRow.holds Try.pinned (OpenSpec.ofChange strataChainWrong)

/- THE SECOND FORM. 'bulk': how many values and letters a reading holds, each counted each time it is reached (what is shared counts as often as it is met; a slice's spare places count too). A statement '..UptoSaid' is the law's where the arguments, and the package variables that the reading takes, are together of bulk at most 1048576: NARROWER than '..Said'. Prove '..Said' where nothing that the law and all that it calls make is longer than what came in: it says more and counts as full. Else prove '..UptoSaid'. A law counts once. -/
mutual
def uptoBulk {H : Type} : DataW H → Nat
  | .lit (.string bytes) => bytes.length + 1
  | .lit _ => 1
  | .nil => 1
  | .ptr d => uptoBulk d + 1
  | .slice elems spare => uptoBulkAll elems + uptoBulkAll spare + 1
  | .agg parts => uptoBulkAll parts + 1
  | .iface _ d => uptoBulk d + 1
  | .map entries => uptoBulkEntries entries + 1
  | .held _ => 1
def uptoBulkAll {H : Type} : List (DataW H) → Nat
  | [] => 0
  | d :: r => uptoBulk d + uptoBulkAll r
def uptoBulkEntries {H : Type} : List (Lit × DataW H) → Nat
  | [] => 0
  | x :: r => uptoBulkEntry x + uptoBulkEntries r
def uptoBulkEntry {H : Type} : Lit × DataW H → Nat
  | (.string bytes, d) => bytes.length + uptoBulk d + 1
  | (_, d) => uptoBulk d + 1
 end
def uptoSmall : (H : Type) → List (DataW H) → Bool := fun _ ds => decide (uptoBulkAll ds ≤ 1048576)
def OpenSpec.upto (s : _root_.Go.ChangeSpec) : _root_.Go.OpenSpec := { _root_.Go.OpenSpec.ofChange s with cond := some uptoSmall }

/-- 'delphilaw10.StrataAll', WHERE WHAT IT READS IS OF BULK AT MOST 1048576: true; the input reads as it did. -/
def strataAllUptoRow : OpenClaim := { program := "ytdmhajeaphnebaa", sum := "734f0202824fef65cae657d0d40f31d9db41f7185c909dcd47cf7d34323a90f2", func := "delphi/delphilaw10.StrataAll", spec := "strataAll", unfollowed := true, recurses := true, apart := false, narrowed := true }
def StrataAllUptoSaid : Prop := strataAllUptoRow.holds Try.pinned (OpenSpec.upto strataAllSpec)

/-- 'delphilaw10.StrataChain', WHERE WHAT IT READS IS OF BULK AT MOST 1048576: true; the input reads as it did. -/
def strataChainUptoRow : OpenClaim := { program := "ytdmhajeaphnebaa", sum := "734f0202824fef65cae657d0d40f31d9db41f7185c909dcd47cf7d34323a90f2", func := "delphi/delphilaw10.StrataChain", spec := "strataChain", unfollowed := true, recurses := true, apart := false, narrowed := true }
def StrataChainUptoSaid : Prop := strataChainUptoRow.holds Try.pinned (OpenSpec.upto strataChainSpec)

end Rows
end Go.Proofs.Ytdmhajeaphnebaa
