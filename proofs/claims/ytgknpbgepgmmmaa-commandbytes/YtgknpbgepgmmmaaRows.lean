/-
  No cell of these rows narrows 'for every input' (looked for: loops, veiled, ifaces, maps, wideKeys, modest, calm, conditions, laid).
  DERIVED. THE GIVEN ROWS OF THIS SEAT. 5 by the template 'for every input the law returns true; each argument reads behind the call as it read before'; 0 by the template 'total and deterministic' (their statements: YtgknpbgepgmmmaaTotals.lean).
  GIVEN WITH THE SEED: the statements are not yours to turn. If you find one false, say at which input.
  Laid BY PROGRAM, IN A SANDBOX (cutbox-rows.mjs): the forced cells as the released guide's own fill.sh prints them over the translation 78641b8c86646573… (all of the seat's roots in one cut). By AI agents, Wed Nov 11 2026. No macro, syntax, notation, axiom, sorry.
-/
import Derived.Test.YtgknpbgepgmmmaaChecked
import GoSem.Claim
import GoSem.ClaimJoined
import GoSem.ClaimMapViews
import Derived.JoinedTies
import Derived.KernelRfl
namespace Go.Proofs.Ytgknpbgepgmmmaa
/- THE CELL 'sum', in the pinned program and in every row, IS THE sha256 OF THE DUMP (.gsa) THAT YtgknpbgepgmmmaaProg.lean LOADS. Nothing in Lean hashes anything: it is a label: what it is worth is what the hold of that sum in a sandbox is worth. -/
noncomputable def Try.pinned : Pinned := { name := "ytgknpbgepgmmmaa", sum := "78641b8c86646573dda134d68d138681b7d8bf9d20cbc65f5d139b0ff532b071", checked := Try.checked }
namespace Rows
def none {H : Type} : Left H := { results := [], args := [] }

/-- 'delphilaw17.CommandBytes': WHATEVER THE INPUT: true; the input reads as it did. -/
def commandBytesSpec : ChangeSpec := { name := "commandBytes", fn := fun _ => fun
  | [d1, d2, d3, d4] => { results := [.lit (.bool true)], args := [d1, d2, d3, d4] }
  | _ => none }
def commandBytesRow : OpenClaim := { program := "ytgknpbgepgmmmaa", sum := "78641b8c86646573dda134d68d138681b7d8bf9d20cbc65f5d139b0ff532b071", func := "delphi/delphilaw17.CommandBytes", spec := "commandBytes", apart := false }
def CommandBytesSaid : Prop := commandBytesRow.holds Try.pinned (OpenSpec.ofChange commandBytesSpec)

/-- ITS FALSE NEIGHBOUR: 'it returns false'. Refute it at one input. -/
def commandBytesWrong : ChangeSpec := { name := "commandBytes", fn := fun _ => fun
  | [d1, d2, d3, d4] => { results := [.lit (.bool false)], args := [d1, d2, d3, d4] }
  | _ => none }
def CommandBytesWrongFalsely : Prop := commandBytesRow.holds Try.pinned (OpenSpec.ofChange commandBytesWrong)

/-- 'delphilaw17.CommandReply': WHATEVER THE INPUT: true; the input reads as it did. -/
def commandReplySpec : ChangeSpec := { name := "commandReply", fn := fun _ => fun
  | [d1, d2, d3] => { results := [.lit (.bool true)], args := [d1, d2, d3] }
  | _ => none }
def commandReplyRow : OpenClaim := { program := "ytgknpbgepgmmmaa", sum := "78641b8c86646573dda134d68d138681b7d8bf9d20cbc65f5d139b0ff532b071", func := "delphi/delphilaw17.CommandReply", spec := "commandReply", unfollowed := true, recurses := true, apart := false }
def CommandReplySaid : Prop := commandReplyRow.holds Try.pinned (OpenSpec.ofChange commandReplySpec)

/-- ITS FALSE NEIGHBOUR: 'it returns false'. Refute it at one input. -/
def commandReplyWrong : ChangeSpec := { name := "commandReply", fn := fun _ => fun
  | [d1, d2, d3] => { results := [.lit (.bool false)], args := [d1, d2, d3] }
  | _ => none }
def CommandReplyWrongFalsely : Prop := commandReplyRow.holds Try.pinned (OpenSpec.ofChange commandReplyWrong)

/-- 'delphilaw17.CommandMsg': WHATEVER THE INPUT: true; the input reads as it did. -/
def commandMsgSpec : ChangeSpec := { name := "commandMsg", fn := fun _ => fun
  | [d1, d2, d3, d4] => { results := [.lit (.bool true)], args := [d1, d2, d3, d4] }
  | _ => none }
def commandMsgRow : OpenClaim := { program := "ytgknpbgepgmmmaa", sum := "78641b8c86646573dda134d68d138681b7d8bf9d20cbc65f5d139b0ff532b071", func := "delphi/delphilaw17.CommandMsg", spec := "commandMsg", unfollowed := true, recurses := true, apart := false }
def CommandMsgSaid : Prop := commandMsgRow.holds Try.pinned (OpenSpec.ofChange commandMsgSpec)

/-- ITS FALSE NEIGHBOUR: 'it returns false'. Refute it at one input. -/
def commandMsgWrong : ChangeSpec := { name := "commandMsg", fn := fun _ => fun
  | [d1, d2, d3, d4] => { results := [.lit (.bool false)], args := [d1, d2, d3, d4] }
  | _ => none }
def CommandMsgWrongFalsely : Prop := commandMsgRow.holds Try.pinned (OpenSpec.ofChange commandMsgWrong)

/-- 'delphilaw17.CommandSnap': WHATEVER THE INPUT: true; the input reads as it did. -/
def commandSnapSpec : ChangeSpec := { name := "commandSnap", fn := fun _ => fun
  | [d1, d2, d3, d4] => { results := [.lit (.bool true)], args := [d1, d2, d3, d4] }
  | _ => none }
def commandSnapRow : OpenClaim := { program := "ytgknpbgepgmmmaa", sum := "78641b8c86646573dda134d68d138681b7d8bf9d20cbc65f5d139b0ff532b071", func := "delphi/delphilaw17.CommandSnap", spec := "commandSnap", unfollowed := true, recurses := true, apart := false }
def CommandSnapSaid : Prop := commandSnapRow.holds Try.pinned (OpenSpec.ofChange commandSnapSpec)

/-- ITS FALSE NEIGHBOUR: 'it returns false'. Refute it at one input. -/
def commandSnapWrong : ChangeSpec := { name := "commandSnap", fn := fun _ => fun
  | [d1, d2, d3, d4] => { results := [.lit (.bool false)], args := [d1, d2, d3, d4] }
  | _ => none }
def CommandSnapWrongFalsely : Prop := commandSnapRow.holds Try.pinned (OpenSpec.ofChange commandSnapWrong)

/-- 'delphilaw17.CommandBounds': WHATEVER THE INPUT: true; the input reads as it did. -/
def commandBoundsSpec : ChangeSpec := { name := "commandBounds", fn := fun _ => fun
  | [d1, d2, d3, d4] => { results := [.lit (.bool true)], args := [d1, d2, d3, d4] }
  | _ => none }
def commandBoundsRow : OpenClaim := { program := "ytgknpbgepgmmmaa", sum := "78641b8c86646573dda134d68d138681b7d8bf9d20cbc65f5d139b0ff532b071", func := "delphi/delphilaw17.CommandBounds", spec := "commandBounds", apart := false }
def CommandBoundsSaid : Prop := commandBoundsRow.holds Try.pinned (OpenSpec.ofChange commandBoundsSpec)

/-- ITS FALSE NEIGHBOUR: 'it returns false'. Refute it at one input. -/
def commandBoundsWrong : ChangeSpec := { name := "commandBounds", fn := fun _ => fun
  | [d1, d2, d3, d4] => { results := [.lit (.bool false)], args := [d1, d2, d3, d4] }
  | _ => none }
def CommandBoundsWrongFalsely : Prop := commandBoundsRow.holds Try.pinned (OpenSpec.ofChange commandBoundsWrong)

/- THE SECOND FORM. 'bulk': how many values and letters a reading holds, each counted each time it is reached (what is shared counts as often as it is met; a slice's spare places count too). A statement '..UptoSaid' is the law's where the arguments, and the package variables that the reading takes, are together of bulk at most 1048576: NARROWER than '..Said'. Prove '..Said' where nothing that the law and all that it calls make is longer than what came in: it says more and counts as full. Else prove '..UptoSaid'. A law counts once. -/
mutual
def uptoBulk {H : Type} : DataW H → Nat
  | .lit (.string bytes) => bytes.length + 1
  | .lit _ => 1
  | .nil => 1
  | .ptr d => uptoBulk d + 1
  | .slice elems spare => uptoBulkAll elems + uptoBulkAll spare + 1
  | .agg parts => uptoBulkAll parts + 1
  | .iface _ d => uptoBulk d + 1
  | .map entries => uptoBulkEntries entries + 1
  | .held _ => 1
def uptoBulkAll {H : Type} : List (DataW H) → Nat
  | [] => 0
  | d :: r => uptoBulk d + uptoBulkAll r
def uptoBulkEntries {H : Type} : List (Lit × DataW H) → Nat
  | [] => 0
  | x :: r => uptoBulkEntry x + uptoBulkEntries r
def uptoBulkEntry {H : Type} : Lit × DataW H → Nat
  | (.string bytes, d) => bytes.length + uptoBulk d + 1
  | (_, d) => uptoBulk d + 1
 end
def uptoSmall : (H : Type) → List (DataW H) → Bool := fun _ ds => decide (uptoBulkAll ds ≤ 1048576)
def OpenSpec.upto (s : _root_.Go.ChangeSpec) : _root_.Go.OpenSpec := { _root_.Go.OpenSpec.ofChange s with cond := some uptoSmall }

/-- 'delphilaw17.CommandBytes', WHERE WHAT IT READS IS OF BULK AT MOST 1048576: true; the input reads as it did. -/
def commandBytesUptoRow : OpenClaim := { program := "ytgknpbgepgmmmaa", sum := "78641b8c86646573dda134d68d138681b7d8bf9d20cbc65f5d139b0ff532b071", func := "delphi/delphilaw17.CommandBytes", spec := "commandBytes", apart := false, narrowed := true }
def CommandBytesUptoSaid : Prop := commandBytesUptoRow.holds Try.pinned (OpenSpec.upto commandBytesSpec)

/-- 'delphilaw17.CommandReply', WHERE WHAT IT READS IS OF BULK AT MOST 1048576: true; the input reads as it did. -/
def commandReplyUptoRow : OpenClaim := { program := "ytgknpbgepgmmmaa", sum := "78641b8c86646573dda134d68d138681b7d8bf9d20cbc65f5d139b0ff532b071", func := "delphi/delphilaw17.CommandReply", spec := "commandReply", unfollowed := true, recurses := true, apart := false, narrowed := true }
def CommandReplyUptoSaid : Prop := commandReplyUptoRow.holds Try.pinned (OpenSpec.upto commandReplySpec)

/-- 'delphilaw17.CommandMsg', WHERE WHAT IT READS IS OF BULK AT MOST 1048576: true; the input reads as it did. -/
def commandMsgUptoRow : OpenClaim := { program := "ytgknpbgepgmmmaa", sum := "78641b8c86646573dda134d68d138681b7d8bf9d20cbc65f5d139b0ff532b071", func := "delphi/delphilaw17.CommandMsg", spec := "commandMsg", unfollowed := true, recurses := true, apart := false, narrowed := true }
def CommandMsgUptoSaid : Prop := commandMsgUptoRow.holds Try.pinned (OpenSpec.upto commandMsgSpec)

/-- 'delphilaw17.CommandSnap', WHERE WHAT IT READS IS OF BULK AT MOST 1048576: true; the input reads as it did. -/
def commandSnapUptoRow : OpenClaim := { program := "ytgknpbgepgmmmaa", sum := "78641b8c86646573dda134d68d138681b7d8bf9d20cbc65f5d139b0ff532b071", func := "delphi/delphilaw17.CommandSnap", spec := "commandSnap", unfollowed := true, recurses := true, apart := false, narrowed := true }
def CommandSnapUptoSaid : Prop := commandSnapUptoRow.holds Try.pinned (OpenSpec.upto commandSnapSpec)

/-- 'delphilaw17.CommandBounds', WHERE WHAT IT READS IS OF BULK AT MOST 1048576: true; the input reads as it did. -/
def commandBoundsUptoRow : OpenClaim := { program := "ytgknpbgepgmmmaa", sum := "78641b8c86646573dda134d68d138681b7d8bf9d20cbc65f5d139b0ff532b071", func := "delphi/delphilaw17.CommandBounds", spec := "commandBounds", apart := false, narrowed := true }
def CommandBoundsUptoSaid : Prop := commandBoundsUptoRow.holds Try.pinned (OpenSpec.upto commandBoundsSpec)

end Rows
end Go.Proofs.Ytgknpbgepgmmmaa
