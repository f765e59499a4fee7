/-
  No cell of these rows narrows 'for every input' (looked for: loops, veiled, ifaces, maps, wideKeys, modest, calm, conditions, laid).
  DERIVED. THE GIVEN ROWS OF THIS SEAT. 6 by the template 'for every input the law returns true; each argument reads behind the call as it read before'; 0 by the template 'total and deterministic' (their statements: YtmfbdacalenfdaaTotals.lean).
  GIVEN WITH THE SEED: the statements are not yours to turn. If you find one false, say at which input.
  Laid BY PROGRAM, IN A SANDBOX (cutbox-rows.mjs): the forced cells as the released guide's own fill.sh prints them over the translation 5874b183bce3e533… (all of the seat's roots in one cut). By AI agents, Wed Nov 11 2026. No macro, syntax, notation, axiom, sorry.
-/
import Derived.Test.YtmfbdacalenfdaaChecked
import GoSem.Claim
import GoSem.ClaimJoined
import GoSem.ClaimMapViews
import Derived.JoinedTies
import Derived.KernelRfl
namespace Go.Proofs.Ytmfbdacalenfdaa
/- THE CELL 'sum', in the pinned program and in every row, IS THE sha256 OF THE DUMP (.gsa) THAT YtmfbdacalenfdaaProg.lean LOADS. Nothing in Lean hashes anything: it is a label: what it is worth is what the hold of that sum in a sandbox is worth. -/
noncomputable def Try.pinned : Pinned := { name := "ytmfbdacalenfdaa", sum := "5874b183bce3e533111b65a2851e296fdb44b2cea0dc1521090454e2d81c701b", checked := Try.checked }
namespace Rows
def none {H : Type} : Left H := { results := [], args := [] }

/-- 'sealringlaw.ModeStreams': WHATEVER THE INPUT: true; the input reads as it did. -/
def modeStreamsSpec : ChangeSpec := { name := "modeStreams", fn := fun _ => fun
  | [d1, d2, d3, d4] => { results := [.lit (.bool true)], args := [d1, d2, d3, d4] }
  | _ => none }
def modeStreamsRow : OpenClaim := { program := "ytmfbdacalenfdaa", sum := "5874b183bce3e533111b65a2851e296fdb44b2cea0dc1521090454e2d81c701b", func := "sealring/sealringlaw.ModeStreams", spec := "modeStreams", unfollowed := true, recurses := true, apart := false }
def ModeStreamsSaid : Prop := modeStreamsRow.holds Try.pinned (OpenSpec.ofChange modeStreamsSpec)

/-- ITS FALSE NEIGHBOUR: 'it returns false'. Refute it at one input. -/
def modeStreamsWrong : ChangeSpec := { name := "modeStreams", fn := fun _ => fun
  | [d1, d2, d3, d4] => { results := [.lit (.bool false)], args := [d1, d2, d3, d4] }
  | _ => none }
def ModeStreamsWrongFalsely : Prop := modeStreamsRow.holds Try.pinned (OpenSpec.ofChange modeStreamsWrong)

/-- 'sealringlaw.ModeSeals': WHATEVER THE INPUT: true; the input reads as it did. -/
def modeSealsSpec : ChangeSpec := { name := "modeSeals", fn := fun _ => fun
  | [d1, d2, d3, d4] => { results := [.lit (.bool true)], args := [d1, d2, d3, d4] }
  | _ => none }
def modeSealsRow : OpenClaim := { program := "ytmfbdacalenfdaa", sum := "5874b183bce3e533111b65a2851e296fdb44b2cea0dc1521090454e2d81c701b", func := "sealring/sealringlaw.ModeSeals", spec := "modeSeals", unfollowed := true, recurses := true, apart := false }
def ModeSealsSaid : Prop := modeSealsRow.holds Try.pinned (OpenSpec.ofChange modeSealsSpec)

/-- ITS FALSE NEIGHBOUR: 'it returns false'. Refute it at one input. -/
def modeSealsWrong : ChangeSpec := { name := "modeSeals", fn := fun _ => fun
  | [d1, d2, d3, d4] => { results := [.lit (.bool false)], args := [d1, d2, d3, d4] }
  | _ => none }
def ModeSealsWrongFalsely : Prop := modeSealsRow.holds Try.pinned (OpenSpec.ofChange modeSealsWrong)

/-- 'sealringkeep.ModeTwice': WHATEVER THE INPUT: true; the input reads as it did. -/
def modeTwiceSpec : ChangeSpec := { name := "modeTwice", fn := fun _ => fun
  | [d1, d2, d3, d4] => { results := [.lit (.bool true)], args := [d1, d2, d3, d4] }
  | _ => none }
def modeTwiceRow : OpenClaim := { program := "ytmfbdacalenfdaa", sum := "5874b183bce3e533111b65a2851e296fdb44b2cea0dc1521090454e2d81c701b", func := "sealring/sealringkeep.ModeTwice", spec := "modeTwice", unfollowed := true, recurses := true, apart := false }
def ModeTwiceSaid : Prop := modeTwiceRow.holds Try.pinned (OpenSpec.ofChange modeTwiceSpec)

/-- ITS FALSE NEIGHBOUR: 'it returns false'. Refute it at one input. -/
def modeTwiceWrong : ChangeSpec := { name := "modeTwice", fn := fun _ => fun
  | [d1, d2, d3, d4] => { results := [.lit (.bool false)], args := [d1, d2, d3, d4] }
  | _ => none }
def ModeTwiceWrongFalsely : Prop := modeTwiceRow.holds Try.pinned (OpenSpec.ofChange modeTwiceWrong)

/-- 'sealringkeep.ModeParts': WHATEVER THE INPUT: true; the input reads as it did. -/
def modePartsSpec : ChangeSpec := { name := "modeParts", fn := fun _ => fun
  | [d1, d2, d3, d4, d5] => { results := [.lit (.bool true)], args := [d1, d2, d3, d4, d5] }
  | _ => none }
def modePartsRow : OpenClaim := { program := "ytmfbdacalenfdaa", sum := "5874b183bce3e533111b65a2851e296fdb44b2cea0dc1521090454e2d81c701b", func := "sealring/sealringkeep.ModeParts", spec := "modeParts", unfollowed := true, recurses := true, apart := false }
def ModePartsSaid : Prop := modePartsRow.holds Try.pinned (OpenSpec.ofChange modePartsSpec)

/-- ITS FALSE NEIGHBOUR: 'it returns false'. Refute it at one input. -/
def modePartsWrong : ChangeSpec := { name := "modeParts", fn := fun _ => fun
  | [d1, d2, d3, d4, d5] => { results := [.lit (.bool false)], args := [d1, d2, d3, d4, d5] }
  | _ => none }
def ModePartsWrongFalsely : Prop := modePartsRow.holds Try.pinned (OpenSpec.ofChange modePartsWrong)

/-- 'sealringkeep.ModeBlocks': WHATEVER THE INPUT: true; the input reads as it did. -/
def modeBlocksSpec : ChangeSpec := { name := "modeBlocks", fn := fun _ => fun
  | [d1, d2, d3] => { results := [.lit (.bool true)], args := [d1, d2, d3] }
  | _ => none }
def modeBlocksRow : OpenClaim := { program := "ytmfbdacalenfdaa", sum := "5874b183bce3e533111b65a2851e296fdb44b2cea0dc1521090454e2d81c701b", func := "sealring/sealringkeep.ModeBlocks", spec := "modeBlocks", unfollowed := true, recurses := true, apart := false }
def ModeBlocksSaid : Prop := modeBlocksRow.holds Try.pinned (OpenSpec.ofChange modeBlocksSpec)

/-- ITS FALSE NEIGHBOUR: 'it returns false'. Refute it at one input. -/
def modeBlocksWrong : ChangeSpec := { name := "modeBlocks", fn := fun _ => fun
  | [d1, d2, d3] => { results := [.lit (.bool false)], args := [d1, d2, d3] }
  | _ => none }
def ModeBlocksWrongFalsely : Prop := modeBlocksRow.holds Try.pinned (OpenSpec.ofChange modeBlocksWrong)

/-- 'sealringkeep.ModeBack': WHATEVER THE INPUT: true; the input reads as it did. -/
def modeBackSpec : ChangeSpec := { name := "modeBack", fn := fun _ => fun
  | [d1, d2, d3] => { results := [.lit (.bool true)], args := [d1, d2, d3] }
  | _ => none }
def modeBackRow : OpenClaim := { program := "ytmfbdacalenfdaa", sum := "5874b183bce3e533111b65a2851e296fdb44b2cea0dc1521090454e2d81c701b", func := "sealring/sealringkeep.ModeBack", spec := "modeBack", unfollowed := true, recurses := true, apart := false }
def ModeBackSaid : Prop := modeBackRow.holds Try.pinned (OpenSpec.ofChange modeBackSpec)

/-- ITS FALSE NEIGHBOUR: 'it returns false'. Refute it at one input. -/
def modeBackWrong : ChangeSpec := { name := "modeBack", fn := fun _ => fun
  | [d1, d2, d3] => { results := [.lit (.bool false)], args := [d1, d2, d3] }
  | _ => none }
def ModeBackWrongFalsely : Prop := modeBackRow.holds Try.pinned (OpenSpec.ofChange modeBackWrong)

/- THE SECOND FORM. 'bulk': how many values and letters a reading holds, each counted each time it is reached (what is shared counts as often as it is met; a slice's spare places count too). A statement '..UptoSaid' is the law's where the arguments, and the package variables that the reading takes, are together of bulk at most 1048576: NARROWER than '..Said'. Prove '..Said' where nothing that the law and all that it calls make is longer than what came in: it says more and counts as full. Else prove '..UptoSaid'. A law counts once. -/
mutual
def uptoBulk {H : Type} : DataW H → Nat
  | .lit (.string bytes) => bytes.length + 1
  | .lit _ => 1
  | .nil => 1
  | .ptr d => uptoBulk d + 1
  | .slice elems spare => uptoBulkAll elems + uptoBulkAll spare + 1
  | .agg parts => uptoBulkAll parts + 1
  | .iface _ d => uptoBulk d + 1
  | .map entries => uptoBulkEntries entries + 1
  | .held _ => 1
def uptoBulkAll {H : Type} : List (DataW H) → Nat
  | [] => 0
  | d :: r => uptoBulk d + uptoBulkAll r
def uptoBulkEntries {H : Type} : List (Lit × DataW H) → Nat
  | [] => 0
  | x :: r => uptoBulkEntry x + uptoBulkEntries r
def uptoBulkEntry {H : Type} : Lit × DataW H → Nat
  | (.string bytes, d) => bytes.length + uptoBulk d + 1
  | (_, d) => uptoBulk d + 1
 end
def uptoSmall : (H : Type) → List (DataW H) → Bool := fun _ ds => decide (uptoBulkAll ds ≤ 1048576)
def OpenSpec.upto (s : _root_.Go.ChangeSpec) : _root_.Go.OpenSpec := { _root_.Go.OpenSpec.ofChange s with cond := some uptoSmall }

/-- 'sealringlaw.ModeStreams', WHERE WHAT IT READS IS OF BULK AT MOST 1048576: true; the input reads as it did. -/
def modeStreamsUptoRow : OpenClaim := { program := "ytmfbdacalenfdaa", sum := "5874b183bce3e533111b65a2851e296fdb44b2cea0dc1521090454e2d81c701b", func := "sealring/sealringlaw.ModeStreams", spec := "modeStreams", unfollowed := true, recurses := true, apart := false, narrowed := true }
def ModeStreamsUptoSaid : Prop := modeStreamsUptoRow.holds Try.pinned (OpenSpec.upto modeStreamsSpec)

/-- 'sealringlaw.ModeSeals', WHERE WHAT IT READS IS OF BULK AT MOST 1048576: true; the input reads as it did. -/
def modeSealsUptoRow : OpenClaim := { program := "ytmfbdacalenfdaa", sum := "5874b183bce3e533111b65a2851e296fdb44b2cea0dc1521090454e2d81c701b", func := "sealring/sealringlaw.ModeSeals", spec := "modeSeals", unfollowed := true, recurses := true, apart := false, narrowed := true }
def ModeSealsUptoSaid : Prop := modeSealsUptoRow.holds Try.pinned (OpenSpec.upto modeSealsSpec)

/-- 'sealringkeep.ModeTwice', WHERE WHAT IT READS IS OF BULK AT MOST 1048576: true; the input reads as it did. -/
def modeTwiceUptoRow : OpenClaim := { program := "ytmfbdacalenfdaa", sum := "5874b183bce3e533111b65a2851e296fdb44b2cea0dc1521090454e2d81c701b", func := "sealring/sealringkeep.ModeTwice", spec := "modeTwice", unfollowed := true, recurses := true, apart := false, narrowed := true }
def ModeTwiceUptoSaid : Prop := modeTwiceUptoRow.holds Try.pinned (OpenSpec.upto modeTwiceSpec)

/-- 'sealringkeep.ModeParts', WHERE WHAT IT READS IS OF BULK AT MOST 1048576: true; the input reads as it did. -/
def modePartsUptoRow : OpenClaim := { program := "ytmfbdacalenfdaa", sum := "5874b183bce3e533111b65a2851e296fdb44b2cea0dc1521090454e2d81c701b", func := "sealring/sealringkeep.ModeParts", spec := "modeParts", unfollowed := true, recurses := true, apart := false, narrowed := true }
def ModePartsUptoSaid : Prop := modePartsUptoRow.holds Try.pinned (OpenSpec.upto modePartsSpec)

/-- 'sealringkeep.ModeBlocks', WHERE WHAT IT READS IS OF BULK AT MOST 1048576: true; the input reads as it did. -/
def modeBlocksUptoRow : OpenClaim := { program := "ytmfbdacalenfdaa", sum := "5874b183bce3e533111b65a2851e296fdb44b2cea0dc1521090454e2d81c701b", func := "sealring/sealringkeep.ModeBlocks", spec := "modeBlocks", unfollowed := true, recurses := true, apart := false, narrowed := true }
def ModeBlocksUptoSaid : Prop := modeBlocksUptoRow.holds Try.pinned (OpenSpec.upto modeBlocksSpec)

/-- 'sealringkeep.ModeBack', WHERE WHAT IT READS IS OF BULK AT MOST 1048576: true; the input reads as it did. -/
def modeBackUptoRow : OpenClaim := { program := "ytmfbdacalenfdaa", sum := "5874b183bce3e533111b65a2851e296fdb44b2cea0dc1521090454e2d81c701b", func := "sealring/sealringkeep.ModeBack", spec := "modeBack", unfollowed := true, recurses := true, apart := false, narrowed := true }
def ModeBackUptoSaid : Prop := modeBackUptoRow.holds Try.pinned (OpenSpec.upto modeBackSpec)

end Rows
end Go.Proofs.Ytmfbdacalenfdaa
