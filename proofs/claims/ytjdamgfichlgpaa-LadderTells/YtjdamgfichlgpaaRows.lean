/-
  No cell of these rows narrows 'for every input' (looked for: loops, veiled, ifaces, maps, wideKeys, modest, calm, conditions, laid).
  DERIVED. THE GIVEN ROWS OF THIS SEAT. 5 by the template 'for every input the law returns true; each argument reads behind the call as it read before'; 0 by the template 'total and deterministic' (their statements: YtjdamgfichlgpaaTotals.lean).
  GIVEN WITH THE SEED: the statements are not yours to turn. If you find one false, say at which input.
  Laid BY PROGRAM, IN A SANDBOX (cutbox-rows.mjs): the forced cells as the released guide's own fill.sh prints them over the translation 9a30cd390f692afd… (all of the seat's roots in one cut). By AI agents, Wed Nov 11 2026. No macro, syntax, notation, axiom, sorry.
-/
import Derived.Test.YtjdamgfichlgpaaChecked
import GoSem.Claim
import GoSem.ClaimJoined
import GoSem.ClaimMapViews
import Derived.JoinedTies
import Derived.KernelRfl
namespace Go.Proofs.Ytjdamgfichlgpaa
/- THE CELL 'sum', in the pinned program and in every row, IS THE sha256 OF THE DUMP (.gsa) THAT YtjdamgfichlgpaaProg.lean LOADS. Nothing in Lean hashes anything: it is a label: what it is worth is what the hold of that sum in a sandbox is worth. -/
noncomputable def Try.pinned : Pinned := { name := "ytjdamgfichlgpaa", sum := "9a30cd390f692afd126868d6cf4748dbc82d2c631da329f77cef1948db6e5d22", checked := Try.checked }
namespace Rows
def none {H : Type} : Left H := { results := [], args := [] }

/-- 'sealringlaw.LadderTells': WHATEVER THE INPUT: true; the input reads as it did. -/
def ladderTellsSpec : ChangeSpec := { name := "ladderTells", fn := fun _ => fun
  | [d1, d2, d3] => { results := [.lit (.bool true)], args := [d1, d2, d3] }
  | _ => none }
def ladderTellsRow : OpenClaim := { program := "ytjdamgfichlgpaa", sum := "9a30cd390f692afd126868d6cf4748dbc82d2c631da329f77cef1948db6e5d22", func := "sealring/sealringlaw.LadderTells", spec := "ladderTells", inPlace := ["math/bits.Add64", "math/bits.Sub64"], recurses := true, apart := false }
def LadderTellsSaid : Prop := ladderTellsRow.holds Try.pinned (OpenSpec.ofChange ladderTellsSpec)

/-- ITS FALSE NEIGHBOUR: 'it returns false'. Refute it at one input. -/
def ladderTellsWrong : ChangeSpec := { name := "ladderTells", fn := fun _ => fun
  | [d1, d2, d3] => { results := [.lit (.bool false)], args := [d1, d2, d3] }
  | _ => none }
def LadderTellsWrongFalsely : Prop := ladderTellsRow.holds Try.pinned (OpenSpec.ofChange ladderTellsWrong)

/-- 'sealringkeep.LadderCurve': WHATEVER THE INPUT: true; the input reads as it did. -/
def ladderCurveSpec : ChangeSpec := { name := "ladderCurve", fn := fun _ => fun
  | [d1, d2] => { results := [.lit (.bool true)], args := [d1, d2] }
  | _ => none }
def ladderCurveRow : OpenClaim := { program := "ytjdamgfichlgpaa", sum := "9a30cd390f692afd126868d6cf4748dbc82d2c631da329f77cef1948db6e5d22", func := "sealring/sealringkeep.LadderCurve", spec := "ladderCurve", inPlace := ["math/bits.Add64", "math/bits.Sub64"], recurses := true, apart := false }
def LadderCurveSaid : Prop := ladderCurveRow.holds Try.pinned (OpenSpec.ofChange ladderCurveSpec)

/-- ITS FALSE NEIGHBOUR: 'it returns false'. Refute it at one input. -/
def ladderCurveWrong : ChangeSpec := { name := "ladderCurve", fn := fun _ => fun
  | [d1, d2] => { results := [.lit (.bool false)], args := [d1, d2] }
  | _ => none }
def LadderCurveWrongFalsely : Prop := ladderCurveRow.holds Try.pinned (OpenSpec.ofChange ladderCurveWrong)

/-- 'sealringkeep.LadderSwaps': WHATEVER THE INPUT: true; the input reads as it did. -/
def ladderSwapsSpec : ChangeSpec := { name := "ladderSwaps", fn := fun _ => fun
  | [d1, d2, d3] => { results := [.lit (.bool true)], args := [d1, d2, d3] }
  | _ => none }
def ladderSwapsRow : OpenClaim := { program := "ytjdamgfichlgpaa", sum := "9a30cd390f692afd126868d6cf4748dbc82d2c631da329f77cef1948db6e5d22", func := "sealring/sealringkeep.LadderSwaps", spec := "ladderSwaps", inPlace := ["math/bits.Add64", "math/bits.Sub64"], recurses := true, apart := false }
def LadderSwapsSaid : Prop := ladderSwapsRow.holds Try.pinned (OpenSpec.ofChange ladderSwapsSpec)

/-- ITS FALSE NEIGHBOUR: 'it returns false'. Refute it at one input. -/
def ladderSwapsWrong : ChangeSpec := { name := "ladderSwaps", fn := fun _ => fun
  | [d1, d2, d3] => { results := [.lit (.bool false)], args := [d1, d2, d3] }
  | _ => none }
def LadderSwapsWrongFalsely : Prop := ladderSwapsRow.holds Try.pinned (OpenSpec.ofChange ladderSwapsWrong)

/-- 'sealringkeep.LadderLow': WHATEVER THE INPUT: true; the input reads as it did. -/
def ladderLowSpec : ChangeSpec := { name := "ladderLow", fn := fun _ => fun
  | [d1, d2] => { results := [.lit (.bool true)], args := [d1, d2] }
  | _ => none }
def ladderLowRow : OpenClaim := { program := "ytjdamgfichlgpaa", sum := "9a30cd390f692afd126868d6cf4748dbc82d2c631da329f77cef1948db6e5d22", func := "sealring/sealringkeep.LadderLow", spec := "ladderLow", inPlace := ["math/bits.Add64", "math/bits.Sub64"], recurses := true, apart := false }
def LadderLowSaid : Prop := ladderLowRow.holds Try.pinned (OpenSpec.ofChange ladderLowSpec)

/-- ITS FALSE NEIGHBOUR: 'it returns false'. Refute it at one input. -/
def ladderLowWrong : ChangeSpec := { name := "ladderLow", fn := fun _ => fun
  | [d1, d2] => { results := [.lit (.bool false)], args := [d1, d2] }
  | _ => none }
def LadderLowWrongFalsely : Prop := ladderLowRow.holds Try.pinned (OpenSpec.ofChange ladderLowWrong)

/-- 'sealringkeep.LadderNeg': WHATEVER THE INPUT: true; the input reads as it did. -/
def ladderNegSpec : ChangeSpec := { name := "ladderNeg", fn := fun _ => fun
  | [d] => { results := [.lit (.bool true)], args := [d] }
  | _ => none }
def ladderNegRow : OpenClaim := { program := "ytjdamgfichlgpaa", sum := "9a30cd390f692afd126868d6cf4748dbc82d2c631da329f77cef1948db6e5d22", func := "sealring/sealringkeep.LadderNeg", spec := "ladderNeg", inPlace := ["math/bits.Add64", "math/bits.Sub64"], recurses := true, apart := false }
def LadderNegSaid : Prop := ladderNegRow.holds Try.pinned (OpenSpec.ofChange ladderNegSpec)

/-- ITS FALSE NEIGHBOUR: 'it returns false'. Refute it at one input. -/
def ladderNegWrong : ChangeSpec := { name := "ladderNeg", fn := fun _ => fun
  | [d] => { results := [.lit (.bool false)], args := [d] }
  | _ => none }
def LadderNegWrongFalsely : Prop := ladderNegRow.holds Try.pinned (OpenSpec.ofChange ladderNegWrong)

/- THE SECOND FORM. 'bulk': how many values and letters a reading holds, each counted each time it is reached (what is shared counts as often as it is met; a slice's spare places count too). A statement '..UptoSaid' is the law's where the arguments, and the package variables that the reading takes, are together of bulk at most 1048576: NARROWER than '..Said'. Prove '..Said' where nothing that the law and all that it calls make is longer than what came in: it says more and counts as full. Else prove '..UptoSaid'. A law counts once. -/
mutual
def uptoBulk {H : Type} : DataW H → Nat
  | .lit (.string bytes) => bytes.length + 1
  | .lit _ => 1
  | .nil => 1
  | .ptr d => uptoBulk d + 1
  | .slice elems spare => uptoBulkAll elems + uptoBulkAll spare + 1
  | .agg parts => uptoBulkAll parts + 1
  | .iface _ d => uptoBulk d + 1
  | .map entries => uptoBulkEntries entries + 1
  | .held _ => 1
def uptoBulkAll {H : Type} : List (DataW H) → Nat
  | [] => 0
  | d :: r => uptoBulk d + uptoBulkAll r
def uptoBulkEntries {H : Type} : List (Lit × DataW H) → Nat
  | [] => 0
  | x :: r => uptoBulkEntry x + uptoBulkEntries r
def uptoBulkEntry {H : Type} : Lit × DataW H → Nat
  | (.string bytes, d) => bytes.length + uptoBulk d + 1
  | (_, d) => uptoBulk d + 1
 end
def uptoSmall : (H : Type) → List (DataW H) → Bool := fun _ ds => decide (uptoBulkAll ds ≤ 1048576)
def OpenSpec.upto (s : _root_.Go.ChangeSpec) : _root_.Go.OpenSpec := { _root_.Go.OpenSpec.ofChange s with cond := some uptoSmall }

/-- 'sealringlaw.LadderTells', WHERE WHAT IT READS IS OF BULK AT MOST 1048576: true; the input reads as it did. -/
def ladderTellsUptoRow : OpenClaim := { program := "ytjdamgfichlgpaa", sum := "9a30cd390f692afd126868d6cf4748dbc82d2c631da329f77cef1948db6e5d22", func := "sealring/sealringlaw.LadderTells", spec := "ladderTells", inPlace := ["math/bits.Add64", "math/bits.Sub64"], recurses := true, apart := false, narrowed := true }
def LadderTellsUptoSaid : Prop := ladderTellsUptoRow.holds Try.pinned (OpenSpec.upto ladderTellsSpec)

/-- 'sealringkeep.LadderCurve', WHERE WHAT IT READS IS OF BULK AT MOST 1048576: true; the input reads as it did. -/
def ladderCurveUptoRow : OpenClaim := { program := "ytjdamgfichlgpaa", sum := "9a30cd390f692afd126868d6cf4748dbc82d2c631da329f77cef1948db6e5d22", func := "sealring/sealringkeep.LadderCurve", spec := "ladderCurve", inPlace := ["math/bits.Add64", "math/bits.Sub64"], recurses := true, apart := false, narrowed := true }
def LadderCurveUptoSaid : Prop := ladderCurveUptoRow.holds Try.pinned (OpenSpec.upto ladderCurveSpec)

/-- 'sealringkeep.LadderSwaps', WHERE WHAT IT READS IS OF BULK AT MOST 1048576: true; the input reads as it did. -/
def ladderSwapsUptoRow : OpenClaim := { program := "ytjdamgfichlgpaa", sum := "9a30cd390f692afd126868d6cf4748dbc82d2c631da329f77cef1948db6e5d22", func := "sealring/sealringkeep.LadderSwaps", spec := "ladderSwaps", inPlace := ["math/bits.Add64", "math/bits.Sub64"], recurses := true, apart := false, narrowed := true }
def LadderSwapsUptoSaid : Prop := ladderSwapsUptoRow.holds Try.pinned (OpenSpec.upto ladderSwapsSpec)

/-- 'sealringkeep.LadderLow', WHERE WHAT IT READS IS OF BULK AT MOST 1048576: true; the input reads as it did. -/
def ladderLowUptoRow : OpenClaim := { program := "ytjdamgfichlgpaa", sum := "9a30cd390f692afd126868d6cf4748dbc82d2c631da329f77cef1948db6e5d22", func := "sealring/sealringkeep.LadderLow", spec := "ladderLow", inPlace := ["math/bits.Add64", "math/bits.Sub64"], recurses := true, apart := false, narrowed := true }
def LadderLowUptoSaid : Prop := ladderLowUptoRow.holds Try.pinned (OpenSpec.upto ladderLowSpec)

/-- 'sealringkeep.LadderNeg', WHERE WHAT IT READS IS OF BULK AT MOST 1048576: true; the input reads as it did. -/
def ladderNegUptoRow : OpenClaim := { program := "ytjdamgfichlgpaa", sum := "9a30cd390f692afd126868d6cf4748dbc82d2c631da329f77cef1948db6e5d22", func := "sealring/sealringkeep.LadderNeg", spec := "ladderNeg", inPlace := ["math/bits.Add64", "math/bits.Sub64"], recurses := true, apart := false, narrowed := true }
def LadderNegUptoSaid : Prop := ladderNegUptoRow.holds Try.pinned (OpenSpec.upto ladderNegSpec)

end Rows
end Go.Proofs.Ytjdamgfichlgpaa
