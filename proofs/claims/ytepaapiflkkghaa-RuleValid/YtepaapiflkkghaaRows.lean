/-
  No cell of these rows narrows 'for every input' (looked for: loops, veiled, ifaces, maps, wideKeys, modest, calm, conditions, laid).
  DERIVED. THE GIVEN ROWS OF THIS SEAT. 6 by the template 'for every input the law returns true; each argument reads behind the call as it read before'; 0 by the template 'total and deterministic' (their statements: YtepaapiflkkghaaTotals.lean).
  GIVEN WITH THE SEED: the statements are not yours to turn. If you find one false, say at which input.
  Laid BY PROGRAM, IN A SANDBOX (cutbox-rows.mjs): the forced cells as the released guide's own fill.sh prints them over the translation cb69a9aba204acca… (all of the seat's roots in one cut). By AI agents, Wed Nov 11 2026. No macro, syntax, notation, axiom, sorry.
-/
import Derived.Test.YtepaapiflkkghaaChecked
import GoSem.Claim
import GoSem.ClaimJoined
import GoSem.ClaimMapViews
import Derived.JoinedTies
import Derived.KernelRfl
namespace Go.Proofs.Ytepaapiflkkghaa
/- THE CELL 'sum', in the pinned program and in every row, IS THE sha256 OF THE DUMP (.gsa) THAT YtepaapiflkkghaaProg.lean LOADS. Nothing in Lean hashes anything: it is a label: what it is worth is what the hold of that sum in a sandbox is worth. -/
noncomputable def Try.pinned : Pinned := { name := "ytepaapiflkkghaa", sum := "cb69a9aba204acca6269bbe0a4b7a50b0da3f5be487a7592f1be49c035b9a493", checked := Try.checked }
namespace Rows
def none {H : Type} : Left H := { results := [], args := [] }

/-- 'sealringlaw.RuleMakes': WHATEVER THE INPUT: true; the input reads as it did. -/
def ruleMakesSpec : ChangeSpec := { name := "ruleMakes", fn := fun _ => fun
  | [d1, d2, d3] => { results := [.lit (.bool true)], args := [d1, d2, d3] }
  | _ => none }
def ruleMakesRow : OpenClaim := { program := "ytepaapiflkkghaa", sum := "cb69a9aba204acca6269bbe0a4b7a50b0da3f5be487a7592f1be49c035b9a493", func := "sealring/sealringlaw.RuleMakes", spec := "ruleMakes", unfollowed := true, recurses := true, apart := false }
def RuleMakesSaid : Prop := ruleMakesRow.holds Try.pinned (OpenSpec.ofChange ruleMakesSpec)

/-- ITS FALSE NEIGHBOUR: 'it returns false'. Refute it at one input. -/
def ruleMakesWrong : ChangeSpec := { name := "ruleMakes", fn := fun _ => fun
  | [d1, d2, d3] => { results := [.lit (.bool false)], args := [d1, d2, d3] }
  | _ => none }
def RuleMakesWrongFalsely : Prop := ruleMakesRow.holds Try.pinned (OpenSpec.ofChange ruleMakesWrong)

/-- 'sealringlaw.RuleChanges': WHATEVER THE INPUT: true; the input reads as it did. -/
def ruleChangesSpec : ChangeSpec := { name := "ruleChanges", fn := fun _ => fun
  | [d1, d2] => { results := [.lit (.bool true)], args := [d1, d2] }
  | _ => none }
def ruleChangesRow : OpenClaim := { program := "ytepaapiflkkghaa", sum := "cb69a9aba204acca6269bbe0a4b7a50b0da3f5be487a7592f1be49c035b9a493", func := "sealring/sealringlaw.RuleChanges", spec := "ruleChanges", unfollowed := true, recurses := true, apart := false }
def RuleChangesSaid : Prop := ruleChangesRow.holds Try.pinned (OpenSpec.ofChange ruleChangesSpec)

/-- ITS FALSE NEIGHBOUR: 'it returns false'. Refute it at one input. -/
def ruleChangesWrong : ChangeSpec := { name := "ruleChanges", fn := fun _ => fun
  | [d1, d2] => { results := [.lit (.bool false)], args := [d1, d2] }
  | _ => none }
def RuleChangesWrongFalsely : Prop := ruleChangesRow.holds Try.pinned (OpenSpec.ofChange ruleChangesWrong)

/-- 'sealringlaw.RuleSees': WHATEVER THE INPUT: true; the input reads as it did. -/
def ruleSeesSpec : ChangeSpec := { name := "ruleSees", fn := fun _ => fun
  | [d1, d2] => { results := [.lit (.bool true)], args := [d1, d2] }
  | _ => none }
def ruleSeesRow : OpenClaim := { program := "ytepaapiflkkghaa", sum := "cb69a9aba204acca6269bbe0a4b7a50b0da3f5be487a7592f1be49c035b9a493", func := "sealring/sealringlaw.RuleSees", spec := "ruleSees", unfollowed := true, recurses := true, apart := false }
def RuleSeesSaid : Prop := ruleSeesRow.holds Try.pinned (OpenSpec.ofChange ruleSeesSpec)

/-- ITS FALSE NEIGHBOUR: 'it returns false'. Refute it at one input. -/
def ruleSeesWrong : ChangeSpec := { name := "ruleSees", fn := fun _ => fun
  | [d1, d2] => { results := [.lit (.bool false)], args := [d1, d2] }
  | _ => none }
def RuleSeesWrongFalsely : Prop := ruleSeesRow.holds Try.pinned (OpenSpec.ofChange ruleSeesWrong)

/-- 'sealringkeep.RuleSticky': WHATEVER THE INPUT: true; the input reads as it did. -/
def ruleStickySpec : ChangeSpec := { name := "ruleSticky", fn := fun _ => fun
  | [d1, d2, d3] => { results := [.lit (.bool true)], args := [d1, d2, d3] }
  | _ => none }
def ruleStickyRow : OpenClaim := { program := "ytepaapiflkkghaa", sum := "cb69a9aba204acca6269bbe0a4b7a50b0da3f5be487a7592f1be49c035b9a493", func := "sealring/sealringkeep.RuleSticky", spec := "ruleSticky", unfollowed := true, recurses := true, apart := false }
def RuleStickySaid : Prop := ruleStickyRow.holds Try.pinned (OpenSpec.ofChange ruleStickySpec)

/-- ITS FALSE NEIGHBOUR: 'it returns false'. Refute it at one input. -/
def ruleStickyWrong : ChangeSpec := { name := "ruleSticky", fn := fun _ => fun
  | [d1, d2, d3] => { results := [.lit (.bool false)], args := [d1, d2, d3] }
  | _ => none }
def RuleStickyWrongFalsely : Prop := ruleStickyRow.holds Try.pinned (OpenSpec.ofChange ruleStickyWrong)

/-- 'sealringkeep.RuleFixed': WHATEVER THE INPUT: true; the input reads as it did. -/
def ruleFixedSpec : ChangeSpec := { name := "ruleFixed", fn := fun _ => fun
  | [d1, d2, d3] => { results := [.lit (.bool true)], args := [d1, d2, d3] }
  | _ => none }
def ruleFixedRow : OpenClaim := { program := "ytepaapiflkkghaa", sum := "cb69a9aba204acca6269bbe0a4b7a50b0da3f5be487a7592f1be49c035b9a493", func := "sealring/sealringkeep.RuleFixed", spec := "ruleFixed", unfollowed := true, recurses := true, apart := false }
def RuleFixedSaid : Prop := ruleFixedRow.holds Try.pinned (OpenSpec.ofChange ruleFixedSpec)

/-- ITS FALSE NEIGHBOUR: 'it returns false'. Refute it at one input. -/
def ruleFixedWrong : ChangeSpec := { name := "ruleFixed", fn := fun _ => fun
  | [d1, d2, d3] => { results := [.lit (.bool false)], args := [d1, d2, d3] }
  | _ => none }
def RuleFixedWrongFalsely : Prop := ruleFixedRow.holds Try.pinned (OpenSpec.ofChange ruleFixedWrong)

/-- 'sealringkeep.RuleValid': WHATEVER THE INPUT: true; the input reads as it did. -/
def ruleValidSpec : ChangeSpec := { name := "ruleValid", fn := fun _ => fun
  | [d1, d2, d3] => { results := [.lit (.bool true)], args := [d1, d2, d3] }
  | _ => none }
def ruleValidRow : OpenClaim := { program := "ytepaapiflkkghaa", sum := "cb69a9aba204acca6269bbe0a4b7a50b0da3f5be487a7592f1be49c035b9a493", func := "sealring/sealringkeep.RuleValid", spec := "ruleValid", unfollowed := true, recurses := true, apart := false }
def RuleValidSaid : Prop := ruleValidRow.holds Try.pinned (OpenSpec.ofChange ruleValidSpec)

/-- ITS FALSE NEIGHBOUR: 'it returns false'. Refute it at one input. -/
def ruleValidWrong : ChangeSpec := { name := "ruleValid", fn := fun _ => fun
  | [d1, d2, d3] => { results := [.lit (.bool false)], args := [d1, d2, d3] }
  | _ => none }
def RuleValidWrongFalsely : Prop := ruleValidRow.holds Try.pinned (OpenSpec.ofChange ruleValidWrong)

/- THE SECOND FORM. 'bulk': how many values and letters a reading holds, each counted each time it is reached (what is shared counts as often as it is met; a slice's spare places count too). A statement '..UptoSaid' is the law's where the arguments, and the package variables that the reading takes, are together of bulk at most 1048576: NARROWER than '..Said'. Prove '..Said' where nothing that the law and all that it calls make is longer than what came in: it says more and counts as full. Else prove '..UptoSaid'. A law counts once. -/
mutual
def uptoBulk {H : Type} : DataW H → Nat
  | .lit (.string bytes) => bytes.length + 1
  | .lit _ => 1
  | .nil => 1
  | .ptr d => uptoBulk d + 1
  | .slice elems spare => uptoBulkAll elems + uptoBulkAll spare + 1
  | .agg parts => uptoBulkAll parts + 1
  | .iface _ d => uptoBulk d + 1
  | .map entries => uptoBulkEntries entries + 1
  | .held _ => 1
def uptoBulkAll {H : Type} : List (DataW H) → Nat
  | [] => 0
  | d :: r => uptoBulk d + uptoBulkAll r
def uptoBulkEntries {H : Type} : List (Lit × DataW H) → Nat
  | [] => 0
  | x :: r => uptoBulkEntry x + uptoBulkEntries r
def uptoBulkEntry {H : Type} : Lit × DataW H → Nat
  | (.string bytes, d) => bytes.length + uptoBulk d + 1
  | (_, d) => uptoBulk d + 1
 end
def uptoSmall : (H : Type) → List (DataW H) → Bool := fun _ ds => decide (uptoBulkAll ds ≤ 1048576)
def OpenSpec.upto (s : _root_.Go.ChangeSpec) : _root_.Go.OpenSpec := { _root_.Go.OpenSpec.ofChange s with cond := some uptoSmall }

/-- 'sealringlaw.RuleMakes', WHERE WHAT IT READS IS OF BULK AT MOST 1048576: true; the input reads as it did. -/
def ruleMakesUptoRow : OpenClaim := { program := "ytepaapiflkkghaa", sum := "cb69a9aba204acca6269bbe0a4b7a50b0da3f5be487a7592f1be49c035b9a493", func := "sealring/sealringlaw.RuleMakes", spec := "ruleMakes", unfollowed := true, recurses := true, apart := false, narrowed := true }
def RuleMakesUptoSaid : Prop := ruleMakesUptoRow.holds Try.pinned (OpenSpec.upto ruleMakesSpec)

/-- 'sealringlaw.RuleChanges', WHERE WHAT IT READS IS OF BULK AT MOST 1048576: true; the input reads as it did. -/
def ruleChangesUptoRow : OpenClaim := { program := "ytepaapiflkkghaa", sum := "cb69a9aba204acca6269bbe0a4b7a50b0da3f5be487a7592f1be49c035b9a493", func := "sealring/sealringlaw.RuleChanges", spec := "ruleChanges", unfollowed := true, recurses := true, apart := false, narrowed := true }
def RuleChangesUptoSaid : Prop := ruleChangesUptoRow.holds Try.pinned (OpenSpec.upto ruleChangesSpec)

/-- 'sealringlaw.RuleSees', WHERE WHAT IT READS IS OF BULK AT MOST 1048576: true; the input reads as it did. -/
def ruleSeesUptoRow : OpenClaim := { program := "ytepaapiflkkghaa", sum := "cb69a9aba204acca6269bbe0a4b7a50b0da3f5be487a7592f1be49c035b9a493", func := "sealring/sealringlaw.RuleSees", spec := "ruleSees", unfollowed := true, recurses := true, apart := false, narrowed := true }
def RuleSeesUptoSaid : Prop := ruleSeesUptoRow.holds Try.pinned (OpenSpec.upto ruleSeesSpec)

/-- 'sealringkeep.RuleSticky', WHERE WHAT IT READS IS OF BULK AT MOST 1048576: true; the input reads as it did. -/
def ruleStickyUptoRow : OpenClaim := { program := "ytepaapiflkkghaa", sum := "cb69a9aba204acca6269bbe0a4b7a50b0da3f5be487a7592f1be49c035b9a493", func := "sealring/sealringkeep.RuleSticky", spec := "ruleSticky", unfollowed := true, recurses := true, apart := false, narrowed := true }
def RuleStickyUptoSaid : Prop := ruleStickyUptoRow.holds Try.pinned (OpenSpec.upto ruleStickySpec)

/-- 'sealringkeep.RuleFixed', WHERE WHAT IT READS IS OF BULK AT MOST 1048576: true; the input reads as it did. -/
def ruleFixedUptoRow : OpenClaim := { program := "ytepaapiflkkghaa", sum := "cb69a9aba204acca6269bbe0a4b7a50b0da3f5be487a7592f1be49c035b9a493", func := "sealring/sealringkeep.RuleFixed", spec := "ruleFixed", unfollowed := true, recurses := true, apart := false, narrowed := true }
def RuleFixedUptoSaid : Prop := ruleFixedUptoRow.holds Try.pinned (OpenSpec.upto ruleFixedSpec)

/-- 'sealringkeep.RuleValid', WHERE WHAT IT READS IS OF BULK AT MOST 1048576: true; the input reads as it did. -/
def ruleValidUptoRow : OpenClaim := { program := "ytepaapiflkkghaa", sum := "cb69a9aba204acca6269bbe0a4b7a50b0da3f5be487a7592f1be49c035b9a493", func := "sealring/sealringkeep.RuleValid", spec := "ruleValid", unfollowed := true, recurses := true, apart := false, narrowed := true }
def RuleValidUptoSaid : Prop := ruleValidUptoRow.holds Try.pinned (OpenSpec.upto ruleValidSpec)

end Rows
end Go.Proofs.Ytepaapiflkkghaa
