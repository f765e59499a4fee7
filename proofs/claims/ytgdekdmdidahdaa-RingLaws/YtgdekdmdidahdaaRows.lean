/-
  No cell of these rows narrows 'for every input' (looked for: loops, veiled, ifaces, maps, wideKeys, modest, calm, conditions, laid).
  DERIVED. THE GIVEN ROWS OF THIS SEAT. 5 by the template 'for every input the law returns true; each argument reads behind the call as it read before'; 0 by the template 'total and deterministic' (their statements: YtgdekdmdidahdaaTotals.lean).
  GIVEN WITH THE SEED: the statements are not yours to turn. If you find one false, say at which input.
  Laid BY PROGRAM, IN A SANDBOX (cutbox-rows.mjs): the forced cells as the released guide's own fill.sh prints them over the translation 044c1f9c60438e21… (all of the seat's roots in one cut). By AI agents, Wed Nov 11 2026. No macro, syntax, notation, axiom, sorry.
-/
import Derived.Test.YtgdekdmdidahdaaChecked
import GoSem.Claim
import GoSem.ClaimJoined
import GoSem.ClaimMapViews
import Derived.JoinedTies
import Derived.KernelRfl
namespace Go.Proofs.Ytgdekdmdidahdaa
/- THE CELL 'sum', in the pinned program and in every row, IS THE sha256 OF THE DUMP (.gsa) THAT YtgdekdmdidahdaaProg.lean LOADS. Nothing in Lean hashes anything: it is a label: what it is worth is what the hold of that sum in a sandbox is worth. -/
noncomputable def Try.pinned : Pinned := { name := "ytgdekdmdidahdaa", sum := "044c1f9c60438e21d4ef715cfb23c999f1bba456102dc8b5192c3a900ad14e4a", checked := Try.checked }
namespace Rows
def none {H : Type} : Left H := { results := [], args := [] }

/-- 'sealringlaw.LimbTells': WHATEVER THE INPUT: true; the input reads as it did. -/
def limbTellsSpec : ChangeSpec := { name := "limbTells", fn := fun _ => fun
  | [d1, d2, d3, d4] => { results := [.lit (.bool true)], args := [d1, d2, d3, d4] }
  | _ => none }
def limbTellsRow : OpenClaim := { program := "ytgdekdmdidahdaa", sum := "044c1f9c60438e21d4ef715cfb23c999f1bba456102dc8b5192c3a900ad14e4a", func := "sealring/sealringlaw.LimbTells", spec := "limbTells", inPlace := ["math/bits.Add64", "math/bits.Sub64"], apart := false }
def LimbTellsSaid : Prop := limbTellsRow.holds Try.pinned (OpenSpec.ofChange limbTellsSpec)

/-- ITS FALSE NEIGHBOUR: 'it returns false'. Refute it at one input. -/
def limbTellsWrong : ChangeSpec := { name := "limbTells", fn := fun _ => fun
  | [d1, d2, d3, d4] => { results := [.lit (.bool false)], args := [d1, d2, d3, d4] }
  | _ => none }
def LimbTellsWrongFalsely : Prop := limbTellsRow.holds Try.pinned (OpenSpec.ofChange limbTellsWrong)

/-- 'sealringlaw.LimbHalves': WHATEVER THE INPUT: true; the input reads as it did. -/
def limbHalvesSpec : ChangeSpec := { name := "limbHalves", fn := fun _ => fun
  | [d1, d2, d3] => { results := [.lit (.bool true)], args := [d1, d2, d3] }
  | _ => none }
def limbHalvesRow : OpenClaim := { program := "ytgdekdmdidahdaa", sum := "044c1f9c60438e21d4ef715cfb23c999f1bba456102dc8b5192c3a900ad14e4a", func := "sealring/sealringlaw.LimbHalves", spec := "limbHalves", apart := false }
def LimbHalvesSaid : Prop := limbHalvesRow.holds Try.pinned (OpenSpec.ofChange limbHalvesSpec)

/-- ITS FALSE NEIGHBOUR: 'it returns false'. Refute it at one input. -/
def limbHalvesWrong : ChangeSpec := { name := "limbHalves", fn := fun _ => fun
  | [d1, d2, d3] => { results := [.lit (.bool false)], args := [d1, d2, d3] }
  | _ => none }
def LimbHalvesWrongFalsely : Prop := limbHalvesRow.holds Try.pinned (OpenSpec.ofChange limbHalvesWrong)

/-- 'sealringlaw.QuotInverts': WHATEVER THE INPUT: true; the input reads as it did. -/
def quotInvertsSpec : ChangeSpec := { name := "quotInverts", fn := fun _ => fun
  | [d1, d2] => { results := [.lit (.bool true)], args := [d1, d2] }
  | _ => none }
def quotInvertsRow : OpenClaim := { program := "ytgdekdmdidahdaa", sum := "044c1f9c60438e21d4ef715cfb23c999f1bba456102dc8b5192c3a900ad14e4a", func := "sealring/sealringlaw.QuotInverts", spec := "quotInverts", inPlace := ["math/bits.Add64", "math/bits.Sub64"], apart := false }
def QuotInvertsSaid : Prop := quotInvertsRow.holds Try.pinned (OpenSpec.ofChange quotInvertsSpec)

/-- ITS FALSE NEIGHBOUR: 'it returns false'. Refute it at one input. -/
def quotInvertsWrong : ChangeSpec := { name := "quotInverts", fn := fun _ => fun
  | [d1, d2] => { results := [.lit (.bool false)], args := [d1, d2] }
  | _ => none }
def QuotInvertsWrongFalsely : Prop := quotInvertsRow.holds Try.pinned (OpenSpec.ofChange quotInvertsWrong)

/-- 'sealringlaw.RingTells': WHATEVER THE INPUT: true; the input reads as it did. -/
def ringTellsSpec : ChangeSpec := { name := "ringTells", fn := fun _ => fun
  | [d1, d2, d3, d4, d5] => { results := [.lit (.bool true)], args := [d1, d2, d3, d4, d5] }
  | _ => none }
def ringTellsRow : OpenClaim := { program := "ytgdekdmdidahdaa", sum := "044c1f9c60438e21d4ef715cfb23c999f1bba456102dc8b5192c3a900ad14e4a", func := "sealring/sealringlaw.RingTells", spec := "ringTells", inPlace := ["math/bits.Add64", "math/bits.Sub64"], unfollowed := true, recurses := true, apart := false }
def RingTellsSaid : Prop := ringTellsRow.holds Try.pinned (OpenSpec.ofChange ringTellsSpec)

/-- ITS FALSE NEIGHBOUR: 'it returns false'. Refute it at one input. -/
def ringTellsWrong : ChangeSpec := { name := "ringTells", fn := fun _ => fun
  | [d1, d2, d3, d4, d5] => { results := [.lit (.bool false)], args := [d1, d2, d3, d4, d5] }
  | _ => none }
def RingTellsWrongFalsely : Prop := ringTellsRow.holds Try.pinned (OpenSpec.ofChange ringTellsWrong)

/-- 'sealringkeep.RingLaws': WHATEVER THE INPUT: true; the input reads as it did. -/
def ringLawsSpec : ChangeSpec := { name := "ringLaws", fn := fun _ => fun
  | [d1, d2, d3, d4] => { results := [.lit (.bool true)], args := [d1, d2, d3, d4] }
  | _ => none }
def ringLawsRow : OpenClaim := { program := "ytgdekdmdidahdaa", sum := "044c1f9c60438e21d4ef715cfb23c999f1bba456102dc8b5192c3a900ad14e4a", func := "sealring/sealringkeep.RingLaws", spec := "ringLaws", inPlace := ["math/bits.Add64", "math/bits.Sub64"], apart := false }
def RingLawsSaid : Prop := ringLawsRow.holds Try.pinned (OpenSpec.ofChange ringLawsSpec)

/-- ITS FALSE NEIGHBOUR: 'it returns false'. Refute it at one input. -/
def ringLawsWrong : ChangeSpec := { name := "ringLaws", fn := fun _ => fun
  | [d1, d2, d3, d4] => { results := [.lit (.bool false)], args := [d1, d2, d3, d4] }
  | _ => none }
def RingLawsWrongFalsely : Prop := ringLawsRow.holds Try.pinned (OpenSpec.ofChange ringLawsWrong)

/- THE SECOND FORM. 'bulk': how many values and letters a reading holds, each counted each time it is reached (what is shared counts as often as it is met; a slice's spare places count too). A statement '..UptoSaid' is the law's where the arguments, and the package variables that the reading takes, are together of bulk at most 1048576: NARROWER than '..Said'. Prove '..Said' where nothing that the law and all that it calls make is longer than what came in: it says more and counts as full. Else prove '..UptoSaid'. A law counts once. -/
mutual
def uptoBulk {H : Type} : DataW H → Nat
  | .lit (.string bytes) => bytes.length + 1
  | .lit _ => 1
  | .nil => 1
  | .ptr d => uptoBulk d + 1
  | .slice elems spare => uptoBulkAll elems + uptoBulkAll spare + 1
  | .agg parts => uptoBulkAll parts + 1
  | .iface _ d => uptoBulk d + 1
  | .map entries => uptoBulkEntries entries + 1
  | .held _ => 1
def uptoBulkAll {H : Type} : List (DataW H) → Nat
  | [] => 0
  | d :: r => uptoBulk d + uptoBulkAll r
def uptoBulkEntries {H : Type} : List (Lit × DataW H) → Nat
  | [] => 0
  | x :: r => uptoBulkEntry x + uptoBulkEntries r
def uptoBulkEntry {H : Type} : Lit × DataW H → Nat
  | (.string bytes, d) => bytes.length + uptoBulk d + 1
  | (_, d) => uptoBulk d + 1
 end
def uptoSmall : (H : Type) → List (DataW H) → Bool := fun _ ds => decide (uptoBulkAll ds ≤ 1048576)
def OpenSpec.upto (s : _root_.Go.ChangeSpec) : _root_.Go.OpenSpec := { _root_.Go.OpenSpec.ofChange s with cond := some uptoSmall }

/-- 'sealringlaw.LimbTells', WHERE WHAT IT READS IS OF BULK AT MOST 1048576: true; the input reads as it did. -/
def limbTellsUptoRow : OpenClaim := { program := "ytgdekdmdidahdaa", sum := "044c1f9c60438e21d4ef715cfb23c999f1bba456102dc8b5192c3a900ad14e4a", func := "sealring/sealringlaw.LimbTells", spec := "limbTells", inPlace := ["math/bits.Add64", "math/bits.Sub64"], apart := false, narrowed := true }
def LimbTellsUptoSaid : Prop := limbTellsUptoRow.holds Try.pinned (OpenSpec.upto limbTellsSpec)

/-- 'sealringlaw.LimbHalves', WHERE WHAT IT READS IS OF BULK AT MOST 1048576: true; the input reads as it did. -/
def limbHalvesUptoRow : OpenClaim := { program := "ytgdekdmdidahdaa", sum := "044c1f9c60438e21d4ef715cfb23c999f1bba456102dc8b5192c3a900ad14e4a", func := "sealring/sealringlaw.LimbHalves", spec := "limbHalves", apart := false, narrowed := true }
def LimbHalvesUptoSaid : Prop := limbHalvesUptoRow.holds Try.pinned (OpenSpec.upto limbHalvesSpec)

/-- 'sealringlaw.QuotInverts', WHERE WHAT IT READS IS OF BULK AT MOST 1048576: true; the input reads as it did. -/
def quotInvertsUptoRow : OpenClaim := { program := "ytgdekdmdidahdaa", sum := "044c1f9c60438e21d4ef715cfb23c999f1bba456102dc8b5192c3a900ad14e4a", func := "sealring/sealringlaw.QuotInverts", spec := "quotInverts", inPlace := ["math/bits.Add64", "math/bits.Sub64"], apart := false, narrowed := true }
def QuotInvertsUptoSaid : Prop := quotInvertsUptoRow.holds Try.pinned (OpenSpec.upto quotInvertsSpec)

/-- 'sealringlaw.RingTells', WHERE WHAT IT READS IS OF BULK AT MOST 1048576: true; the input reads as it did. -/
def ringTellsUptoRow : OpenClaim := { program := "ytgdekdmdidahdaa", sum := "044c1f9c60438e21d4ef715cfb23c999f1bba456102dc8b5192c3a900ad14e4a", func := "sealring/sealringlaw.RingTells", spec := "ringTells", inPlace := ["math/bits.Add64", "math/bits.Sub64"], unfollowed := true, recurses := true, apart := false, narrowed := true }
def RingTellsUptoSaid : Prop := ringTellsUptoRow.holds Try.pinned (OpenSpec.upto ringTellsSpec)

/-- 'sealringkeep.RingLaws', WHERE WHAT IT READS IS OF BULK AT MOST 1048576: true; the input reads as it did. -/
def ringLawsUptoRow : OpenClaim := { program := "ytgdekdmdidahdaa", sum := "044c1f9c60438e21d4ef715cfb23c999f1bba456102dc8b5192c3a900ad14e4a", func := "sealring/sealringkeep.RingLaws", spec := "ringLaws", inPlace := ["math/bits.Add64", "math/bits.Sub64"], apart := false, narrowed := true }
def RingLawsUptoSaid : Prop := ringLawsUptoRow.holds Try.pinned (OpenSpec.upto ringLawsSpec)

end Rows
end Go.Proofs.Ytgdekdmdidahdaa
