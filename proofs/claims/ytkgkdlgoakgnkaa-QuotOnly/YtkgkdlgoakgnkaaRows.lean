/-
  No cell of these rows narrows 'for every input' (looked for: loops, veiled, ifaces, maps, wideKeys, modest, calm, conditions, laid).
  DERIVED. THE GIVEN ROWS OF THIS SEAT. 5 by the template 'for every input the law returns true; each argument reads behind the call as it read before'; 0 by the template 'total and deterministic' (their statements: YtkgkdlgoakgnkaaTotals.lean).
  GIVEN WITH THE SEED: the statements are not yours to turn. If you find one false, say at which input.
  Laid BY PROGRAM, IN A SANDBOX (cutbox-rows.mjs): the forced cells as the released guide's own fill.sh prints them over the translation 46bae07b410a2eae… (all of the seat's roots in one cut). By AI agents, Wed Nov 11 2026. No macro, syntax, notation, axiom, sorry.
-/
import Derived.Test.YtkgkdlgoakgnkaaChecked
import GoSem.Claim
import GoSem.ClaimJoined
import GoSem.ClaimMapViews
import Derived.JoinedTies
import Derived.KernelRfl
namespace Go.Proofs.Ytkgkdlgoakgnkaa
/- THE CELL 'sum', in the pinned program and in every row, IS THE sha256 OF THE DUMP (.gsa) THAT YtkgkdlgoakgnkaaProg.lean LOADS. Nothing in Lean hashes anything: it is a label: what it is worth is what the hold of that sum in a sandbox is worth. -/
noncomputable def Try.pinned : Pinned := { name := "ytkgkdlgoakgnkaa", sum := "46bae07b410a2eaead1b23440076affd320621d1a473fe4403f8ede09725eec6", checked := Try.checked }
namespace Rows
def none {H : Type} : Left H := { results := [], args := [] }

/-- 'sealringlaw.LimbTells': WHATEVER THE INPUT: true; the input reads as it did. -/
def limbTellsSpec : ChangeSpec := { name := "limbTells", fn := fun _ => fun
  | [d1, d2, d3, d4] => { results := [.lit (.bool true)], args := [d1, d2, d3, d4] }
  | _ => none }
def limbTellsRow : OpenClaim := { program := "ytkgkdlgoakgnkaa", sum := "46bae07b410a2eaead1b23440076affd320621d1a473fe4403f8ede09725eec6", func := "sealring/sealringlaw.LimbTells", spec := "limbTells", inPlace := ["math/bits.Add64", "math/bits.Sub64"], apart := false }
def LimbTellsSaid : Prop := limbTellsRow.holds Try.pinned (OpenSpec.ofChange limbTellsSpec)

/-- ITS FALSE NEIGHBOUR: 'it returns false'. Refute it at one input. -/
def limbTellsWrong : ChangeSpec := { name := "limbTells", fn := fun _ => fun
  | [d1, d2, d3, d4] => { results := [.lit (.bool false)], args := [d1, d2, d3, d4] }
  | _ => none }
def LimbTellsWrongFalsely : Prop := limbTellsRow.holds Try.pinned (OpenSpec.ofChange limbTellsWrong)

/-- 'sealringlaw.LimbHalves': WHATEVER THE INPUT: true; the input reads as it did. -/
def limbHalvesSpec : ChangeSpec := { name := "limbHalves", fn := fun _ => fun
  | [d1, d2, d3] => { results := [.lit (.bool true)], args := [d1, d2, d3] }
  | _ => none }
def limbHalvesRow : OpenClaim := { program := "ytkgkdlgoakgnkaa", sum := "46bae07b410a2eaead1b23440076affd320621d1a473fe4403f8ede09725eec6", func := "sealring/sealringlaw.LimbHalves", spec := "limbHalves", apart := false }
def LimbHalvesSaid : Prop := limbHalvesRow.holds Try.pinned (OpenSpec.ofChange limbHalvesSpec)

/-- ITS FALSE NEIGHBOUR: 'it returns false'. Refute it at one input. -/
def limbHalvesWrong : ChangeSpec := { name := "limbHalves", fn := fun _ => fun
  | [d1, d2, d3] => { results := [.lit (.bool false)], args := [d1, d2, d3] }
  | _ => none }
def LimbHalvesWrongFalsely : Prop := limbHalvesRow.holds Try.pinned (OpenSpec.ofChange limbHalvesWrong)

/-- 'sealringlaw.QuotInverts': WHATEVER THE INPUT: true; the input reads as it did. -/
def quotInvertsSpec : ChangeSpec := { name := "quotInverts", fn := fun _ => fun
  | [d1, d2] => { results := [.lit (.bool true)], args := [d1, d2] }
  | _ => none }
def quotInvertsRow : OpenClaim := { program := "ytkgkdlgoakgnkaa", sum := "46bae07b410a2eaead1b23440076affd320621d1a473fe4403f8ede09725eec6", func := "sealring/sealringlaw.QuotInverts", spec := "quotInverts", inPlace := ["math/bits.Add64", "math/bits.Sub64"], apart := false }
def QuotInvertsSaid : Prop := quotInvertsRow.holds Try.pinned (OpenSpec.ofChange quotInvertsSpec)

/-- ITS FALSE NEIGHBOUR: 'it returns false'. Refute it at one input. -/
def quotInvertsWrong : ChangeSpec := { name := "quotInverts", fn := fun _ => fun
  | [d1, d2] => { results := [.lit (.bool false)], args := [d1, d2] }
  | _ => none }
def QuotInvertsWrongFalsely : Prop := quotInvertsRow.holds Try.pinned (OpenSpec.ofChange quotInvertsWrong)

/-- 'sealringkeep.QuotBack': WHATEVER THE INPUT: true; the input reads as it did. -/
def quotBackSpec : ChangeSpec := { name := "quotBack", fn := fun _ => fun
  | [d1, d2] => { results := [.lit (.bool true)], args := [d1, d2] }
  | _ => none }
def quotBackRow : OpenClaim := { program := "ytkgkdlgoakgnkaa", sum := "46bae07b410a2eaead1b23440076affd320621d1a473fe4403f8ede09725eec6", func := "sealring/sealringkeep.QuotBack", spec := "quotBack", inPlace := ["math/bits.Add64", "math/bits.Sub64"], apart := false }
def QuotBackSaid : Prop := quotBackRow.holds Try.pinned (OpenSpec.ofChange quotBackSpec)

/-- ITS FALSE NEIGHBOUR: 'it returns false'. Refute it at one input. -/
def quotBackWrong : ChangeSpec := { name := "quotBack", fn := fun _ => fun
  | [d1, d2] => { results := [.lit (.bool false)], args := [d1, d2] }
  | _ => none }
def QuotBackWrongFalsely : Prop := quotBackRow.holds Try.pinned (OpenSpec.ofChange quotBackWrong)

/-- 'sealringkeep.QuotOnly': WHATEVER THE INPUT: true; the input reads as it did. -/
def quotOnlySpec : ChangeSpec := { name := "quotOnly", fn := fun _ => fun
  | [d1, d2, d3] => { results := [.lit (.bool true)], args := [d1, d2, d3] }
  | _ => none }
def quotOnlyRow : OpenClaim := { program := "ytkgkdlgoakgnkaa", sum := "46bae07b410a2eaead1b23440076affd320621d1a473fe4403f8ede09725eec6", func := "sealring/sealringkeep.QuotOnly", spec := "quotOnly", inPlace := ["math/bits.Add64", "math/bits.Sub64"], apart := false }
def QuotOnlySaid : Prop := quotOnlyRow.holds Try.pinned (OpenSpec.ofChange quotOnlySpec)

/-- ITS FALSE NEIGHBOUR: 'it returns false'. Refute it at one input. -/
def quotOnlyWrong : ChangeSpec := { name := "quotOnly", fn := fun _ => fun
  | [d1, d2, d3] => { results := [.lit (.bool false)], args := [d1, d2, d3] }
  | _ => none }
def QuotOnlyWrongFalsely : Prop := quotOnlyRow.holds Try.pinned (OpenSpec.ofChange quotOnlyWrong)

/- THE SECOND FORM. 'bulk': how many values and letters a reading holds, each counted each time it is reached (what is shared counts as often as it is met; a slice's spare places count too). A statement '..UptoSaid' is the law's where the arguments, and the package variables that the reading takes, are together of bulk at most 1048576: NARROWER than '..Said'. Prove '..Said' where nothing that the law and all that it calls make is longer than what came in: it says more and counts as full. Else prove '..UptoSaid'. A law counts once. -/
mutual
def uptoBulk {H : Type} : DataW H → Nat
  | .lit (.string bytes) => bytes.length + 1
  | .lit _ => 1
  | .nil => 1
  | .ptr d => uptoBulk d + 1
  | .slice elems spare => uptoBulkAll elems + uptoBulkAll spare + 1
  | .agg parts => uptoBulkAll parts + 1
  | .iface _ d => uptoBulk d + 1
  | .map entries => uptoBulkEntries entries + 1
  | .held _ => 1
def uptoBulkAll {H : Type} : List (DataW H) → Nat
  | [] => 0
  | d :: r => uptoBulk d + uptoBulkAll r
def uptoBulkEntries {H : Type} : List (Lit × DataW H) → Nat
  | [] => 0
  | x :: r => uptoBulkEntry x + uptoBulkEntries r
def uptoBulkEntry {H : Type} : Lit × DataW H → Nat
  | (.string bytes, d) => bytes.length + uptoBulk d + 1
  | (_, d) => uptoBulk d + 1
 end
def uptoSmall : (H : Type) → List (DataW H) → Bool := fun _ ds => decide (uptoBulkAll ds ≤ 1048576)
def OpenSpec.upto (s : _root_.Go.ChangeSpec) : _root_.Go.OpenSpec := { _root_.Go.OpenSpec.ofChange s with cond := some uptoSmall }

/-- 'sealringlaw.LimbTells', WHERE WHAT IT READS IS OF BULK AT MOST 1048576: true; the input reads as it did. -/
def limbTellsUptoRow : OpenClaim := { program := "ytkgkdlgoakgnkaa", sum := "46bae07b410a2eaead1b23440076affd320621d1a473fe4403f8ede09725eec6", func := "sealring/sealringlaw.LimbTells", spec := "limbTells", inPlace := ["math/bits.Add64", "math/bits.Sub64"], apart := false, narrowed := true }
def LimbTellsUptoSaid : Prop := limbTellsUptoRow.holds Try.pinned (OpenSpec.upto limbTellsSpec)

/-- 'sealringlaw.LimbHalves', WHERE WHAT IT READS IS OF BULK AT MOST 1048576: true; the input reads as it did. -/
def limbHalvesUptoRow : OpenClaim := { program := "ytkgkdlgoakgnkaa", sum := "46bae07b410a2eaead1b23440076affd320621d1a473fe4403f8ede09725eec6", func := "sealring/sealringlaw.LimbHalves", spec := "limbHalves", apart := false, narrowed := true }
def LimbHalvesUptoSaid : Prop := limbHalvesUptoRow.holds Try.pinned (OpenSpec.upto limbHalvesSpec)

/-- 'sealringlaw.QuotInverts', WHERE WHAT IT READS IS OF BULK AT MOST 1048576: true; the input reads as it did. -/
def quotInvertsUptoRow : OpenClaim := { program := "ytkgkdlgoakgnkaa", sum := "46bae07b410a2eaead1b23440076affd320621d1a473fe4403f8ede09725eec6", func := "sealring/sealringlaw.QuotInverts", spec := "quotInverts", inPlace := ["math/bits.Add64", "math/bits.Sub64"], apart := false, narrowed := true }
def QuotInvertsUptoSaid : Prop := quotInvertsUptoRow.holds Try.pinned (OpenSpec.upto quotInvertsSpec)

/-- 'sealringkeep.QuotBack', WHERE WHAT IT READS IS OF BULK AT MOST 1048576: true; the input reads as it did. -/
def quotBackUptoRow : OpenClaim := { program := "ytkgkdlgoakgnkaa", sum := "46bae07b410a2eaead1b23440076affd320621d1a473fe4403f8ede09725eec6", func := "sealring/sealringkeep.QuotBack", spec := "quotBack", inPlace := ["math/bits.Add64", "math/bits.Sub64"], apart := false, narrowed := true }
def QuotBackUptoSaid : Prop := quotBackUptoRow.holds Try.pinned (OpenSpec.upto quotBackSpec)

/-- 'sealringkeep.QuotOnly', WHERE WHAT IT READS IS OF BULK AT MOST 1048576: true; the input reads as it did. -/
def quotOnlyUptoRow : OpenClaim := { program := "ytkgkdlgoakgnkaa", sum := "46bae07b410a2eaead1b23440076affd320621d1a473fe4403f8ede09725eec6", func := "sealring/sealringkeep.QuotOnly", spec := "quotOnly", inPlace := ["math/bits.Add64", "math/bits.Sub64"], apart := false, narrowed := true }
def QuotOnlyUptoSaid : Prop := quotOnlyUptoRow.holds Try.pinned (OpenSpec.upto quotOnlySpec)

end Rows
end Go.Proofs.Ytkgkdlgoakgnkaa
