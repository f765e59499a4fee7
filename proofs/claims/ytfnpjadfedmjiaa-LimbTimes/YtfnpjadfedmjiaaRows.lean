/-
  No cell of these rows narrows 'for every input' (looked for: loops, veiled, ifaces, maps, wideKeys, modest, calm, conditions, laid).
  DERIVED. THE GIVEN ROWS OF THIS SEAT. 6 by the template 'for every input the law returns true; each argument reads behind the call as it read before'; 0 by the template 'total and deterministic' (their statements: YtfnpjadfedmjiaaTotals.lean).
  GIVEN WITH THE SEED: the statements are not yours to turn. If you find one false, say at which input.
  Laid BY PROGRAM, IN A SANDBOX (cutbox-rows.mjs): the forced cells as the released guide's own fill.sh prints them over the translation b70365e94dff7a45… (all of the seat's roots in one cut). By AI agents, Wed Nov 11 2026. No macro, syntax, notation, axiom, sorry.
-/
import Derived.Test.YtfnpjadfedmjiaaChecked
import GoSem.Claim
import GoSem.ClaimJoined
import GoSem.ClaimMapViews
import Derived.JoinedTies
import Derived.KernelRfl
namespace Go.Proofs.Ytfnpjadfedmjiaa
/- THE CELL 'sum', in the pinned program and in every row, IS THE sha256 OF THE DUMP (.gsa) THAT YtfnpjadfedmjiaaProg.lean LOADS. Nothing in Lean hashes anything: it is a label: what it is worth is what the hold of that sum in a sandbox is worth. -/
noncomputable def Try.pinned : Pinned := { name := "ytfnpjadfedmjiaa", sum := "b70365e94dff7a45a8e54f9588612cb4325075965c6b32e292f88238fa70d93b", checked := Try.checked }
namespace Rows
def none {H : Type} : Left H := { results := [], args := [] }

/-- 'sealringlaw.LimbTells': WHATEVER THE INPUT: true; the input reads as it did. -/
def limbTellsSpec : ChangeSpec := { name := "limbTells", fn := fun _ => fun
  | [d1, d2, d3, d4] => { results := [.lit (.bool true)], args := [d1, d2, d3, d4] }
  | _ => none }
def limbTellsRow : OpenClaim := { program := "ytfnpjadfedmjiaa", sum := "b70365e94dff7a45a8e54f9588612cb4325075965c6b32e292f88238fa70d93b", func := "sealring/sealringlaw.LimbTells", spec := "limbTells", inPlace := ["math/bits.Add64", "math/bits.Sub64"], apart := false }
def LimbTellsSaid : Prop := limbTellsRow.holds Try.pinned (OpenSpec.ofChange limbTellsSpec)

/-- ITS FALSE NEIGHBOUR: 'it returns false'. Refute it at one input. -/
def limbTellsWrong : ChangeSpec := { name := "limbTells", fn := fun _ => fun
  | [d1, d2, d3, d4] => { results := [.lit (.bool false)], args := [d1, d2, d3, d4] }
  | _ => none }
def LimbTellsWrongFalsely : Prop := limbTellsRow.holds Try.pinned (OpenSpec.ofChange limbTellsWrong)

/-- 'sealringlaw.LimbHalves': WHATEVER THE INPUT: true; the input reads as it did. -/
def limbHalvesSpec : ChangeSpec := { name := "limbHalves", fn := fun _ => fun
  | [d1, d2, d3] => { results := [.lit (.bool true)], args := [d1, d2, d3] }
  | _ => none }
def limbHalvesRow : OpenClaim := { program := "ytfnpjadfedmjiaa", sum := "b70365e94dff7a45a8e54f9588612cb4325075965c6b32e292f88238fa70d93b", func := "sealring/sealringlaw.LimbHalves", spec := "limbHalves", apart := false }
def LimbHalvesSaid : Prop := limbHalvesRow.holds Try.pinned (OpenSpec.ofChange limbHalvesSpec)

/-- ITS FALSE NEIGHBOUR: 'it returns false'. Refute it at one input. -/
def limbHalvesWrong : ChangeSpec := { name := "limbHalves", fn := fun _ => fun
  | [d1, d2, d3] => { results := [.lit (.bool false)], args := [d1, d2, d3] }
  | _ => none }
def LimbHalvesWrongFalsely : Prop := limbHalvesRow.holds Try.pinned (OpenSpec.ofChange limbHalvesWrong)

/-- 'sealringkeep.LimbBack': WHATEVER THE INPUT: true; the input reads as it did. -/
def limbBackSpec : ChangeSpec := { name := "limbBack", fn := fun _ => fun
  | [d1, d2] => { results := [.lit (.bool true)], args := [d1, d2] }
  | _ => none }
def limbBackRow : OpenClaim := { program := "ytfnpjadfedmjiaa", sum := "b70365e94dff7a45a8e54f9588612cb4325075965c6b32e292f88238fa70d93b", func := "sealring/sealringkeep.LimbBack", spec := "limbBack", inPlace := ["math/bits.Add64", "math/bits.Sub64"], apart := false }
def LimbBackSaid : Prop := limbBackRow.holds Try.pinned (OpenSpec.ofChange limbBackSpec)

/-- ITS FALSE NEIGHBOUR: 'it returns false'. Refute it at one input. -/
def limbBackWrong : ChangeSpec := { name := "limbBack", fn := fun _ => fun
  | [d1, d2] => { results := [.lit (.bool false)], args := [d1, d2] }
  | _ => none }
def LimbBackWrongFalsely : Prop := limbBackRow.holds Try.pinned (OpenSpec.ofChange limbBackWrong)

/-- 'sealringkeep.LimbSums': WHATEVER THE INPUT: true; the input reads as it did. -/
def limbSumsSpec : ChangeSpec := { name := "limbSums", fn := fun _ => fun
  | [d1, d2, d3] => { results := [.lit (.bool true)], args := [d1, d2, d3] }
  | _ => none }
def limbSumsRow : OpenClaim := { program := "ytfnpjadfedmjiaa", sum := "b70365e94dff7a45a8e54f9588612cb4325075965c6b32e292f88238fa70d93b", func := "sealring/sealringkeep.LimbSums", spec := "limbSums", inPlace := ["math/bits.Add64"], apart := false }
def LimbSumsSaid : Prop := limbSumsRow.holds Try.pinned (OpenSpec.ofChange limbSumsSpec)

/-- ITS FALSE NEIGHBOUR: 'it returns false'. Refute it at one input. -/
def limbSumsWrong : ChangeSpec := { name := "limbSums", fn := fun _ => fun
  | [d1, d2, d3] => { results := [.lit (.bool false)], args := [d1, d2, d3] }
  | _ => none }
def LimbSumsWrongFalsely : Prop := limbSumsRow.holds Try.pinned (OpenSpec.ofChange limbSumsWrong)

/-- 'sealringkeep.LimbTimes': WHATEVER THE INPUT: true; the input reads as it did. -/
def limbTimesSpec : ChangeSpec := { name := "limbTimes", fn := fun _ => fun
  | [d1, d2, d3] => { results := [.lit (.bool true)], args := [d1, d2, d3] }
  | _ => none }
def limbTimesRow : OpenClaim := { program := "ytfnpjadfedmjiaa", sum := "b70365e94dff7a45a8e54f9588612cb4325075965c6b32e292f88238fa70d93b", func := "sealring/sealringkeep.LimbTimes", spec := "limbTimes", inPlace := ["math/bits.Add64"], apart := false }
def LimbTimesSaid : Prop := limbTimesRow.holds Try.pinned (OpenSpec.ofChange limbTimesSpec)

/-- ITS FALSE NEIGHBOUR: 'it returns false'. Refute it at one input. -/
def limbTimesWrong : ChangeSpec := { name := "limbTimes", fn := fun _ => fun
  | [d1, d2, d3] => { results := [.lit (.bool false)], args := [d1, d2, d3] }
  | _ => none }
def LimbTimesWrongFalsely : Prop := limbTimesRow.holds Try.pinned (OpenSpec.ofChange limbTimesWrong)

/-- 'sealringkeep.LimbThrice': WHATEVER THE INPUT: true; the input reads as it did. -/
def limbThriceSpec : ChangeSpec := { name := "limbThrice", fn := fun _ => fun
  | [d1, d2, d3] => { results := [.lit (.bool true)], args := [d1, d2, d3] }
  | _ => none }
def limbThriceRow : OpenClaim := { program := "ytfnpjadfedmjiaa", sum := "b70365e94dff7a45a8e54f9588612cb4325075965c6b32e292f88238fa70d93b", func := "sealring/sealringkeep.LimbThrice", spec := "limbThrice", inPlace := ["math/bits.Add64"], apart := false }
def LimbThriceSaid : Prop := limbThriceRow.holds Try.pinned (OpenSpec.ofChange limbThriceSpec)

/-- ITS FALSE NEIGHBOUR: 'it returns false'. Refute it at one input. -/
def limbThriceWrong : ChangeSpec := { name := "limbThrice", fn := fun _ => fun
  | [d1, d2, d3] => { results := [.lit (.bool false)], args := [d1, d2, d3] }
  | _ => none }
def LimbThriceWrongFalsely : Prop := limbThriceRow.holds Try.pinned (OpenSpec.ofChange limbThriceWrong)

/- THE SECOND FORM. 'bulk': how many values and letters a reading holds, each counted each time it is reached (what is shared counts as often as it is met; a slice's spare places count too). A statement '..UptoSaid' is the law's where the arguments, and the package variables that the reading takes, are together of bulk at most 1048576: NARROWER than '..Said'. Prove '..Said' where nothing that the law and all that it calls make is longer than what came in: it says more and counts as full. Else prove '..UptoSaid'. A law counts once. -/
mutual
def uptoBulk {H : Type} : DataW H → Nat
  | .lit (.string bytes) => bytes.length + 1
  | .lit _ => 1
  | .nil => 1
  | .ptr d => uptoBulk d + 1
  | .slice elems spare => uptoBulkAll elems + uptoBulkAll spare + 1
  | .agg parts => uptoBulkAll parts + 1
  | .iface _ d => uptoBulk d + 1
  | .map entries => uptoBulkEntries entries + 1
  | .held _ => 1
def uptoBulkAll {H : Type} : List (DataW H) → Nat
  | [] => 0
  | d :: r => uptoBulk d + uptoBulkAll r
def uptoBulkEntries {H : Type} : List (Lit × DataW H) → Nat
  | [] => 0
  | x :: r => uptoBulkEntry x + uptoBulkEntries r
def uptoBulkEntry {H : Type} : Lit × DataW H → Nat
  | (.string bytes, d) => bytes.length + uptoBulk d + 1
  | (_, d) => uptoBulk d + 1
 end
def uptoSmall : (H : Type) → List (DataW H) → Bool := fun _ ds => decide (uptoBulkAll ds ≤ 1048576)
def OpenSpec.upto (s : _root_.Go.ChangeSpec) : _root_.Go.OpenSpec := { _root_.Go.OpenSpec.ofChange s with cond := some uptoSmall }

/-- 'sealringlaw.LimbTells', WHERE WHAT IT READS IS OF BULK AT MOST 1048576: true; the input reads as it did. -/
def limbTellsUptoRow : OpenClaim := { program := "ytfnpjadfedmjiaa", sum := "b70365e94dff7a45a8e54f9588612cb4325075965c6b32e292f88238fa70d93b", func := "sealring/sealringlaw.LimbTells", spec := "limbTells", inPlace := ["math/bits.Add64", "math/bits.Sub64"], apart := false, narrowed := true }
def LimbTellsUptoSaid : Prop := limbTellsUptoRow.holds Try.pinned (OpenSpec.upto limbTellsSpec)

/-- 'sealringlaw.LimbHalves', WHERE WHAT IT READS IS OF BULK AT MOST 1048576: true; the input reads as it did. -/
def limbHalvesUptoRow : OpenClaim := { program := "ytfnpjadfedmjiaa", sum := "b70365e94dff7a45a8e54f9588612cb4325075965c6b32e292f88238fa70d93b", func := "sealring/sealringlaw.LimbHalves", spec := "limbHalves", apart := false, narrowed := true }
def LimbHalvesUptoSaid : Prop := limbHalvesUptoRow.holds Try.pinned (OpenSpec.upto limbHalvesSpec)

/-- 'sealringkeep.LimbBack', WHERE WHAT IT READS IS OF BULK AT MOST 1048576: true; the input reads as it did. -/
def limbBackUptoRow : OpenClaim := { program := "ytfnpjadfedmjiaa", sum := "b70365e94dff7a45a8e54f9588612cb4325075965c6b32e292f88238fa70d93b", func := "sealring/sealringkeep.LimbBack", spec := "limbBack", inPlace := ["math/bits.Add64", "math/bits.Sub64"], apart := false, narrowed := true }
def LimbBackUptoSaid : Prop := limbBackUptoRow.holds Try.pinned (OpenSpec.upto limbBackSpec)

/-- 'sealringkeep.LimbSums', WHERE WHAT IT READS IS OF BULK AT MOST 1048576: true; the input reads as it did. -/
def limbSumsUptoRow : OpenClaim := { program := "ytfnpjadfedmjiaa", sum := "b70365e94dff7a45a8e54f9588612cb4325075965c6b32e292f88238fa70d93b", func := "sealring/sealringkeep.LimbSums", spec := "limbSums", inPlace := ["math/bits.Add64"], apart := false, narrowed := true }
def LimbSumsUptoSaid : Prop := limbSumsUptoRow.holds Try.pinned (OpenSpec.upto limbSumsSpec)

/-- 'sealringkeep.LimbTimes', WHERE WHAT IT READS IS OF BULK AT MOST 1048576: true; the input reads as it did. -/
def limbTimesUptoRow : OpenClaim := { program := "ytfnpjadfedmjiaa", sum := "b70365e94dff7a45a8e54f9588612cb4325075965c6b32e292f88238fa70d93b", func := "sealring/sealringkeep.LimbTimes", spec := "limbTimes", inPlace := ["math/bits.Add64"], apart := false, narrowed := true }
def LimbTimesUptoSaid : Prop := limbTimesUptoRow.holds Try.pinned (OpenSpec.upto limbTimesSpec)

/-- 'sealringkeep.LimbThrice', WHERE WHAT IT READS IS OF BULK AT MOST 1048576: true; the input reads as it did. -/
def limbThriceUptoRow : OpenClaim := { program := "ytfnpjadfedmjiaa", sum := "b70365e94dff7a45a8e54f9588612cb4325075965c6b32e292f88238fa70d93b", func := "sealring/sealringkeep.LimbThrice", spec := "limbThrice", inPlace := ["math/bits.Add64"], apart := false, narrowed := true }
def LimbThriceUptoSaid : Prop := limbThriceUptoRow.holds Try.pinned (OpenSpec.upto limbThriceSpec)

end Rows
end Go.Proofs.Ytfnpjadfedmjiaa
