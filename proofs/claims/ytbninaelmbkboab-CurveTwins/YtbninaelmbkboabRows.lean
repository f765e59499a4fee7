/-
  No cell of these rows narrows 'for every input' (looked for: loops, veiled, ifaces, maps, wideKeys, modest, calm, conditions, laid).
  DERIVED. THE GIVEN ROWS OF THIS SEAT. 4 by the template 'for every input the law returns true; each argument reads behind the call as it read before'; 0 by the template 'total and deterministic' (their statements: YtbninaelmbkboabTotals.lean).
  GIVEN WITH THE SEED: the statements are not yours to turn. If you find one false, say at which input.
  Laid BY PROGRAM, IN A SANDBOX (cutbox-rows.mjs): the forced cells as the released guide's own fill.sh prints them over the translation aecf666cc38f5b82… (all of the seat's roots in one cut). By AI agents, Wed Nov 11 2026. No macro, syntax, notation, axiom, sorry.
-/
import Derived.Test.YtbninaelmbkboabChecked
import GoSem.Claim
import GoSem.ClaimJoined
import GoSem.ClaimMapViews
import Derived.JoinedTies
import Derived.KernelRfl
namespace Go.Proofs.Ytbninaelmbkboab
/- THE CELL 'sum', in the pinned program and in every row, IS THE sha256 OF THE DUMP (.gsa) THAT YtbninaelmbkboabProg.lean LOADS. Nothing in Lean hashes anything: it is a label: what it is worth is what the hold of that sum in a sandbox is worth. -/
noncomputable def Try.pinned : Pinned := { name := "ytbninaelmbkboab", sum := "aecf666cc38f5b82160bedc43d345bbbb740bff5acd43b21280352a088ddc1f8", checked := Try.checked }
namespace Rows
def none {H : Type} : Left H := { results := [], args := [] }

/-- 'sealringkeep.CurveProducts': WHATEVER THE INPUT: true; the input reads as it did. -/
def curveProductsSpec : ChangeSpec := { name := "curveProducts", fn := fun _ => fun
  | [d1, d2, d3] => { results := [.lit (.bool true)], args := [d1, d2, d3] }
  | _ => none }
def curveProductsRow : OpenClaim := { program := "ytbninaelmbkboab", sum := "aecf666cc38f5b82160bedc43d345bbbb740bff5acd43b21280352a088ddc1f8", func := "sealring/sealringkeep.CurveProducts", spec := "curveProducts", inPlace := ["math/bits.Add64", "math/bits.Sub64"], recurses := true, apart := false }
def CurveProductsSaid : Prop := curveProductsRow.holds Try.pinned (OpenSpec.ofChange curveProductsSpec)

/-- ITS FALSE NEIGHBOUR: 'it returns false'. Refute it at one input. -/
def curveProductsWrong : ChangeSpec := { name := "curveProducts", fn := fun _ => fun
  | [d1, d2, d3] => { results := [.lit (.bool false)], args := [d1, d2, d3] }
  | _ => none }
def CurveProductsWrongFalsely : Prop := curveProductsRow.holds Try.pinned (OpenSpec.ofChange curveProductsWrong)

/-- 'sealringkeep.CurveBack': WHATEVER THE INPUT: true; the input reads as it did. -/
def curveBackSpec : ChangeSpec := { name := "curveBack", fn := fun _ => fun
  | [d1, d2] => { results := [.lit (.bool true)], args := [d1, d2] }
  | _ => none }
def curveBackRow : OpenClaim := { program := "ytbninaelmbkboab", sum := "aecf666cc38f5b82160bedc43d345bbbb740bff5acd43b21280352a088ddc1f8", func := "sealring/sealringkeep.CurveBack", spec := "curveBack", inPlace := ["math/bits.Add64", "math/bits.Sub64"], recurses := true, apart := false }
def CurveBackSaid : Prop := curveBackRow.holds Try.pinned (OpenSpec.ofChange curveBackSpec)

/-- ITS FALSE NEIGHBOUR: 'it returns false'. Refute it at one input. -/
def curveBackWrong : ChangeSpec := { name := "curveBack", fn := fun _ => fun
  | [d1, d2] => { results := [.lit (.bool false)], args := [d1, d2] }
  | _ => none }
def CurveBackWrongFalsely : Prop := curveBackRow.holds Try.pinned (OpenSpec.ofChange curveBackWrong)

/-- 'sealringkeep.CurveOne': WHATEVER THE INPUT: true; the input reads as it did. -/
def curveOneSpec : ChangeSpec := { name := "curveOne", fn := fun _ => fun
  | [d] => { results := [.lit (.bool true)], args := [d] }
  | _ => none }
def curveOneRow : OpenClaim := { program := "ytbninaelmbkboab", sum := "aecf666cc38f5b82160bedc43d345bbbb740bff5acd43b21280352a088ddc1f8", func := "sealring/sealringkeep.CurveOne", spec := "curveOne", inPlace := ["math/bits.Add64", "math/bits.Sub64"], recurses := true, apart := false }
def CurveOneSaid : Prop := curveOneRow.holds Try.pinned (OpenSpec.ofChange curveOneSpec)

/-- ITS FALSE NEIGHBOUR: 'it returns false'. Refute it at one input. -/
def curveOneWrong : ChangeSpec := { name := "curveOne", fn := fun _ => fun
  | [d] => { results := [.lit (.bool false)], args := [d] }
  | _ => none }
def CurveOneWrongFalsely : Prop := curveOneRow.holds Try.pinned (OpenSpec.ofChange curveOneWrong)

/-- 'sealringkeep.CurveTwins': WHATEVER THE INPUT: true; the input reads as it did. -/
def curveTwinsSpec : ChangeSpec := { name := "curveTwins", fn := fun _ => fun
  | [d] => { results := [.lit (.bool true)], args := [d] }
  | _ => none }
def curveTwinsRow : OpenClaim := { program := "ytbninaelmbkboab", sum := "aecf666cc38f5b82160bedc43d345bbbb740bff5acd43b21280352a088ddc1f8", func := "sealring/sealringkeep.CurveTwins", spec := "curveTwins", inPlace := ["math/bits.Add64", "math/bits.Sub64"], recurses := true, apart := false }
def CurveTwinsSaid : Prop := curveTwinsRow.holds Try.pinned (OpenSpec.ofChange curveTwinsSpec)

/-- ITS FALSE NEIGHBOUR: 'it returns false'. Refute it at one input. -/
def curveTwinsWrong : ChangeSpec := { name := "curveTwins", fn := fun _ => fun
  | [d] => { results := [.lit (.bool false)], args := [d] }
  | _ => none }
def CurveTwinsWrongFalsely : Prop := curveTwinsRow.holds Try.pinned (OpenSpec.ofChange curveTwinsWrong)

/- THE SECOND FORM. 'bulk': how many values and letters a reading holds, each counted each time it is reached (what is shared counts as often as it is met; a slice's spare places count too). A statement '..UptoSaid' is the law's where the arguments, and the package variables that the reading takes, are together of bulk at most 1048576: NARROWER than '..Said'. Prove '..Said' where nothing that the law and all that it calls make is longer than what came in: it says more and counts as full. Else prove '..UptoSaid'. A law counts once. -/
mutual
def uptoBulk {H : Type} : DataW H → Nat
  | .lit (.string bytes) => bytes.length + 1
  | .lit _ => 1
  | .nil => 1
  | .ptr d => uptoBulk d + 1
  | .slice elems spare => uptoBulkAll elems + uptoBulkAll spare + 1
  | .agg parts => uptoBulkAll parts + 1
  | .iface _ d => uptoBulk d + 1
  | .map entries => uptoBulkEntries entries + 1
  | .held _ => 1
def uptoBulkAll {H : Type} : List (DataW H) → Nat
  | [] => 0
  | d :: r => uptoBulk d + uptoBulkAll r
def uptoBulkEntries {H : Type} : List (Lit × DataW H) → Nat
  | [] => 0
  | x :: r => uptoBulkEntry x + uptoBulkEntries r
def uptoBulkEntry {H : Type} : Lit × DataW H → Nat
  | (.string bytes, d) => bytes.length + uptoBulk d + 1
  | (_, d) => uptoBulk d + 1
 end
def uptoSmall : (H : Type) → List (DataW H) → Bool := fun _ ds => decide (uptoBulkAll ds ≤ 1048576)
def OpenSpec.upto (s : _root_.Go.ChangeSpec) : _root_.Go.OpenSpec := { _root_.Go.OpenSpec.ofChange s with cond := some uptoSmall }

/-- 'sealringkeep.CurveProducts', WHERE WHAT IT READS IS OF BULK AT MOST 1048576: true; the input reads as it did. -/
def curveProductsUptoRow : OpenClaim := { program := "ytbninaelmbkboab", sum := "aecf666cc38f5b82160bedc43d345bbbb740bff5acd43b21280352a088ddc1f8", func := "sealring/sealringkeep.CurveProducts", spec := "curveProducts", inPlace := ["math/bits.Add64", "math/bits.Sub64"], recurses := true, apart := false, narrowed := true }
def CurveProductsUptoSaid : Prop := curveProductsUptoRow.holds Try.pinned (OpenSpec.upto curveProductsSpec)

/-- 'sealringkeep.CurveBack', WHERE WHAT IT READS IS OF BULK AT MOST 1048576: true; the input reads as it did. -/
def curveBackUptoRow : OpenClaim := { program := "ytbninaelmbkboab", sum := "aecf666cc38f5b82160bedc43d345bbbb740bff5acd43b21280352a088ddc1f8", func := "sealring/sealringkeep.CurveBack", spec := "curveBack", inPlace := ["math/bits.Add64", "math/bits.Sub64"], recurses := true, apart := false, narrowed := true }
def CurveBackUptoSaid : Prop := curveBackUptoRow.holds Try.pinned (OpenSpec.upto curveBackSpec)

/-- 'sealringkeep.CurveOne', WHERE WHAT IT READS IS OF BULK AT MOST 1048576: true; the input reads as it did. -/
def curveOneUptoRow : OpenClaim := { program := "ytbninaelmbkboab", sum := "aecf666cc38f5b82160bedc43d345bbbb740bff5acd43b21280352a088ddc1f8", func := "sealring/sealringkeep.CurveOne", spec := "curveOne", inPlace := ["math/bits.Add64", "math/bits.Sub64"], recurses := true, apart := false, narrowed := true }
def CurveOneUptoSaid : Prop := curveOneUptoRow.holds Try.pinned (OpenSpec.upto curveOneSpec)

/-- 'sealringkeep.CurveTwins', WHERE WHAT IT READS IS OF BULK AT MOST 1048576: true; the input reads as it did. -/
def curveTwinsUptoRow : OpenClaim := { program := "ytbninaelmbkboab", sum := "aecf666cc38f5b82160bedc43d345bbbb740bff5acd43b21280352a088ddc1f8", func := "sealring/sealringkeep.CurveTwins", spec := "curveTwins", inPlace := ["math/bits.Add64", "math/bits.Sub64"], recurses := true, apart := false, narrowed := true }
def CurveTwinsUptoSaid : Prop := curveTwinsUptoRow.holds Try.pinned (OpenSpec.upto curveTwinsSpec)

end Rows
end Go.Proofs.Ytbninaelmbkboab
