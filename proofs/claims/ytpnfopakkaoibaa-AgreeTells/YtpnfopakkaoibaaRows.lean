/-
  No cell of these rows narrows 'for every input' (looked for: loops, veiled, ifaces, maps, wideKeys, modest, calm, conditions, laid).
  DERIVED. THE GIVEN ROWS OF THIS SEAT. 5 by the template 'for every input the law returns true; each argument reads behind the call as it read before'; 0 by the template 'total and deterministic' (their statements: YtpnfopakkaoibaaTotals.lean).
  GIVEN WITH THE SEED: the statements are not yours to turn. If you find one false, say at which input.
  Laid BY PROGRAM, IN A SANDBOX (cutbox-rows.mjs): the forced cells as the released guide's own fill.sh prints them over the translation 9eeb566e2e2f3d47… (all of the seat's roots in one cut). By AI agents, Wed Nov 11 2026. No macro, syntax, notation, axiom, sorry.
-/
import Derived.Test.YtpnfopakkaoibaaChecked
import GoSem.Claim
import GoSem.ClaimJoined
import GoSem.ClaimMapViews
import Derived.JoinedTies
import Derived.KernelRfl
namespace Go.Proofs.Ytpnfopakkaoibaa
/- THE CELL 'sum', in the pinned program and in every row, IS THE sha256 OF THE DUMP (.gsa) THAT YtpnfopakkaoibaaProg.lean LOADS. Nothing in Lean hashes anything: it is a label: what it is worth is what the hold of that sum in a sandbox is worth. -/
noncomputable def Try.pinned : Pinned := { name := "ytpnfopakkaoibaa", sum := "9eeb566e2e2f3d478823f9b7d0f122b944e20409080d890566843e230ec4355a", checked := Try.checked }
namespace Rows
def none {H : Type} : Left H := { results := [], args := [] }

/-- 'sealringlaw.AgreeTells': WHATEVER THE INPUT: true; the input reads as it did. -/
def agreeTellsSpec : ChangeSpec := { name := "agreeTells", fn := fun _ => fun
  | [d1, d2] => { results := [.lit (.bool true)], args := [d1, d2] }
  | _ => none }
def agreeTellsRow : OpenClaim := { program := "ytpnfopakkaoibaa", sum := "9eeb566e2e2f3d478823f9b7d0f122b944e20409080d890566843e230ec4355a", func := "sealring/sealringlaw.AgreeTells", spec := "agreeTells", inPlace := ["math/bits.Add64", "math/bits.Sub64"], recurses := true, apart := false }
def AgreeTellsSaid : Prop := agreeTellsRow.holds Try.pinned (OpenSpec.ofChange agreeTellsSpec)

/-- ITS FALSE NEIGHBOUR: 'it returns false'. Refute it at one input. -/
def agreeTellsWrong : ChangeSpec := { name := "agreeTells", fn := fun _ => fun
  | [d1, d2] => { results := [.lit (.bool false)], args := [d1, d2] }
  | _ => none }
def AgreeTellsWrongFalsely : Prop := agreeTellsRow.holds Try.pinned (OpenSpec.ofChange agreeTellsWrong)

/-- 'sealringkeep.AgreeBoth': WHATEVER THE INPUT: true; the input reads as it did. -/
def agreeBothSpec : ChangeSpec := { name := "agreeBoth", fn := fun _ => fun
  | [d1, d2] => { results := [.lit (.bool true)], args := [d1, d2] }
  | _ => none }
def agreeBothRow : OpenClaim := { program := "ytpnfopakkaoibaa", sum := "9eeb566e2e2f3d478823f9b7d0f122b944e20409080d890566843e230ec4355a", func := "sealring/sealringkeep.AgreeBoth", spec := "agreeBoth", inPlace := ["math/bits.Add64", "math/bits.Sub64"], recurses := true, apart := false }
def AgreeBothSaid : Prop := agreeBothRow.holds Try.pinned (OpenSpec.ofChange agreeBothSpec)

/-- ITS FALSE NEIGHBOUR: 'it returns false'. Refute it at one input. -/
def agreeBothWrong : ChangeSpec := { name := "agreeBoth", fn := fun _ => fun
  | [d1, d2] => { results := [.lit (.bool false)], args := [d1, d2] }
  | _ => none }
def AgreeBothWrongFalsely : Prop := agreeBothRow.holds Try.pinned (OpenSpec.ofChange agreeBothWrong)

/-- 'sealringkeep.AgreeThree': WHATEVER THE INPUT: true; the input reads as it did. -/
def agreeThreeSpec : ChangeSpec := { name := "agreeThree", fn := fun _ => fun
  | [d1, d2, d3] => { results := [.lit (.bool true)], args := [d1, d2, d3] }
  | _ => none }
def agreeThreeRow : OpenClaim := { program := "ytpnfopakkaoibaa", sum := "9eeb566e2e2f3d478823f9b7d0f122b944e20409080d890566843e230ec4355a", func := "sealring/sealringkeep.AgreeThree", spec := "agreeThree", inPlace := ["math/bits.Add64", "math/bits.Sub64"], recurses := true, apart := false }
def AgreeThreeSaid : Prop := agreeThreeRow.holds Try.pinned (OpenSpec.ofChange agreeThreeSpec)

/-- ITS FALSE NEIGHBOUR: 'it returns false'. Refute it at one input. -/
def agreeThreeWrong : ChangeSpec := { name := "agreeThree", fn := fun _ => fun
  | [d1, d2, d3] => { results := [.lit (.bool false)], args := [d1, d2, d3] }
  | _ => none }
def AgreeThreeWrongFalsely : Prop := agreeThreeRow.holds Try.pinned (OpenSpec.ofChange agreeThreeWrong)

/-- 'sealringkeep.AgreeSmall': WHATEVER THE INPUT: true; the input reads as it did. -/
def agreeSmallSpec : ChangeSpec := { name := "agreeSmall", fn := fun _ => fun
  | [d1, d2] => { results := [.lit (.bool true)], args := [d1, d2] }
  | _ => none }
def agreeSmallRow : OpenClaim := { program := "ytpnfopakkaoibaa", sum := "9eeb566e2e2f3d478823f9b7d0f122b944e20409080d890566843e230ec4355a", func := "sealring/sealringkeep.AgreeSmall", spec := "agreeSmall", inPlace := ["math/bits.Add64", "math/bits.Sub64"], recurses := true, apart := false }
def AgreeSmallSaid : Prop := agreeSmallRow.holds Try.pinned (OpenSpec.ofChange agreeSmallSpec)

/-- ITS FALSE NEIGHBOUR: 'it returns false'. Refute it at one input. -/
def agreeSmallWrong : ChangeSpec := { name := "agreeSmall", fn := fun _ => fun
  | [d1, d2] => { results := [.lit (.bool false)], args := [d1, d2] }
  | _ => none }
def AgreeSmallWrongFalsely : Prop := agreeSmallRow.holds Try.pinned (OpenSpec.ofChange agreeSmallWrong)

/-- 'sealringkeep.AgreeClamp': WHATEVER THE INPUT: true; the input reads as it did. -/
def agreeClampSpec : ChangeSpec := { name := "agreeClamp", fn := fun _ => fun
  | [d1, d2] => { results := [.lit (.bool true)], args := [d1, d2] }
  | _ => none }
def agreeClampRow : OpenClaim := { program := "ytpnfopakkaoibaa", sum := "9eeb566e2e2f3d478823f9b7d0f122b944e20409080d890566843e230ec4355a", func := "sealring/sealringkeep.AgreeClamp", spec := "agreeClamp", inPlace := ["math/bits.Add64", "math/bits.Sub64"], recurses := true, apart := false }
def AgreeClampSaid : Prop := agreeClampRow.holds Try.pinned (OpenSpec.ofChange agreeClampSpec)

/-- ITS FALSE NEIGHBOUR: 'it returns false'. Refute it at one input. -/
def agreeClampWrong : ChangeSpec := { name := "agreeClamp", fn := fun _ => fun
  | [d1, d2] => { results := [.lit (.bool false)], args := [d1, d2] }
  | _ => none }
def AgreeClampWrongFalsely : Prop := agreeClampRow.holds Try.pinned (OpenSpec.ofChange agreeClampWrong)

/- THE SECOND FORM. 'bulk': how many values and letters a reading holds, each counted each time it is reached (what is shared counts as often as it is met; a slice's spare places count too). A statement '..UptoSaid' is the law's where the arguments, and the package variables that the reading takes, are together of bulk at most 1048576: NARROWER than '..Said'. Prove '..Said' where nothing that the law and all that it calls make is longer than what came in: it says more and counts as full. Else prove '..UptoSaid'. A law counts once. -/
mutual
def uptoBulk {H : Type} : DataW H → Nat
  | .lit (.string bytes) => bytes.length + 1
  | .lit _ => 1
  | .nil => 1
  | .ptr d => uptoBulk d + 1
  | .slice elems spare => uptoBulkAll elems + uptoBulkAll spare + 1
  | .agg parts => uptoBulkAll parts + 1
  | .iface _ d => uptoBulk d + 1
  | .map entries => uptoBulkEntries entries + 1
  | .held _ => 1
def uptoBulkAll {H : Type} : List (DataW H) → Nat
  | [] => 0
  | d :: r => uptoBulk d + uptoBulkAll r
def uptoBulkEntries {H : Type} : List (Lit × DataW H) → Nat
  | [] => 0
  | x :: r => uptoBulkEntry x + uptoBulkEntries r
def uptoBulkEntry {H : Type} : Lit × DataW H → Nat
  | (.string bytes, d) => bytes.length + uptoBulk d + 1
  | (_, d) => uptoBulk d + 1
 end
def uptoSmall : (H : Type) → List (DataW H) → Bool := fun _ ds => decide (uptoBulkAll ds ≤ 1048576)
def OpenSpec.upto (s : _root_.Go.ChangeSpec) : _root_.Go.OpenSpec := { _root_.Go.OpenSpec.ofChange s with cond := some uptoSmall }

/-- 'sealringlaw.AgreeTells', WHERE WHAT IT READS IS OF BULK AT MOST 1048576: true; the input reads as it did. -/
def agreeTellsUptoRow : OpenClaim := { program := "ytpnfopakkaoibaa", sum := "9eeb566e2e2f3d478823f9b7d0f122b944e20409080d890566843e230ec4355a", func := "sealring/sealringlaw.AgreeTells", spec := "agreeTells", inPlace := ["math/bits.Add64", "math/bits.Sub64"], recurses := true, apart := false, narrowed := true }
def AgreeTellsUptoSaid : Prop := agreeTellsUptoRow.holds Try.pinned (OpenSpec.upto agreeTellsSpec)

/-- 'sealringkeep.AgreeBoth', WHERE WHAT IT READS IS OF BULK AT MOST 1048576: true; the input reads as it did. -/
def agreeBothUptoRow : OpenClaim := { program := "ytpnfopakkaoibaa", sum := "9eeb566e2e2f3d478823f9b7d0f122b944e20409080d890566843e230ec4355a", func := "sealring/sealringkeep.AgreeBoth", spec := "agreeBoth", inPlace := ["math/bits.Add64", "math/bits.Sub64"], recurses := true, apart := false, narrowed := true }
def AgreeBothUptoSaid : Prop := agreeBothUptoRow.holds Try.pinned (OpenSpec.upto agreeBothSpec)

/-- 'sealringkeep.AgreeThree', WHERE WHAT IT READS IS OF BULK AT MOST 1048576: true; the input reads as it did. -/
def agreeThreeUptoRow : OpenClaim := { program := "ytpnfopakkaoibaa", sum := "9eeb566e2e2f3d478823f9b7d0f122b944e20409080d890566843e230ec4355a", func := "sealring/sealringkeep.AgreeThree", spec := "agreeThree", inPlace := ["math/bits.Add64", "math/bits.Sub64"], recurses := true, apart := false, narrowed := true }
def AgreeThreeUptoSaid : Prop := agreeThreeUptoRow.holds Try.pinned (OpenSpec.upto agreeThreeSpec)

/-- 'sealringkeep.AgreeSmall', WHERE WHAT IT READS IS OF BULK AT MOST 1048576: true; the input reads as it did. -/
def agreeSmallUptoRow : OpenClaim := { program := "ytpnfopakkaoibaa", sum := "9eeb566e2e2f3d478823f9b7d0f122b944e20409080d890566843e230ec4355a", func := "sealring/sealringkeep.AgreeSmall", spec := "agreeSmall", inPlace := ["math/bits.Add64", "math/bits.Sub64"], recurses := true, apart := false, narrowed := true }
def AgreeSmallUptoSaid : Prop := agreeSmallUptoRow.holds Try.pinned (OpenSpec.upto agreeSmallSpec)

/-- 'sealringkeep.AgreeClamp', WHERE WHAT IT READS IS OF BULK AT MOST 1048576: true; the input reads as it did. -/
def agreeClampUptoRow : OpenClaim := { program := "ytpnfopakkaoibaa", sum := "9eeb566e2e2f3d478823f9b7d0f122b944e20409080d890566843e230ec4355a", func := "sealring/sealringkeep.AgreeClamp", spec := "agreeClamp", inPlace := ["math/bits.Add64", "math/bits.Sub64"], recurses := true, apart := false, narrowed := true }
def AgreeClampUptoSaid : Prop := agreeClampUptoRow.holds Try.pinned (OpenSpec.upto agreeClampSpec)

end Rows
end Go.Proofs.Ytpnfopakkaoibaa
