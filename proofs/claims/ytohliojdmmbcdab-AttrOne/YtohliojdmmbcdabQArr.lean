/- An array of integers among the arguments: its value and its datum out of its reading, and its reading again in whatever world. Over any program. -/
import Derived.ProofKit
import Derived.OpenShut
namespace Go.Proofs.Ytohliojdmmbcdab
open Go.ChangeShapes Go.WideShapes Go.ChangeAt Go.RowKit
section
variable {P : Program} {H : Type} {enc : TypeId × Value → H} {w : World} {base : Nat} {spare : Nat → Bool} {held : Bool}

end

theorem byte_of_wf {x : Int} (h : (Lit.int .u8 x).wf = true) : 0 ≤ x ∧ x < 256 := by
  simp [Lit.wf, IntKind.min, IntKind.max, IntKind.signed, IntKind.bits] at h
  exact ⟨by omega, by omega⟩
end Go.Proofs.Ytohliojdmmbcdab
