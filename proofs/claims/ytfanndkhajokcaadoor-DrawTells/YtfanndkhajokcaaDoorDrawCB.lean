import Derived.Test.YtfanndkhajokcaaDoorGrp22
import Derived.Test.YtfanndkhajokcaaDoorRBel
/- What is asked of a source where numbers are drawn below one: the contract of draw.Source.Below as a premise. -/
namespace Go.Proofs.YtfanndkhajokcaaDoor
open Go.RowKit
structure SrcB (Src : World → Nat → (Nat → Prop) → List Nat → Nat → Prop) : Prop where
  below : ∀ {seed : List Nat} {F : Nat → Prop} {k p : Nat} (x : Nm) (_ : x.ok) (M n : Nat) (_ : x.nat = M) (_ : 0 < M) (_ : BL M n) (w : World) (_ : Src w k F seed p) (_ : KTab w) (_ : 0 < k), Calls Tryd.prog 9 #[ptr k, N x] w fun e w' => e = .returned (match belS seed p n M with | some t => .tuple #[N (Nm.of ((tryS seed p n t : Nat) : Int)), .int .i64 0] | none => .tuple #[N ⟨0, 0, 0, 0⟩, .int .i64 6]) ∧ Src w' k F seed ((p + (match belS seed p n M with | some t => 32 * (t + 1) | none => 3200)) % 18446744073709551616) ∧ Fr w k w'
  belowZero : ∀ {seed : List Nat} {F : Nat → Prop} {k p : Nat} (w : World) (_ : Src w k F seed p), Calls Tryd.prog 9 #[ptr k, N ⟨0, 0, 0, 0⟩] w fun e w' => e = .returned (.tuple #[N ⟨0, 0, 0, 0⟩, .int .i64 1]) ∧ Below w.heap.size w w'
end Go.Proofs.YtfanndkhajokcaaDoor
