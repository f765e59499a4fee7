/- The number in a block, read off a world. -/
import Derived.Test.YtgdekdmdidahdaaDoorNum
namespace Go.Proofs.YtgdekdmdidahdaaDoor
open Go.RowKit
/-- One cell's number. -/
def cellN (w : World) (k j : Nat) : Int := match w.cell? ⟨k, j, none⟩ with
  | some (.int _ v) => v
  | _ => 0
/-- The number in a block. -/
def memN (w : World) (k : Nat) : Nm := ⟨cellN w k 0, cellN w k 1, cellN w k 2, cellN w k 3⟩
theorem memN_of {w : World} {k : Nat} {x : Nm} (h : Lies w k x) : memN w k = x := by
  unfold memN cellN
  rw [h.a, h.b, h.c, h.d]
end Go.Proofs.YtgdekdmdidahdaaDoor
