/- Small closed facts on the loaded program that each row's proof asks for. -/
import Derived.Test.YtfknkfninjjgbabDoorRows
import Derived.ProofKit
namespace Go.Proofs.YtfknkfninjjgbabDoor
theorem Tryd.cellsNum : Tryd.prog.cellsOf 26 = 4 := by kernel_rfl
theorem Tryd.cellsU64 : Tryd.prog.cellsOf 24 = 1 := by kernel_rfl
end Go.Proofs.YtfknkfninjjgbabDoor
