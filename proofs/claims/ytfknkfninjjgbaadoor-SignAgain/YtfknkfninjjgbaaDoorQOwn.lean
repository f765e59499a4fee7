/- Small closed facts on the loaded program that each row's proof asks for. -/
import Derived.Test.YtfknkfninjjgbaaDoorRows
import Derived.ProofKit
namespace Go.Proofs.YtfknkfninjjgbaaDoor
theorem Tryd.cellsNum : Tryd.prog.cellsOf 27 = 4 := by kernel_rfl
theorem Tryd.cellsU64 : Tryd.prog.cellsOf 25 = 1 := by kernel_rfl
end Go.Proofs.YtfknkfninjjgbaaDoor
