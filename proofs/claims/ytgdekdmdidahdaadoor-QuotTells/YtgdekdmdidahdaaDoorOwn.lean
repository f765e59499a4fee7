/- Small closed facts on the loaded program that each row's proof asks for. -/
import Derived.Test.YtgdekdmdidahdaaDoorRows
import Derived.ProofKit
namespace Go.Proofs.YtgdekdmdidahdaaDoor
theorem Tryd.own : ownKnob Tryd.prog.godebug = none := by kernel_rfl
theorem Tryd.cellsNum : Tryd.prog.cellsOf 26 = 4 := by kernel_rfl
theorem Tryd.cellsU64 : Tryd.prog.cellsOf 22 = 1 := by kernel_rfl
theorem Tryd.cellsU8 : Tryd.prog.cellsOf 5 = 1 := by kernel_rfl
theorem Tryd.cellsWide : Tryd.prog.cellsOf 24 = 8 := by kernel_rfl
end Go.Proofs.YtgdekdmdidahdaaDoor
