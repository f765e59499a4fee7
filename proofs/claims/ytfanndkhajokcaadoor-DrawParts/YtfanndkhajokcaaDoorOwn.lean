/- Small closed facts on the loaded program that each row's proof asks for. -/
import Derived.Test.YtfanndkhajokcaaDoorRows
import Derived.ProofKit
namespace Go.Proofs.YtfanndkhajokcaaDoor
theorem Tryd.ownN : ownKnob Tryd.prog.godebug = none := by kernel_rfl
theorem Tryd.cellsNum : Tryd.prog.cellsOf 28 = 4 := by kernel_rfl
theorem Tryd.cellsU64 : Tryd.prog.cellsOf 26 = 1 := by kernel_rfl
theorem Tryd.cellsU8N : Tryd.prog.cellsOf 5 = 1 := by kernel_rfl
theorem Tryd.cellsB32 : Tryd.prog.cellsOf 47 = 32 := by kernel_rfl
end Go.Proofs.YtfanndkhajokcaaDoor
