/- Small closed facts on the loaded program that each row's proof asks for. -/
import Derived.Test.YtjcnfffmciahiaaDoorRows
import Derived.ProofKit
namespace Go.Proofs.YtjcnfffmciahiaaDoor
theorem Tryd.ownN : ownKnob Tryd.prog.godebug = none := by kernel_rfl
theorem Tryd.cellsNum : Tryd.prog.cellsOf 24 = 4 := by kernel_rfl
theorem Tryd.cellsU64 : Tryd.prog.cellsOf 22 = 1 := by kernel_rfl
theorem Tryd.cellsU8N : Tryd.prog.cellsOf 5 = 1 := by kernel_rfl
theorem Tryd.cellsWide : Tryd.prog.cellsOf 26 = 8 := by kernel_rfl
theorem Tryd.cellsB32 : Tryd.prog.cellsOf 51 = 32 := by kernel_rfl
end Go.Proofs.YtjcnfffmciahiaaDoor
