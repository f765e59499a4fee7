/- Small closed facts on the loaded program that each row's proof asks for. -/
import Derived.Test.YtjdamgfichlgpaaRows
import Derived.ProofKit
namespace Go.Proofs.Ytjdamgfichlgpaa
theorem Try.own : ownKnob Try.prog.godebug = none := by kernel_rfl
theorem Try.cellsNum : Try.prog.cellsOf 24 = 4 := by kernel_rfl
theorem Try.cellsU64 : Try.prog.cellsOf 22 = 1 := by kernel_rfl
theorem Try.cellsU8 : Try.prog.cellsOf 5 = 1 := by kernel_rfl
theorem Try.cellsWide : Try.prog.cellsOf 44 = 8 := by kernel_rfl
end Go.Proofs.Ytjdamgfichlgpaa
