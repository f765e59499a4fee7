/- Small closed facts on the loaded program that a row's proof asks for. -/
import Derived.Test.YtkgfeacednomfaaRows
import Derived.ProofKit
namespace Go.Proofs.Ytkgfeacednomfaa
theorem Try.own : ownKnob Try.prog.godebug = none := by kernel_rfl
theorem Try.cellsU8 : Try.prog.cellsOf 5 = 1 := by kernel_rfl
theorem Try.cellsBytes : Try.prog.cellsOf 57 = 1 := by kernel_rfl
theorem Try.cellsItem : Try.prog.cellsOf 67 = 2 := by kernel_rfl
end Go.Proofs.Ytkgfeacednomfaa
