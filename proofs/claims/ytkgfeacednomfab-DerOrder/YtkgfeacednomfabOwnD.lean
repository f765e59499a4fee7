/- Small closed facts on the loaded program that a row's proof asks for. -/
import Derived.Test.YtkgfeacednomfabRows
import Derived.ProofKit
namespace Go.Proofs.Ytkgfeacednomfab
theorem Try.own : ownKnob Try.prog.godebug = none := by kernel_rfl
theorem Try.cellsU8 : Try.prog.cellsOf 5 = 1 := by kernel_rfl
theorem Try.cellsBytes : Try.prog.cellsOf 22 = 1 := by kernel_rfl
theorem Try.cellsItem : Try.prog.cellsOf 34 = 2 := by kernel_rfl
end Go.Proofs.Ytkgfeacednomfab
