/- Small closed facts on the loaded program that each row's proof asks for. -/
import Derived.Test.YtpnfopakkaoibaaRows
import Derived.ProofKit
namespace Go.Proofs.Ytpnfopakkaoibaa
theorem Try.ownN : ownKnob Try.prog.godebug = none := by kernel_rfl
theorem Try.cellsU8N : Try.prog.cellsOf 5 = 1 := by kernel_rfl
theorem Try.cellsB32 : Try.prog.cellsOf 22 = 32 := by kernel_rfl
end Go.Proofs.Ytpnfopakkaoibaa
