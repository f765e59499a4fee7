/- AesBack out of the contracts of package aes. -/
import Derived.Test.YtmfbdacalenfdaaAKey
namespace Go.Proofs.Ytmfbdacalenfdaa
open Go.RowKit
set_option linter.unusedSimpArgs false
attribute [local go_sem] YieldsP execOp
attribute [local simp] MP.eq_p
theorem bu_a16 : Try.prog.underlying 23 = some (.array 16 5) := by kernel_rfl
theorem binfo_a16 : (Try.prog.info? 23).map (·.size) = some 16 := by kernel_rfl
theorem guard_a16 : Try.prog.eqGuardType Try.prog.depth 23 = false := by kernel_rfl
end Go.Proofs.Ytmfbdacalenfdaa
