/- Package curve, as it landed: one, curveD, Zero, Base, On, Neg. -/
import Derived.Test.YtpnfopakkaoibaaQQMathToAdN
import Derived.Test.YtpnfopakkaoibaaQFieldIs
import Derived.Test.YtpnfopakkaoibaaQPrimeLToAgM
import Derived.Test.YtpnfopakkaoibaaQUpV
namespace Go.Proofs.Ytpnfopakkaoibaa
open Go.RowKit
attribute [local go_sem] World.cell?_alloc_some cell_alloc2 cell_alloc3 cell_alloc4 frozen?_alloc_cells frozen_out
set_option linter.unusedSimpArgs false
abbrev nO : Nm := ⟨0, 0, 0, 0⟩
abbrev nI : Nm := ⟨1, 0, 0, 0⟩
theorem nO_nm : nO = nm 0 := by unfold nm Nm.of; congr 1
theorem nI_nm : nI = nm 1 := by unfold nm Nm.of; congr 1
end Go.Proofs.Ytpnfopakkaoibaa
