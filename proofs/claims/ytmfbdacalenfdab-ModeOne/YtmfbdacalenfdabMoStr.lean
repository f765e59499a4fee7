/- The contract of mode.Stream. -/
import Derived.Test.YtmfbdacalenfdabMoPadd
import Derived.Test.YtmfbdacalenfdabMdC
namespace Go.Proofs.Ytmfbdacalenfdab
open Go.RowKit
set_option linter.unusedSimpArgs false
attribute [local go_sem] YieldsP execOp
attribute [local simp] MP.eq_p
end Go.Proofs.Ytmfbdacalenfdab
