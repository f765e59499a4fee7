/- The contracts of sealringref.GfInv and GfPow. -/
import Derived.Test.YtmfbdacalenfdabRGf
namespace Go.Proofs.Ytmfbdacalenfdab
open Go.RowKit
set_option linter.unusedSimpArgs false
end Go.Proofs.Ytmfbdacalenfdab
