/- The contracts of sealringref.GfInv and GfPow. -/
import Derived.Test.YtmfbdacalenfdaaRGf
namespace Go.Proofs.Ytmfbdacalenfdaa
open Go.RowKit
set_option linter.unusedSimpArgs false
end Go.Proofs.Ytmfbdacalenfdaa
