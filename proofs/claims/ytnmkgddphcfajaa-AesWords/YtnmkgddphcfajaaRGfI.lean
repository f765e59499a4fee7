/- The contracts of sealringref.GfInv and GfPow. -/
import Derived.Test.YtnmkgddphcfajaaRGf
namespace Go.Proofs.Ytnmkgddphcfajaa
open Go.RowKit
set_option linter.unusedSimpArgs false
end Go.Proofs.Ytnmkgddphcfajaa
