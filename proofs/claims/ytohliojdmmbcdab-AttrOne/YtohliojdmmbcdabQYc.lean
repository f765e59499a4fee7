/- A call among the operations of a drawn region, its operands told by their values: the frame is not looked at. -/
import Derived.Test.YtohliojdmmbcdabQUpM
import Derived.Test.YtohliojdmmbcdabQNum
import Derived.Test.YtohliojdmmbcdabRows
namespace Go.Proofs.Ytohliojdmmbcdab
open Go.RowKit
set_option linter.unusedSimpArgs false
end Go.Proofs.Ytohliojdmmbcdab
