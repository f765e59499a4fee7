/- The contracts of sealringref.turn, choose and most; the same words by other roads. -/
import Derived.Test.YtdcpicbkemmakabDoorQHWToHMath
namespace Go.Proofs.YtdcpicbkemmakabDoor
open Go.RowKit
set_option linter.unusedSimpArgs false
end Go.Proofs.YtdcpicbkemmakabDoor
