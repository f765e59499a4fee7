/- A region that draws its order of evaluation: readings and calls, then operations that wait for all of these, by whatever chain. Over any program. -/
import Derived.Test.YtdcpicbkemmakabDoorQUpA
namespace Go.Proofs.YtdcpicbkemmakabDoor
open Go.RowKit
end Go.Proofs.YtdcpicbkemmakabDoor
