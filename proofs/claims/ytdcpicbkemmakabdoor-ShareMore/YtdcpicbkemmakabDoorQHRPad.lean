/- The contract of sealringref.PadText. -/
import Derived.Test.YtdcpicbkemmakabDoorQBsMkToHRd
namespace Go.Proofs.YtdcpicbkemmakabDoor
open Go.RowKit
set_option linter.unusedSimpArgs false
attribute [local go_sem] ByteArray.size_append
end Go.Proofs.YtdcpicbkemmakabDoor
