/- The contracts of sealringref.Begin and Sum. -/
import Derived.Test.YtmpniingbioggabDoorHRFrom
import Derived.Test.YtmpniingbioggabDoorHHash
namespace Go.Proofs.YtmpniingbioggabDoor
open Go.RowKit
set_option linter.unusedSimpArgs false
attribute [local go_sem] YieldsP execOp
attribute [local simp] MP.eq_p
end Go.Proofs.YtmpniingbioggabDoor
