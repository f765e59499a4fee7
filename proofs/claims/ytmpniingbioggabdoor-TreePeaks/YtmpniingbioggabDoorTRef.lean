/- The contracts of sealringref.Leaf, Node. -/
import Derived.Test.YtmpniingbioggabDoorHRS
import Derived.Test.YtmpniingbioggabDoorTSl
import Derived.Test.YtmpniingbioggabDoorHX
import Derived.Test.YtmpniingbioggabDoorTMath
import Derived.Test.YtmpniingbioggabDoorUpS
namespace Go.Proofs.YtmpniingbioggabDoor
open Go.RowKit
set_option linter.unusedSimpArgs false
attribute [local go_sem] YieldsP execOp
attribute [local simp] MP.eq_p
def leafS (p : List Nat) : List Nat := sumS (0 :: p)
def nodeS (a b : List Nat) : List Nat := sumS (1 :: (a ++ b))
end Go.Proofs.YtmpniingbioggabDoor
