/- Texts that were joined: Len, LenW, ScalarIs. -/
import Derived.Test.YtfknkfninjjgbabDoorQShlToBit
import Derived.Lib.Tables
import Derived.Lib.BitFns
import Derived.Test.YtfknkfninjjgbabDoorQScF
import Derived.LoopN
/- The contracts of math/bits.Len64 and limb.Len: how many bits are needed. -/
namespace Go.Proofs.YtfknkfninjjgbabDoor
open Go.RowKit

end Go.Proofs.YtfknkfninjjgbabDoor

/- How many bits a number needs, and the contract of limb.Len. -/
namespace Go.Proofs.YtfknkfninjjgbabDoor
open Go.RowKit

end Go.Proofs.YtfknkfninjjgbabDoor

/- Package scalar, as it landed: Inv. -/
namespace Go.Proofs.YtfknkfninjjgbabDoor
open Go.RowKit
attribute [local go_sem] World.cell?_alloc_some cell_alloc2 cell_alloc3 cell_alloc4 frozen?_alloc_cells frozen_out
set_option linter.unusedSimpArgs false
end Go.Proofs.YtfknkfninjjgbabDoor
