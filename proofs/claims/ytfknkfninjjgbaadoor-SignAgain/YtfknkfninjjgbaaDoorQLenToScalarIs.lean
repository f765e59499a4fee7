/- Texts that were joined: Len, LenW, ScalarIs. -/
import Derived.Test.YtfknkfninjjgbaaDoorQShlToBit
import Derived.Lib.Tables
import Derived.Lib.BitFns
import Derived.Test.YtfknkfninjjgbaaDoorQScF
import Derived.LoopN
/- The contracts of math/bits.Len64 and limb.Len: how many bits are needed. -/
namespace Go.Proofs.YtfknkfninjjgbaaDoor
open Go.RowKit

end Go.Proofs.YtfknkfninjjgbaaDoor

/- How many bits a number needs, and the contract of limb.Len. -/
namespace Go.Proofs.YtfknkfninjjgbaaDoor
open Go.RowKit

end Go.Proofs.YtfknkfninjjgbaaDoor

/- Package scalar, as it landed: Inv. -/
namespace Go.Proofs.YtfknkfninjjgbaaDoor
open Go.RowKit
attribute [local go_sem] World.cell?_alloc_some cell_alloc2 cell_alloc3 cell_alloc4 frozen?_alloc_cells frozen_out
set_option linter.unusedSimpArgs false
end Go.Proofs.YtfknkfninjjgbaaDoor
