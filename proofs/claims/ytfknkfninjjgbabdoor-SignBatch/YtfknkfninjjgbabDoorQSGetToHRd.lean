/- Texts that were joined: SGet, HRd. -/
import Derived.Test.YtfknkfninjjgbabDoorQBKToHCut
import Derived.Test.YtfknkfninjjgbabDoorQBsMkToHWrite
/- The bytes of a text. -/
namespace Go.Proofs.YtfknkfninjjgbabDoor
end Go.Proofs.YtfknkfninjjgbabDoor

/- Slices of words of 32 bits: what one holds; rows of such that a call made. -/
namespace Go.Proofs.YtfknkfninjjgbabDoor
open Go.RowKit
set_option linter.unusedSimpArgs false
end Go.Proofs.YtfknkfninjjgbabDoor
