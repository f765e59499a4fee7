/- Texts that were joined: SGet, HRd. -/
import Derived.Test.YtfknkfninjjgbaaDoorQBKToHCut
import Derived.Test.YtfknkfninjjgbaaDoorQBsMkToHWrite
/- The bytes of a text. -/
namespace Go.Proofs.YtfknkfninjjgbaaDoor
end Go.Proofs.YtfknkfninjjgbaaDoor

/- Slices of words of 32 bits: what one holds; rows of such that a call made. -/
namespace Go.Proofs.YtfknkfninjjgbaaDoor
open Go.RowKit
set_option linter.unusedSimpArgs false
end Go.Proofs.YtfknkfninjjgbaaDoor
