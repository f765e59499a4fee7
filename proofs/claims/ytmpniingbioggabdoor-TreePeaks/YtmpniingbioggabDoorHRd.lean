/- Slices of words of 32 bits: what one holds; rows of such that a call made. -/
import Derived.Test.YtmpniingbioggabDoorHSt
import Derived.Test.YtmpniingbioggabDoorSGet
namespace Go.Proofs.YtmpniingbioggabDoor
open Go.RowKit
set_option linter.unusedSimpArgs false
theorem iU32 : (Tryd.prog.info? 40).map (fun i => (i.zero, i.size, i.bytes)) = some (some (.int .u32 0), 1, 4) := by kernel_rfl
end Go.Proofs.YtmpniingbioggabDoor
