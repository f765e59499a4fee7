/- The program's types can be laid out. -/
import Derived.Test.YtdcpicbkemmakaaQOwnToShW
namespace Go.Proofs.Ytdcpicbkemmakaa
open Go.RowKit
open Go.ChangeShapes Go.WideShapes Go.ChangeAt
theorem Try.laidOut : laidOutB Try.prog = true := by kernel_rfl
end Go.Proofs.Ytdcpicbkemmakaa
