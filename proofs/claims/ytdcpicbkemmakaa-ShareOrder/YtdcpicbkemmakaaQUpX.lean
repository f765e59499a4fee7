/- As UpS's law, where one operation that reads no memory (an extract, a move) may come late: it is taken as soon as it can be. -/
import Derived.Test.YtdcpicbkemmakaaQUpSToShA
namespace Go.Proofs.Ytdcpicbkemmakaa
open Go.RowKit
section
variable {P : Program}
end
end Go.Proofs.Ytdcpicbkemmakaa
