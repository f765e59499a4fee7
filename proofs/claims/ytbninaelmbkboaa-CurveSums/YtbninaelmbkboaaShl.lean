/- The walks of limb.shiftLeft and limb.shiftRight, word by word. -/
import Derived.Test.YtbninaelmbkboaaRows
import Derived.Test.YtbninaelmbkboaaNum
import Derived.WalkKit
import Derived.WalkSpells
import Derived.WalkLawsBesides
import Derived.LoopN
namespace Go.Proofs.Ytbninaelmbkboaa
open Go.RowKit

end Go.Proofs.Ytbninaelmbkboaa
