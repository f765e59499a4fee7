/- The walks of limb.shiftLeft and limb.shiftRight, word by word. -/
import Derived.Test.YtbninaelmbkboabRows
import Derived.Test.YtbninaelmbkboabNum
import Derived.WalkKit
import Derived.WalkSpells
import Derived.WalkLawsBesides
import Derived.LoopN
namespace Go.Proofs.Ytbninaelmbkboab
open Go.RowKit

end Go.Proofs.Ytbninaelmbkboab
