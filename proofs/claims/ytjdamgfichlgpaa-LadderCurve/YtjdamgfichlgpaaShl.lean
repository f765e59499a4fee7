/- The walks of limb.shiftLeft and limb.shiftRight, word by word. -/
import Derived.Test.YtjdamgfichlgpaaRows
import Derived.Test.YtjdamgfichlgpaaNum
import Derived.WalkKit
import Derived.WalkSpells
import Derived.WalkLawsBesides
import Derived.LoopN
namespace Go.Proofs.Ytjdamgfichlgpaa
open Go.RowKit

end Go.Proofs.Ytjdamgfichlgpaa
