/- The walks of limb.shiftLeft and limb.shiftRight, word by word. -/
import Derived.Test.YtjcnfffmciahiaaRows
import Derived.Test.YtjcnfffmciahiaaNum
import Derived.WalkKit
import Derived.WalkSpells
import Derived.WalkLawsBesides
import Derived.LoopN
namespace Go.Proofs.Ytjcnfffmciahiaa
open Go.RowKit

end Go.Proofs.Ytjcnfffmciahiaa
