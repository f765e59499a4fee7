/- Texts that were joined: UpG, UpQ, UpW, UpZe, AtCd, AtCw, AtU. -/
import Derived.Test.YtepaapiflkkghabQUpToUpA
import Derived.Test.YtepaapiflkkghabQUpM
import Derived.OrdersHeld
import Derived.Test.YtepaapiflkkghabQKn
import Derived.Test.YtepaapiflkkghabQUpVToKnO
import Derived.Test.YtepaapiflkkghabQYcToAtS
import Derived.Test.YtepaapiflkkghabQAtO
import Derived.Test.YtepaapiflkkghabQAtCmToRuM
/- A drawn region in which some operations may be taken first (they yield their value in every world, and each other one waits for them or is apart from them), and the others then come one by one. Over any program. -/
namespace Go.Proofs.Ytepaapiflkkghab
open Go.RowKit
section
variable {P : Program} {ops : Array Oper} {Q : Exit → Act → World → Prop}
end
end Go.Proofs.Ytepaapiflkkghab

/- A drawn region: some operations are taken first (they yield their value in every world that keeps a condition), the others come one by one, and each keeps the condition. Over any program. -/
namespace Go.Proofs.Ytepaapiflkkghab
open Go.RowKit
section
variable {P : Program} {ops : Array Oper} {Q : Exit → Act → World → Prop} {S : World → Prop}
end
end Go.Proofs.Ytepaapiflkkghab

/- A drawn region walked along its orders: one operation after another, each out of those that may come up. Over any program. -/
namespace Go.Proofs.Ytepaapiflkkghab
open Go.RowKit
section
variable {P : Program} {ops : Array Oper} {Q : Exit → Act → World → Prop} {S : World → Prop} {fuel : Nat} {listed : Array Bool} {a : Act} {w : World}
end
end Go.Proofs.Ytepaapiflkkghab

/- Single operations by their values; a call within a walk along orders. -/
namespace Go.Proofs.Ytepaapiflkkghab
open Go.RowKit
set_option linter.unusedSimpArgs false
end Go.Proofs.Ytepaapiflkkghab

/- The document's card of attributes: its cells; CardOf. -/
namespace Go.Proofs.Ytepaapiflkkghab
open Go.RowKit
attribute [local go_sem] World.cell?_alloc_some cell_alloc2 cell_alloc3 cell_alloc4 frozen?_alloc_cells frozen_out
set_option linter.unusedSimpArgs false
end Go.Proofs.Ytepaapiflkkghab

/- The document's card of attributes: the walk of CardOf. -/
namespace Go.Proofs.Ytepaapiflkkghab
open Go.RowKit
attribute [local go_sem] World.cell?_alloc_some cell_alloc2 cell_alloc3 cell_alloc4 frozen?_alloc_cells frozen_out
set_option linter.unusedSimpArgs false
end Go.Proofs.Ytepaapiflkkghab

/- The document's card of attributes: Upon. -/
namespace Go.Proofs.Ytepaapiflkkghab
open Go.RowKit
attribute [local go_sem] World.cell?_alloc_some cell_alloc2 cell_alloc3 cell_alloc4 frozen?_alloc_cells frozen_out
set_option linter.unusedSimpArgs false
end Go.Proofs.Ytepaapiflkkghab
