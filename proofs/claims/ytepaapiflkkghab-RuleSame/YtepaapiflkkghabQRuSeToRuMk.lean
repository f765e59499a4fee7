/- Texts that were joined: RuSe, RuMk. -/
import Derived.Test.YtepaapiflkkghabQAtP0ToRuMd
import Derived.Test.YtepaapiflkkghabQRlK
import Derived.Test.YtepaapiflkkghabQRuGToRuI
/- RuleSees, out of what package rule must keep. -/
namespace Go.Proofs.Ytepaapiflkkghab
open Go.RowKit
attribute [local go_sem] World.cell?_alloc_some cell_alloc2 cell_alloc3 cell_alloc4 frozen?_alloc_cells frozen_out
set_option linter.unusedSimpArgs false
end Go.Proofs.Ytepaapiflkkghab

/- RuleMakes, out of what package rule must keep. -/
namespace Go.Proofs.Ytepaapiflkkghab
open Go.RowKit
attribute [local go_sem] World.cell?_alloc_some cell_alloc2 cell_alloc3 cell_alloc4 frozen?_alloc_cells frozen_out
set_option linter.unusedSimpArgs false
def RlKindsC : Prop := ∀ (c : Nat) (w : World), c < 256 → Calls Try.prog 29 #[.int .u8 (c : Int)] w fun e w' => (∃ u, e = .returned u ∧ Ki w' u (kndN c 18)) ∧ Below w.heap.size w w'
end Go.Proofs.Ytepaapiflkkghab
