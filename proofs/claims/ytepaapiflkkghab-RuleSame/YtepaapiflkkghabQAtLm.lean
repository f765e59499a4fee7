/- Package attr, as it landed: Match. -/
import Derived.Test.YtepaapiflkkghabQAtL
import Derived.Test.YtepaapiflkkghabQAtP0ToRuMd
namespace Go.Proofs.Ytepaapiflkkghab
open Go.RowKit
attribute [local go_sem] World.cell?_alloc_some cell_alloc2 cell_alloc3 cell_alloc4 frozen?_alloc_cells frozen_out
set_option linter.unusedSimpArgs false
end Go.Proofs.Ytepaapiflkkghab
