/- CurveGroup, out of what package curve must keep. -/
import Derived.Test.YtpnfopakkaoibaaQCrvS
import Derived.Test.YtpnfopakkaoibaaQUpA
namespace Go.Proofs.Ytpnfopakkaoibaa
open Go.RowKit
attribute [local go_sem] World.cell?_alloc_some cell_alloc2 cell_alloc3 cell_alloc4 frozen?_alloc_cells frozen_out
set_option linter.unusedSimpArgs false
theorem pv_of {x y : Nm} (ox : x.ok) (oy : y.ok) : Wv x y = pv (x.nat, y.nat) := by
  show Wv x y = Wv (nm x.nat) (nm y.nat)
  rw [← Nm.eq_nm ox rfl, ← Nm.eq_nm oy rfl]
end Go.Proofs.Ytpnfopakkaoibaa
