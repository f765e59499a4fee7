/- CurveGroup, out of what package curve must keep. -/
import Derived.Test.YtjdamgfichlgpaaCrvS
import Derived.Test.YtjdamgfichlgpaaUpA
namespace Go.Proofs.Ytjdamgfichlgpaa
open Go.RowKit
attribute [local go_sem] World.cell?_alloc_some cell_alloc2 cell_alloc3 cell_alloc4 frozen?_alloc_cells frozen_out
set_option linter.unusedSimpArgs false
theorem eqP_self (x y : Nm) (w : World) : (binOp .eql 26 (Wv x y) (Wv x y)).run Try.prog w = .ok (.bool true) w := by rw [eqP, Nm.beq_self, Nm.beq_self]; rfl
theorem pv_of {x y : Nm} (ox : x.ok) (oy : y.ok) : Wv x y = pv (x.nat, y.nat) := by
  show Wv x y = Wv (nm x.nat) (nm y.nat)
  rw [← Nm.eq_nm ox rfl, ← Nm.eq_nm oy rfl]
end Go.Proofs.Ytjdamgfichlgpaa
