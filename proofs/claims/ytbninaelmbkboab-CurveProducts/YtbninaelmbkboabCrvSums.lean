/- CurveSums, out of what package curve must keep. -/
import Derived.Test.YtbninaelmbkboabCrvClosed
namespace Go.Proofs.Ytbninaelmbkboab
open Go.RowKit
attribute [local go_sem] World.cell?_alloc_some cell_alloc2 cell_alloc3 cell_alloc4 frozen?_alloc_cells frozen_out
set_option linter.unusedSimpArgs false
theorem cone_ok : (⟨1, 0, 0, 0⟩ : Nm).ok := by constructor <;> (constructor <;> decide)
theorem cnil_ok : (⟨0, 0, 0, 0⟩ : Nm).ok := by constructor <;> (constructor <;> decide)
theorem nePs (x y : Nm) (w : World) : (binOp .neq 26 (Wv x y) (Wv x y)).run Try.prog w = .ok (.bool false) w := by rw [neP, Nm.beq_self, Nm.beq_self]; rfl
theorem addS_nat {x y : Nm} (ox : x.ok) (oy : y.ok) (c0 : addC x y = 0) : (addS x y).nat = x.nat + y.nat := by
  have e := add_val' (x := x) (y := y)
  rw [c0, Int.mul_zero, Int.add_zero] at e
  have h1 := Nm.nat_cast (addS_ok x y); have h2 := Nm.nat_cast ox; have h3 := Nm.nat_cast oy
  omega
end Go.Proofs.Ytbninaelmbkboab
