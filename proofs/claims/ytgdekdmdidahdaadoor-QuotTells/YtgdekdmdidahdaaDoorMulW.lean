/- The contract of limb.Mul: the product of two numbers of four words, as one of eight. -/
import Derived.Test.YtgdekdmdidahdaaDoorMul
import Derived.Test.YtgdekdmdidahdaaDoorUp
namespace Go.Proofs.YtgdekdmdidahdaaDoor
open Go.RowKit
attribute [local go_sem] setCell_drewN
/-- The product's halves. -/
def mulL (x y : Nm) : Nm := Nm.of (x.val * y.val % M)
def mulH (x y : Nm) : Nm := Nm.of (x.val * y.val / M)
theorem mul_bound {x y : Nm} (hx : x.ok) (hy : y.ok) : 0 ≤ x.val * y.val ∧ x.val * y.val / M < M := by
  refine ⟨Int.mul_nonneg (Nm.val_nonneg hx) (Nm.val_nonneg hy), Int.ediv_lt_of_lt_mul M_pos ?_⟩
  have h1 : x.val ≤ M - 1 := by have := Nm.val_lt hx; omega
  have h2 : y.val ≤ M - 1 := by have := Nm.val_lt hy; omega
  have h3 := Int.mul_le_mul h1 h2 (Nm.val_nonneg hy) (by decide)
  have h4 : (M - 1) * (M - 1) < M * M := by decide
  omega
theorem mulL_ok (x y : Nm) : (mulL x y).ok := Nm.of_ok _
theorem mulH_ok (x y : Nm) : (mulH x y).ok := Nm.of_ok _
theorem mul_val {x y : Nm} (hx : x.ok) (hy : y.ok) : (mulL x y).val + M * (mulH x y).val = x.val * y.val := by
  have hb := mul_bound hx hy
  have e1 : (mulL x y).val = x.val * y.val % M := Nm.of_val (Int.emod_nonneg _ (by decide)) (Int.emod_lt_of_pos _ M_pos)
  have e2 : (mulH x y).val = x.val * y.val / M := Nm.of_val (Int.ediv_nonneg hb.1 (by decide)) hb.2
  rw [e1, e2]
  exact Int.emod_add_mul_ediv _ _
end Go.Proofs.YtgdekdmdidahdaaDoor
