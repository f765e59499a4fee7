/- CurveClosed, out of what package curve must keep. -/
import Derived.Test.YtbninaelmbkboabCrvGroup
namespace Go.Proofs.Ytbninaelmbkboab
open Go.RowKit
attribute [local go_sem] World.cell?_alloc_some cell_alloc2 cell_alloc3 cell_alloc4 frozen?_alloc_cells frozen_out
set_option linter.unusedSimpArgs false
theorem feight_ok : (⟨8, 0, 0, 0⟩ : Nm).ok := by constructor <;> (constructor <;> decide)
theorem pv_ne {P Q : Cv.Pt} (hP : Cv.On P) (hQ : Cv.On Q) (h : P ≠ Q) (w : World) : (binOp .neq 26 (pv P) (pv Q)).run Try.prog w = .ok (.bool true) w := by
  rw [neP]
  have : (Nm.beq (nm P.1) (nm Q.1) && Nm.beq (nm P.2) (nm Q.2)) = false := by
    refine Bool.eq_false_iff.2 fun e => h ?_
    rw [Bool.and_eq_true] at e
    have l : ∀ {n : Nat}, n < F.p → n < 2 ^ 256 := fun h => Nat.lt_trans h F.p_lt
    have e1 := congrArg Nm.nat (Nm.beq_iff.1 e.1)
    have e2 := congrArg Nm.nat (Nm.beq_iff.1 e.2)
    rw [nm_nat (l hP.1), nm_nat (l hQ.1)] at e1
    rw [nm_nat (l hP.2.1), nm_nat (l hQ.2.1)] at e2
    exact Prod.ext e1 e2
  rw [this]
  rfl
end Go.Proofs.Ytbninaelmbkboab
