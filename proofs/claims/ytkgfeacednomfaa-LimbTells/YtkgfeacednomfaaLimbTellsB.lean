/- LimbTells returns true for every a, b, i and c: the walk. -/
import Derived.Test.YtkgfeacednomfaaDOfBits
import Derived.Test.YtkgfeacednomfaaDMinus
import Derived.Test.YtkgfeacednomfaaOrd
import Derived.Test.YtkgfeacednomfaaDWords
import Derived.Test.YtkgfeacednomfaaDDig
import Derived.Test.YtkgfeacednomfaaEq
import Derived.Test.YtkgfeacednomfaaArr
import Derived.Test.YtkgfeacednomfaaOwn
import Derived.Test.YtkgfeacednomfaaKn
import Derived.Test.YtkgfeacednomfaaAl
namespace Go.Proofs.Ytkgfeacednomfaa
open Go.RowKit
open Go.ChangeShapes Go.WideShapes Go.ChangeAt
attribute [local go_sem] World.cell?_alloc_some cell_alloc2 cell_alloc3 cell_alloc4 frozen?_alloc_cells frozen_out YieldsP execOp
attribute [local simp] MP.eq_p MP.sl_p MP.sl2_p
set_option linter.unusedSimpArgs false
theorem cells_up {W w1 : World} {B : Nat} {f : Nat → Value} (h : ∀ j, j < 256 → W.cell? ⟨B, j, none⟩ = some (f j)) (hb : Below W.heap.size W w1) : ∀ j, j < 256 → w1.cell? ⟨B, j, none⟩ = some (f j) :=
  fun j hj => (hb.cell (p := ⟨B, j, none⟩) (lt_of_cell (h j hj))).trans (h j hj)
theorem neW (l h l' h' : Nm) (w : World) : (binOp .neq 34 (Wv l h) (Wv l' h')).run Try.prog w = .ok (.bool !(Nm.beq l l' && Nm.beq h h')) w := by
  have := eqW l h l' h' w
  simp only [binOp, Sem.run_bind] at this ⊢
  cases e : (Op.equal 34 (Wv l h) (Wv l' h')).run Try.prog w with
  | ok b w' =>
    rw [e] at this
    simp at this ⊢
    exact ⟨by rw [this.1], this.2⟩
  | halt x w' => rw [e] at this; simp at this
end Go.Proofs.Ytkgfeacednomfaa
