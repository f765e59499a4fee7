/- The contract of slices.Equal of two rows of digests that are one. -/
import Derived.Test.YtmpniingbioggabDoorTClm
namespace Go.Proofs.YtmpniingbioggabDoor
open Go.RowKit
open Go.BigFrame
set_option linter.unusedSimpArgs false
section
variable {ops : Array Oper} {rest : List Oper} {o : Oper} {a : Act} {C : World → Prop} {Q : Act → Prop}
theorem quiet_neD (hgd : Region.wanted o (yielded ops a.tmps) = true) (x y : Operand) (u : TypeId) (ho : o.op = .binOp .neq 24 x y u) (xs : List Nat) (hl : xs.length = 32) (hx : a.eval x = vB xs) (hy : a.eval y = vB xs) (h : wpQuiet Tryd.prog ops C Q rest (a.put o.dst (.bool false))) : wpQuiet Tryd.prog ops C Q (o :: rest) a := by
  refine wpQuiet_want hgd fun K hK => ⟨.bool false, fun w hw => ?_, hK _ h⟩
  have e : (execOp a.eval o).run Tryd.prog w = .ok (.value (.bool false)) w := by
    have e1 := neq_self xs hl w
    unfold execOp
    simp [ho, hx, hy, e1, eqGuard]
  unfold Oper.quietAt
  rw [e]
  exact ⟨rfl, rfl⟩
theorem quiet_eqD (hgd : Region.wanted o (yielded ops a.tmps) = true) (x y : Operand) (u : TypeId) (ho : o.op = .binOp .eql 24 x y u) (xs : List Nat) (hl : xs.length = 32) (hx : a.eval x = vB xs) (hy : a.eval y = vB xs) (h : wpQuiet Tryd.prog ops C Q rest (a.put o.dst (.bool true))) : wpQuiet Tryd.prog ops C Q (o :: rest) a := by
  refine wpQuiet_want hgd fun K hK => ⟨.bool true, fun w hw => ?_, hK _ h⟩
  have e : (execOp a.eval o).run Tryd.prog w = .ok (.value (.bool true)) w := by
    have e1 := eql_self xs hl w
    unfold execOp
    simp [ho, hx, hy, e1, eqGuard]
  unfold Oper.quietAt
  rw [e]
  exact ⟨rfl, rfl⟩
end
end Go.Proofs.YtmpniingbioggabDoor
