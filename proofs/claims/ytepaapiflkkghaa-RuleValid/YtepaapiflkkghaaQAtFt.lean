/- sealringref.Fits: all that is asked? -/
import Derived.Test.YtepaapiflkkghaaQAtS
namespace Go.Proofs.Ytepaapiflkkghaa
open Go.RowKit
attribute [local go_sem] World.cell?_alloc_some cell_alloc2 cell_alloc3 cell_alloc4 frozen?_alloc_cells frozen_out
set_option linter.unusedSimpArgs false
theorem wp_convG {ops : Array Oper} {rest : List Oper} {o : Oper} {a : Act} {Q : Exit → Act → World → Prop} {w : World} (hgd : Region.wanted o (yielded ops a.tmps) = true) (x : Operand)
    (ho : o.op = .convert 42 9 x) (u : Value) (xs : List Nat) (hx : a.eval x = u) (h : By w u xs) (hK : wpList Try.prog ops Q rest (a.put o.dst (.string (sOf xs))) w) : wpList Try.prog ops Q (o :: rest) a w := by
  refine wpList_step fun K hK2 => ?_
  simp only [hgd, if_true]
  unfold Oper.wp
  simp [execOp, ho, hx, bytes_conv h, Result.andThen]
  exact hK2 _ _ hK
theorem matA_no {l a : List Ar} {x : Ar} (hx : x ∈ a) (h : getA l x.k ≠ some x.v) : matA l a = false := by
  cases e : matA l a with
  | false => rfl
  | true => exact absurd ((matA_iff l a).1 e x hx) h
end Go.Proofs.Ytepaapiflkkghaa
