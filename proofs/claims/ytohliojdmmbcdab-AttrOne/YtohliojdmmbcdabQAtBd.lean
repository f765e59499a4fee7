/- One attribute built; bytes of a row of their own beside a row of attributes. -/
import Derived.Test.YtohliojdmmbcdabQAtO
import Derived.Test.YtohliojdmmbcdabQDerFi
namespace Go.Proofs.Ytohliojdmmbcdab
open Go.RowKit
attribute [local go_sem] World.cell?_alloc_some cell_alloc2 cell_alloc3 cell_alloc4 frozen?_alloc_cells frozen_out
set_option linter.unusedSimpArgs false
theorem Bk.vk {w : World} {B : Nat} {u : Value} {xs : List Nat} (h : Bk w u xs) : Vk w B u xs := ⟨h.1, fun _ g hg => .inr (h.2 g hg)⟩
theorem wp_buildAt {ops : Array Oper} {rest : List Oper} {o : Oper} {a : Act} {Q : Exit → Act → World → Prop} {w : World} (hgd : o.guard = none) (x y : Operand) (ho : o.op = .build 37 #[(0, x), (1, y)]) (X : Int) (d : Option Addr) (n c : Nat) (hx : a.eval x = .int .i64 X) (hy : a.eval y = .slice d n c)
    (h : wpList Try.prog ops Q rest (a.put o.dst (.agg #[.int .i64 X, .slice d n c])) w) : wpList Try.prog ops Q (o :: rest) a w := by
  refine wpList_plain hgd fun K hK => ?_
  have hb : Try.prog.built 37 [(0, .int .i64 X), (1, .slice d n c)] = some #[.int .i64 X, .slice d n c] := by kernel_rfl
  have e : (Instr.build 37 ((#[(0, x), (1, y)] : Array (Nat × Operand)).map fun q => (q.fst, a.eval q.snd))).run Try.prog w = .ok (.agg #[.int .i64 X, .slice d n c]) w := run_build w 37 _ _ (by simpa [hx, hy] using hb)
  unfold Oper.wp
  simp only [execOp, ho, Sem.run_bind, e, Result.andThen_ok, Sem.run_pure]
  exact hK _ _ h
theorem run_bsA (X : Int) (d : Option Addr) (n c : Nat) (w : World) : (Instr.buildSlice 23 1 #[(0, .agg #[.int .i64 X, .slice d n c])]).run Try.prog w = .ok (.slice (some ⟨w.heap.size, 0, none⟩) 1 1) (w.alloc (.cells #[.int .i64 X, .slice d n c] 37)) := by kernel_rfl
theorem wp_bsA {ops : Array Oper} {rest : List Oper} {o : Oper} {a : Act} {Q : Exit → Act → World → Prop} {w : World} (hgd : o.guard = none) (x : Operand) (ho : o.op = .buildSlice 23 1 #[(0, x)]) (X : Int) (d : Option Addr) (n c : Nat) (hx : a.eval x = .agg #[.int .i64 X, .slice d n c])
    (h : wpList Try.prog ops Q rest (a.put o.dst (.slice (some ⟨w.heap.size, 0, none⟩) 1 1)) (w.alloc (.cells #[.int .i64 X, .slice d n c] 37))) : wpList Try.prog ops Q (o :: rest) a w := by
  refine wpList_plain hgd fun K hK => ?_
  have e := run_bsA X d n c w
  unfold Oper.wp
  simp only [execOp, ho, Sem.run_bind, Array.map, hx]
  simp [hx, e]
  exact hK _ _ h
end Go.Proofs.Ytohliojdmmbcdab
