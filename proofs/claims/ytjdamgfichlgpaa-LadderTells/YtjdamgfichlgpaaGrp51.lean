/- Texts that were joined: RPt, RPtS. -/
import Derived.Test.YtjdamgfichlgpaaFeP
import Derived.Test.YtjdamgfichlgpaaGrp7
import Derived.Test.YtjdamgfichlgpaaGrp14
import Derived.Test.YtjdamgfichlgpaaAl
/- The document's points: dOf, PtOf, PtBase, Point, Plus. -/
namespace Go.Proofs.Ytjdamgfichlgpaa
open Go.RowKit
attribute [local go_sem] World.cell?_alloc_some cell_alloc2 cell_alloc3 cell_alloc4 frozen?_alloc_cells frozen_out
set_option linter.unusedSimpArgs false
theorem run_build3 {T : TypeId} {x y z : Operand} {a : Act} {u v t : Value} {cs : List Value} (hx : a.eval x = u) (hy : a.eval y = v) (hz : a.eval z = t) (hb : Try.prog.built T [(0, u), (1, v), (2, t)] = some cs.toArray) (w : World) : (Instr.build T ((#[(0, x), (1, y), (2, z)] : Array (Nat × Operand)).map fun x => (x.fst, a.eval x.snd))).run Try.prog w = .ok (.agg cs.toArray) w :=
  run_build w T _ _ (by simpa [hx, hy, hz] using hb)
theorem wp_build3 {ops : Array Oper} {rest : List Oper} {o : Oper} {a : Act} {Q : Exit → Act → World → Prop} {w : World} (hgd : o.guard = none) (T : TypeId) (x y z : Operand) (ho : o.op = .build T #[(0, x), (1, y), (2, z)]) (u v t : Value) (cs : List Value) (hx : a.eval x = u) (hy : a.eval y = v) (hz : a.eval z = t) (hb : Try.prog.built T [(0, u), (1, v), (2, t)] = some cs.toArray)
    (h : wpList Try.prog ops Q rest (a.put o.dst (.agg cs.toArray)) w) : wpList Try.prog ops Q (o :: rest) a w := by
  refine wpList_plain hgd fun K hK => ?_
  have e := run_build3 hx hy hz hb w
  unfold Oper.wp
  simp only [execOp, ho, Sem.run_bind, e, Result.andThen_ok, Sem.run_pure]
  exact hK _ _ h
theorem quiet_build3 {ops : Array Oper} {C : World → Prop} {Q : Act → Prop} {o : Oper} {rest : List Oper} {a : Act} (hw : Region.wanted o (yielded ops a.tmps) = true) (T : TypeId) (x y z : Operand) (ho : o.op = .build T #[(0, x), (1, y), (2, z)]) (u v t : Value) (cs : List Value) (hx : a.eval x = u) (hy : a.eval y = v) (hz : a.eval z = t) (hb : Try.prog.built T [(0, u), (1, v), (2, t)] = some cs.toArray)
    (h : wpQuiet Try.prog ops C Q rest (a.put o.dst (.agg cs.toArray))) : wpQuiet Try.prog ops C Q (o :: rest) a := by
  refine BigFrame.wpQuiet_want hw fun K hK => ⟨.agg cs.toArray, fun w _ => ?_, hK _ h⟩
  unfold Oper.quietAt
  have e1 := run_build3 hx hy hz hb w
  have e : (execOp a.eval o).run Try.prog w = .ok (.value (.agg cs.toArray)) w := by
    simp only [execOp, ho, Sem.run_bind, e1, Result.andThen_ok, Sem.run_pure]
  rw [e]
  exact ⟨rfl, rfl⟩
theorem d_lit : (fR Cv.d).toArray = #[Value.int IntKind.i64 30883, Value.int IntKind.i64 4953, Value.int IntKind.i64 19914, Value.int IntKind.i64 30187, Value.int IntKind.i64 55467, Value.int IntKind.i64 16705, Value.int IntKind.i64 2637, Value.int IntKind.i64 112, Value.int IntKind.i64 59544, Value.int IntKind.i64 30585, Value.int IntKind.i64 16505, Value.int IntKind.i64 36039, Value.int IntKind.i64 65139, Value.int IntKind.i64 11119, Value.int IntKind.i64 27886, Value.int IntKind.i64 20995] := by kernel_rfl
set_option maxRecDepth 20000 in
set_option maxHeartbeats 600000 in
theorem dOf_fun (w : World) : Calls Try.prog 43 #[] w fun e w' => e = .returned (.agg (fR Cv.d).toArray) ∧ Below w.heap.size w w' := by
  obtain ⟨x0, x1⟩ := I.al1 w (fR Cv.d).toArray 33
  rw [d_lit] at x0 x1
  have X0 : Hid _ := x0.all
  have X1 : Hid _ := x1
  clear x0 x1
  go_enter Try.func43, Try.ntmps43
  go_wp2_with fail
  refine bodyPost_ret (v := .agg (fR Cv.d).toArray) ?_ rfl ⟨rfl, X1.out⟩
  rw [d_lit]
  exact I.results_cell (b := w.heap.size) rfl rfl X0.out Try.underlying33 rfl I.info_fe
end Go.Proofs.Ytjdamgfichlgpaa

/- The document's points: Plus. -/
namespace Go.Proofs.Ytjdamgfichlgpaa
open Go.RowKit
attribute [local go_sem] World.cell?_alloc_some cell_alloc2 cell_alloc3 cell_alloc4 frozen?_alloc_cells frozen_out
set_option linter.unusedSimpArgs false
end Go.Proofs.Ytjdamgfichlgpaa
