/- Pairs of package ladder among the known blocks: rows of eight words that are never opened. -/
import Derived.Test.YtjdamgfichlgpaaGrp23
namespace Go.Proofs.Ytjdamgfichlgpaa
open Go.RowKit
set_option linter.unusedSimpArgs false
/-- x, z. -/
def lR (x y : Nm) : List Value := c4 x ++ c4 y
abbrev lV (x y : Nm) : Value := .agg (lR x y).toArray
def lZ : List Value := List.replicate 8 (.int .u64 0)
theorem lR_length (x y : Nm) : (lR x y).length = 8 := rfl
theorem lZ_length : lZ.length = 8 := by simp [lZ]
theorem lR_one (x y : Nm) : ∀ u ∈ lR x y, u.oneCell' = true := fun u hu => by
  unfold lR at hu
  rcases List.mem_append.1 hu with h | h
  · exact c4_one _ u h
  · exact c4_one _ u h
theorem u_lpr : (Try.prog.underlying 55).map TypeDesc.isRow = some true := by kernel_rfl
theorem info_lpr : (Try.prog.info? 55).map (·.size) = some 8 := by kernel_rfl
theorem info_lR (x y : Nm) : (Try.prog.info? 55).map (·.size) = some (lR x y).length := by rw [lR_length]; exact info_lpr
theorem zero_lpr (w : World) : (zeroValue 55).run Try.prog w = .ok (.agg lZ.toArray) w := I.zero_of (by kernel_rfl) w
theorem Kn.lng0 {w : World} {L : List (Nat × List Value)} (h : Kn w L) (i : Nat) {k : Nat} {x y : Nm} (hp : L[i]? = some (k, lR x y)) : w.rangeAt k 0 (c4 x) := (range_app (h.rng i hp)).1
theorem Kn.lng1 {w : World} {L : List (Nat × List Value)} (h : Kn w L) (i : Nat) {k : Nat} {x y : Nm} (hp : L[i]? = some (k, lR x y)) : w.rangeAt k 4 (c4 y) := (range_app (h.rng i hp)).2
theorem lpr_built (x y : Nm) : Try.prog.built 55 [(0, N x), (1, N y)] = some (lR x y).toArray := by kernel_rfl
theorem lpr_built1 (x : Nm) : Try.prog.built 55 [(0, N x)] = some (lR x ⟨0, 0, 0, 0⟩).toArray := by kernel_rfl
theorem quiet_buildL {ops : Array Oper} {C : World → Prop} {Q : Act → Prop} {o : Oper} {rest : List Oper} {a : Act} (hw : Region.wanted o (yielded ops a.tmps) = true) (T : TypeId) (x y : Operand) (ho : o.op = .build T #[(0, x), (1, y)]) (X Y : Value) (cs : List Value) (hx : a.eval x = X) (hy : a.eval y = Y) (hb : Try.prog.built T [(0, X), (1, Y)] = some cs.toArray)
    (h : wpQuiet Try.prog ops C Q rest (a.put o.dst (.agg cs.toArray))) : wpQuiet Try.prog ops C Q (o :: rest) a := by
  refine BigFrame.wpQuiet_want hw fun K hK => ⟨.agg cs.toArray, fun w _ => ?_, hK _ h⟩
  unfold Oper.quietAt
  have e1 : (Instr.build T ((#[(0, x), (1, y)] : Array (Nat × Operand)).map fun x => (x.fst, a.eval x.snd))).run Try.prog w = .ok (.agg cs.toArray) w := run_build w T _ _ (by simpa [hx, hy] using hb)
  have e : (execOp a.eval o).run Try.prog w = .ok (.value (.agg cs.toArray)) w := by
    simp only [execOp, ho, Sem.run_bind, e1, Result.andThen_ok, Sem.run_pure]
  rw [e]
  exact ⟨rfl, rfl⟩
theorem quiet_buildL1 {ops : Array Oper} {C : World → Prop} {Q : Act → Prop} {o : Oper} {rest : List Oper} {a : Act} (hw : Region.wanted o (yielded ops a.tmps) = true) (T : TypeId) (x : Operand) (ho : o.op = .build T #[(0, x)]) (X : Value) (cs : List Value) (hx : a.eval x = X) (hb : Try.prog.built T [(0, X)] = some cs.toArray)
    (h : wpQuiet Try.prog ops C Q rest (a.put o.dst (.agg cs.toArray))) : wpQuiet Try.prog ops C Q (o :: rest) a := by
  refine BigFrame.wpQuiet_want hw fun K hK => ⟨.agg cs.toArray, fun w _ => ?_, hK _ h⟩
  unfold Oper.quietAt
  have e1 : (Instr.build T ((#[(0, x)] : Array (Nat × Operand)).map fun x => (x.fst, a.eval x.snd))).run Try.prog w = .ok (.agg cs.toArray) w := run_build w T _ _ (by simpa [hx] using hb)
  have e : (execOp a.eval o).run Try.prog w = .ok (.value (.agg cs.toArray)) w := by
    simp only [execOp, ho, Sem.run_bind, e1, Result.andThen_ok, Sem.run_pure]
  rw [e]
  exact ⟨rfl, rfl⟩
end Go.Proofs.Ytjdamgfichlgpaa
