/- What a signature claims, as a row of twelve words. -/
import Derived.Test.YtfknkfninjjgbaaDoorQSgS
namespace Go.Proofs.YtfknkfninjjgbaaDoor
open Go.RowKit
set_option linter.unusedSimpArgs false
/-- A claim: how often Base is taken, and the point. -/
def cmR (s x y : Nm) : List Value := c4 s ++ c8 x y
abbrev cmV (s x y : Nm) : Value := .agg (cmR s x y).toArray
def cmZ : List Value := List.replicate 12 (.int .u64 0)
theorem cmR_length (s x y : Nm) : (cmR s x y).length = 12 := rfl
theorem cmZ_length : cmZ.length = 12 := rfl
theorem c8_one (x y : Nm) : ∀ v ∈ c8 x y, v.oneCell' = true := fun v hv => by
  simp only [c8, List.mem_cons, List.not_mem_nil, or_false] at hv
  rcases hv with rfl | rfl | rfl | rfl | rfl | rfl | rfl | rfl <;> rfl
theorem cmR_one (s x y : Nm) : ∀ v ∈ cmR s x y, v.oneCell' = true := fun v hv => by
  unfold cmR at hv
  rcases List.mem_append.1 hv with h | h
  · exact c4_one s v h
  · exact c8_one x y v h
theorem info_clm : (Tryd.prog.info? 59).map (·.size) = some 12 := by kernel_rfl
theorem info_cmR (s x y : Nm) : (Tryd.prog.info? 59).map (·.size) = some (cmR s x y).length := info_clm
theorem info_point8 : (Tryd.prog.info? 57).map (·.size) = some 8 := by kernel_rfl
theorem info_c8 (x y : Nm) : (Tryd.prog.info? 57).map (·.size) = some (c8 x y).length := info_point8
theorem zero_clm (w : World) : (zeroValue 59).run Tryd.prog w = .ok (.agg cmZ.toArray) w := I.zero_of (by kernel_rfl) w
theorem Kn.cng0 {w : World} {L : List (Nat × List Value)} (h : Kn w L) (i : Nat) {k : Nat} {s x y : Nm} (hp : L[i]? = some (k, cmR s x y)) : w.rangeAt k 0 (c4 s) := (range_app (h.rng i hp)).1
theorem Kn.cng1 {w : World} {L : List (Nat × List Value)} (h : Kn w L) (i : Nat) {k : Nat} {s x y : Nm} (hp : L[i]? = some (k, cmR s x y)) : w.rangeAt k 4 (c8 x y) := (range_app (h.rng i hp)).2
theorem clm_built (s x y : Nm) : Tryd.prog.built 59 [(0, N s), (1, Wv x y)] = some (cmR s x y).toArray := by kernel_rfl
theorem clm_zero : Tryd.prog.built 59 [] = some (cmR nO nO nO).toArray := by kernel_rfl
theorem run_build2 {T : TypeId} {x y : Operand} {a : Act} {u v : Value} {cs : List Value} (hx : a.eval x = u) (hy : a.eval y = v) (hb : Tryd.prog.built T [(0, u), (1, v)] = some cs.toArray) (w : World) : (Instr.build T ((#[(0, x), (1, y)] : Array (Nat × Operand)).map fun x => (x.fst, a.eval x.snd))).run Tryd.prog w = .ok (.agg cs.toArray) w :=
  run_build w T _ _ (by simpa [hx, hy] using hb)
theorem quiet_build2 {ops : Array Oper} {C : World → Prop} {Q : Act → Prop} {o : Oper} {rest : List Oper} {a : Act} (hw : Region.wanted o (yielded ops a.tmps) = true) (T : TypeId) (x y : Operand) (ho : o.op = .build T #[(0, x), (1, y)]) (u v : Value) (cs : List Value) (hx : a.eval x = u) (hy : a.eval y = v) (hb : Tryd.prog.built T [(0, u), (1, v)] = some cs.toArray)
    (h : wpQuiet Tryd.prog ops C Q rest (a.put o.dst (.agg cs.toArray))) : wpQuiet Tryd.prog ops C Q (o :: rest) a := by
  refine BigFrame.wpQuiet_want hw fun K hK => ⟨.agg cs.toArray, fun w _ => ?_, hK _ h⟩
  unfold Oper.quietAt
  have e1 := run_build2 hx hy hb w
  have e : (execOp a.eval o).run Tryd.prog w = .ok (.value (.agg cs.toArray)) w := by
    simp only [execOp, ho, Sem.run_bind, e1, Result.andThen_ok, Sem.run_pure]
  rw [e]
  exact ⟨rfl, rfl⟩
end Go.Proofs.YtfknkfninjjgbaaDoor
