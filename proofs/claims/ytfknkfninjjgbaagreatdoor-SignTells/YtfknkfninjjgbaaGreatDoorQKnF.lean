/- Fractions of package curve among the known blocks: rows of sixteen words that are never opened. -/
import Derived.Test.YtfknkfninjjgbaaGreatDoorQUpVToKnO
namespace Go.Proofs.YtfknkfninjjgbaaGreatDoor
open Go.RowKit
set_option linter.unusedSimpArgs false
/-- x, y, x*y, z. -/
def qR (x y v z : Nm) : List Value := c4 x ++ (c4 y ++ (c4 v ++ c4 z))
abbrev qV (x y v z : Nm) : Value := .agg (qR x y v z).toArray
def qZ : List Value := List.replicate 16 (.int .u64 0)
theorem qR_length (x y v z : Nm) : (qR x y v z).length = 16 := rfl
theorem qZ_length : qZ.length = 16 := by simp [qZ]
theorem zz4_length : zz4.length = 4 := rfl
theorem c4_length (x : Nm) : (c4 x).length = 4 := rfl
theorem c4_one (x : Nm) : ∀ v ∈ c4 x, v.oneCell' = true := fun v hv => by
 simp only [c4, List.mem_cons, List.not_mem_nil, or_false] at hv
 rcases hv with rfl | rfl | rfl | rfl <;> rfl
theorem qR_one (x y v z : Nm) : ∀ u ∈ qR x y v z, u.oneCell' = true := fun u hu => by
 unfold qR at hu
 rcases List.mem_append.1 hu with h | h
 ·exact c4_one _ u h
 ·rcases List.mem_append.1 h with h | h
  ·exact c4_one _ u h
  ·rcases List.mem_append.1 h with h | h
   ·exact c4_one _ u h
   ·exact c4_one _ u h
theorem info_fra : (Tryz.prog.info? 147).map (·.size) = some 16 := by kernel_rfl
theorem info_qR (x y v z : Nm) : (Tryz.prog.info? 147).map (·.size) = some (qR x y v z).length := by rw [qR_length]; exact info_fra
theorem info_num4 : (Tryz.prog.info? 26).map (·.size) = some 4 := by kernel_rfl
theorem info_c4 (x : Nm) : (Tryz.prog.info? 26).map (·.size) = some (c4 x).length := info_num4
theorem zero_fra (w : World) : (zeroValue 147).run Tryz.prog w = .ok (.agg qZ.toArray) w := I.zero_of (by kernel_rfl) w
theorem Kn.qng0 {w : World} {L : List (Nat × List Value)} (h : Kn w L) (i : Nat) {k : Nat} {x y v z : Nm} (hp : L[i]? = some (k, qR x y v z)) : w.rangeAt k 0 (c4 x) := (range_app (h.rng i hp)).1
theorem Kn.qng1 {w : World} {L : List (Nat × List Value)} (h : Kn w L) (i : Nat) {k : Nat} {x y v z : Nm} (hp : L[i]? = some (k, qR x y v z)) : w.rangeAt k 4 (c4 y) := (range_app (range_app (h.rng i hp)).2).1
theorem Kn.qng2 {w : World} {L : List (Nat × List Value)} (h : Kn w L) (i : Nat) {k : Nat} {x y v z : Nm} (hp : L[i]? = some (k, qR x y v z)) : w.rangeAt k 8 (c4 v) := (range_app (range_app (range_app (h.rng i hp)).2).2).1
theorem Kn.qng3 {w : World} {L : List (Nat × List Value)} (h : Kn w L) (i : Nat) {k : Nat} {x y v z : Nm} (hp : L[i]? = some (k, qR x y v z)) : w.rangeAt k 12 (c4 z) := (range_app (range_app (range_app (h.rng i hp)).2).2).2
theorem fra_built (x y v z : Nm) : Tryz.prog.built 147 [(0, N x), (1, N y), (2, N v), (3, N z)] = some (qR x y v z).toArray := by kernel_rfl
theorem run_buildF {T : TypeId} {x y v z : Operand} {a : Act} {X Y V U : Value} {cs : List Value} (hx : a.eval x = X) (hy : a.eval y = Y) (hv : a.eval v = V) (hz : a.eval z = U) (hb : Tryz.prog.built T [(0, X), (1, Y), (2, V), (3, U)] = some cs.toArray) (w : World) : (Instr.build T ((#[(0, x), (1, y), (2, v), (3, z)] : Array (Nat × Operand)).map fun x => (x.fst, a.eval x.snd))).run Tryz.prog w = .ok (.agg cs.toArray) w :=
 run_build w T _ _ (by simpa [hx, hy, hv, hz] using hb)
theorem quiet_buildF {ops : Array Oper} {C : World → Prop} {Q : Act → Prop} {o : Oper} {rest : List Oper} {a : Act} (hw : Region.wanted o (yielded ops a.tmps) = true) (T : TypeId) (x y v z : Operand) (ho : o.op = .build T #[(0, x), (1, y), (2, v), (3, z)]) (X Y V U : Value) (cs : List Value) (hx : a.eval x = X) (hy : a.eval y = Y) (hv : a.eval v = V) (hz : a.eval z = U) (hb : Tryz.prog.built T [(0, X), (1, Y), (2, V), (3, U)] = some cs.toArray)
  (h : wpQuiet Tryz.prog ops C Q rest (a.put o.dst (.agg cs.toArray))) : wpQuiet Tryz.prog ops C Q (o :: rest) a := by
 refine BigFrame.wpQuiet_want hw fun K hK => ⟨.agg cs.toArray, fun w _ => ?_, hK _ h⟩
 unfold Oper.quietAt
 have e1 := run_buildF hx hy hv hz hb w
 have e : (execOp a.eval o).run Tryz.prog w = .ok (.value (.agg cs.toArray)) w := by
  simp only [execOp, ho, Sem.run_bind, e1, Result.andThen_ok, Sem.run_pure]
 rw [e]
 exact ⟨rfl, rfl⟩
end Go.Proofs.YtfknkfninjjgbaaGreatDoor
