/- A byte of an array by its place, and a row of four made of constants, in a walk. -/
import Derived.Test.YtmfbdacalenfdaaGArr
namespace Go.Proofs.Ytmfbdacalenfdaa
open Go.RowKit
set_option linter.unusedSimpArgs false
theorem wp_idxB {t : TypeId} {n : Nat} {ops : Array Oper} {rest : List Oper} {o : Oper} {a : Act} {Q : Exit → Act → World → Prop} {w : World} (hgd : o.guard = none) (ht : Try.prog.underlying t = some (.array n 5)) (x i : Operand) (ho : o.op = .index t x i) (xs : List Nat) (hl : xs.length = n) (j : Nat) (k : IntKind) (hj : j < n) (hx : a.eval x = aB xs) (hi : a.eval i = .int k (j : Int)) (v : Nat) (hv : xs.getD j 0 = v)
    (hK : wpList Try.prog ops Q rest (a.put o.dst (b8 v)) w) : wpList Try.prog ops Q (o :: rest) a w := by
  subst hv
  refine wpList_plain hgd fun K hK2 => ?_
  have e : (execOp a.eval o).run Try.prog w = .ok (.value (b8 (xs.getD j 0))) w := by
    unfold execOp
    simp only [ho, hx, hi, run_idxB ht xs hl j hj, Sem.run_bind, Sem.run_pure, Result.andThen_ok]
  unfold Oper.wp
  rw [e]
  exact hK2 _ _ hK
theorem wp_build4 {ops : Array Oper} {rest : List Oper} {o : Oper} {a : Act} {Q : Exit → Act → World → Prop} {w : World} (hgd : o.guard = none) (x y z u : Nat) (ho : o.op = .build 25 #[(0, .const (.int .u8 (x : Int))), (1, .const (.int .u8 (y : Int))), (2, .const (.int .u8 (z : Int))), (3, .const (.int .u8 (u : Int)))]) (hb : Try.prog.built 25 [(0, b8 x), (1, b8 y), (2, b8 z), (3, b8 u)] = some #[b8 x, b8 y, b8 z, b8 u])
    (h : wpList Try.prog ops Q rest (a.put o.dst (.agg #[b8 x, b8 y, b8 z, b8 u])) w) : wpList Try.prog ops Q (o :: rest) a w := by
  refine wpList_plain hgd fun K hK => ?_
  have e : (Instr.build 25 ((#[(0, .const (.int .u8 (x : Int))), (1, .const (.int .u8 (y : Int))), (2, .const (.int .u8 (z : Int))), (3, .const (.int .u8 (u : Int)))] : Array (Nat × Operand)).map fun x => (x.fst, a.eval x.snd))).run Try.prog w = .ok (.agg #[b8 x, b8 y, b8 z, b8 u]) w := run_build w 25 _ _ (by simpa [Act.eval] using hb)
  unfold Oper.wp
  simp only [execOp, ho, Sem.run_bind, e, Result.andThen_ok, Sem.run_pure]
  exact hK _ _ h
theorem built4 (x y z u : Nat) : Try.prog.built 25 [(0, b8 x), (1, b8 y), (2, b8 z), (3, b8 u)] = some #[b8 x, b8 y, b8 z, b8 u] := by kernel_rfl
/-- A row of four made of bytes, in a drawn region. -/
theorem yieldsA_build4 {o : Oper} {a : Act} {w : World} {φ : Value → World → Prop} (x y z u : Operand) (ho : o.op = .build 25 #[(0, x), (1, y), (2, z), (3, u)]) (p q r s : Nat) (hx : a.eval x = b8 p) (hy : a.eval y = b8 q) (hz : a.eval z = b8 r) (hu : a.eval u = b8 s)
    (h : φ (aB [p, q, r, s]) w) : YieldsP Try.prog o a w φ := by
  have e : (execOp a.eval o).run Try.prog w = .ok (.value (aB [p, q, r, s])) w := by
    have e1 : (Instr.build 25 ((#[(0, x), (1, y), (2, z), (3, u)] : Array (Nat × Operand)).map fun x => (x.fst, a.eval x.snd))).run Try.prog w = .ok (.agg #[b8 p, b8 q, b8 r, b8 s]) w := run_build w 25 _ _ (by simpa [hx, hy, hz, hu] using built4 p q r s)
    unfold execOp
    simp only [ho, Sem.run_bind, e1, Result.andThen_ok, Sem.run_pure]
    rfl
  unfold YieldsP
  rw [e]
  exact ⟨h, Below.refl _ _⟩
end Go.Proofs.Ytmfbdacalenfdaa
