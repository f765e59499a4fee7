/- Small operations among those of a drawn region, their operands told by their values: the frame is not looked at. -/
import Derived.Test.YtfknkfninjjgbabDoorQLenToSgF
import Derived.Deep.MidRow
namespace Go.Proofs.YtfknkfninjjgbabDoor
open Go.RowKit
set_option linter.unusedSimpArgs false
theorem yields_run {o : Oper} {a : Act} {w : World} {v : Value} (e : (execOp a.eval o).run Tryd.prog w = .ok (.value v) w) : YieldsP Tryd.prog o a w (MP.eq v).p := by
  unfold YieldsP
  rw [e]
  exact ⟨rfl, Below.refl _ _⟩
theorem yields_ldR {o : Oper} {a : Act} {w : World} (ty : TypeId) (x : Operand) (ho : o.op = .load ty x) (b f : Nat) (hx : a.eval x = .pointer (some ⟨b, f, none⟩)) (cs : List Value) (d : TypeDesc) (hc : w.rangeAt b f cs) (hu : Tryd.prog.underlying ty = some d) (hd : d.isRow = true) (hi : (Tryd.prog.info? ty).map (·.size) = some cs.length) : YieldsP Tryd.prog o a w (MP.eq (.agg cs.toArray)).p :=
  yields_run (by
    unfold execOp
    simp only [ho, hx, Instr.loadAt, Instr.sureAddr, Sem.run_bind, Sem.run_pure, Result.andThen_ok, run_loadVar_mid w b f ty cs d hc hu hd hi])
theorem yields_binI {o : Oper} {a : Act} {w : World} {p : BinOp} {t u : TypeId} (x y : Operand) (ho : o.op = .binOp p t x y u) {k l : IntKind} {m n : Int} {v : Value} (hx : a.eval x = .int k m) (hy : a.eval y = .int l n) (hr : ∀ w, (binOp p t (.int k m) (.int l n)).run Tryd.prog w = .ok v w) : YieldsP Tryd.prog o a w (MP.eq v).p :=
  yields_run (by
    have e1 : (eqGuard p t x y (.int k m) (.int l n)).run Tryd.prog w = .ok () w := by
      cases p <;> simp [eqGuard]
    generalize a.eval = ev at *
    unfold execOp
    simp [ho, hx, hy, e1, hr])
theorem yields_binA {o : Oper} {a : Act} {w : World} {p : BinOp} {t u : TypeId} (x y : Operand) (ho : o.op = .binOp p t x y u) {c d : Array Value} {v : Value} (hx : a.eval x = .agg c) (hy : a.eval y = .agg d) (hg : Tryd.prog.eqGuardType Tryd.prog.depth t = false) (hr : ∀ w, (binOp p t (.agg c) (.agg d)).run Tryd.prog w = .ok v w) : YieldsP Tryd.prog o a w (MP.eq v).p :=
  yields_run (by
    have e1 : (eqGuard p t x y (.agg c) (.agg d)).run Tryd.prog w = .ok () w := by
      cases p <;> simp [eqGuard, hg]
    generalize a.eval = ev at *
    unfold execOp
    simp [ho, hx, hy, e1, hr])
theorem yields_pickT {o : Oper} {a : Act} {w : World} (c x y : Operand) (ho : o.op = .pick c x y) {v : Value} (hc : a.eval c = .bool true) (hx : a.eval x = v) : YieldsP Tryd.prog o a w (MP.eq v).p :=
  yields_run (by
    generalize a.eval = ev at *
    unfold execOp
    simp [ho, hc, hx, go_sem])
theorem yields_pickF {o : Oper} {a : Act} {w : World} (c x y : Operand) (ho : o.op = .pick c x y) {v : Value} (hc : a.eval c = .bool false) (hy : a.eval y = v) : YieldsP Tryd.prog o a w (MP.eq v).p :=
  yields_run (by
    generalize a.eval = ev at *
    unfold execOp
    simp [ho, hc, hy, go_sem])
theorem yields_len {o : Oper} {a : Act} {w : World} (x : Operand) (ho : o.op = .call { callee := .builtin .len, args := #[x], argTypes := #[23] }) {p : Option Addr} {n c : Nat} (hx : a.eval x = .slice p n c) : YieldsP Tryd.prog o a w (MP.eq (.int .i64 n)).p :=
  yields_run (by
    generalize a.eval = ev at *
    unfold execOp
    simp [ho, hx, go_sem])
theorem yields_b0 {o : Oper} {a : Act} {w : World} {t : TypeId} {cs : Array Value} (ho : o.op = .build t #[]) (hb : Tryd.prog.built t [] = some cs) : YieldsP Tryd.prog o a w (MP.eq (.agg cs)).p :=
  yields_run (by
    have e1 : (Instr.build t ((#[] : Array (Nat × Operand)).map fun x => (x.fst, a.eval x.snd))).run Tryd.prog w = .ok (.agg cs) w := run_build w t _ _ (by simpa using hb)
    simp only [execOp, ho, Sem.run_bind, e1, Result.andThen_ok, Sem.run_pure])
theorem yields_as {o : Oper} {a : Act} {w : World} {v : Value} (x : Operand) (ho : o.op = .assign x) (hx : a.eval x = v) : YieldsP Tryd.prog o a w (MP.eq v).p :=
  yields_run (by
    generalize a.eval = ev at *
    unfold execOp
    simp [ho, hx, go_sem])
end Go.Proofs.YtfknkfninjjgbabDoor
