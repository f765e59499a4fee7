/- Texts that were joined: Yc, Yo. -/
import Derived.Test.YtepaapiflkkghaaQUpMToUpMG
import Derived.Test.YtepaapiflkkghaaQNumToKn
import Derived.Test.YtepaapiflkkghaaRows
import Derived.Deep.MidRow
/- A call among the operations of a drawn region, its operands told by their values: the frame is not looked at. -/
namespace Go.Proofs.Ytepaapiflkkghaa
open Go.RowKit
set_option linter.unusedSimpArgs false
theorem cf_is {F : Nat} {fn : Func} (h : Try.prog.funcs[F]? = some fn) (hn : (fn.name == "runtime.NumGoroutine") = false) (hb : fn.body.isNone = false) (args : Array Value) (W : World) : (callFunc F args).run Try.prog W = .ok (.enter F args) W := by
  have hn' : ¬ fn.name = "runtime.NumGoroutine" := by simpa using hn
  have hb' : ¬ fn.body = none := fun h => by rw [h] at hb; cases hb
  simp [callFunc, h, hn', hb']
theorem yields_call1 {o : Oper} {a : Act} {w : World} {φ : Value → World → Prop} {F : Nat} (cf : ∀ (args : Array Value) (W : World), (callFunc F args).run Try.prog W = .ok (.enter F args) W) (x : Operand) (tys : Array TypeId) (ho : o.op = .call { callee := .value (.func F), args := #[x], argTypes := tys }) (v : Value) (hx : a.eval x = v)
    (h : Calls Try.prog F #[v] w fun e w' => ∃ u, e = .returned u ∧ φ u w' ∧ Below w.heap.size w w') : YieldsP Try.prog o a w φ := by
  have hF : a.eval (.func F) = .func (.func F) #[] #[] := rfl
  have e : (execOp a.eval o).run Try.prog w = .ok (.enter F #[v]) w := by
    generalize a.eval = ev at *
    unfold execOp
    simp [ho, hx, hF, go_sem, cf]
  unfold YieldsP
  rw [e]
  exact h
theorem yields_call2 {o : Oper} {a : Act} {w : World} {φ : Value → World → Prop} {F : Nat} (cf : ∀ (args : Array Value) (W : World), (callFunc F args).run Try.prog W = .ok (.enter F args) W) (x y : Operand) (tys : Array TypeId) (ho : o.op = .call { callee := .value (.func F), args := #[x, y], argTypes := tys }) (v u : Value) (hx : a.eval x = v) (hy : a.eval y = u)
    (h : Calls Try.prog F #[v, u] w fun e w' => ∃ u, e = .returned u ∧ φ u w' ∧ Below w.heap.size w w') : YieldsP Try.prog o a w φ := by
  have hF : a.eval (.func F) = .func (.func F) #[] #[] := rfl
  have e : (execOp a.eval o).run Try.prog w = .ok (.enter F #[v, u]) w := by
    generalize a.eval = ev at *
    unfold execOp
    simp [ho, hx, hy, hF, go_sem, cf]
  unfold YieldsP
  rw [e]
  exact h
end Go.Proofs.Ytepaapiflkkghaa

/- Small operations among those of a drawn region, their operands told by their values: the frame is not looked at. -/
namespace Go.Proofs.Ytepaapiflkkghaa
open Go.RowKit
set_option linter.unusedSimpArgs false
theorem yields_run {o : Oper} {a : Act} {w : World} {v : Value} (e : (execOp a.eval o).run Try.prog w = .ok (.value v) w) : YieldsP Try.prog o a w (MP.eq v).p := by
  unfold YieldsP
  rw [e]
  exact ⟨rfl, Below.refl _ _⟩
theorem yields_ldR {o : Oper} {a : Act} {w : World} (ty : TypeId) (x : Operand) (ho : o.op = .load ty x) (b f : Nat) (hx : a.eval x = .pointer (some ⟨b, f, none⟩)) (cs : List Value) (d : TypeDesc) (hc : w.rangeAt b f cs) (hu : Try.prog.underlying ty = some d) (hd : d.isRow = true) (hi : (Try.prog.info? ty).map (·.size) = some cs.length) : YieldsP Try.prog o a w (MP.eq (.agg cs.toArray)).p :=
  yields_run (by
    unfold execOp
    simp only [ho, hx, Instr.loadAt, Instr.sureAddr, Sem.run_bind, Sem.run_pure, Result.andThen_ok, run_loadVar_mid w b f ty cs d hc hu hd hi])
end Go.Proofs.Ytepaapiflkkghaa
