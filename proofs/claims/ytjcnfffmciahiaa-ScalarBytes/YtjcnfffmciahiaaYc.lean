/- A call among the operations of a drawn region, its operands told by their values: the frame is not looked at. -/
import Derived.Test.YtjcnfffmciahiaaUpM
import Derived.Test.YtjcnfffmciahiaaNum
import Derived.Test.YtjcnfffmciahiaaRows
namespace Go.Proofs.Ytjcnfffmciahiaa
open Go.RowKit
set_option linter.unusedSimpArgs false
theorem cf_is {F : Nat} {fn : Func} (h : Try.prog.funcs[F]? = some fn) (hn : (fn.name == "runtime.NumGoroutine") = false) (hb : fn.body.isNone = false) (args : Array Value) (W : World) : (callFunc F args).run Try.prog W = .ok (.enter F args) W := by
  have hn' : ¬ fn.name = "runtime.NumGoroutine" := by simpa using hn
  have hb' : ¬ fn.body = none := fun h => by rw [h] at hb; cases hb
  simp [callFunc, h, hn', hb']
theorem yields_call0 {o : Oper} {a : Act} {w : World} {φ : Value → World → Prop} {F : Nat} (cf : ∀ (args : Array Value) (W : World), (callFunc F args).run Try.prog W = .ok (.enter F args) W) (tys : Array TypeId) (ho : o.op = .call { callee := .value (.func F), args := #[], argTypes := tys })
    (h : Calls Try.prog F #[] w fun e w' => ∃ u, e = .returned u ∧ φ u w' ∧ Below w.heap.size w w') : YieldsP Try.prog o a w φ := by
  have hF : a.eval (.func F) = .func (.func F) #[] #[] := rfl
  have e : (execOp a.eval o).run Try.prog w = .ok (.enter F #[]) w := by
    generalize a.eval = ev at *
    unfold execOp
    simp [ho, hF, go_sem, cf]
  unfold YieldsP
  rw [e]
  exact h
theorem yields_call1 {o : Oper} {a : Act} {w : World} {φ : Value → World → Prop} {F : Nat} (cf : ∀ (args : Array Value) (W : World), (callFunc F args).run Try.prog W = .ok (.enter F args) W) (x : Operand) (tys : Array TypeId) (ho : o.op = .call { callee := .value (.func F), args := #[x], argTypes := tys }) (v : Value) (hx : a.eval x = v)
    (h : Calls Try.prog F #[v] w fun e w' => ∃ u, e = .returned u ∧ φ u w' ∧ Below w.heap.size w w') : YieldsP Try.prog o a w φ := by
  have hF : a.eval (.func F) = .func (.func F) #[] #[] := rfl
  have e : (execOp a.eval o).run Try.prog w = .ok (.enter F #[v]) w := by
    generalize a.eval = ev at *
    unfold execOp
    simp [ho, hx, hF, go_sem, cf]
  unfold YieldsP
  rw [e]
  exact h
theorem yields_call2 {o : Oper} {a : Act} {w : World} {φ : Value → World → Prop} {F : Nat} (cf : ∀ (args : Array Value) (W : World), (callFunc F args).run Try.prog W = .ok (.enter F args) W) (x y : Operand) (tys : Array TypeId) (ho : o.op = .call { callee := .value (.func F), args := #[x, y], argTypes := tys }) (v u : Value) (hx : a.eval x = v) (hy : a.eval y = u)
    (h : Calls Try.prog F #[v, u] w fun e w' => ∃ u, e = .returned u ∧ φ u w' ∧ Below w.heap.size w w') : YieldsP Try.prog o a w φ := by
  have hF : a.eval (.func F) = .func (.func F) #[] #[] := rfl
  have e : (execOp a.eval o).run Try.prog w = .ok (.enter F #[v, u]) w := by
    generalize a.eval = ev at *
    unfold execOp
    simp [ho, hx, hy, hF, go_sem, cf]
  unfold YieldsP
  rw [e]
  exact h
theorem yields_call3 {o : Oper} {a : Act} {w : World} {φ : Value → World → Prop} {F : Nat} (cf : ∀ (args : Array Value) (W : World), (callFunc F args).run Try.prog W = .ok (.enter F args) W) (x y z : Operand) (tys : Array TypeId) (ho : o.op = .call { callee := .value (.func F), args := #[x, y, z], argTypes := tys }) (v u t : Value) (hx : a.eval x = v) (hy : a.eval y = u) (hz : a.eval z = t)
    (h : Calls Try.prog F #[v, u, t] w fun e w' => ∃ u, e = .returned u ∧ φ u w' ∧ Below w.heap.size w w') : YieldsP Try.prog o a w φ := by
  have hF : a.eval (.func F) = .func (.func F) #[] #[] := rfl
  have e : (execOp a.eval o).run Try.prog w = .ok (.enter F #[v, u, t]) w := by
    generalize a.eval = ev at *
    unfold execOp
    simp [ho, hx, hy, hz, hF, go_sem, cf]
  unfold YieldsP
  rw [e]
  exact h
end Go.Proofs.Ytjcnfffmciahiaa
