/- Texts that were joined: UpG, UpQ, UpW, UpZe. -/
import Derived.Test.YtdcpicbkemmakaaDoorQUpToHMix
import Derived.Test.YtdcpicbkemmakaaDoorQUpMToUpS
import Derived.OrdersHeld
import Derived.Test.YtdcpicbkemmakaaDoorQKnToDNum
import Derived.Test.YtdcpicbkemmakaaDoorQFMathToOfB
import Derived.Test.YtdcpicbkemmakaaDoorQGArrToShD
/- A drawn region in which some operations may be taken first (they yield their value in every world, and each other one waits for them or is apart from them), and the others then come one by one. Over any program. -/
namespace Go.Proofs.YtdcpicbkemmakaaDoor
open Go.RowKit
section
variable {P : Program} {ops : Array Oper} {Q : Exit → Act → World → Prop}
end
end Go.Proofs.YtdcpicbkemmakaaDoor

/- A drawn region: some operations are taken first (they yield their value in every world that keeps a condition), the others come one by one, and each keeps the condition. Over any program. -/
namespace Go.Proofs.YtdcpicbkemmakaaDoor
open Go.RowKit
section
variable {P : Program} {ops : Array Oper} {Q : Exit → Act → World → Prop} {S : World → Prop}
/-- Another end, of the normal way alone. -/
def upN (Q : Exit → Act → World → Prop) (K : Act → World → Prop) : Exit → Act → World → Prop
  | .normal, a, w => K a w
  | e, a, w => Q e a w
/-- Operations one by one, each keeping the condition. -/
def PathH (P : Program) (ops : Array Oper) (Q : Exit → Act → World → Prop) (S : World → Prop) : List Oper → Act → World → Prop
  | [], a, w => Q .normal a w
  | o :: r, a, w => wpList P ops (upN Q fun a' w' => S w' ∧ PathH P ops Q S r a' w') [o] a w
theorem wpOp_of_list {i : Nat} {o : Oper} {a : Act} {w : World} {K : Act → World → Prop} (hi : ops[i]? = some o) (h : wpList P ops (upN Q K) [o] a w) : wpOp P ops Q i K a w := by
  unfold wpOp
  simp only [hi]
  unfold wpList at h
  split
  · rename_i hw
    rw [if_pos hw] at h
    rcases h with h | ⟨h1, h2⟩
    · refine .inl ?_
      unfold Oper.wp at h ⊢
      generalize (execOp a.eval o).run P w = r at *
      cases r with
      | ok n w' =>
        cases n <;> simp only [Oper.upon] at h ⊢
        case value v => exact h
        case skip => exact h
        case defer d => exact h
        case enter f args =>
          refine Calls.mono h fun e w'' he => ?_
          cases e with
          | returned u => exact he
          | panicked c => exact he
          | outgrown => exact he
        case row row args => exact h
      | halt x w' => cases x <;> simp only [Oper.upon] at h ⊢ <;> exact h
    · exact .inr ⟨h1, h2⟩
  · rename_i hw
    rw [if_neg hw] at h
    exact h
theorem PathH.step {o : Oper} {r : List Oper} {a : Act} {w : World} {φ : Value → World → Prop} (hw : Region.wanted o (yielded ops a.tmps) = true) (h : YieldsP P o a w φ) (hk : ∀ v w', φ v w' → Below w.heap.size w w' → S w' ∧ PathH P ops Q S r (a.put o.dst v) w') : PathH P ops Q S (o :: r) a w := by
  show wpList P ops _ [o] a w
  unfold wpList
  rw [if_pos hw]
  exact .inl (YieldsP.wp h fun v w' hv hb => hk v w' hv hb)
end
end Go.Proofs.YtdcpicbkemmakaaDoor

/- A drawn region walked along its orders: one operation after another, each out of those that may come up. Over any program. -/
namespace Go.Proofs.YtdcpicbkemmakaaDoor
open Go.RowKit
section
variable {P : Program} {ops : Array Oper} {Q : Exit → Act → World → Prop} {S : World → Prop} {fuel : Nat} {listed : Array Bool} {a : Act} {w : World}
theorem wanted_none {o : Oper} {y : Array Value} (h : o.guard = none) : Region.wanted o (yielded ops y) = true := by simp [Region.wanted, h]
/-- An operation that yields a value with a property. -/
theorem anyH_y {i : Nat} {o : Oper} {φ : Value → World → Prop} (ho : ops[i]? = some o) (hw : Region.wanted o (yielded ops a.tmps) = true) (h : YieldsP P o a w φ) (hk : ∀ v w', φ v w' → Below w.heap.size w w' → S w' ∧ wpAnyH P .any ops Q S fuel (listed.setIfInBounds i true) (a.put o.dst v) w') : wpOp P ops Q i (fun a' w' => S w' ∧ wpAnyH P .any ops Q S fuel (listed.setIfInBounds i true) a' w') a w :=
  wpOp_of_list ho (by
    unfold wpList
    rw [if_pos hw]
    exact .inl (YieldsP.wp h fun v w' hv hb => hk v w' hv hb))
/-- An operation by a walk's law. -/
theorem anyH_l {i : Nat} {o : Oper} (ho : ops[i]? = some o) (h : wpList P ops (upN Q fun a' w' => S w' ∧ wpAnyH P .any ops Q S fuel (listed.setIfInBounds i true) a' w') [o] a w) : wpOp P ops Q i (fun a' w' => S w' ∧ wpAnyH P .any ops Q S fuel (listed.setIfInBounds i true) a' w') a w := wpOp_of_list ho h
theorem anyH_end {K : Act → World → Prop} (h : K a w) : wpList P ops (upN Q K) [] a w := h
theorem anyH_one {i : Nat} (hr : Region.ready .any ops listed = [i]) (h : wpOp P ops Q i (fun a' w' => S w' ∧ wpAnyH P .any ops Q S fuel (listed.setIfInBounds i true) a' w') a w) : wpAnyH P .any ops Q S (fuel + 1) listed a w :=
  wpAnyH_all hr (by simp) fun j hj => by
    obtain rfl : j = i := by simpa using hj
    exact h
theorem anyH_two {i k : Nat} (hr : Region.ready .any ops listed = [i, k]) (h : wpOp P ops Q i (fun a' w' => S w' ∧ wpAnyH P .any ops Q S fuel (listed.setIfInBounds i true) a' w') a w) (h2 : wpOp P ops Q k (fun a' w' => S w' ∧ wpAnyH P .any ops Q S fuel (listed.setIfInBounds k true) a' w') a w) : wpAnyH P .any ops Q S (fuel + 1) listed a w :=
  wpAnyH_all hr (by simp) fun j hj => by
    have hj : j = i ∨ j = k := by simpa using hj
    rcases hj with rfl | rfl
    · exact h
    · exact h2
end
end Go.Proofs.YtdcpicbkemmakaaDoor

/- Single operations by their values; a call within a walk along orders. -/
namespace Go.Proofs.YtdcpicbkemmakaaDoor
open Go.RowKit
set_option linter.unusedSimpArgs false
theorem exec_exM {o : Oper} {a : Act} {v : Value} {vs : Array Value} (x : Operand) (i : Nat) (ho : o.op = .extract x i) (hx : a.eval x = .tuple vs) (hv : vs[i]? = some v) (W : World) : (execOp a.eval o).run Tryd.prog W = .ok (.value v) W := by
  generalize a.eval = ev at *
  unfold execOp
  simp [ho, hx, hv, go_sem]
theorem one_c4M (x : Nm) : ∀ v ∈ c4 x, v.oneCell' = true := fun v hv => by
  simp only [c4, List.mem_cons, List.not_mem_nil, or_false] at hv
  rcases hv with rfl | rfl | rfl | rfl <;> rfl
/-- A call by its contract, whatever world it leaves. -/
theorem anyH_call2 {ops : Array Oper} {Q : Exit → Act → World → Prop} {S : World → Prop} {fuel : Nat} {listed : Array Bool} {a : Act} {w : World} {i F : Nat} {o : Oper} (cf : ∀ (args : Array Value) (W : World), (callFunc F args).run Tryd.prog W = .ok (.enter F args) W) (hi : ops[i]? = some o) (hw : Region.wanted o (yielded ops a.tmps) = true) (x y : Operand) (tys : Array TypeId) (ho : o.op = .call { callee := .value (.func F), args := #[x, y], argTypes := tys }) (v u : Value) (hx : a.eval x = v) (hy : a.eval y = u)
    (h : Calls Tryd.prog F #[v, u] w fun e w' => ∃ z, e = .returned z ∧ S w' ∧ wpAnyH Tryd.prog .any ops Q S fuel (listed.setIfInBounds i true) (a.put o.dst z) w') : wpOp Tryd.prog ops Q i (fun a' w' => S w' ∧ wpAnyH Tryd.prog .any ops Q S fuel (listed.setIfInBounds i true) a' w') a w := by
  have hF : a.eval (.func F) = .func (.func F) #[] #[] := rfl
  have e : (execOp a.eval o).run Tryd.prog w = .ok (.enter F #[v, u]) w := by
    generalize a.eval = ev at *
    unfold execOp
    simp [ho, hx, hy, hF, go_sem, cf]
  unfold wpOp
  simp only [hi]
  rw [if_pos hw]
  refine .inl ?_
  unfold Oper.wp
  rw [e]
  simp only [Oper.upon]
  refine Calls.mono h fun e w' he => ?_
  obtain ⟨z, rfl, he⟩ := he
  exact he
end Go.Proofs.YtdcpicbkemmakaaDoor
