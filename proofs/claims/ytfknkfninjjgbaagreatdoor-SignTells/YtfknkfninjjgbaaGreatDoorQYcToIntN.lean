/- Texts that were joined: Yc, Yo, IntN. -/
import Derived.Test.YtfknkfninjjgbaaGreatDoorQUpToUpS
import Derived.Test.YtfknkfninjjgbaaGreatDoorQNumToDigO
import Derived.Test.YtfknkfninjjgbaaGreatDoorRows
import Derived.Deep.MidRow
/- A call among the operations of a drawn region, its operands told by their values: the frame is not looked at. -/
namespace Go.Proofs.YtfknkfninjjgbaaGreatDoor
open Go.RowKit
set_option linter.unusedSimpArgs false
theorem cf_is {F : Nat} {fn : Func} (h : Tryz.prog.funcs[F]? = some fn) (hn : (fn.name == "runtime.NumGoroutine") = false) (hb : fn.body.isNone = false) (args : Array Value) (W : World) : (callFunc F args).run Tryz.prog W = .ok (.enter F args) W := by
 have hn' : ¬ fn.name = "runtime.NumGoroutine" := by simpa using hn
 have hb' : ¬ fn.body = none := fun h => by rw [h] at hb; cases hb
 simp [callFunc, h, hn', hb']
theorem yields_call0 {o : Oper} {a : Act} {w : World} {φ : Value → World → Prop} {F : Nat} (cf : ∀ (args : Array Value) (W : World), (callFunc F args).run Tryz.prog W = .ok (.enter F args) W) (tys : Array TypeId) (ho : o.op = .call { callee := .value (.func F), args := #[], argTypes := tys })
  (h : Calls Tryz.prog F #[] w fun e w' => ∃ u, e = .returned u ∧ φ u w' ∧ Below w.heap.size w w') : YieldsP Tryz.prog o a w φ := by
 have hF : a.eval (.func F) = .func (.func F) #[] #[] := rfl
 have e : (execOp a.eval o).run Tryz.prog w = .ok (.enter F #[]) w := by
  generalize a.eval = ev at *
  unfold execOp
  simp [ho, hF, go_sem, cf]
 unfold YieldsP
 rw [e]
 exact h
theorem yields_call1 {o : Oper} {a : Act} {w : World} {φ : Value → World → Prop} {F : Nat} (cf : ∀ (args : Array Value) (W : World), (callFunc F args).run Tryz.prog W = .ok (.enter F args) W) (x : Operand) (tys : Array TypeId) (ho : o.op = .call { callee := .value (.func F), args := #[x], argTypes := tys }) (v : Value) (hx : a.eval x = v)
  (h : Calls Tryz.prog F #[v] w fun e w' => ∃ u, e = .returned u ∧ φ u w' ∧ Below w.heap.size w w') : YieldsP Tryz.prog o a w φ := by
 have hF : a.eval (.func F) = .func (.func F) #[] #[] := rfl
 have e : (execOp a.eval o).run Tryz.prog w = .ok (.enter F #[v]) w := by
  generalize a.eval = ev at *
  unfold execOp
  simp [ho, hx, hF, go_sem, cf]
 unfold YieldsP
 rw [e]
 exact h
theorem yields_call2 {o : Oper} {a : Act} {w : World} {φ : Value → World → Prop} {F : Nat} (cf : ∀ (args : Array Value) (W : World), (callFunc F args).run Tryz.prog W = .ok (.enter F args) W) (x y : Operand) (tys : Array TypeId) (ho : o.op = .call { callee := .value (.func F), args := #[x, y], argTypes := tys }) (v u : Value) (hx : a.eval x = v) (hy : a.eval y = u)
  (h : Calls Tryz.prog F #[v, u] w fun e w' => ∃ u, e = .returned u ∧ φ u w' ∧ Below w.heap.size w w') : YieldsP Tryz.prog o a w φ := by
 have hF : a.eval (.func F) = .func (.func F) #[] #[] := rfl
 have e : (execOp a.eval o).run Tryz.prog w = .ok (.enter F #[v, u]) w := by
  generalize a.eval = ev at *
  unfold execOp
  simp [ho, hx, hy, hF, go_sem, cf]
 unfold YieldsP
 rw [e]
 exact h
theorem yields_mv {o : Oper} {a : Act} {w : World} {v : Value} (x : Operand) (ho : o.op = .move x) (hx : a.eval x = v) : YieldsP Tryz.prog o a w (MP.eq v).p := by
 have e : (execOp a.eval o).run Tryz.prog w = .ok (.value v) w := by
  generalize a.eval = ev at *
  unfold execOp
  simp [ho, hx, go_sem]
 unfold YieldsP
 rw [e]
 exact ⟨rfl, Below.refl _ _⟩
end Go.Proofs.YtfknkfninjjgbaaGreatDoor

/- Small operations among those of a drawn region, their operands told by their values: the frame is not looked at. -/
namespace Go.Proofs.YtfknkfninjjgbaaGreatDoor
open Go.RowKit
set_option linter.unusedSimpArgs false
theorem yields_run {o : Oper} {a : Act} {w : World} {v : Value} (e : (execOp a.eval o).run Tryz.prog w = .ok (.value v) w) : YieldsP Tryz.prog o a w (MP.eq v).p := by
 unfold YieldsP
 rw [e]
 exact ⟨rfl, Below.refl _ _⟩
theorem yields_ldR {o : Oper} {a : Act} {w : World} (ty : TypeId) (x : Operand) (ho : o.op = .load ty x) (b f : Nat) (hx : a.eval x = .pointer (some ⟨b, f, none⟩)) (cs : List Value) (d : TypeDesc) (hc : w.rangeAt b f cs) (hu : Tryz.prog.underlying ty = some d) (hd : d.isRow = true) (hi : (Tryz.prog.info? ty).map (·.size) = some cs.length) : YieldsP Tryz.prog o a w (MP.eq (.agg cs.toArray)).p :=
 yields_run (by
  unfold execOp
  simp only [ho, hx, Instr.loadAt, Instr.sureAddr, Sem.run_bind, Sem.run_pure, Result.andThen_ok, run_loadVar_mid w b f ty cs d hc hu hd hi])
theorem yields_binA {o : Oper} {a : Act} {w : World} {p : BinOp} {t u : TypeId} (x y : Operand) (ho : o.op = .binOp p t x y u) {c d : Array Value} {v : Value} (hx : a.eval x = .agg c) (hy : a.eval y = .agg d) (hg : Tryz.prog.eqGuardType Tryz.prog.depth t = false) (hr : ∀ w, (binOp p t (.agg c) (.agg d)).run Tryz.prog w = .ok v w) : YieldsP Tryz.prog o a w (MP.eq v).p :=
 yields_run (by
  have e1 : (eqGuard p t x y (.agg c) (.agg d)).run Tryz.prog w = .ok () w := by
   cases p <;> simp [eqGuard, hg]
  generalize a.eval = ev at *
  unfold execOp
  simp [ho, hx, hy, e1, hr])
theorem yields_pickT {o : Oper} {a : Act} {w : World} (c x y : Operand) (ho : o.op = .pick c x y) {v : Value} (hc : a.eval c = .bool true) (hx : a.eval x = v) : YieldsP Tryz.prog o a w (MP.eq v).p :=
 yields_run (by
  generalize a.eval = ev at *
  unfold execOp
  simp [ho, hc, hx, go_sem])
theorem yields_as {o : Oper} {a : Act} {w : World} {v : Value} (x : Operand) (ho : o.op = .assign x) (hx : a.eval x = v) : YieldsP Tryz.prog o a w (MP.eq v).p :=
 yields_run (by
  generalize a.eval = ev at *
  unfold execOp
  simp [ho, hx, go_sem])
end Go.Proofs.YtfknkfninjjgbaaGreatDoor

/- Quotients, rests, products, shifts of small numbers. -/
namespace Go.Proofs.YtfknkfninjjgbaaGreatDoor
open Go.RowKit
set_option linter.unusedSimpArgs false
theorem quo_nat (n d : Nat) (hd : 0 < d) (hn : n < 9223372036854775808) (w : World) : (binOp .quo 3 (.int .i64 (n : Int)) (.int .i64 (d : Int))).run Tryz.prog w = .ok (.int .i64 ((n / d : Nat) : Int)) w := by
 have h0 : ¬ (d : Int) = 0 := by omega
 have h1 := Nat.div_le_self n d
 simp [go_sem, h0, IntKind.wrap_i64]
 rw [if_neg (by omega), ← Int.natCast_ediv]
 generalize n / d = q at *
 rw [show ((q : Int) + 9223372036854775808) % 18446744073709551616 - 9223372036854775808 = (q : Int) by omega]
theorem rem_nat (n d : Nat) (hd : 0 < d) (w : World) : (binOp .rem 3 (.int .i64 (n : Int)) (.int .i64 (d : Int))).run Tryz.prog w = .ok (.int .i64 ((n % d : Nat) : Int)) w := by
 have h0 : ¬ (d : Int) = 0 := by omega
 simp [go_sem, h0, IntKind.wrap_i64]
 rw [if_neg (by omega), Int.tmod_eq_emod_of_nonneg (Int.natCast_nonneg n)]
theorem mul_nat (n d : Nat) (hn : n * d < 9223372036854775808) (w : World) : (binOp .mul 3 (.int .i64 (n : Int)) (.int .i64 (d : Int))).run Tryz.prog w = .ok (.int .i64 ((n * d : Nat) : Int)) w := by
 simp [go_sem, IntKind.wrap_i64]
 rw [← Int.natCast_mul]
 generalize n * d = q at *
 omega
theorem shr_nat' (n s : Nat) (hs : s < 64) (w : World) : (binOp .shr 3 (.int .i64 (n : Int)) (.int .i64 (s : Int))).run Tryz.prog w = .ok (.int .i64 ((n / 2 ^ s : Nat) : Int)) w := by
 have e0 : Op.shift .shr .i64 (n : Int) .i64 (s : Int) = pure (.int .i64 ((n / 2 ^ s : Nat) : Int)) := by
  rw [shift_shr_any _ _ _ _ (by omega)]
  have e : min (s : Int).toNat (IntKind.bits .i64) = s := by
   show min s 64 = s
   omega
  rw [e]
  congr 2
 simp [binOp, e0]
theorem shl_nat (n s : Nat) (hs : s < 63) (hn : n * 2 ^ s < 9223372036854775808) (w : World) : (binOp .shl 3 (.int .i64 (n : Int)) (.int .i64 (s : Int))).run Tryz.prog w = .ok (.int .i64 ((n * 2 ^ s : Nat) : Int)) w := by
 simp [go_sem, IntKind.wrap_i64]
 rw [show (2 : Int) ^ s = ((2 ^ s : Nat) : Int) by simp, ← Int.natCast_mul]
 generalize n * 2 ^ s = q at *
 omega
theorem wp_binI {ops : Array Oper} {rest : List Oper} {o : Oper} {a : Act} {Q : Exit → Act → World → Prop} {w : World} (hgd : o.guard = none) {p : BinOp} {t u : TypeId} (x y : Operand) (ho : o.op = .binOp p t x y u) {k l : IntKind} {m n : Int} {v : Value} (hx : a.eval x = .int k m) (hy : a.eval y = .int l n) (hr : ∀ w, (binOp p t (.int k m) (.int l n)).run Tryz.prog w = .ok v w)
  (h : wpList Tryz.prog ops Q rest (a.put o.dst v) w) : wpList Tryz.prog ops Q (o :: rest) a w := by
 refine wpList_plain hgd fun K hK => ?_
 have e1 : (eqGuard p t x y (.int k m) (.int l n)).run Tryz.prog w = .ok () w := by
  cases p <;> simp [eqGuard]
 have e : (execOp a.eval o).run Tryz.prog w = .ok (.value v) w := by
  generalize a.eval = ev at *
  unfold execOp
  simp [ho, hx, hy, e1, hr]
 unfold Oper.wp
 rw [e]
 exact hK _ _ h
end Go.Proofs.YtfknkfninjjgbaaGreatDoor
