/- Texts that were joined: Yc, Yo, IntN, BtO. -/
import Derived.Test.YtpnfopakkaoibaaQUpMToUpS
import Derived.Test.YtpnfopakkaoibaaQNumToKn
import Derived.Test.YtpnfopakkaoibaaRows
import Derived.Deep.MidRow
import Derived.Test.YtpnfopakkaoibaaQFePToROft
import Derived.Test.YtpnfopakkaoibaaQOctToCurvePk
import Derived.Test.YtpnfopakkaoibaaQUpA
import Derived.Test.YtpnfopakkaoibaaQDMinusToDParts
import Derived.Test.YtpnfopakkaoibaaQDRestToDNumP
/- A call among the operations of a drawn region, its operands told by their values: the frame is not looked at. -/
namespace Go.Proofs.Ytpnfopakkaoibaa
open Go.RowKit
set_option linter.unusedSimpArgs false
theorem cf_is {F : Nat} {fn : Func} (h : Try.prog.funcs[F]? = some fn) (hn : (fn.name == "runtime.NumGoroutine") = false) (hb : fn.body.isNone = false) (args : Array Value) (W : World) : (callFunc F args).run Try.prog W = .ok (.enter F args) W := by
  have hn' : ¬ fn.name = "runtime.NumGoroutine" := by simpa using hn
  have hb' : ¬ fn.body = none := fun h => by rw [h] at hb; cases hb
  simp [callFunc, h, hn', hb']
theorem yields_call1 {o : Oper} {a : Act} {w : World} {φ : Value → World → Prop} {F : Nat} (cf : ∀ (args : Array Value) (W : World), (callFunc F args).run Try.prog W = .ok (.enter F args) W) (x : Operand) (tys : Array TypeId) (ho : o.op = .call { callee := .value (.func F), args := #[x], argTypes := tys }) (v : Value) (hx : a.eval x = v)
    (h : Calls Try.prog F #[v] w fun e w' => ∃ u, e = .returned u ∧ φ u w' ∧ Below w.heap.size w w') : YieldsP Try.prog o a w φ := by
  have hF : a.eval (.func F) = .func (.func F) #[] #[] := rfl
  have e : (execOp a.eval o).run Try.prog w = .ok (.enter F #[v]) w := by
    generalize a.eval = ev at *
    unfold execOp
    simp [ho, hx, hF, go_sem, cf]
  unfold YieldsP
  rw [e]
  exact h
theorem yields_call2 {o : Oper} {a : Act} {w : World} {φ : Value → World → Prop} {F : Nat} (cf : ∀ (args : Array Value) (W : World), (callFunc F args).run Try.prog W = .ok (.enter F args) W) (x y : Operand) (tys : Array TypeId) (ho : o.op = .call { callee := .value (.func F), args := #[x, y], argTypes := tys }) (v u : Value) (hx : a.eval x = v) (hy : a.eval y = u)
    (h : Calls Try.prog F #[v, u] w fun e w' => ∃ u, e = .returned u ∧ φ u w' ∧ Below w.heap.size w w') : YieldsP Try.prog o a w φ := by
  have hF : a.eval (.func F) = .func (.func F) #[] #[] := rfl
  have e : (execOp a.eval o).run Try.prog w = .ok (.enter F #[v, u]) w := by
    generalize a.eval = ev at *
    unfold execOp
    simp [ho, hx, hy, hF, go_sem, cf]
  unfold YieldsP
  rw [e]
  exact h
theorem yields_mv {o : Oper} {a : Act} {w : World} {v : Value} (x : Operand) (ho : o.op = .move x) (hx : a.eval x = v) : YieldsP Try.prog o a w (MP.eq v).p := by
  have e : (execOp a.eval o).run Try.prog w = .ok (.value v) w := by
    generalize a.eval = ev at *
    unfold execOp
    simp [ho, hx, go_sem]
  unfold YieldsP
  rw [e]
  exact ⟨rfl, Below.refl _ _⟩
theorem run_ext {o : Oper} {a : Act} {vs : Array Value} {v : Value} (x : Operand) (i : Nat) (ho : o.op = .extract x i) (hx : a.eval x = .tuple vs) (hv : vs[i]? = some v) (w : World) : (execOp a.eval o).run Try.prog w = .ok (.value v) w := by
  generalize a.eval = ev at *
  unfold execOp
  simp [ho, hx, hv, go_sem]
theorem yields_ext {o : Oper} {a : Act} {w : World} {vs : Array Value} {v : Value} (x : Operand) (i : Nat) (ho : o.op = .extract x i) (hx : a.eval x = .tuple vs) (hv : vs[i]? = some v) : YieldsP Try.prog o a w (MP.eq v).p := by
  unfold YieldsP
  rw [run_ext x i ho hx hv w]
  exact ⟨rfl, Below.refl _ _⟩
end Go.Proofs.Ytpnfopakkaoibaa

/- Small operations among those of a drawn region, their operands told by their values: the frame is not looked at. -/
namespace Go.Proofs.Ytpnfopakkaoibaa
open Go.RowKit
set_option linter.unusedSimpArgs false
end Go.Proofs.Ytpnfopakkaoibaa

/- Quotients, rests, products, shifts of small numbers. -/
namespace Go.Proofs.Ytpnfopakkaoibaa
open Go.RowKit
set_option linter.unusedSimpArgs false
theorem quo_nat (n d : Nat) (hd : 0 < d) (hn : n < 9223372036854775808) (w : World) : (binOp .quo 3 (.int .i64 (n : Int)) (.int .i64 (d : Int))).run Try.prog w = .ok (.int .i64 ((n / d : Nat) : Int)) w := by
  have h0 : ¬ (d : Int) = 0 := by omega
  have h1 := Nat.div_le_self n d
  simp [go_sem, h0, IntKind.wrap_i64]
  rw [if_neg (by omega), ← Int.natCast_ediv]
  generalize n / d = q at *
  rw [show ((q : Int) + 9223372036854775808) % 18446744073709551616 - 9223372036854775808 = (q : Int) by omega]
theorem rem_nat (n d : Nat) (hd : 0 < d) (w : World) : (binOp .rem 3 (.int .i64 (n : Int)) (.int .i64 (d : Int))).run Try.prog w = .ok (.int .i64 ((n % d : Nat) : Int)) w := by
  have h0 : ¬ (d : Int) = 0 := by omega
  simp [go_sem, h0, IntKind.wrap_i64]
  rw [if_neg (by omega), Int.tmod_eq_emod_of_nonneg (Int.natCast_nonneg n)]
theorem shl_nat (n s : Nat) (hs : s < 63) (hn : n * 2 ^ s < 9223372036854775808) (w : World) : (binOp .shl 3 (.int .i64 (n : Int)) (.int .i64 (s : Int))).run Try.prog w = .ok (.int .i64 ((n * 2 ^ s : Nat) : Int)) w := by
  simp [go_sem, IntKind.wrap_i64]
  rw [show (2 : Int) ^ s = ((2 ^ s : Nat) : Int) by simp, ← Int.natCast_mul]
  generalize n * 2 ^ s = q at *
  omega
end Go.Proofs.Ytpnfopakkaoibaa

/- The document's bytes of a number. -/
namespace Go.Proofs.Ytpnfopakkaoibaa
open Go.RowKit
attribute [local go_sem] World.cell?_alloc_some cell_alloc2 cell_alloc3 cell_alloc4 frozen?_alloc_cells frozen_out
set_option linter.unusedSimpArgs false
theorem pow_at (j : Nat) : (2 : Nat) ^ j = 256 ^ (j / 8) * 2 ^ (j % 8) := by
  rw [show (256 : Nat) = 2 ^ 8 from rfl, ← Nat.pow_mul, ← Nat.pow_add, show 8 * (j / 8) + j % 8 = j by omega]
theorem bit_new (n j : Nat) : n % 2 ^ (j + 1) / 256 ^ (j / 8) = n % 2 ^ j / 256 ^ (j / 8) + n / 2 ^ j % 2 * 2 ^ (j % 8) ∧ n % 2 ^ j / 256 ^ (j / 8) < 2 ^ (j % 8) := by
  have e := pow_at j
  have l : n % 2 ^ j < 2 ^ j := Nat.mod_lt _ (Nat.pow_pos (by decide))
  rw [mod_two_succ]
  generalize n % 2 ^ j = A at *
  generalize n / 2 ^ j % 2 = b at *
  rw [e] at l ⊢
  refine ⟨?_, Nat.div_lt_of_lt_mul l⟩
  rw [Nat.mul_assoc, Nat.add_mul_div_left _ _ (Nat.pow_pos (by decide)), Nat.mul_comm b]
theorem bit_byte (n j : Nat) : n % 2 ^ (j + 1) / 256 ^ (j / 8) % 256 = n % 2 ^ j / 256 ^ (j / 8) % 256 + n / 2 ^ j % 2 * 2 ^ (j % 8) ∧ n % 2 ^ j / 256 ^ (j / 8) % 256 < 128 ∧ n / 2 ^ j % 2 * 2 ^ (j % 8) ≤ 128 := by
  obtain ⟨h1, h2⟩ := bit_new n j
  have h3 : (2 : Nat) ^ (j % 8) ≤ 2 ^ 7 := Nat.pow_le_pow_right (by decide) (by omega)
  rw [h1]
  generalize n % 2 ^ j / 256 ^ (j / 8) = a at *
  rcases Nat.mod_two_eq_zero_or_one (n / 2 ^ j) with hb | hb <;> rw [hb] <;> generalize (2 : Nat) ^ (j % 8) = t at * <;> omega
/-- One more bit. -/
theorem bit_next (n j : Nat) (h : j < 256) : (bR (n % 2 ^ j)).set (j / 8) (.int .u8 ((n % 2 ^ (j + 1) / 256 ^ (j / 8) % 256 : Nat) : Int)) = bR (n % 2 ^ (j + 1)) := by
  apply List.ext_getElem?
  intro i
  by_cases e : j / 8 = i
  · subst e
    rw [List.getElem?_set_self (by rw [bR_length]; omega), bR_get _ _ (by omega)]
  · rw [List.getElem?_set_ne e]
    by_cases hi : i < 32
    · rw [bR_get _ _ hi, bR_get _ _ hi]
      congr 3
      rw [mod_two_succ]
      have l : n % 2 ^ j < 2 ^ j := Nat.mod_lt _ (Nat.pow_pos (by decide))
      have lb : n / 2 ^ j % 2 ≤ 1 := by omega
      generalize n % 2 ^ j = A at *
      generalize n / 2 ^ j % 2 = b at *
      rcases Nat.lt_or_gt_of_ne e with h1 | h1
      · have g : (2 : Nat) ^ j * 2 ≤ 256 ^ i := by
          rw [show (256 : Nat) = 2 ^ 8 from rfl, ← Nat.pow_mul, ← Nat.pow_succ]
          exact Nat.pow_le_pow_right (by decide) (by omega)
        have g2 : (2 : Nat) ^ j * b ≤ 2 ^ j * 1 := Nat.mul_le_mul_left _ lb
        rw [Nat.div_eq_of_lt (by omega), Nat.div_eq_of_lt (by omega)]
      · obtain ⟨d, hd⟩ : ∃ d, j = 8 * (i + 1) + d := ⟨j - 8 * (i + 1), by omega⟩
        have g : (2 : Nat) ^ j = 256 ^ i * (256 * 2 ^ d) := by
          rw [hd, Nat.pow_add, Nat.pow_mul, show (2 : Nat) ^ 8 = 256 from rfl, Nat.pow_succ, Nat.mul_assoc]
        rw [g, Nat.mul_assoc, Nat.add_mul_div_left _ _ (Nat.pow_pos (by decide)), Nat.mul_assoc 256, Nat.add_mul_mod_self_left]
    · rw [List.getElem?_eq_none (by rw [bR_length]; omega), List.getElem?_eq_none (by rw [bR_length]; omega)]
theorem quiet_binI {ops : Array Oper} {C : World → Prop} {Q : Act → Prop} {o : Oper} {rest : List Oper} {a : Act} (hw : Region.wanted o (yielded ops a.tmps) = true) {p : BinOp} {t u : TypeId} (x y : Operand) (ho : o.op = .binOp p t x y u) {k l : IntKind} {m n : Int} {v : Value} (hx : a.eval x = .int k m) (hy : a.eval y = .int l n) (hr : ∀ w, (binOp p t (.int k m) (.int l n)).run Try.prog w = .ok v w)
    (h : wpQuiet Try.prog ops C Q rest (a.put o.dst v)) : wpQuiet Try.prog ops C Q (o :: rest) a := by
  refine BigFrame.wpQuiet_want hw fun K hK => ⟨v, fun w _ => ?_, hK _ h⟩
  unfold Oper.quietAt
  have e1 : (eqGuard p t x y (.int k m) (.int l n)).run Try.prog w = .ok () w := by
    cases p <;> simp [eqGuard]
  have e : (execOp a.eval o).run Try.prog w = .ok (.value v) w := by
    generalize a.eval = ev at *
    unfold execOp
    simp [ho, hx, hy, e1, hr]
  rw [e]
  exact ⟨rfl, rfl⟩
set_option maxRecDepth 20000 in
set_option maxHeartbeats 2000000 in
theorem bytesOf_walk (x : Nm) (n : Nat) (hn : n < 2 ^ 256)
    (ON : ∀ w, Calls Try.prog 29 #[N x] w fun e w' => (∃ v', e = .returned v' ∧ Sl w' v' (P.dg n)) ∧ Below w.heap.size w w')
    (BF : ∀ v W, Sl W v (P.dg n) → Calls Try.prog 31 #[v, .int .i64 256] W fun e w' => (e = .returned (.slice (some ⟨W.heap.size, 0, none⟩) 256 256) ∧ ∃ cur, KBlk w' W.heap.size cur ∧ ∀ j, j < 256 → cur[j]? = some (.int .i64 ((n / 2 ^ j % 2 : Nat) : Int))) ∧ Below W.heap.size W w')
    (w : World) :
    Calls Try.prog 30 #[N x] w fun e w' => e = .returned (bV n) ∧ Below w.heap.size w w' := by
  have HN : Hid (n % 2 ^ 256 = n) := Nat.mod_eq_of_lt hn
  clear hn
  go_enter Try.func30, Try.ntmps30
  have s0 : Hid (Kn ((kal4 w (x)).alloc (.cells #[Value.int IntKind.u8 0, Value.int IntKind.u8 0, Value.int IntKind.u8 0, Value.int IntKind.u8 0, Value.int IntKind.u8 0, Value.int IntKind.u8 0, Value.int IntKind.u8 0, Value.int IntKind.u8 0, Value.int IntKind.u8 0, Value.int IntKind.u8 0, Value.int IntKind.u8 0, Value.int IntKind.u8 0, Value.int IntKind.u8 0, Value.int IntKind.u8 0, Value.int IntKind.u8 0, Value.int IntKind.u8 0, Value.int IntKind.u8 0, Value.int IntKind.u8 0, Value.int IntKind.u8 0, Value.int IntKind.u8 0, Value.int IntKind.u8 0, Value.int IntKind.u8 0, Value.int IntKind.u8 0, Value.int IntKind.u8 0, Value.int IntKind.u8 0, Value.int IntKind.u8 0, Value.int IntKind.u8 0, Value.int IntKind.u8 0, Value.int IntKind.u8 0, Value.int IntKind.u8 0, Value.int IntKind.u8 0, Value.int IntKind.u8 0] 22)) [(w.heap.size + 1, bZ), (w.heap.size, (c4 (x)))]) := (((Kn.nil w).al (c4 (x)) 28 rfl).al bZ 22 (by simp))
  have b0 : Hid (Below w.heap.size w ((kal4 w (x)).alloc (.cells #[Value.int IntKind.u8 0, Value.int IntKind.u8 0, Value.int IntKind.u8 0, Value.int IntKind.u8 0, Value.int IntKind.u8 0, Value.int IntKind.u8 0, Value.int IntKind.u8 0, Value.int IntKind.u8 0, Value.int IntKind.u8 0, Value.int IntKind.u8 0, Value.int IntKind.u8 0, Value.int IntKind.u8 0, Value.int IntKind.u8 0, Value.int IntKind.u8 0, Value.int IntKind.u8 0, Value.int IntKind.u8 0, Value.int IntKind.u8 0, Value.int IntKind.u8 0, Value.int IntKind.u8 0, Value.int IntKind.u8 0, Value.int IntKind.u8 0, Value.int IntKind.u8 0, Value.int IntKind.u8 0, Value.int IntKind.u8 0, Value.int IntKind.u8 0, Value.int IntKind.u8 0, Value.int IntKind.u8 0, Value.int IntKind.u8 0, Value.int IntKind.u8 0, Value.int IntKind.u8 0, Value.int IntKind.u8 0, Value.int IntKind.u8 0] 22))) := (((Below.refl _ _).alloc (Nat.le_refl _) _).alloc (by simp <;> omega) _)
  have s1 : Hid (Kn (((kal4 w (x)).alloc (.cells #[Value.int IntKind.u8 0, Value.int IntKind.u8 0, Value.int IntKind.u8 0, Value.int IntKind.u8 0, Value.int IntKind.u8 0, Value.int IntKind.u8 0, Value.int IntKind.u8 0, Value.int IntKind.u8 0, Value.int IntKind.u8 0, Value.int IntKind.u8 0, Value.int IntKind.u8 0, Value.int IntKind.u8 0, Value.int IntKind.u8 0, Value.int IntKind.u8 0, Value.int IntKind.u8 0, Value.int IntKind.u8 0, Value.int IntKind.u8 0, Value.int IntKind.u8 0, Value.int IntKind.u8 0, Value.int IntKind.u8 0, Value.int IntKind.u8 0, Value.int IntKind.u8 0, Value.int IntKind.u8 0, Value.int IntKind.u8 0, Value.int IntKind.u8 0, Value.int IntKind.u8 0, Value.int IntKind.u8 0, Value.int IntKind.u8 0, Value.int IntKind.u8 0, Value.int IntKind.u8 0, Value.int IntKind.u8 0, Value.int IntKind.u8 0] 22)).alloc (.cells #[Value.int IntKind.u8 0, Value.int IntKind.u8 0, Value.int IntKind.u8 0, Value.int IntKind.u8 0, Value.int IntKind.u8 0, Value.int IntKind.u8 0, Value.int IntKind.u8 0, Value.int IntKind.u8 0, Value.int IntKind.u8 0, Value.int IntKind.u8 0, Value.int IntKind.u8 0, Value.int IntKind.u8 0, Value.int IntKind.u8 0, Value.int IntKind.u8 0, Value.int IntKind.u8 0, Value.int IntKind.u8 0, Value.int IntKind.u8 0, Value.int IntKind.u8 0, Value.int IntKind.u8 0, Value.int IntKind.u8 0, Value.int IntKind.u8 0, Value.int IntKind.u8 0, Value.int IntKind.u8 0, Value.int IntKind.u8 0, Value.int IntKind.u8 0, Value.int IntKind.u8 0, Value.int IntKind.u8 0, Value.int IntKind.u8 0, Value.int IntKind.u8 0, Value.int IntKind.u8 0, Value.int IntKind.u8 0, Value.int IntKind.u8 0] 22)) [(w.heap.size + 1 + 1, bZ), (w.heap.size + 1, bZ), (w.heap.size, (c4 (x)))]) := s0.out.al bZ 22 (by simp)
  have b1 : Hid (Below w.heap.size w (((kal4 w (x)).alloc (.cells #[Value.int IntKind.u8 0, Value.int IntKind.u8 0, Value.int IntKind.u8 0, Value.int IntKind.u8 0, Value.int IntKind.u8 0, Value.int IntKind.u8 0, Value.int IntKind.u8 0, Value.int IntKind.u8 0, Value.int IntKind.u8 0, Value.int IntKind.u8 0, Value.int IntKind.u8 0, Value.int IntKind.u8 0, Value.int IntKind.u8 0, Value.int IntKind.u8 0, Value.int IntKind.u8 0, Value.int IntKind.u8 0, Value.int IntKind.u8 0, Value.int IntKind.u8 0, Value.int IntKind.u8 0, Value.int IntKind.u8 0, Value.int IntKind.u8 0, Value.int IntKind.u8 0, Value.int IntKind.u8 0, Value.int IntKind.u8 0, Value.int IntKind.u8 0, Value.int IntKind.u8 0, Value.int IntKind.u8 0, Value.int IntKind.u8 0, Value.int IntKind.u8 0, Value.int IntKind.u8 0, Value.int IntKind.u8 0, Value.int IntKind.u8 0] 22)).alloc (.cells #[Value.int IntKind.u8 0, Value.int IntKind.u8 0, Value.int IntKind.u8 0, Value.int IntKind.u8 0, Value.int IntKind.u8 0, Value.int IntKind.u8 0, Value.int IntKind.u8 0, Value.int IntKind.u8 0, Value.int IntKind.u8 0, Value.int IntKind.u8 0, Value.int IntKind.u8 0, Value.int IntKind.u8 0, Value.int IntKind.u8 0, Value.int IntKind.u8 0, Value.int IntKind.u8 0, Value.int IntKind.u8 0, Value.int IntKind.u8 0, Value.int IntKind.u8 0, Value.int IntKind.u8 0, Value.int IntKind.u8 0, Value.int IntKind.u8 0, Value.int IntKind.u8 0, Value.int IntKind.u8 0, Value.int IntKind.u8 0, Value.int IntKind.u8 0, Value.int IntKind.u8 0, Value.int IntKind.u8 0, Value.int IntKind.u8 0, Value.int IntKind.u8 0, Value.int IntKind.u8 0, Value.int IntKind.u8 0, Value.int IntKind.u8 0] 22))) := b0.out.alloc b0.out.size _
  have z1 := b0.out.size
  clear s0 b0
  have ux_0 : (((kal4 w (x)).alloc (.cells #[Value.int IntKind.u8 0, Value.int IntKind.u8 0, Value.int IntKind.u8 0, Value.int IntKind.u8 0, Value.int IntKind.u8 0, Value.int IntKind.u8 0, Value.int IntKind.u8 0, Value.int IntKind.u8 0, Value.int IntKind.u8 0, Value.int IntKind.u8 0, Value.int IntKind.u8 0, Value.int IntKind.u8 0, Value.int IntKind.u8 0, Value.int IntKind.u8 0, Value.int IntKind.u8 0, Value.int IntKind.u8 0, Value.int IntKind.u8 0, Value.int IntKind.u8 0, Value.int IntKind.u8 0, Value.int IntKind.u8 0, Value.int IntKind.u8 0, Value.int IntKind.u8 0, Value.int IntKind.u8 0, Value.int IntKind.u8 0, Value.int IntKind.u8 0, Value.int IntKind.u8 0, Value.int IntKind.u8 0, Value.int IntKind.u8 0, Value.int IntKind.u8 0, Value.int IntKind.u8 0, Value.int IntKind.u8 0, Value.int IntKind.u8 0] 22)).alloc (.cells #[Value.int IntKind.u8 0, Value.int IntKind.u8 0, Value.int IntKind.u8 0, Value.int IntKind.u8 0, Value.int IntKind.u8 0, Value.int IntKind.u8 0, Value.int IntKind.u8 0, Value.int IntKind.u8 0, Value.int IntKind.u8 0, Value.int IntKind.u8 0, Value.int IntKind.u8 0, Value.int IntKind.u8 0, Value.int IntKind.u8 0, Value.int IntKind.u8 0, Value.int IntKind.u8 0, Value.int IntKind.u8 0, Value.int IntKind.u8 0, Value.int IntKind.u8 0, Value.int IntKind.u8 0, Value.int IntKind.u8 0, Value.int IntKind.u8 0, Value.int IntKind.u8 0, Value.int IntKind.u8 0, Value.int IntKind.u8 0, Value.int IntKind.u8 0, Value.int IntKind.u8 0, Value.int IntKind.u8 0, Value.int IntKind.u8 0, Value.int IntKind.u8 0, Value.int IntKind.u8 0, Value.int IntKind.u8 0, Value.int IntKind.u8 0] 22)).cell? ⟨w.heap.size, 0, none⟩ = some (.int .u64 (x).a) := Kn.get s1.out 2 0 rfl rfl
  have ux_1 : (((kal4 w (x)).alloc (.cells #[Value.int IntKind.u8 0, Value.int IntKind.u8 0, Value.int IntKind.u8 0, Value.int IntKind.u8 0, Value.int IntKind.u8 0, Value.int IntKind.u8 0, Value.int IntKind.u8 0, Value.int IntKind.u8 0, Value.int IntKind.u8 0, Value.int IntKind.u8 0, Value.int IntKind.u8 0, Value.int IntKind.u8 0, Value.int IntKind.u8 0, Value.int IntKind.u8 0, Value.int IntKind.u8 0, Value.int IntKind.u8 0, Value.int IntKind.u8 0, Value.int IntKind.u8 0, Value.int IntKind.u8 0, Value.int IntKind.u8 0, Value.int IntKind.u8 0, Value.int IntKind.u8 0, Value.int IntKind.u8 0, Value.int IntKind.u8 0, Value.int IntKind.u8 0, Value.int IntKind.u8 0, Value.int IntKind.u8 0, Value.int IntKind.u8 0, Value.int IntKind.u8 0, Value.int IntKind.u8 0, Value.int IntKind.u8 0, Value.int IntKind.u8 0] 22)).alloc (.cells #[Value.int IntKind.u8 0, Value.int IntKind.u8 0, Value.int IntKind.u8 0, Value.int IntKind.u8 0, Value.int IntKind.u8 0, Value.int IntKind.u8 0, Value.int IntKind.u8 0, Value.int IntKind.u8 0, Value.int IntKind.u8 0, Value.int IntKind.u8 0, Value.int IntKind.u8 0, Value.int IntKind.u8 0, Value.int IntKind.u8 0, Value.int IntKind.u8 0, Value.int IntKind.u8 0, Value.int IntKind.u8 0, Value.int IntKind.u8 0, Value.int IntKind.u8 0, Value.int IntKind.u8 0, Value.int IntKind.u8 0, Value.int IntKind.u8 0, Value.int IntKind.u8 0, Value.int IntKind.u8 0, Value.int IntKind.u8 0, Value.int IntKind.u8 0, Value.int IntKind.u8 0, Value.int IntKind.u8 0, Value.int IntKind.u8 0, Value.int IntKind.u8 0, Value.int IntKind.u8 0, Value.int IntKind.u8 0, Value.int IntKind.u8 0] 22)).cell? ⟨w.heap.size, 1, none⟩ = some (.int .u64 (x).b) := Kn.get s1.out 2 1 rfl rfl
  have ux_2 : (((kal4 w (x)).alloc (.cells #[Value.int IntKind.u8 0, Value.int IntKind.u8 0, Value.int IntKind.u8 0, Value.int IntKind.u8 0, Value.int IntKind.u8 0, Value.int IntKind.u8 0, Value.int IntKind.u8 0, Value.int IntKind.u8 0, Value.int IntKind.u8 0, Value.int IntKind.u8 0, Value.int IntKind.u8 0, Value.int IntKind.u8 0, Value.int IntKind.u8 0, Value.int IntKind.u8 0, Value.int IntKind.u8 0, Value.int IntKind.u8 0, Value.int IntKind.u8 0, Value.int IntKind.u8 0, Value.int IntKind.u8 0, Value.int IntKind.u8 0, Value.int IntKind.u8 0, Value.int IntKind.u8 0, Value.int IntKind.u8 0, Value.int IntKind.u8 0, Value.int IntKind.u8 0, Value.int IntKind.u8 0, Value.int IntKind.u8 0, Value.int IntKind.u8 0, Value.int IntKind.u8 0, Value.int IntKind.u8 0, Value.int IntKind.u8 0, Value.int IntKind.u8 0] 22)).alloc (.cells #[Value.int IntKind.u8 0, Value.int IntKind.u8 0, Value.int IntKind.u8 0, Value.int IntKind.u8 0, Value.int IntKind.u8 0, Value.int IntKind.u8 0, Value.int IntKind.u8 0, Value.int IntKind.u8 0, Value.int IntKind.u8 0, Value.int IntKind.u8 0, Value.int IntKind.u8 0, Value.int IntKind.u8 0, Value.int IntKind.u8 0, Value.int IntKind.u8 0, Value.int IntKind.u8 0, Value.int IntKind.u8 0, Value.int IntKind.u8 0, Value.int IntKind.u8 0, Value.int IntKind.u8 0, Value.int IntKind.u8 0, Value.int IntKind.u8 0, Value.int IntKind.u8 0, Value.int IntKind.u8 0, Value.int IntKind.u8 0, Value.int IntKind.u8 0, Value.int IntKind.u8 0, Value.int IntKind.u8 0, Value.int IntKind.u8 0, Value.int IntKind.u8 0, Value.int IntKind.u8 0, Value.int IntKind.u8 0, Value.int IntKind.u8 0] 22)).cell? ⟨w.heap.size, 2, none⟩ = some (.int .u64 (x).c) := Kn.get s1.out 2 2 rfl rfl
  have ux_3 : (((kal4 w (x)).alloc (.cells #[Value.int IntKind.u8 0, Value.int IntKind.u8 0, Value.int IntKind.u8 0, Value.int IntKind.u8 0, Value.int IntKind.u8 0, Value.int IntKind.u8 0, Value.int IntKind.u8 0, Value.int IntKind.u8 0, Value.int IntKind.u8 0, Value.int IntKind.u8 0, Value.int IntKind.u8 0, Value.int IntKind.u8 0, Value.int IntKind.u8 0, Value.int IntKind.u8 0, Value.int IntKind.u8 0, Value.int IntKind.u8 0, Value.int IntKind.u8 0, Value.int IntKind.u8 0, Value.int IntKind.u8 0, Value.int IntKind.u8 0, Value.int IntKind.u8 0, Value.int IntKind.u8 0, Value.int IntKind.u8 0, Value.int IntKind.u8 0, Value.int IntKind.u8 0, Value.int IntKind.u8 0, Value.int IntKind.u8 0, Value.int IntKind.u8 0, Value.int IntKind.u8 0, Value.int IntKind.u8 0, Value.int IntKind.u8 0, Value.int IntKind.u8 0] 22)).alloc (.cells #[Value.int IntKind.u8 0, Value.int IntKind.u8 0, Value.int IntKind.u8 0, Value.int IntKind.u8 0, Value.int IntKind.u8 0, Value.int IntKind.u8 0, Value.int IntKind.u8 0, Value.int IntKind.u8 0, Value.int IntKind.u8 0, Value.int IntKind.u8 0, Value.int IntKind.u8 0, Value.int IntKind.u8 0, Value.int IntKind.u8 0, Value.int IntKind.u8 0, Value.int IntKind.u8 0, Value.int IntKind.u8 0, Value.int IntKind.u8 0, Value.int IntKind.u8 0, Value.int IntKind.u8 0, Value.int IntKind.u8 0, Value.int IntKind.u8 0, Value.int IntKind.u8 0, Value.int IntKind.u8 0, Value.int IntKind.u8 0, Value.int IntKind.u8 0, Value.int IntKind.u8 0, Value.int IntKind.u8 0, Value.int IntKind.u8 0, Value.int IntKind.u8 0, Value.int IntKind.u8 0, Value.int IntKind.u8 0, Value.int IntKind.u8 0] 22)).cell? ⟨w.heap.size, 3, none⟩ = some (.int .u64 (x).d) := Kn.get s1.out 2 3 rfl rfl
  go_wp2_with (first | simp only [zero_b32])
  clear ux_0 ux_1 ux_2 ux_3
  refine (ON _).mono ?_
  rintro e w2 ⟨⟨v2, rfl, h2⟩, hb2⟩
  have s2 : Hid (Kn w2 [(w.heap.size + 1 + 1, bZ), (w.heap.size + 1, bZ), (w.heap.size, (c4 (x)))]) := s1.out.up hb2
  have b2 : Hid (Below w.heap.size w w2) := b1.out.trans (hb2.mono b1.out.size)
  have z2 := b2.out.size
  clear hb2 s1 b1
  go_wp2_with fail
  refine (BF _ _ h2).mono ?_
  rintro e w3 ⟨⟨rfl, cur, hcur, hT⟩, hb3⟩
  have HT : Hid _ := hT
  have HB : Hid (bZ = bR (n % 2 ^ 0)) := by
    show _ = _
    rw [Nat.pow_zero, Nat.mod_one]
    rfl
  have s3 : Hid (Kn w3 [(w2.heap.size, cur), (w.heap.size + 1 + 1, bR (n % 2 ^ 0)), (w.heap.size + 1, bZ), (w.heap.size, c4 x)]) := by rw [← HB.out]; exact s2.out.fresh_of hb3 (Nat.le_refl _) hcur
  have b3 : Hid (Below w.heap.size w w3) := b2.out.trans (hb3.mono b2.out.size)
  clear hcur hT hb3 s2 b2 BF h2 HB
  have gko : w.heap.size ≤ w.heap.size + 1 + 1 := by omega
  generalize w2.heap.size = g at *
  go_wp2_with fail
  go_loopw [10] (fun i wr => ∃ j : Nat, j ≤ 256 ∧ i = .int .i64 (j : Int) ∧ Hid (Kn wr [(g, cur), (w.heap.size + 1 + 1, bR (n % 2 ^ j)), (w.heap.size + 1, bZ), (w.heap.size, c4 x)]) ∧ Hid (Below w.heap.size w wr)) (fun i _ => 256 - (intOf i).toNat)
  case atStart => exact ⟨0, by omega, rfl, s3, b3⟩
  case round =>
    clear s3 b3
    obtain ⟨j, hj, rfl, sk, bk⟩ := hrel
    by_cases hlt : j < 256
    · have i1 : (j : Int) < 256 := by omega
      have i0 : (0 : Int) ≤ (j : Int) := by omega
      have cb := Kn.get sk.out 0 j rfl (HT.out j hlt)
      obtain ⟨q, hq⟩ : ∃ q, q = j / 8 := ⟨_, rfl⟩
      obtain ⟨r, hr⟩ : ∃ r, r = j % 8 := ⟨_, rfl⟩
      obtain ⟨t, ht⟩ : ∃ t, t = n / 2 ^ j % 2 := ⟨_, rfl⟩
      obtain ⟨old, ho⟩ : ∃ old, old = n % 2 ^ j / 256 ^ q % 256 := ⟨_, rfl⟩
      obtain ⟨b, hb⟩ : ∃ b, b = t * 2 ^ r := ⟨_, rfl⟩
      obtain ⟨m, hm⟩ : ∃ m, m = n % 2 ^ (j + 1) / 256 ^ q % 256 := ⟨_, rfl⟩
      have BB := bit_byte n j
      rw [← hq, ← hr, ← ht, ← ho, ← hb, ← hm] at BB
      obtain ⟨B1, B2, B3⟩ := BB
      have q1 : (q : Int) < 32 := by omega
      have q0 : (0 : Int) ≤ (q : Int) := by omega
      have QE : Hid (∀ w, (binOp .quo 3 (.int .i64 (j : Int)) (.int .i64 8)).run Try.prog w = .ok (.int .i64 (q : Int)) w) := fun w => by rw [hq]; exact quo_nat j 8 (by decide) (by omega) w
      have RE : Hid (∀ w, (binOp .rem 3 (.int .i64 (j : Int)) (.int .i64 8)).run Try.prog w = .ok (.int .i64 (r : Int)) w) := fun w => by rw [hr]; exact rem_nat j 8 (by decide) w
      have SE : Hid (∀ w, (binOp .shl 3 (.int .i64 (t : Int)) (.int .i64 (r : Int))).run Try.prog w = .ok (.int .i64 (b : Int)) w) := fun w => by rw [hb]; exact shl_nat t r (by omega) (by rw [← hb]; omega) w
      have wb : IntKind.u8.wrap (b : Int) = (b : Int) := by rw [IntKind.wrap_u8]; omega
      have wm : IntKind.u8.wrap ((old : Int) + (b : Int)) = (m : Int) := by rw [IntKind.wrap_u8]; omega
      have CO : Hid ((bR (n % 2 ^ j))[q]? = some (.int .u8 (old : Int))) := by rw [ho]; exact bR_get _ _ (by omega)
      have NX : Hid ((bR (n % 2 ^ j)).set q (.int .u8 (m : Int)) = bR (n % 2 ^ (j + 1))) := by
        rw [hm, hq]
        exact bit_next n j hlt
      have q2 : q < 32 := by omega
      rw [← ht] at cb
      clear hq hr ht ho hb hm B1 B2 B3
      go_wp2_with fail
      have s1 : Hid (Kn wr [(g, cur), (w.heap.size + 1 + 1, bR (n % 2 ^ j)), (w.heap.size + 1, bZ), (w.heap.size, c4 x)]) := sk
      have b1 : Hid (Below w.heap.size w wr) := bk
      clear sk bk
      refine wp_region_up_then 11 (by kernel_rfl) (by kernel_rfl) (by kernel_rfl) (by kernel_rfl) (by decide) (fun _ _ d _ _ h => by cases d <;> exact h) (fun U hU f hf hcl => ?_)
      have co := fun nx => (Kn.get (s1.out.up (hf nx).out) 1 q rfl CO.out : (f nx).cell? ⟨w.heap.size + 1 + 1, q, none⟩ = some (.int .u8 (old : Int)))
      simp only [List.take_succ_cons, List.take_zero, List.drop_succ_cons, List.drop_zero]
      repeat (first | (refine quiet_binI rfl (.tmp 15) (.const (.int .i64 8)) rfl rfl rfl QE.out ?_; simp only [Act.put, List.setIfInBounds_toArray, List.set_cons_succ, List.set_cons_zero]) | (refine quiet_binI rfl (.tmp 20) (.const (.int .i64 8)) rfl rfl rfl RE.out ?_; simp only [Act.put, List.setIfInBounds_toArray, List.set_cons_succ, List.set_cons_zero]) | (refine quiet_binI rfl (.tmp 19) (.tmp 21) rfl rfl rfl SE.out ?_; simp only [Act.put, List.setIfInBounds_toArray, List.set_cons_succ, List.set_cons_zero]) | go_big_quiet_step (first | fail))
      refine wpQuiet_nil ?_
      intro nx
      have hb2 := (hf nx).out
      clear hf hcl
      generalize f nx = w2 at hb2 ⊢
      have s2 : Hid (Kn w2 [(g, cur), (w.heap.size + 1 + 1, (bR ((n % 2 ^ j)))), (w.heap.size + 1, bZ), (w.heap.size, (c4 (x)))]) := s1.out.up hb2
      have b2 : Hid (Below w.heap.size w w2) := b1.out.trans (hb2.mono b1.out.size)
      have z2 := b2.out.size
      clear hb2 s1 b1
      have co := Kn.get s2.out 1 q rfl CO.out
      have zo := Kn.fz s2.out 1 rfl
      try simp only [wb, wm]
      have s4 : Hid (Kn (w2.setCell ⟨w.heap.size + 1 + 1, q, none⟩ (.int .u8 (m : Int))) [(g, cur), (w.heap.size + 1 + 1, bR (n % 2 ^ (j + 1))), (w.heap.size + 1, bZ), (w.heap.size, c4 x)]) := by
        have := Kn.set (s2.out.front 1 rfl) q (.int .u8 (m : Int)) (by rw [bR_length]; exact q2)
        rw [NX.out] at this
        exact this.front 1 rfl
      have b4 : Hid (Below w.heap.size w (w2.setCell ⟨w.heap.size + 1 + 1, q, none⟩ (.int .u8 (m : Int)))) := b2.out.setCell (p := ⟨w.heap.size + 1 + 1, q, none⟩) gko _
      go_wp2_with fail
      go_roundw
      case rel => exact ⟨j + 1, by omega, by go_num, s4, b4⟩
      case measure => simp [intOf]; omega
    · obtain rfl : j = 256 := by omega
      rw [HN.out] at sk
      have s5 : Hid (Kn wr [(g, cur), (w.heap.size + 1 + 1, bR n), (w.heap.size + 1, bZ), (w.heap.size, c4 x)]) := sk
      have b5 : Hid (Below w.heap.size w wr) := bk
      clear sk bk
      have s6x : Hid (Kn wr [(w.heap.size + 1, bZ), (g, cur), (w.heap.size + 1 + 1, (bR (n))), (w.heap.size, (c4 (x)))]) := s5.out.front 2 rfl
      have b6x : Hid (Below w.heap.size w wr) := b5.out
      have TT6 : Hid (wr.there (w.heap.size + 1) 0 (bR (n)).length) := Kn.there s6x.out 0 rfl (by rw [(bR_length (n)), bZ_length])
      go_wp2_with (first | refine wp_ldW rfl 22 _ rfl (w.heap.size + 1 + 1) 0 rfl (bR (n)) _ (Kn.rng s5.out 1 rfl) Try.underlying22 rfl (info_bR (n)) ?_ | refine I.wp_store_eq rfl 22 _ _ rfl (w.heap.size + 1) 0 (bR (n)) rfl rfl TT6.out (info_bR (n)) (bR_one (n)) ?_)
      intro w6 hw6
      try simp only [Act.put, List.setIfInBounds_toArray, List.set_cons_succ, List.set_cons_zero]
      have s6 : Hid (Kn w6 [(w.heap.size + 1, (bR (n))), (g, cur), (w.heap.size + 1 + 1, (bR (n))), (w.heap.size, (c4 (x)))]) := by rw [hw6.out]; exact Kn.put s6x.out (by rw [(bR_length (n)), bZ_length])
      have b6 : Hid (Below w.heap.size w w6) := by rw [hw6.out]; exact I.below_setCells _ _ _ b6x.out (by omega)
      have z6 := b6.out.size
      clear hw6 s6x b6x TT6 s5 b5
      go_wp2_with fail
      exact bodyPost_ret (v := bV n) (I.results_cell (b := w.heap.size + 1) rfl rfl (Kn.rng s6.out 0 rfl) Try.underlying22 rfl (info_bR (n))) rfl ⟨rfl, b6.out⟩
theorem bytesOf_fun (n : Nat) (hn : n < 2 ^ 256) (w : World) : Calls Try.prog 30 #[N (nm n)] w fun e w' => e = .returned (bV n) ∧ Below w.heap.size w w' := by
  refine bytesOf_walk (nm n) n hn (fun w => ?_) (fun v W h => ?_) w
  · have := ofNum_fun (nm n) (nm_ok _) w
    rwa [nm_nat hn] at this
  · refine (bits_fun v _ (P.dg_Dg n) 256 (by decide) W h).mono ?_
    rintro e w' ⟨⟨he, bs, lb, hbs, ob⟩, hb⟩
    obtain ⟨cur, h1, h2⟩ := Ow.kblk ob
    refine ⟨⟨he, cur, h1, fun j hj => ?_⟩, hb⟩
    rw [h2 j (by omega), hbs j hj, P.dv_dg]
end Go.Proofs.Ytpnfopakkaoibaa
