/- Texts that were joined: Yc, RLad. -/
import Derived.Test.YtjdamgfichlgpaaUpM
import Derived.Test.YtjdamgfichlgpaaGrp1
import Derived.Test.YtjdamgfichlgpaaRows
import Derived.Test.YtjdamgfichlgpaaGrp31
import Derived.Test.YtjdamgfichlgpaaFeP
import Derived.Test.YtjdamgfichlgpaaLRg
import Derived.Test.YtjdamgfichlgpaaGrp41
import Derived.Test.YtjdamgfichlgpaaUpS
import Derived.Test.YtjdamgfichlgpaaAl
/- A call among the operations of a drawn region, its operands told by their values: the frame is not looked at. -/
namespace Go.Proofs.Ytjdamgfichlgpaa
open Go.RowKit
set_option linter.unusedSimpArgs false
theorem cf_is {F : Nat} {fn : Func} (h : Try.prog.funcs[F]? = some fn) (hn : (fn.name == "runtime.NumGoroutine") = false) (hb : fn.body.isNone = false) (args : Array Value) (W : World) : (callFunc F args).run Try.prog W = .ok (.enter F args) W := by
  have hn' : ¬ fn.name = "runtime.NumGoroutine" := by simpa using hn
  have hb' : ¬ fn.body = none := fun h => by rw [h] at hb; cases hb
  simp [callFunc, h, hn', hb']
theorem yields_call0 {o : Oper} {a : Act} {w : World} {φ : Value → World → Prop} {F : Nat} (cf : ∀ (args : Array Value) (W : World), (callFunc F args).run Try.prog W = .ok (.enter F args) W) (tys : Array TypeId) (ho : o.op = .call { callee := .value (.func F), args := #[], argTypes := tys })
    (h : Calls Try.prog F #[] w fun e w' => ∃ u, e = .returned u ∧ φ u w' ∧ Below w.heap.size w w') : YieldsP Try.prog o a w φ := by
  have hF : a.eval (.func F) = .func (.func F) #[] #[] := rfl
  have e : (execOp a.eval o).run Try.prog w = .ok (.enter F #[]) w := by
    generalize a.eval = ev at *
    unfold execOp
    simp [ho, hF, go_sem, cf]
  unfold YieldsP
  rw [e]
  exact h
theorem yields_call1 {o : Oper} {a : Act} {w : World} {φ : Value → World → Prop} {F : Nat} (cf : ∀ (args : Array Value) (W : World), (callFunc F args).run Try.prog W = .ok (.enter F args) W) (x : Operand) (tys : Array TypeId) (ho : o.op = .call { callee := .value (.func F), args := #[x], argTypes := tys }) (v : Value) (hx : a.eval x = v)
    (h : Calls Try.prog F #[v] w fun e w' => ∃ u, e = .returned u ∧ φ u w' ∧ Below w.heap.size w w') : YieldsP Try.prog o a w φ := by
  have hF : a.eval (.func F) = .func (.func F) #[] #[] := rfl
  have e : (execOp a.eval o).run Try.prog w = .ok (.enter F #[v]) w := by
    generalize a.eval = ev at *
    unfold execOp
    simp [ho, hx, hF, go_sem, cf]
  unfold YieldsP
  rw [e]
  exact h
theorem yields_call2 {o : Oper} {a : Act} {w : World} {φ : Value → World → Prop} {F : Nat} (cf : ∀ (args : Array Value) (W : World), (callFunc F args).run Try.prog W = .ok (.enter F args) W) (x y : Operand) (tys : Array TypeId) (ho : o.op = .call { callee := .value (.func F), args := #[x, y], argTypes := tys }) (v u : Value) (hx : a.eval x = v) (hy : a.eval y = u)
    (h : Calls Try.prog F #[v, u] w fun e w' => ∃ u, e = .returned u ∧ φ u w' ∧ Below w.heap.size w w') : YieldsP Try.prog o a w φ := by
  have hF : a.eval (.func F) = .func (.func F) #[] #[] := rfl
  have e : (execOp a.eval o).run Try.prog w = .ok (.enter F #[v, u]) w := by
    generalize a.eval = ev at *
    unfold execOp
    simp [ho, hx, hy, hF, go_sem, cf]
  unfold YieldsP
  rw [e]
  exact h
theorem yields_call3 {o : Oper} {a : Act} {w : World} {φ : Value → World → Prop} {F : Nat} (cf : ∀ (args : Array Value) (W : World), (callFunc F args).run Try.prog W = .ok (.enter F args) W) (x y z : Operand) (tys : Array TypeId) (ho : o.op = .call { callee := .value (.func F), args := #[x, y, z], argTypes := tys }) (v u t : Value) (hx : a.eval x = v) (hy : a.eval y = u) (hz : a.eval z = t)
    (h : Calls Try.prog F #[v, u, t] w fun e w' => ∃ u, e = .returned u ∧ φ u w' ∧ Below w.heap.size w w') : YieldsP Try.prog o a w φ := by
  have hF : a.eval (.func F) = .func (.func F) #[] #[] := rfl
  have e : (execOp a.eval o).run Try.prog w = .ok (.enter F #[v, u, t]) w := by
    generalize a.eval = ev at *
    unfold execOp
    simp [ho, hx, hy, hz, hF, go_sem, cf]
  unfold YieldsP
  rw [e]
  exact h
theorem yields_mv {o : Oper} {a : Act} {w : World} {v : Value} (x : Operand) (ho : o.op = .move x) (hx : a.eval x = v) : YieldsP Try.prog o a w (MP.eq v).p := by
  have e : (execOp a.eval o).run Try.prog w = .ok (.value v) w := by
    generalize a.eval = ev at *
    unfold execOp
    simp [ho, hx, go_sem]
  unfold YieldsP
  rw [e]
  exact ⟨rfl, Below.refl _ _⟩
theorem run_ext {o : Oper} {a : Act} {vs : Array Value} {v : Value} (x : Operand) (i : Nat) (ho : o.op = .extract x i) (hx : a.eval x = .tuple vs) (hv : vs[i]? = some v) (w : World) : (execOp a.eval o).run Try.prog w = .ok (.value v) w := by
  generalize a.eval = ev at *
  unfold execOp
  simp [ho, hx, hv, go_sem]
theorem yields_ext {o : Oper} {a : Act} {w : World} {vs : Array Value} {v : Value} (x : Operand) (i : Nat) (ho : o.op = .extract x i) (hx : a.eval x = .tuple vs) (hv : vs[i]? = some v) : YieldsP Try.prog o a w (MP.eq v).p := by
  unfold YieldsP
  rw [run_ext x i ho hx hv w]
  exact ⟨rfl, Below.refl _ _⟩
end Go.Proofs.Ytjdamgfichlgpaa

/- The document's ladder: double. -/
namespace Go.Proofs.Ytjdamgfichlgpaa
open Go.RowKit
attribute [local go_sem] World.cell?_alloc_some cell_alloc2 cell_alloc3 cell_alloc4 frozen?_alloc_cells frozen_out
set_option linter.unusedSimpArgs false
theorem dg_486 (v : Value) (w : World) (h : (MP.v1 486662).p v w) : Calls Try.prog 65 #[v] w fun e w' => (∃ v', e = .returned v' ∧ Sl w' v' (P.dg 486662)) ∧ Below w.heap.size w w' := by
  obtain ⟨g, e, hb⟩ := h
  subst e
  have := digits_fun g [486662] (by decide) 1 1 rfl (by decide) w (fun j hj => by
    obtain rfl : j = 0 := by omega
    exact hb.cell 0 _ rfl)
  exact this
theorem cfDig (args : Array Value) (W : World) : (callFunc 65 args).run Try.prog W = .ok (.enter 65 args) W := cf_is (fn := Try.f65) (by kernel_rfl) (by decide) (by kernel_rfl) args W
theorem cfFeo (args : Array Value) (W : World) : (callFunc 44 args).run Try.prog W = .ok (.enter 44 args) W := cf_is (fn := Try.f44) (by kernel_rfl) (by decide) (by kernel_rfl) args W
theorem cfBy (args : Array Value) (W : World) : (callFunc 14 args).run Try.prog W = .ok (.enter 14 args) W := cf_is (fn := Try.f14) (by kernel_rfl) (by decide) (by kernel_rfl) args W
theorem cfPlus (args : Array Value) (W : World) : (callFunc 13 args).run Try.prog W = .ok (.enter 13 args) W := cf_is (fn := Try.f13) (by kernel_rfl) (by decide) (by kernel_rfl) args W
theorem yields_v1 {o : Oper} {a : Act} {w : World} {c : Int} (ho : o.op = .buildSlice 91 1 #[(0, .const (.int .u64 c))]) : YieldsP Try.prog o a w (MP.v1 c).p := by
  have e : (execOp a.eval o).run Try.prog w = .ok (.value (.slice (some ⟨w.heap.size, 0, none⟩) 1 1)) (w.alloc (.cells #[.int .u64 c] 22)) := by
    unfold execOp
    simp [ho, go_sem]
  unfold YieldsP
  rw [e]
  exact ⟨⟨_, rfl, Blk.made w [.int .u64 c] _⟩, (Below.refl _ _).alloc (Nat.le_refl _) _⟩
set_option maxRecDepth 20000 in
set_option maxHeartbeats 1000000 in
theorem double_walk (A x y xx zz xz dd am ap sm da fm rm : Nat)
    (DG : Hid (∀ v W, (MP.v1 486662).p v W → Calls Try.prog 65 #[v] W fun e w' => (∃ v', e = .returned v' ∧ Sl w' v' (P.dg A)) ∧ Below W.heap.size W w'))
    (FO : Hid (∀ v W, Sl W v (P.dg A) → Calls Try.prog 44 #[v] W fun e w' => e = .returned (.agg (fR A).toArray) ∧ Below W.heap.size W w'))
    (M1 : ∀ w, Calls Try.prog 14 #[.agg (fR (x)).toArray, .agg (fR (x)).toArray] w fun e w' => e = .returned (.agg (fR (xx)).toArray) ∧ Below w.heap.size w w')
    (M2 : ∀ w, Calls Try.prog 14 #[.agg (fR (y)).toArray, .agg (fR (y)).toArray] w fun e w' => e = .returned (.agg (fR (zz)).toArray) ∧ Below w.heap.size w w')
    (M3 : ∀ w, Calls Try.prog 14 #[.agg (fR (x)).toArray, .agg (fR (y)).toArray] w fun e w' => e = .returned (.agg (fR (xz)).toArray) ∧ Below w.heap.size w w')
    (L1 : ∀ w, Calls Try.prog 15 #[.agg (fR (xx)).toArray, .agg (fR (zz)).toArray] w fun e w' => e = .returned (.agg (fR (dd)).toArray) ∧ Below w.heap.size w w')
    (A1 : ∀ w, Calls Try.prog 14 #[.agg (fR (A)).toArray, .agg (fR (xz)).toArray] w fun e w' => e = .returned (.agg (fR (am)).toArray) ∧ Below w.heap.size w w')
    (A2 : ∀ w, Calls Try.prog 13 #[.agg (fR (xx)).toArray, .agg (fR (am)).toArray] w fun e w' => e = .returned (.agg (fR (ap)).toArray) ∧ Below w.heap.size w w')
    (A3 : ∀ w, Calls Try.prog 13 #[.agg (fR (ap)).toArray, .agg (fR (zz)).toArray] w fun e w' => e = .returned (.agg (fR (sm)).toArray) ∧ Below w.heap.size w w')
    (D1 : ∀ w, Calls Try.prog 14 #[.agg (fR (dd)).toArray, .agg (fR (dd)).toArray] w fun e w' => e = .returned (.agg (fR (da)).toArray) ∧ Below w.heap.size w w')
    (S4 : ∀ w, Calls Try.prog 42 #[.int .i64 4] w fun e w' => e = .returned (.agg (fR (4)).toArray) ∧ Below w.heap.size w w')
    (D2 : ∀ w, Calls Try.prog 14 #[.agg (fR (4)).toArray, .agg (fR (xz)).toArray] w fun e w' => e = .returned (.agg (fR (fm)).toArray) ∧ Below w.heap.size w w')
    (D3 : ∀ w, Calls Try.prog 14 #[.agg (fR (fm)).toArray, .agg (fR (sm)).toArray] w fun e w' => e = .returned (.agg (fR (rm)).toArray) ∧ Below w.heap.size w w')
    (w : World) :
    Calls Try.prog 64 #[twV x y] w fun e w' => e = .returned (twV da rm) ∧ Below w.heap.size w w' := by
  go_enter Try.func64, Try.ntmps64
  have s0 : Hid (Kn ((w.alloc (.cells (twR (x) (y)).toArray 60)).alloc (.cells #[Value.int IntKind.i64 0, Value.int IntKind.i64 0, Value.int IntKind.i64 0, Value.int IntKind.i64 0, Value.int IntKind.i64 0, Value.int IntKind.i64 0, Value.int IntKind.i64 0, Value.int IntKind.i64 0, Value.int IntKind.i64 0, Value.int IntKind.i64 0, Value.int IntKind.i64 0, Value.int IntKind.i64 0, Value.int IntKind.i64 0, Value.int IntKind.i64 0, Value.int IntKind.i64 0, Value.int IntKind.i64 0, Value.int IntKind.i64 0, Value.int IntKind.i64 0, Value.int IntKind.i64 0, Value.int IntKind.i64 0, Value.int IntKind.i64 0, Value.int IntKind.i64 0, Value.int IntKind.i64 0, Value.int IntKind.i64 0, Value.int IntKind.i64 0, Value.int IntKind.i64 0, Value.int IntKind.i64 0, Value.int IntKind.i64 0, Value.int IntKind.i64 0, Value.int IntKind.i64 0, Value.int IntKind.i64 0, Value.int IntKind.i64 0] 60)) [(w.heap.size + 1, tZ), (w.heap.size, (twR (x) (y)))]) := (((Kn.nil w).al (twR (x) (y)) 60 rfl).al tZ 60 (by simp))
  have b0 : Hid (Below w.heap.size w ((w.alloc (.cells (twR (x) (y)).toArray 60)).alloc (.cells #[Value.int IntKind.i64 0, Value.int IntKind.i64 0, Value.int IntKind.i64 0, Value.int IntKind.i64 0, Value.int IntKind.i64 0, Value.int IntKind.i64 0, Value.int IntKind.i64 0, Value.int IntKind.i64 0, Value.int IntKind.i64 0, Value.int IntKind.i64 0, Value.int IntKind.i64 0, Value.int IntKind.i64 0, Value.int IntKind.i64 0, Value.int IntKind.i64 0, Value.int IntKind.i64 0, Value.int IntKind.i64 0, Value.int IntKind.i64 0, Value.int IntKind.i64 0, Value.int IntKind.i64 0, Value.int IntKind.i64 0, Value.int IntKind.i64 0, Value.int IntKind.i64 0, Value.int IntKind.i64 0, Value.int IntKind.i64 0, Value.int IntKind.i64 0, Value.int IntKind.i64 0, Value.int IntKind.i64 0, Value.int IntKind.i64 0, Value.int IntKind.i64 0, Value.int IntKind.i64 0, Value.int IntKind.i64 0, Value.int IntKind.i64 0] 60))) := (((Below.refl _ _).alloc (Nat.le_refl _) _).alloc (by simp <;> omega) _)
  go_wp2_with (first | simp only [zero_t2])
  refine wp_region_vars3 15 (.cells #[Value.int IntKind.i64 0, Value.int IntKind.i64 0, Value.int IntKind.i64 0, Value.int IntKind.i64 0, Value.int IntKind.i64 0, Value.int IntKind.i64 0, Value.int IntKind.i64 0, Value.int IntKind.i64 0, Value.int IntKind.i64 0, Value.int IntKind.i64 0, Value.int IntKind.i64 0, Value.int IntKind.i64 0, Value.int IntKind.i64 0, Value.int IntKind.i64 0, Value.int IntKind.i64 0, Value.int IntKind.i64 0] 33) (.cells #[Value.int IntKind.i64 0, Value.int IntKind.i64 0, Value.int IntKind.i64 0, Value.int IntKind.i64 0, Value.int IntKind.i64 0, Value.int IntKind.i64 0, Value.int IntKind.i64 0, Value.int IntKind.i64 0, Value.int IntKind.i64 0, Value.int IntKind.i64 0, Value.int IntKind.i64 0, Value.int IntKind.i64 0, Value.int IntKind.i64 0, Value.int IntKind.i64 0, Value.int IntKind.i64 0, Value.int IntKind.i64 0] 33) (.cells #[Value.int IntKind.i64 0, Value.int IntKind.i64 0, Value.int IntKind.i64 0, Value.int IntKind.i64 0, Value.int IntKind.i64 0, Value.int IntKind.i64 0, Value.int IntKind.i64 0, Value.int IntKind.i64 0, Value.int IntKind.i64 0, Value.int IntKind.i64 0, Value.int IntKind.i64 0, Value.int IntKind.i64 0, Value.int IntKind.i64 0, Value.int IntKind.i64 0, Value.int IntKind.i64 0, Value.int IntKind.i64 0] 33) (.cells (fR (xx)).toArray 33) (.cells (fR (zz)).toArray 33) (.cells (fR (xz)).toArray 33) (by kernel_rfl) (by kernel_rfl) (by kernel_rfl) (by kernel_rfl) rfl rfl rfl rfl rfl rfl (by decide) rfl rfl rfl (fun _ _ => by kernel_rfl) (fun _ _ => by kernel_rfl) (fun _ _ => by kernel_rfl) ?_
  apply Exists.intro
  refine ⟨fun U hU f hf hcl => ?_, fun k j i W hc => ?_, fun k j i W hc => ?_, fun k j i W hc => ?_, fun k1 j1 i1 w1 hb1 hk1 hj1 hi1 hn1 hc1 hd1 he1 => ?_⟩
  · skip
    have ra_q_0 := fun nx => (Kn.rng (s0.out.up (hf nx).out) 1 rfl : (f nx).rangeAt (w.heap.size) 0 (twR (x) (y)))
    have ra_q_1 := fun nx => (Kn.tng0 (s0.out.up (hf nx).out) 1 rfl : (f nx).rangeAt (w.heap.size) 0 (fR (x)))
    have ra_q_2 := fun nx => (Kn.tng1 (s0.out.up (hf nx).out) 1 rfl : (f nx).rangeAt (w.heap.size) 16 (fR (y)))
    clear hf
    simp only [List.take_succ_cons, List.take_zero]
    repeat (first | (refine I.quiet_load rfl 60 _ rfl (w.heap.size) 0 rfl (twR (x) (y)) _ (fun W hW => by obtain ⟨nx, rfl⟩ := hW; exact ra_q_0 nx) Try.underlying60 rfl (info_twR (x) (y)) ?_; simp only [Act.put, List.setIfInBounds_toArray, List.set_cons_succ, List.set_cons_zero]) | (refine I.quiet_load rfl 33 _ rfl (w.heap.size) 0 rfl (fR (x)) _ (fun W hW => by obtain ⟨nx, rfl⟩ := hW; exact ra_q_1 nx) Try.underlying33 rfl (info_fR (x)) ?_; simp only [Act.put, List.setIfInBounds_toArray, List.set_cons_succ, List.set_cons_zero]) | (refine I.quiet_load rfl 33 _ rfl (w.heap.size) 16 rfl (fR (y)) _ (fun W hW => by obtain ⟨nx, rfl⟩ := hW; exact ra_q_2 nx) Try.underlying33 rfl (info_fR (y)) ?_; simp only [Act.put, List.setIfInBounds_toArray, List.set_cons_succ, List.set_cons_zero]) | go_big_quiet_step (first | (go_at_call_of 14 [Value.agg (fR (x)).toArray, Value.agg (fR (x)).toArray]; exact (M1 _).mono fun e w'' ⟨he, hb⟩ => ⟨he, hcl.out _ _ hb⟩) | (go_at_call_of 14 [Value.agg (fR (y)).toArray, Value.agg (fR (y)).toArray]; exact (M2 _).mono fun e w'' ⟨he, hb⟩ => ⟨he, hcl.out _ _ hb⟩) | (go_at_call_of 14 [Value.agg (fR (x)).toArray, Value.agg (fR (y)).toArray]; exact (M3 _).mono fun e w'' ⟨he, hb⟩ => ⟨he, hcl.out _ _ hb⟩)))
    exact wpQuiet_nil rfl
  · exact st_obj (zs := fZ) (cs := (fR (xx))) hc.out rfl rfl rfl (by rw [(fR_length (xx)), fZ_length]) (info_fR (xx)) (I.one_dI _)
  · exact st_obj (zs := fZ) (cs := (fR (zz))) hc.out rfl rfl rfl (by rw [(fR_length (zz)), fZ_length]) (info_fR (zz)) (I.one_dI _)
  · exact st_obj (zs := fZ) (cs := (fR (xz))) hc.out rfl rfl rfl (by rw [(fR_length (xz)), fZ_length]) (info_fR (xz)) (I.one_dI _)
  simp only [Act.put, List.setIfInBounds_toArray, List.set_cons_succ, List.set_cons_zero]
  have z1 := b0.out.size
  have g1 : w.heap.size ≤ k1 := Nat.le_trans b0.out.size hk1
  have gj1 : w.heap.size ≤ j1 := Nat.le_trans b0.out.size hj1
  have gi1 : w.heap.size ≤ i1 := Nat.le_trans b0.out.size hi1
  have s1 : Hid (Kn w1 [(k1, (fR (xx))), (j1, (fR (zz))), (i1, (fR (xz))), (w.heap.size + 1, tZ), (w.heap.size, (twR (x) (y)))]) := s0.out.three hb1.out hk1 hj1 hi1 hn1.out hc1.out hd1.out he1.out
  have b1 : Hid (Below w.heap.size w w1) := b0.out.trans (hb1.out.mono b0.out.size)
  clear s0 b0 hb1 hc1 hd1 he1 hk1 hj1 hi1
  go_wp2_with (first | refine wp_ldW rfl 33 _ rfl k1 0 rfl (fR (xx)) _ (Kn.rng s1.out 0 rfl) Try.underlying33 rfl (info_fR (xx)) ?_ | refine wp_ldW rfl 33 _ rfl j1 0 rfl (fR (zz)) _ (Kn.rng s1.out 1 rfl) Try.underlying33 rfl (info_fR (zz)) ?_)
  refine (L1 _).mono ?_
  rintro e w2 ⟨rfl, hb2⟩
  have s2 : Hid (Kn w2 [(k1, (fR (xx))), (j1, (fR (zz))), (i1, (fR (xz))), (w.heap.size + 1, tZ), (w.heap.size, (twR (x) (y)))]) := s1.out.up hb2
  have b2 : Hid (Below w.heap.size w w2) := b1.out.trans (hb2.mono b1.out.size)
  have z2 := b2.out.size
  clear hb2 s1 b1
  have s3x : Hid (Kn (w2.alloc (.cells #[Value.int IntKind.i64 0, Value.int IntKind.i64 0, Value.int IntKind.i64 0, Value.int IntKind.i64 0, Value.int IntKind.i64 0, Value.int IntKind.i64 0, Value.int IntKind.i64 0, Value.int IntKind.i64 0, Value.int IntKind.i64 0, Value.int IntKind.i64 0, Value.int IntKind.i64 0, Value.int IntKind.i64 0, Value.int IntKind.i64 0, Value.int IntKind.i64 0, Value.int IntKind.i64 0, Value.int IntKind.i64 0] 33)) [(w2.heap.size, fZ), (k1, (fR (xx))), (j1, (fR (zz))), (i1, (fR (xz))), (w.heap.size + 1, tZ), (w.heap.size, (twR (x) (y)))]) := s2.out.al fZ 33 rfl
  have b3x : Hid (Below w.heap.size w (w2.alloc (.cells #[Value.int IntKind.i64 0, Value.int IntKind.i64 0, Value.int IntKind.i64 0, Value.int IntKind.i64 0, Value.int IntKind.i64 0, Value.int IntKind.i64 0, Value.int IntKind.i64 0, Value.int IntKind.i64 0, Value.int IntKind.i64 0, Value.int IntKind.i64 0, Value.int IntKind.i64 0, Value.int IntKind.i64 0, Value.int IntKind.i64 0, Value.int IntKind.i64 0, Value.int IntKind.i64 0, Value.int IntKind.i64 0] 33))) := b2.out.alloc b2.out.size _
  have g3 : w.heap.size ≤ w2.heap.size := b2.out.size
  have TT3 : Hid ((w2.alloc (.cells #[Value.int IntKind.i64 0, Value.int IntKind.i64 0, Value.int IntKind.i64 0, Value.int IntKind.i64 0, Value.int IntKind.i64 0, Value.int IntKind.i64 0, Value.int IntKind.i64 0, Value.int IntKind.i64 0, Value.int IntKind.i64 0, Value.int IntKind.i64 0, Value.int IntKind.i64 0, Value.int IntKind.i64 0, Value.int IntKind.i64 0, Value.int IntKind.i64 0, Value.int IntKind.i64 0, Value.int IntKind.i64 0] 33)).there (w2.heap.size) 0 (fR (dd)).length) := Kn.there s3x.out 0 rfl (by rw [(fR_length (dd)), fZ_length])
  go_wp2_with (first | simp only [I.zero_fe] | refine I.wp_store_eq rfl 33 _ _ rfl (w2.heap.size) 0 (fR (dd)) rfl rfl TT3.out (info_fR (dd)) (I.one_dI _) ?_)
  intro w3 hw3
  try simp only [Act.put, List.setIfInBounds_toArray, List.set_cons_succ, List.set_cons_zero]
  have s3 : Hid (Kn w3 [(w2.heap.size, (fR (dd))), (k1, (fR (xx))), (j1, (fR (zz))), (i1, (fR (xz))), (w.heap.size + 1, tZ), (w.heap.size, (twR (x) (y)))]) := by rw [hw3.out]; exact Kn.put s3x.out (by rw [(fR_length (dd)), fZ_length])
  have b3 : Hid (Below w.heap.size w w3) := by rw [hw3.out]; exact I.below_setCells _ _ _ b3x.out g3
  have z3 := b3.out.size
  clear hw3 s3x b3x TT3 s2 b2
  go_wp2_with fail
  have G3 : Hid _ := s3
  refine wp_region_monoSE 10 [MP.eq (.agg (fR xx).toArray), MP.v1 486662, MP.sl (P.dg A), MP.eq (.agg (fR A).toArray), MP.eq (.agg (fR xz).toArray), MP.eq (.agg (fR am).toArray), MP.eq (.agg (fR ap).toArray), MP.eq (.agg (fR zz).toArray), MP.eq (.agg (fR sm).toArray), MP.made w3.heap.size fZ] (by kernel_rfl) (by kernel_rfl) rfl (by decide) (by kernel_rfl) ?_
  apply Exists.intro
  refine ⟨fun vals => ?_, ?_, fun vals4 w4 hb4 hF hO => ?_⟩
  · simp only [putsV, dstL, List.length_cons, List.length_nil, Nat.zero_add, Nat.reduceAdd, List.getElem?_cons_zero, List.getElem?_cons_succ, Option.bind_some, Act.put, List.setIfInBounds_toArray, List.set_cons_succ, List.set_cons_zero]
    rfl
  · refine ⟨?_, ?_, ?_, ?_, ?_, ?_, ?_, ?_, ?_, ?_, trivial⟩
    · intro vals W hW hw hd
      try simp [Region.binds] at hd
      refine ⟨by first | rfl | simp [Region.wanted, yielded, hd], ?_⟩
      exact I.yields_ld 33 (.tmp 3) rfl k1 0 rfl (fR xx) _ (Kn.rng (G3.out.up hW.out) 1 rfl) I.u_fe rfl (info_fR xx) rfl
    · intro vals W hW hw hd
      try simp [Region.binds] at hd
      refine ⟨by first | rfl | simp [Region.wanted, yielded, hd], ?_⟩
      exact yields_v1 rfl
    · intro vals W hW hw hd
      try simp [Region.binds] at hd
      refine ⟨by first | rfl | simp [Region.wanted, yielded, hd], ?_⟩
      exact yields_call1 cfDig (.tmp 27) _ rfl _ rfl ((DG.out _ W hd).mono fun e w' ⟨⟨v, he, h⟩, hb⟩ => ⟨v, he, h, hb⟩)
    · intro vals W hW hw hd
      try simp [Region.binds] at hd
      refine ⟨by first | rfl | simp [Region.wanted, yielded, hd], ?_⟩
      exact yields_call1 cfFeo (.tmp 28) _ rfl _ rfl ((FO.out _ W hd).mono fun e w' ⟨he, hb⟩ => ⟨_, he, rfl, hb⟩)
    · intro vals W hW hw hd
      try simp [Region.binds] at hd
      refine ⟨by first | rfl | simp [Region.wanted, yielded, hd], ?_⟩
      exact I.yields_ld 33 (.tmp 5) rfl i1 0 rfl (fR xz) _ (Kn.rng (G3.out.up hW.out) 3 rfl) I.u_fe rfl (info_fR xz) rfl
    · intro vals W hW hw hd
      try simp [Region.binds] at hd
      refine ⟨by first | rfl | simp [Region.wanted, yielded, hd], ?_⟩
      exact yields_call2 cfBy (.tmp 29) (.tmp 30) _ rfl _ _ hd.1 hd.2.1 ((A1 W).mono fun e w' ⟨he, hb⟩ => ⟨_, he, rfl, hb⟩)
    · intro vals W hW hw hd
      try simp [Region.binds] at hd
      refine ⟨by first | rfl | simp [Region.wanted, yielded, hd], ?_⟩
      exact yields_call2 cfPlus (.tmp 26) (.tmp 31) _ rfl _ _ hd.1 hd.2 ((A2 W).mono fun e w' ⟨he, hb⟩ => ⟨_, he, rfl, hb⟩)
    · intro vals W hW hw hd
      try simp [Region.binds] at hd
      refine ⟨by first | rfl | simp [Region.wanted, yielded, hd], ?_⟩
      exact I.yields_ld 33 (.tmp 4) rfl j1 0 rfl (fR zz) _ (Kn.rng (G3.out.up hW.out) 2 rfl) I.u_fe rfl (info_fR zz) rfl
    · intro vals W hW hw hd
      try simp [Region.binds] at hd
      refine ⟨by first | rfl | simp [Region.wanted, yielded, hd], ?_⟩
      exact yields_call2 cfPlus (.tmp 32) (.tmp 33) _ rfl _ _ hd.1 hd.2.1 ((A3 W).mono fun e w' ⟨he, hb⟩ => ⟨_, he, rfl, hb⟩)
    · intro vals W hW hw hd
      try simp [Region.binds] at hd
      refine ⟨by first | rfl | simp [Region.wanted, yielded, hd], ?_⟩
      exact yields_mk rfl I.zero_fe hW.out.size
  obtain ⟨f0, f1, f2, f3, f4, f5, f6, f7, f8, f9, _⟩ := hF
  simp only [MP.eq_p] at f0 f3 f4 f5 f6 f7 f8
  obtain ⟨g, eg, hg, bg⟩ := f9
  rw [f0, f3, f4, f5, f6, f7, f8, eg]
  simp only [List.drop_succ_cons, List.drop_zero]
  have s4 : Hid (Kn w4 [(g, fZ), (w2.heap.size, fR dd), (k1, fR xx), (j1, fR zz), (i1, fR xz), (w.heap.size + 1, tZ), (w.heap.size, twR x y)]) := s3.out.fresh_of hb4.out hg bg
  have b4 : Hid (Below w.heap.size w w4) := b3.out.trans (hb4.out.mono b3.out.size)
  have gg : w.heap.size ≤ g := Nat.le_trans b3.out.size hg
  clear f0 f1 f2 f3 f4 f5 f6 f7 f8 eg hg bg hO hb4 s3 b3 G3
  have s5x : Hid (Kn w4 [(g, fZ), (w2.heap.size, (fR (dd))), (k1, (fR (xx))), (j1, (fR (zz))), (i1, (fR (xz))), (w.heap.size + 1, tZ), (w.heap.size, (twR (x) (y)))]) := s4.out.front 0 rfl
  have b5x : Hid (Below w.heap.size w w4) := b4.out
  have TT5 : Hid (w4.there g 0 (fR (sm)).length) := Kn.there s5x.out 0 rfl (by rw [(fR_length (sm)), fZ_length])
  go_wp2_with (first | refine I.wp_store_eq rfl 33 _ _ rfl g 0 (fR (sm)) rfl rfl TT5.out (info_fR (sm)) (I.one_dI _) ?_)
  intro w5 hw5
  try simp only [Act.put, List.setIfInBounds_toArray, List.set_cons_succ, List.set_cons_zero]
  have s5 : Hid (Kn w5 [(g, (fR (sm))), (w2.heap.size, (fR (dd))), (k1, (fR (xx))), (j1, (fR (zz))), (i1, (fR (xz))), (w.heap.size + 1, tZ), (w.heap.size, (twR (x) (y)))]) := by rw [hw5.out]; exact Kn.put s5x.out (by rw [(fR_length (sm)), fZ_length])
  have b5 : Hid (Below w.heap.size w w5) := by rw [hw5.out]; exact I.below_setCells _ _ _ b5x.out (by omega)
  have z5 := b5.out.size
  clear hw5 s5x b5x TT5 s4 b4
  go_wp2_with fail
  refine wp_region_up_then 9 (by kernel_rfl) (by kernel_rfl) (by kernel_rfl) (by kernel_rfl) (by decide) (fun _ _ d _ _ h => by cases d <;> exact h) (fun U hU f hf hcl => ?_)
  have ra_d_0 := fun nx => (Kn.rng (s5.out.up (hf nx).out) 1 rfl : (f nx).rangeAt (w2.heap.size) 0 (fR (dd)))
  have ra_xz_0 := fun nx => (Kn.rng (s5.out.up (hf nx).out) 4 rfl : (f nx).rangeAt i1 0 (fR (xz)))
  have ra_sum_0 := fun nx => (Kn.rng (s5.out.up (hf nx).out) 0 rfl : (f nx).rangeAt g 0 (fR (sm)))
  simp only [List.take_succ_cons, List.take_zero, List.drop_succ_cons, List.drop_zero]
  repeat (first | (refine quiet_buildT rfl 60 _ _ rfl (.agg (fR da).toArray) (.agg (fR rm).toArray) (twR da rm) rfl rfl (t2_built da rm) ?_; simp only [Act.put, List.setIfInBounds_toArray, List.set_cons_succ, List.set_cons_zero]) | (refine I.quiet_load rfl 33 _ rfl (w2.heap.size) 0 rfl (fR (dd)) _ (fun W hW => by obtain ⟨nx, rfl⟩ := hW; exact ra_d_0 nx) Try.underlying33 rfl (info_fR (dd)) ?_; simp only [Act.put, List.setIfInBounds_toArray, List.set_cons_succ, List.set_cons_zero]) | (refine I.quiet_load rfl 33 _ rfl i1 0 rfl (fR (xz)) _ (fun W hW => by obtain ⟨nx, rfl⟩ := hW; exact ra_xz_0 nx) Try.underlying33 rfl (info_fR (xz)) ?_; simp only [Act.put, List.setIfInBounds_toArray, List.set_cons_succ, List.set_cons_zero]) | (refine I.quiet_load rfl 33 _ rfl g 0 rfl (fR (sm)) _ (fun W hW => by obtain ⟨nx, rfl⟩ := hW; exact ra_sum_0 nx) Try.underlying33 rfl (info_fR (sm)) ?_; simp only [Act.put, List.setIfInBounds_toArray, List.set_cons_succ, List.set_cons_zero]) | go_big_quiet_step (first | (go_at_call_of 14 [Value.agg (fR (dd)).toArray, Value.agg (fR (dd)).toArray]; exact (D1 _).mono fun e w'' ⟨he, hb⟩ => ⟨he, hcl.out _ _ hb⟩) | (go_at_call 42; exact (S4 _).mono fun e w'' ⟨he, hb⟩ => ⟨he, hcl.out _ _ hb⟩) | (go_at_call_of 14 [Value.agg (fR (4)).toArray, Value.agg (fR (xz)).toArray]; exact (D2 _).mono fun e w'' ⟨he, hb⟩ => ⟨he, hcl.out _ _ hb⟩) | (go_at_call_of 14 [Value.agg (fR (fm)).toArray, Value.agg (fR (sm)).toArray]; exact (D3 _).mono fun e w'' ⟨he, hb⟩ => ⟨he, hcl.out _ _ hb⟩)))
  refine wpQuiet_nil ?_
  intro nx
  have hb6 := (hf nx).out
  clear hf hcl
  generalize f nx = w6 at hb6 ⊢
  have s6 : Hid (Kn w6 [(g, (fR (sm))), (w2.heap.size, (fR (dd))), (k1, (fR (xx))), (j1, (fR (zz))), (i1, (fR (xz))), (w.heap.size + 1, tZ), (w.heap.size, (twR (x) (y)))]) := s5.out.up hb6
  have b6 : Hid (Below w.heap.size w w6) := b5.out.trans (hb6.mono b5.out.size)
  have z6 := b6.out.size
  clear hb6 s5 b5
  have s7x : Hid (Kn w6 [(w.heap.size + 1, tZ), (g, (fR (sm))), (w2.heap.size, (fR (dd))), (k1, (fR (xx))), (j1, (fR (zz))), (i1, (fR (xz))), (w.heap.size, (twR (x) (y)))]) := s6.out.front 5 rfl
  have b7x : Hid (Below w.heap.size w w6) := b6.out
  have TT7 : Hid (w6.there (w.heap.size + 1) 0 (twR (da) (rm)).length) := Kn.there s7x.out 0 rfl (by rw [(twR_length (da) (rm)), tZ_length])
  go_wp2_with (first | refine I.wp_store_eq rfl 60 _ _ rfl (w.heap.size + 1) 0 (twR (da) (rm)) rfl rfl TT7.out (info_twR (da) (rm)) (twR_one (da) (rm)) ?_)
  intro w7 hw7
  try simp only [Act.put, List.setIfInBounds_toArray, List.set_cons_succ, List.set_cons_zero]
  have s7 : Hid (Kn w7 [(w.heap.size + 1, (twR (da) (rm))), (g, (fR (sm))), (w2.heap.size, (fR (dd))), (k1, (fR (xx))), (j1, (fR (zz))), (i1, (fR (xz))), (w.heap.size, (twR (x) (y)))]) := by rw [hw7.out]; exact Kn.put s7x.out (by rw [(twR_length (da) (rm)), tZ_length])
  have b7 : Hid (Below w.heap.size w w7) := by rw [hw7.out]; exact I.below_setCells _ _ _ b7x.out (by omega)
  have z7 := b7.out.size
  clear hw7 s7x b7x TT7 s6 b6
  go_wp2_with fail
  exact bodyPost_ret (v := twV da rm) (I.results_cell (b := w.heap.size + 1) rfl rfl (Kn.rng s7.out 0 rfl) Try.underlying60 rfl (info_twR (da) (rm))) rfl ⟨rfl, b7.out⟩
theorem double_n (q : Nat × Nat) (h1 : q.1 < F.p) (h2 : q.2 < F.p) (w : World) : Calls Try.prog 64 #[twV q.1 q.2] w fun e w' => e = .returned (twV (Cv.dbl q).1 (Cv.dbl q).2) ∧ Below w.heap.size w w' := by
  have m := F.mul_lt; have a := F.add_lt; have b := F.sub_lt
  exact double_walk 486662 _ _ _ _ _ _ _ _ _ _ _ _ dg_486 (fun v W sv => I.feOf_fe 486662 v W sv) (I.by_fe _ _ h1 h1) (I.by_fe _ _ h2 h2) (I.by_fe _ _ h1 h2) (I.less_fe _ _ (m _ _) (m _ _)) (I.by_fe _ _ (by decide) (m _ _)) (I.plus_fe _ _ (m _ _) (m _ _)) (I.plus_fe _ _ (a _ _) (m _ _)) (I.by_fe _ _ (b _ _) (b _ _)) (I.small_fe 4 (by decide)) (I.by_fe _ _ (by decide) (m _ _)) (I.by_fe _ _ (m _ _) (a _ _)) w
end Go.Proofs.Ytjdamgfichlgpaa
