/- Texts that were joined: UpQ, CloneB, SgAgain. -/
import Derived.Test.YtfknkfninjjgbaaDoorQHLaidToSDig
import Derived.Test.YtfknkfninjjgbaaDoorQUpMToSBy
import Derived.OrdersHeld
import Derived.Test.YtfknkfninjjgbaaDoorQBKToHCut
import Derived.Test.YtfknkfninjjgbaaDoorQSgSToSgK
import Derived.Test.YtfknkfninjjgbaaDoorQMulWToAdN
import Derived.Test.YtfknkfninjjgbaaDoorQCOwnToSgLaw
import Derived.Test.YtfknkfninjjgbaaDoorQUpV3ToOfB
/- A drawn region: some operations are taken first (they yield their value in every world that keeps a condition), the others come one by one, and each keeps the condition. Over any program. -/
namespace Go.Proofs.YtfknkfninjjgbaaDoor
open Go.RowKit
section
variable {P : Program} {ops : Array Oper} {Q : Exit → Act → World → Prop} {S : World → Prop}
/-- Another end, of the normal way alone. -/
def upN (Q : Exit → Act → World → Prop) (K : Act → World → Prop) : Exit → Act → World → Prop
  | .normal, a, w => K a w
  | e, a, w => Q e a w
/-- Operations one by one, each keeping the condition. -/
def PathH (P : Program) (ops : Array Oper) (Q : Exit → Act → World → Prop) (S : World → Prop) : List Oper → Act → World → Prop
  | [], a, w => Q .normal a w
  | o :: r, a, w => wpList P ops (upN Q fun a' w' => S w' ∧ PathH P ops Q S r a' w') [o] a w
theorem wpOp_of_list {i : Nat} {o : Oper} {a : Act} {w : World} {K : Act → World → Prop} (hi : ops[i]? = some o) (h : wpList P ops (upN Q K) [o] a w) : wpOp P ops Q i K a w := by
  unfold wpOp
  simp only [hi]
  unfold wpList at h
  split
  · rename_i hw
    rw [if_pos hw] at h
    rcases h with h | ⟨h1, h2⟩
    · refine .inl ?_
      unfold Oper.wp at h ⊢
      generalize (execOp a.eval o).run P w = r at *
      cases r with
      | ok n w' =>
        cases n <;> simp only [Oper.upon] at h ⊢
        case value v => exact h
        case skip => exact h
        case defer d => exact h
        case enter f args =>
          refine Calls.mono h fun e w'' he => ?_
          cases e with
          | returned u => exact he
          | panicked c => exact he
          | outgrown => exact he
        case row row args => exact h
      | halt x w' => cases x <;> simp only [Oper.upon] at h ⊢ <;> exact h
    · exact .inr ⟨h1, h2⟩
  · rename_i hw
    rw [if_neg hw] at h
    exact h
theorem wpAnyH_path : ∀ (js : List Nat) (l : List Oper) (listed : Array Bool) (a : Act) (w : World), js.map (fun j => ops[j]?) = l.map some → pathB ops listed js = true → PathH P ops Q S l a w → wpAnyH P .any ops Q S js.length listed a w
  | [], [], _, _, _, _, hB, h => wpAnyH_done (by simpa [pathB] using hB) h _
  | j :: js, o :: l, listed, a, w, hl, hB, h => by
    simp only [List.map_cons, List.cons.injEq] at hl
    simp only [pathB, Bool.and_eq_true, beq_iff_eq] at hB
    obtain ⟨hr, hB'⟩ := hB
    refine wpAnyH_all (fuel := js.length) hr (by simp) fun i hi => ?_
    have hi : i = j := by simpa using hi
    subst hi
    refine wpOp_mono (fun a' w' h' => ⟨h'.1, ?_⟩) (wpOp_of_list hl.1 h)
    exact wpAnyH_path js l _ a' w' hl.2 hB' h'.2
  | [], _ :: _, _, _, _, hl, _, _ => by simp at hl
  | _ :: _, [], _, _, _, hl, _, _ => by simp at hl
theorem PathH.step {o : Oper} {r : List Oper} {a : Act} {w : World} {φ : Value → World → Prop} (hw : Region.wanted o (yielded ops a.tmps) = true) (h : YieldsP P o a w φ) (hk : ∀ v w', φ v w' → Below w.heap.size w w' → S w' ∧ PathH P ops Q S r (a.put o.dst v) w') : PathH P ops Q S (o :: r) a w := by
  show wpList P ops _ [o] a w
  unfold wpList
  rw [if_pos hw]
  exact .inl (YieldsP.wp h fun v w' hv hb => hk v w' hv hb)
end
end Go.Proofs.YtfknkfninjjgbaaDoor

/- The contract of slices.Clone of bytes. -/
namespace Go.Proofs.YtfknkfninjjgbaaDoor
open Go.RowKit
set_option linter.unusedSimpArgs false
theorem eql_nilB (a : Addr) (l c : Nat) (w : World) : (binOp .eql 23 (.slice (some a) l c) (.slice none 0 0)).run Tryd.prog w = .ok (.bool false) w := by
  have h : ∀ d : Nat, (Op.equalIn (d + 1) 23 (.slice (some a) l c) (.slice none 0 0)).run Tryd.prog w = .ok false w := fun d => by
    simp [Op.equalIn, run_underlying Tryd.uBytes]
  have h2 : (Op.equal 23 (.slice (some a) l c) (.slice none 0 0)).run Tryd.prog w = .ok false w := h 9999
  simp [binOp, h2]
set_option maxRecDepth 20000 in
set_option maxHeartbeats 1000000 in
theorem cloneB_fun (xs : List Nat) (zx : xs.length ≤ 140737488355328) (a : Addr) (n c : Nat) (w : World) (hv : By w (.slice (some a) n c) xs) :
    Calls Tryd.prog 13 #[.slice (some a) n c] w fun e w' => (∃ v', e = .returned v' ∧ Ob w' w.heap.size v' xs) ∧ Below w.heap.size w w' := by
  have en := eql_nilB a n c
  have HV : Hid (By (w.alloc (.cells #[] 5)) (.slice (some a) n c) xs) := hv.up ((Below.refl _ _).alloc (Nat.le_refl _) _) (Nat.le_refl _)
  have O1 : Hid (Ob (w.alloc (.cells #[] 5)) w.heap.size (.slice (some ⟨w.heap.size, 0, none⟩) 0 0) []) := ⟨by simp, .inr ⟨w.heap.size, 0, #[], rfl, Nat.le_refl _, heap_alloc_new w _, Nat.le_refl _, by unfold maxLen; omega, by simp, by simp⟩⟩
  have Z1 : Hid (Below w.heap.size w (w.alloc (.cells #[] 5))) := (Below.refl _ _).alloc (Nat.le_refl _) _
  have G1 : Hid (w.heap.size ≤ (w.alloc (.cells #[] 5)).heap.size) := Z1.out.size
  have ZX : Hid _ := zx
  clear hv zx
  go_enter Tryd.func13, Tryd.ntmps13
  go_wp2_with (refine wp_appB rfl _ _ rfl w.heap.size _ _ [] xs _ rfl O1.out (Below.refl _ _) rfl HV.out (by have := ZX.out; simpa using this) G1.out ?_)
  intro v2 w2 o2 _ hb2
  have B2 : Hid (Below w.heap.size w w2) := Z1.out.trans hb2
  have O2 : Hid (Ob w2 w.heap.size v2 xs) := o2
  clear hb2 o2 HV O1 Z1 G1
  go_wp2_with fail
  go_ret
  exact ⟨⟨v2, rfl, O2.out⟩, B2.out⟩
end Go.Proofs.YtfknkfninjjgbaaDoor

/- SignAgain, out of what package sign must keep. -/
namespace Go.Proofs.YtfknkfninjjgbaaDoor
open Go.RowKit
attribute [local go_sem] World.cell?_alloc_some cell_alloc2 cell_alloc3 cell_alloc4 frozen?_alloc_cells frozen_out
set_option linter.unusedSimpArgs false
theorem exec_front64 {o : Oper} {a : Act} (x y : Operand) (ho : o.op = .slice 31 x none (some y) none) (b : Nat) (hx : a.eval x = .pointer (some ⟨b, 0, none⟩)) (hy : a.eval y = .int .i64 32) (W : World) : (execOp a.eval o).run Tryd.prog W = .ok (.value (.slice (some ⟨b, 0, none⟩) 32 64)) W := by
  have e1 : (Instr.sliceAt 31 (.pointer (some ⟨b, 0, none⟩)) none (some (.int .i64 32)) none).run Tryd.prog W = .ok (.slice (some ⟨b, 0, none⟩) 32 64) W := by
    have ha : Tryd.prog.arrayLen 31 = 64 := by simp [Program.arrayLen, u_b64]
    have he : Tryd.prog.elem 31 = 5 := by simp [Program.elem, u_b64]
    rw [run_sliceAt_array_h W 31 ⟨b, 0, none⟩ (by rw [ha, he]; exact u_b64) .i64 32 (by decide) (by rw [ha]; decide), ha, he, size_u8]
    rfl
  unfold execOp
  simp [ho, hx, hy, e1]
theorem exec_pub2 {o : Oper} {a : Act} (x : Operand) (ho : o.op = .fieldAddr 29 x 2) (b : Nat) (hx : a.eval x = .pointer (some ⟨b, 0, none⟩)) (w : World) : (execOp a.eval o).run Tryd.prog w = .ok (.value (.pointer (some ⟨b, 36, none⟩))) w := by
  generalize a.eval = ev at *
  unfold execOp
  simp [ho, hx, go_sem]
theorem exec_mv' {o : Oper} {a : Act} {v : Value} (x : Operand) (ho : o.op = .move x) (hx : a.eval x = v) (W : World) : (execOp a.eval o).run Tryd.prog W = .ok (.value v) W := by
  generalize a.eval = ev at *
  unfold execOp
  simp [ho, hx, go_sem]
theorem yields_as {o : Oper} {a : Act} {w : World} {v : Value} (x : Operand) (ho : o.op = .assign x) (hx : a.eval x = v) : YieldsP Tryd.prog o a w (MP.eq v).p := by
  have e : (execOp a.eval o).run Tryd.prog w = .ok (.value v) w := by
    generalize a.eval = ev at *
    unfold execOp
    simp [ho, hx, go_sem]
  unfold YieldsP
  rw [e]
  exact ⟨rfl, Below.refl _ _⟩
theorem cfCl (args : Array Value) (W : World) : (callFunc 13 args).run Tryd.prog W = .ok (.enter 13 args) W := cf_is (fn := Tryd.f13) (by kernel_rfl) (by decide) (by kernel_rfl) args W
theorem cfVe (args : Array Value) (W : World) : (callFunc 9 args).run Tryd.prog W = .ok (.enter 9 args) W := cf_is (fn := Tryd.f9) (by kernel_rfl) (by decide) (by kernel_rfl) args W
set_option maxRecDepth 20000 in
set_option maxHeartbeats 2000000 in
theorem signAgain_1 (d m a r s : Nat) (x n os f : Nm) (v : Value) (p : List Nat)
    (NW : Hid (∀ w, KTab w → Calls Tryd.prog 7 #[bV d] w fun e w' => e = .returned (prV x m a) ∧ Below w.heap.size w w'))
    (SG : Hid (∀ w, By w v p → KTab w → Calls Tryd.prog 8 #[bV d, v] w fun e w' => e = .returned (sgV r s) ∧ Below w.heap.size w w'))
    (OF : ∀ w, Calls Tryd.prog 10 #[.agg (bR (s)).toArray] w fun e w' => e = .returned (N os) ∧ Below w.heap.size w w')
    (AD : ∀ w, Calls Tryd.prog 11 #[N os, N n] w fun e w' => e = .returned (.tuple #[N f, .int .u64 1]) ∧ Below w.heap.size w w')
    (w : World) (hv : By w v p) (hT : KTab w) :
    Calls Tryd.prog 5 #[bV d, v, N n] w fun e w' => e = .returned (.bool true) ∧ Below w.heap.size w w' := by
  have HV : Hid (By w v p) := hv
  have HT : Hid (KTab w) := hT
  clear hv hT
  go_enter Tryd.func5, Tryd.ntmps5
  have s0 : Hid (Kn (kal4 (w.alloc (.cells (bR (d)).toArray 22)) (n)) [(w.heap.size + 1, (c4 (n))), (w.heap.size, (bR (d)))]) := (((Kn.nil w).al (bR (d)) 22 rfl).al (c4 (n)) 27 (by simp))
  have b0 : Hid (Below w.heap.size w (kal4 (w.alloc (.cells (bR (d)).toArray 22)) (n))) := (((Below.refl _ _).alloc (Nat.le_refl _) _).alloc (by simp <;> omega) _)
  go_wp2_with fail
  refine wp_region_vars2 5 (.cells #[Value.int IntKind.u64 0, Value.int IntKind.u64 0, Value.int IntKind.u64 0, Value.int IntKind.u64 0, Value.int IntKind.u8 0, Value.int IntKind.u8 0, Value.int IntKind.u8 0, Value.int IntKind.u8 0, Value.int IntKind.u8 0, Value.int IntKind.u8 0, Value.int IntKind.u8 0, Value.int IntKind.u8 0, Value.int IntKind.u8 0, Value.int IntKind.u8 0, Value.int IntKind.u8 0, Value.int IntKind.u8 0, Value.int IntKind.u8 0, Value.int IntKind.u8 0, Value.int IntKind.u8 0, Value.int IntKind.u8 0, Value.int IntKind.u8 0, Value.int IntKind.u8 0, Value.int IntKind.u8 0, Value.int IntKind.u8 0, Value.int IntKind.u8 0, Value.int IntKind.u8 0, Value.int IntKind.u8 0, Value.int IntKind.u8 0, Value.int IntKind.u8 0, Value.int IntKind.u8 0, Value.int IntKind.u8 0, Value.int IntKind.u8 0, Value.int IntKind.u8 0, Value.int IntKind.u8 0, Value.int IntKind.u8 0, Value.int IntKind.u8 0, Value.int IntKind.u8 0, Value.int IntKind.u8 0, Value.int IntKind.u8 0, Value.int IntKind.u8 0, Value.int IntKind.u8 0, Value.int IntKind.u8 0, Value.int IntKind.u8 0, Value.int IntKind.u8 0, Value.int IntKind.u8 0, Value.int IntKind.u8 0, Value.int IntKind.u8 0, Value.int IntKind.u8 0, Value.int IntKind.u8 0, Value.int IntKind.u8 0, Value.int IntKind.u8 0, Value.int IntKind.u8 0, Value.int IntKind.u8 0, Value.int IntKind.u8 0, Value.int IntKind.u8 0, Value.int IntKind.u8 0, Value.int IntKind.u8 0, Value.int IntKind.u8 0, Value.int IntKind.u8 0, Value.int IntKind.u8 0, Value.int IntKind.u8 0, Value.int IntKind.u8 0, Value.int IntKind.u8 0, Value.int IntKind.u8 0, Value.int IntKind.u8 0, Value.int IntKind.u8 0, Value.int IntKind.u8 0, Value.int IntKind.u8 0] 29) (.cells #[Value.int IntKind.u8 0, Value.int IntKind.u8 0, Value.int IntKind.u8 0, Value.int IntKind.u8 0, Value.int IntKind.u8 0, Value.int IntKind.u8 0, Value.int IntKind.u8 0, Value.int IntKind.u8 0, Value.int IntKind.u8 0, Value.int IntKind.u8 0, Value.int IntKind.u8 0, Value.int IntKind.u8 0, Value.int IntKind.u8 0, Value.int IntKind.u8 0, Value.int IntKind.u8 0, Value.int IntKind.u8 0, Value.int IntKind.u8 0, Value.int IntKind.u8 0, Value.int IntKind.u8 0, Value.int IntKind.u8 0, Value.int IntKind.u8 0, Value.int IntKind.u8 0, Value.int IntKind.u8 0, Value.int IntKind.u8 0, Value.int IntKind.u8 0, Value.int IntKind.u8 0, Value.int IntKind.u8 0, Value.int IntKind.u8 0, Value.int IntKind.u8 0, Value.int IntKind.u8 0, Value.int IntKind.u8 0, Value.int IntKind.u8 0, Value.int IntKind.u8 0, Value.int IntKind.u8 0, Value.int IntKind.u8 0, Value.int IntKind.u8 0, Value.int IntKind.u8 0, Value.int IntKind.u8 0, Value.int IntKind.u8 0, Value.int IntKind.u8 0, Value.int IntKind.u8 0, Value.int IntKind.u8 0, Value.int IntKind.u8 0, Value.int IntKind.u8 0, Value.int IntKind.u8 0, Value.int IntKind.u8 0, Value.int IntKind.u8 0, Value.int IntKind.u8 0, Value.int IntKind.u8 0, Value.int IntKind.u8 0, Value.int IntKind.u8 0, Value.int IntKind.u8 0, Value.int IntKind.u8 0, Value.int IntKind.u8 0, Value.int IntKind.u8 0, Value.int IntKind.u8 0, Value.int IntKind.u8 0, Value.int IntKind.u8 0, Value.int IntKind.u8 0, Value.int IntKind.u8 0, Value.int IntKind.u8 0, Value.int IntKind.u8 0, Value.int IntKind.u8 0, Value.int IntKind.u8 0] 31) (.cells (prR (x) (m) (a)).toArray 29) (.cells (sgR (r) (s)).toArray 31) (by kernel_rfl) (by kernel_rfl) (by kernel_rfl) (by kernel_rfl) rfl rfl rfl rfl (by decide) rfl rfl (fun _ _ => by kernel_rfl) (fun _ _ => by kernel_rfl) ?_
  apply Exists.intro
  refine ⟨fun U hU f hf hcl => ?_, fun k j W hc => ?_, fun k j W hc => ?_, fun k1 j1 w1 hb1 hk1 hj1 hn1 hc1 hd1 => ?_⟩
  · skip
    have ra_seed_0 := fun nx => (Kn.rng (s0.out.up (hf nx).out) 1 rfl : (f nx).rangeAt (w.heap.size) 0 (bR (d)))
    have KT := fun nx => HT.out.up (b0.out.trans ((hf nx).out.mono b0.out.size)) HT.out.pos
    have BV := fun nx => HV.out.up (b0.out.trans ((hf nx).out.mono b0.out.size)) (Nat.le_refl _)
    clear hf
    simp only [List.take_succ_cons, List.take_zero]
    repeat (first | (refine I.quiet_load rfl 22 _ rfl (w.heap.size) 0 rfl (bR (d)) _ (fun W hW => by obtain ⟨nx, rfl⟩ := hW; exact ra_seed_0 nx) Tryd.underlying22 rfl (info_bR (d)) ?_; simp only [Act.put, List.setIfInBounds_toArray, List.set_cons_succ, List.set_cons_zero]) | go_big_quiet_step (first | (go_at_call 7; exact (NW.out _ (KT _)).mono fun e w'' ⟨he, hb⟩ => ⟨he, hcl.out _ _ hb⟩) | (go_at_call 8; exact (SG.out _ (BV _) (KT _)).mono fun e w'' ⟨he, hb⟩ => ⟨he, hcl.out _ _ hb⟩)))
    exact wpQuiet_nil rfl
  · exact st_obj (zs := pairZ) (cs := (prR (x) (m) (a))) hc.out rfl rfl rfl (by rw [(prR_length (x) (m) (a)), pairZ_length]) (info_prR (x) (m) (a)) (prR_one (x) (m) (a))
  · exact st_obj (zs := sgZ) (cs := (sgR (r) (s))) hc.out rfl rfl rfl (by rw [(sgR_length (r) (s)), sgZ_length]) (info_sgR (r) (s)) (sgR_one (r) (s))
  simp only [Act.put, List.setIfInBounds_toArray, List.set_cons_succ, List.set_cons_zero]
  have z1 := b0.out.size
  have g1 : w.heap.size ≤ k1 := Nat.le_trans b0.out.size hk1
  have gj1 : w.heap.size ≤ j1 := Nat.le_trans b0.out.size hj1
  have s1 : Hid (Kn w1 [(k1, (prR (x) (m) (a))), (j1, (sgR (r) (s))), (w.heap.size + 1, (c4 (n))), (w.heap.size, (bR (d)))]) := s0.out.two hb1.out hk1 hj1 hn1.out hc1.out hd1.out
  have b1 : Hid (Below w.heap.size w w1) := b0.out.trans (hb1.out.mono b0.out.size)
  clear s0 b0 hb1 hc1 hd1 hk1 hj1
  have s2 : Hid (Kn (w1.alloc (.cells #[Value.int IntKind.u8 0, Value.int IntKind.u8 0, Value.int IntKind.u8 0, Value.int IntKind.u8 0, Value.int IntKind.u8 0, Value.int IntKind.u8 0, Value.int IntKind.u8 0, Value.int IntKind.u8 0, Value.int IntKind.u8 0, Value.int IntKind.u8 0, Value.int IntKind.u8 0, Value.int IntKind.u8 0, Value.int IntKind.u8 0, Value.int IntKind.u8 0, Value.int IntKind.u8 0, Value.int IntKind.u8 0, Value.int IntKind.u8 0, Value.int IntKind.u8 0, Value.int IntKind.u8 0, Value.int IntKind.u8 0, Value.int IntKind.u8 0, Value.int IntKind.u8 0, Value.int IntKind.u8 0, Value.int IntKind.u8 0, Value.int IntKind.u8 0, Value.int IntKind.u8 0, Value.int IntKind.u8 0, Value.int IntKind.u8 0, Value.int IntKind.u8 0, Value.int IntKind.u8 0, Value.int IntKind.u8 0, Value.int IntKind.u8 0] 22)) [(w1.heap.size, bZ), (k1, (prR (x) (m) (a))), (j1, (sgR (r) (s))), (w.heap.size + 1, (c4 (n))), (w.heap.size, (bR (d)))]) := s1.out.al bZ 22 rfl
  have b2 : Hid (Below w.heap.size w (w1.alloc (.cells #[Value.int IntKind.u8 0, Value.int IntKind.u8 0, Value.int IntKind.u8 0, Value.int IntKind.u8 0, Value.int IntKind.u8 0, Value.int IntKind.u8 0, Value.int IntKind.u8 0, Value.int IntKind.u8 0, Value.int IntKind.u8 0, Value.int IntKind.u8 0, Value.int IntKind.u8 0, Value.int IntKind.u8 0, Value.int IntKind.u8 0, Value.int IntKind.u8 0, Value.int IntKind.u8 0, Value.int IntKind.u8 0, Value.int IntKind.u8 0, Value.int IntKind.u8 0, Value.int IntKind.u8 0, Value.int IntKind.u8 0, Value.int IntKind.u8 0, Value.int IntKind.u8 0, Value.int IntKind.u8 0, Value.int IntKind.u8 0, Value.int IntKind.u8 0, Value.int IntKind.u8 0, Value.int IntKind.u8 0, Value.int IntKind.u8 0, Value.int IntKind.u8 0, Value.int IntKind.u8 0, Value.int IntKind.u8 0, Value.int IntKind.u8 0] 22))) := b1.out.alloc b1.out.size _
  have z2 := b1.out.size
  clear s1 b1
  go_wp2_with (simp only [zero_b32])
  have gb : w.heap.size ≤ w1.heap.size := z2
  refine wp_region_two 0 1 [2] [_] (.slice (some ⟨w1.heap.size, 0, none⟩) 32 32) (.slice (some ⟨j1, 32, none⟩) 32 32) (by kernel_rfl) (by kernel_rfl) (fun _ _ d _ _ h => by cases d <;> exact h) rfl rfl (by kernel_rfl) (by kernel_rfl) rfl rfl (by kernel_rfl) (.inl ⟨rfl, exec_all32 _ rfl _ rfl⟩) (.inl ⟨rfl, exec_from64 _ _ rfl _ rfl rfl⟩) ?_
  intro w3 hb3 hh3
  clear hh3
  simp only [Act.put, List.setIfInBounds_toArray, List.set_cons_succ, List.set_cons_zero, List.getElem_toArray, List.getElem_cons_zero, List.getElem_cons_succ]
  have s3 : Hid (Kn w3 [(w1.heap.size, bZ), (k1, prR x m a), (j1, sgR r s), (w.heap.size + 1, c4 n), (w.heap.size, bR d)]) := s2.out.up hb3.out
  have b3 : Hid (Below w.heap.size w w3) := b2.out.trans (hb3.out.mono b2.out.size)
  clear s2 b2 hb3
  have T3 : Hid (w3.there w1.heap.size 0 (S.by s).length) := by
    have := Kn.there (us := bR 0) s3.out 0 rfl (by rw [bR_length, bZ_length])
    rw [S.by_length]
    rw [bR_length] at this
    exact this
  have R3 : Hid (w3.rangeAt j1 32 ((S.by s).map b8)) := by
    have := (range_app (s3.out.rng 2 rfl : w3.rangeAt j1 0 (bR r ++ bR s))).2
    rw [bR_length, Nat.zero_add] at this
    rw [← S.by_row]
    exact this
  go_wp2_with (refine wp_copyR rfl _ _ rfl w1.heap.size 0 32 32 j1 32 32 32 (S.by s) rfl rfl (by rw [S.by_length]; rfl) R3.out T3.out ?_)
  intro w4 hw4
  have s4 : Hid (Kn w4 [(w1.heap.size, bR s), (k1, prR x m a), (j1, sgR r s), (w.heap.size + 1, c4 n), (w.heap.size, bR d)]) := by
    rw [hw4.out, ← S.by_row]
    exact Kn.put s3.out (by rw [bR_length, bZ_length])
  have b4 : Hid (Below w.heap.size w w4) := by rw [hw4.out]; exact I.below_setCells _ _ _ b3.out gb
  clear hw4 s3 b3 T3 R3
  generalize w1.heap.size = kb at *
  go_wp2_with (first | refine wp_ldW rfl 22 _ rfl kb 0 rfl (bR (s)) _ (Kn.rng s4.out 0 rfl) Tryd.underlying22 rfl (info_bR (s)) ?_)
  refine (OF _).mono ?_
  rintro e w5 ⟨rfl, hb5⟩
  have s5 : Hid (Kn w5 [(kb, (bR (s))), (k1, (prR (x) (m) (a))), (j1, (sgR (r) (s))), (w.heap.size + 1, (c4 (n))), (w.heap.size, (bR (d)))]) := s4.out.up hb5
  have b5 : Hid (Below w.heap.size w w5) := b4.out.trans (hb5.mono b4.out.size)
  have z5 := b5.out.size
  clear hb5 s4 b4
  have s6 : Hid (Kn (kal4 w5 (os)) [(w5.heap.size, (c4 (os))), (kb, (bR (s))), (k1, (prR (x) (m) (a))), (j1, (sgR (r) (s))), (w.heap.size + 1, (c4 (n))), (w.heap.size, (bR (d)))]) := s5.out.al (c4 (os)) 27 rfl
  have b6 : Hid (Below w.heap.size w (kal4 w5 (os))) := b5.out.alloc b5.out.size _
  have z6 := b5.out.size
  clear s5 b5
  have uold_0 : (kal4 w5 (os)).cell? ⟨w5.heap.size, 0, none⟩ = some (.int .u64 (os).a) := Kn.get s6.out 0 0 rfl rfl
  have uold_1 : (kal4 w5 (os)).cell? ⟨w5.heap.size, 1, none⟩ = some (.int .u64 (os).b) := Kn.get s6.out 0 1 rfl rfl
  have uold_2 : (kal4 w5 (os)).cell? ⟨w5.heap.size, 2, none⟩ = some (.int .u64 (os).c) := Kn.get s6.out 0 2 rfl rfl
  have uold_3 : (kal4 w5 (os)).cell? ⟨w5.heap.size, 3, none⟩ = some (.int .u64 (os).d) := Kn.get s6.out 0 3 rfl rfl
  have un_0 : (kal4 w5 (os)).cell? ⟨w.heap.size + 1, 0, none⟩ = some (.int .u64 (n).a) := Kn.get s6.out 4 0 rfl rfl
  have un_1 : (kal4 w5 (os)).cell? ⟨w.heap.size + 1, 1, none⟩ = some (.int .u64 (n).b) := Kn.get s6.out 4 1 rfl rfl
  have un_2 : (kal4 w5 (os)).cell? ⟨w.heap.size + 1, 2, none⟩ = some (.int .u64 (n).c) := Kn.get s6.out 4 2 rfl rfl
  have un_3 : (kal4 w5 (os)).cell? ⟨w.heap.size + 1, 3, none⟩ = some (.int .u64 (n).d) := Kn.get s6.out 4 3 rfl rfl
  go_wp2_with fail
  clear uold_0 uold_1 uold_2 uold_3 un_0 un_1 un_2 un_3
  refine (AD _).mono ?_
  rintro e w7 ⟨rfl, hb7⟩
  have s7 : Hid (Kn w7 [(w5.heap.size, (c4 (os))), (kb, (bR (s))), (k1, (prR (x) (m) (a))), (j1, (sgR (r) (s))), (w.heap.size + 1, (c4 (n))), (w.heap.size, (bR (d)))]) := s6.out.up hb7
  have b7 : Hid (Below w.heap.size w w7) := b6.out.trans (hb7.mono b6.out.size)
  have z7 := b7.out.size
  clear hb7 s6 b6
  have s8 : Hid (Kn (kal4 w7 (f)) [(w7.heap.size, (c4 (f))), (w5.heap.size, (c4 (os))), (kb, (bR (s))), (k1, (prR (x) (m) (a))), (j1, (sgR (r) (s))), (w.heap.size + 1, (c4 (n))), (w.heap.size, (bR (d)))]) := s7.out.al (c4 (f)) 27 rfl
  have b8 : Hid (Below w.heap.size w (kal4 w7 (f))) := b7.out.alloc b7.out.size _
  have z8 := b7.out.size
  clear s7 b7
  have un_0 : (kal4 w7 (f)).cell? ⟨w.heap.size + 1, 0, none⟩ = some (.int .u64 (n).a) := Kn.get s8.out 5 0 rfl rfl
  have un_1 : (kal4 w7 (f)).cell? ⟨w.heap.size + 1, 1, none⟩ = some (.int .u64 (n).b) := Kn.get s8.out 5 1 rfl rfl
  have un_2 : (kal4 w7 (f)).cell? ⟨w.heap.size + 1, 2, none⟩ = some (.int .u64 (n).c) := Kn.get s8.out 5 2 rfl rfl
  have un_3 : (kal4 w7 (f)).cell? ⟨w.heap.size + 1, 3, none⟩ = some (.int .u64 (n).d) := Kn.get s8.out 5 3 rfl rfl
  have ufr_0 : (kal4 w7 (f)).cell? ⟨w7.heap.size, 0, none⟩ = some (.int .u64 (f).a) := Kn.get s8.out 0 0 rfl rfl
  have ufr_1 : (kal4 w7 (f)).cell? ⟨w7.heap.size, 1, none⟩ = some (.int .u64 (f).b) := Kn.get s8.out 0 1 rfl rfl
  have ufr_2 : (kal4 w7 (f)).cell? ⟨w7.heap.size, 2, none⟩ = some (.int .u64 (f).c) := Kn.get s8.out 0 2 rfl rfl
  have ufr_3 : (kal4 w7 (f)).cell? ⟨w7.heap.size, 3, none⟩ = some (.int .u64 (f).d) := Kn.get s8.out 0 3 rfl rfl
  go_wp2_with fail
  clear un_0 un_1 un_2 un_3 ufr_0 ufr_1 ufr_2 ufr_3
  go_ret
  exact ⟨rfl, b8.out⟩
set_option maxRecDepth 20000 in
set_option maxHeartbeats 2000000 in
theorem signAgain_2 (d m a r s : Nat) (x n os f : Nm) (v : Value) (p : List Nat) (en : ∀ w, (binOp .eql 27 (N n) (N ⟨0, 0, 0, 0⟩)).run Tryd.prog w = .ok (.bool true) w)
    (NW : Hid (∀ w, KTab w → Calls Tryd.prog 7 #[bV d] w fun e w' => e = .returned (prV x m a) ∧ Below w.heap.size w w'))
    (SG : Hid (∀ w, By w v p → KTab w → Calls Tryd.prog 8 #[bV d, v] w fun e w' => e = .returned (sgV r s) ∧ Below w.heap.size w w'))
    (OF : ∀ w, Calls Tryd.prog 10 #[.agg (bR (s)).toArray] w fun e w' => e = .returned (N os) ∧ Below w.heap.size w w')
    (AD : ∀ w, Calls Tryd.prog 11 #[N os, N n] w fun e w' => e = .returned (.tuple #[N f, .int .u64 0]) ∧ Below w.heap.size w w')
    (w : World) (hv : By w v p) (hT : KTab w) :
    Calls Tryd.prog 5 #[bV d, v, N n] w fun e w' => e = .returned (.bool true) ∧ Below w.heap.size w w' := by
  have HV : Hid (By w v p) := hv
  have HT : Hid (KTab w) := hT
  clear hv hT
  go_enter Tryd.func5, Tryd.ntmps5
  have s0 : Hid (Kn (kal4 (w.alloc (.cells (bR (d)).toArray 22)) (n)) [(w.heap.size + 1, (c4 (n))), (w.heap.size, (bR (d)))]) := (((Kn.nil w).al (bR (d)) 22 rfl).al (c4 (n)) 27 (by simp))
  have b0 : Hid (Below w.heap.size w (kal4 (w.alloc (.cells (bR (d)).toArray 22)) (n))) := (((Below.refl _ _).alloc (Nat.le_refl _) _).alloc (by simp <;> omega) _)
  go_wp2_with fail
  refine wp_region_vars2 5 (.cells #[Value.int IntKind.u64 0, Value.int IntKind.u64 0, Value.int IntKind.u64 0, Value.int IntKind.u64 0, Value.int IntKind.u8 0, Value.int IntKind.u8 0, Value.int IntKind.u8 0, Value.int IntKind.u8 0, Value.int IntKind.u8 0, Value.int IntKind.u8 0, Value.int IntKind.u8 0, Value.int IntKind.u8 0, Value.int IntKind.u8 0, Value.int IntKind.u8 0, Value.int IntKind.u8 0, Value.int IntKind.u8 0, Value.int IntKind.u8 0, Value.int IntKind.u8 0, Value.int IntKind.u8 0, Value.int IntKind.u8 0, Value.int IntKind.u8 0, Value.int IntKind.u8 0, Value.int IntKind.u8 0, Value.int IntKind.u8 0, Value.int IntKind.u8 0, Value.int IntKind.u8 0, Value.int IntKind.u8 0, Value.int IntKind.u8 0, Value.int IntKind.u8 0, Value.int IntKind.u8 0, Value.int IntKind.u8 0, Value.int IntKind.u8 0, Value.int IntKind.u8 0, Value.int IntKind.u8 0, Value.int IntKind.u8 0, Value.int IntKind.u8 0, Value.int IntKind.u8 0, Value.int IntKind.u8 0, Value.int IntKind.u8 0, Value.int IntKind.u8 0, Value.int IntKind.u8 0, Value.int IntKind.u8 0, Value.int IntKind.u8 0, Value.int IntKind.u8 0, Value.int IntKind.u8 0, Value.int IntKind.u8 0, Value.int IntKind.u8 0, Value.int IntKind.u8 0, Value.int IntKind.u8 0, Value.int IntKind.u8 0, Value.int IntKind.u8 0, Value.int IntKind.u8 0, Value.int IntKind.u8 0, Value.int IntKind.u8 0, Value.int IntKind.u8 0, Value.int IntKind.u8 0, Value.int IntKind.u8 0, Value.int IntKind.u8 0, Value.int IntKind.u8 0, Value.int IntKind.u8 0, Value.int IntKind.u8 0, Value.int IntKind.u8 0, Value.int IntKind.u8 0, Value.int IntKind.u8 0, Value.int IntKind.u8 0, Value.int IntKind.u8 0, Value.int IntKind.u8 0, Value.int IntKind.u8 0] 29) (.cells #[Value.int IntKind.u8 0, Value.int IntKind.u8 0, Value.int IntKind.u8 0, Value.int IntKind.u8 0, Value.int IntKind.u8 0, Value.int IntKind.u8 0, Value.int IntKind.u8 0, Value.int IntKind.u8 0, Value.int IntKind.u8 0, Value.int IntKind.u8 0, Value.int IntKind.u8 0, Value.int IntKind.u8 0, Value.int IntKind.u8 0, Value.int IntKind.u8 0, Value.int IntKind.u8 0, Value.int IntKind.u8 0, Value.int IntKind.u8 0, Value.int IntKind.u8 0, Value.int IntKind.u8 0, Value.int IntKind.u8 0, Value.int IntKind.u8 0, Value.int IntKind.u8 0, Value.int IntKind.u8 0, Value.int IntKind.u8 0, Value.int IntKind.u8 0, Value.int IntKind.u8 0, Value.int IntKind.u8 0, Value.int IntKind.u8 0, Value.int IntKind.u8 0, Value.int IntKind.u8 0, Value.int IntKind.u8 0, Value.int IntKind.u8 0, Value.int IntKind.u8 0, Value.int IntKind.u8 0, Value.int IntKind.u8 0, Value.int IntKind.u8 0, Value.int IntKind.u8 0, Value.int IntKind.u8 0, Value.int IntKind.u8 0, Value.int IntKind.u8 0, Value.int IntKind.u8 0, Value.int IntKind.u8 0, Value.int IntKind.u8 0, Value.int IntKind.u8 0, Value.int IntKind.u8 0, Value.int IntKind.u8 0, Value.int IntKind.u8 0, Value.int IntKind.u8 0, Value.int IntKind.u8 0, Value.int IntKind.u8 0, Value.int IntKind.u8 0, Value.int IntKind.u8 0, Value.int IntKind.u8 0, Value.int IntKind.u8 0, Value.int IntKind.u8 0, Value.int IntKind.u8 0, Value.int IntKind.u8 0, Value.int IntKind.u8 0, Value.int IntKind.u8 0, Value.int IntKind.u8 0, Value.int IntKind.u8 0, Value.int IntKind.u8 0, Value.int IntKind.u8 0, Value.int IntKind.u8 0] 31) (.cells (prR (x) (m) (a)).toArray 29) (.cells (sgR (r) (s)).toArray 31) (by kernel_rfl) (by kernel_rfl) (by kernel_rfl) (by kernel_rfl) rfl rfl rfl rfl (by decide) rfl rfl (fun _ _ => by kernel_rfl) (fun _ _ => by kernel_rfl) ?_
  apply Exists.intro
  refine ⟨fun U hU f hf hcl => ?_, fun k j W hc => ?_, fun k j W hc => ?_, fun k1 j1 w1 hb1 hk1 hj1 hn1 hc1 hd1 => ?_⟩
  · skip
    have ra_seed_0 := fun nx => (Kn.rng (s0.out.up (hf nx).out) 1 rfl : (f nx).rangeAt (w.heap.size) 0 (bR (d)))
    have KT := fun nx => HT.out.up (b0.out.trans ((hf nx).out.mono b0.out.size)) HT.out.pos
    have BV := fun nx => HV.out.up (b0.out.trans ((hf nx).out.mono b0.out.size)) (Nat.le_refl _)
    clear hf
    simp only [List.take_succ_cons, List.take_zero]
    repeat (first | (refine I.quiet_load rfl 22 _ rfl (w.heap.size) 0 rfl (bR (d)) _ (fun W hW => by obtain ⟨nx, rfl⟩ := hW; exact ra_seed_0 nx) Tryd.underlying22 rfl (info_bR (d)) ?_; simp only [Act.put, List.setIfInBounds_toArray, List.set_cons_succ, List.set_cons_zero]) | go_big_quiet_step (first | (go_at_call 7; exact (NW.out _ (KT _)).mono fun e w'' ⟨he, hb⟩ => ⟨he, hcl.out _ _ hb⟩) | (go_at_call 8; exact (SG.out _ (BV _) (KT _)).mono fun e w'' ⟨he, hb⟩ => ⟨he, hcl.out _ _ hb⟩)))
    exact wpQuiet_nil rfl
  · exact st_obj (zs := pairZ) (cs := (prR (x) (m) (a))) hc.out rfl rfl rfl (by rw [(prR_length (x) (m) (a)), pairZ_length]) (info_prR (x) (m) (a)) (prR_one (x) (m) (a))
  · exact st_obj (zs := sgZ) (cs := (sgR (r) (s))) hc.out rfl rfl rfl (by rw [(sgR_length (r) (s)), sgZ_length]) (info_sgR (r) (s)) (sgR_one (r) (s))
  simp only [Act.put, List.setIfInBounds_toArray, List.set_cons_succ, List.set_cons_zero]
  have z1 := b0.out.size
  have g1 : w.heap.size ≤ k1 := Nat.le_trans b0.out.size hk1
  have gj1 : w.heap.size ≤ j1 := Nat.le_trans b0.out.size hj1
  have s1 : Hid (Kn w1 [(k1, (prR (x) (m) (a))), (j1, (sgR (r) (s))), (w.heap.size + 1, (c4 (n))), (w.heap.size, (bR (d)))]) := s0.out.two hb1.out hk1 hj1 hn1.out hc1.out hd1.out
  have b1 : Hid (Below w.heap.size w w1) := b0.out.trans (hb1.out.mono b0.out.size)
  clear s0 b0 hb1 hc1 hd1 hk1 hj1
  have s2 : Hid (Kn (w1.alloc (.cells #[Value.int IntKind.u8 0, Value.int IntKind.u8 0, Value.int IntKind.u8 0, Value.int IntKind.u8 0, Value.int IntKind.u8 0, Value.int IntKind.u8 0, Value.int IntKind.u8 0, Value.int IntKind.u8 0, Value.int IntKind.u8 0, Value.int IntKind.u8 0, Value.int IntKind.u8 0, Value.int IntKind.u8 0, Value.int IntKind.u8 0, Value.int IntKind.u8 0, Value.int IntKind.u8 0, Value.int IntKind.u8 0, Value.int IntKind.u8 0, Value.int IntKind.u8 0, Value.int IntKind.u8 0, Value.int IntKind.u8 0, Value.int IntKind.u8 0, Value.int IntKind.u8 0, Value.int IntKind.u8 0, Value.int IntKind.u8 0, Value.int IntKind.u8 0, Value.int IntKind.u8 0, Value.int IntKind.u8 0, Value.int IntKind.u8 0, Value.int IntKind.u8 0, Value.int IntKind.u8 0, Value.int IntKind.u8 0, Value.int IntKind.u8 0] 22)) [(w1.heap.size, bZ), (k1, (prR (x) (m) (a))), (j1, (sgR (r) (s))), (w.heap.size + 1, (c4 (n))), (w.heap.size, (bR (d)))]) := s1.out.al bZ 22 rfl
  have b2 : Hid (Below w.heap.size w (w1.alloc (.cells #[Value.int IntKind.u8 0, Value.int IntKind.u8 0, Value.int IntKind.u8 0, Value.int IntKind.u8 0, Value.int IntKind.u8 0, Value.int IntKind.u8 0, Value.int IntKind.u8 0, Value.int IntKind.u8 0, Value.int IntKind.u8 0, Value.int IntKind.u8 0, Value.int IntKind.u8 0, Value.int IntKind.u8 0, Value.int IntKind.u8 0, Value.int IntKind.u8 0, Value.int IntKind.u8 0, Value.int IntKind.u8 0, Value.int IntKind.u8 0, Value.int IntKind.u8 0, Value.int IntKind.u8 0, Value.int IntKind.u8 0, Value.int IntKind.u8 0, Value.int IntKind.u8 0, Value.int IntKind.u8 0, Value.int IntKind.u8 0, Value.int IntKind.u8 0, Value.int IntKind.u8 0, Value.int IntKind.u8 0, Value.int IntKind.u8 0, Value.int IntKind.u8 0, Value.int IntKind.u8 0, Value.int IntKind.u8 0, Value.int IntKind.u8 0] 22))) := b1.out.alloc b1.out.size _
  have z2 := b1.out.size
  clear s1 b1
  go_wp2_with (simp only [zero_b32])
  have gb : w.heap.size ≤ w1.heap.size := z2
  refine wp_region_two 0 1 [2] [_] (.slice (some ⟨w1.heap.size, 0, none⟩) 32 32) (.slice (some ⟨j1, 32, none⟩) 32 32) (by kernel_rfl) (by kernel_rfl) (fun _ _ d _ _ h => by cases d <;> exact h) rfl rfl (by kernel_rfl) (by kernel_rfl) rfl rfl (by kernel_rfl) (.inl ⟨rfl, exec_all32 _ rfl _ rfl⟩) (.inl ⟨rfl, exec_from64 _ _ rfl _ rfl rfl⟩) ?_
  intro w3 hb3 hh3
  clear hh3
  simp only [Act.put, List.setIfInBounds_toArray, List.set_cons_succ, List.set_cons_zero, List.getElem_toArray, List.getElem_cons_zero, List.getElem_cons_succ]
  have s3 : Hid (Kn w3 [(w1.heap.size, bZ), (k1, prR x m a), (j1, sgR r s), (w.heap.size + 1, c4 n), (w.heap.size, bR d)]) := s2.out.up hb3.out
  have b3 : Hid (Below w.heap.size w w3) := b2.out.trans (hb3.out.mono b2.out.size)
  clear s2 b2 hb3
  have T3 : Hid (w3.there w1.heap.size 0 (S.by s).length) := by
    have := Kn.there (us := bR 0) s3.out 0 rfl (by rw [bR_length, bZ_length])
    rw [S.by_length]
    rw [bR_length] at this
    exact this
  have R3 : Hid (w3.rangeAt j1 32 ((S.by s).map b8)) := by
    have := (range_app (s3.out.rng 2 rfl : w3.rangeAt j1 0 (bR r ++ bR s))).2
    rw [bR_length, Nat.zero_add] at this
    rw [← S.by_row]
    exact this
  go_wp2_with (refine wp_copyR rfl _ _ rfl w1.heap.size 0 32 32 j1 32 32 32 (S.by s) rfl rfl (by rw [S.by_length]; rfl) R3.out T3.out ?_)
  intro w4 hw4
  have s4 : Hid (Kn w4 [(w1.heap.size, bR s), (k1, prR x m a), (j1, sgR r s), (w.heap.size + 1, c4 n), (w.heap.size, bR d)]) := by
    rw [hw4.out, ← S.by_row]
    exact Kn.put s3.out (by rw [bR_length, bZ_length])
  have b4 : Hid (Below w.heap.size w w4) := by rw [hw4.out]; exact I.below_setCells _ _ _ b3.out gb
  clear hw4 s3 b3 T3 R3
  generalize w1.heap.size = kb at *
  go_wp2_with (first | refine wp_ldW rfl 22 _ rfl kb 0 rfl (bR (s)) _ (Kn.rng s4.out 0 rfl) Tryd.underlying22 rfl (info_bR (s)) ?_)
  refine (OF _).mono ?_
  rintro e w5 ⟨rfl, hb5⟩
  have s5 : Hid (Kn w5 [(kb, (bR (s))), (k1, (prR (x) (m) (a))), (j1, (sgR (r) (s))), (w.heap.size + 1, (c4 (n))), (w.heap.size, (bR (d)))]) := s4.out.up hb5
  have b5 : Hid (Below w.heap.size w w5) := b4.out.trans (hb5.mono b4.out.size)
  have z5 := b5.out.size
  clear hb5 s4 b4
  have s6 : Hid (Kn (kal4 w5 (os)) [(w5.heap.size, (c4 (os))), (kb, (bR (s))), (k1, (prR (x) (m) (a))), (j1, (sgR (r) (s))), (w.heap.size + 1, (c4 (n))), (w.heap.size, (bR (d)))]) := s5.out.al (c4 (os)) 27 rfl
  have b6 : Hid (Below w.heap.size w (kal4 w5 (os))) := b5.out.alloc b5.out.size _
  have z6 := b5.out.size
  clear s5 b5
  have uold_0 : (kal4 w5 (os)).cell? ⟨w5.heap.size, 0, none⟩ = some (.int .u64 (os).a) := Kn.get s6.out 0 0 rfl rfl
  have uold_1 : (kal4 w5 (os)).cell? ⟨w5.heap.size, 1, none⟩ = some (.int .u64 (os).b) := Kn.get s6.out 0 1 rfl rfl
  have uold_2 : (kal4 w5 (os)).cell? ⟨w5.heap.size, 2, none⟩ = some (.int .u64 (os).c) := Kn.get s6.out 0 2 rfl rfl
  have uold_3 : (kal4 w5 (os)).cell? ⟨w5.heap.size, 3, none⟩ = some (.int .u64 (os).d) := Kn.get s6.out 0 3 rfl rfl
  have un_0 : (kal4 w5 (os)).cell? ⟨w.heap.size + 1, 0, none⟩ = some (.int .u64 (n).a) := Kn.get s6.out 4 0 rfl rfl
  have un_1 : (kal4 w5 (os)).cell? ⟨w.heap.size + 1, 1, none⟩ = some (.int .u64 (n).b) := Kn.get s6.out 4 1 rfl rfl
  have un_2 : (kal4 w5 (os)).cell? ⟨w.heap.size + 1, 2, none⟩ = some (.int .u64 (n).c) := Kn.get s6.out 4 2 rfl rfl
  have un_3 : (kal4 w5 (os)).cell? ⟨w.heap.size + 1, 3, none⟩ = some (.int .u64 (n).d) := Kn.get s6.out 4 3 rfl rfl
  go_wp2_with fail
  clear uold_0 uold_1 uold_2 uold_3 un_0 un_1 un_2 un_3
  refine (AD _).mono ?_
  rintro e w7 ⟨rfl, hb7⟩
  have s7 : Hid (Kn w7 [(w5.heap.size, (c4 (os))), (kb, (bR (s))), (k1, (prR (x) (m) (a))), (j1, (sgR (r) (s))), (w.heap.size + 1, (c4 (n))), (w.heap.size, (bR (d)))]) := s6.out.up hb7
  have b7 : Hid (Below w.heap.size w w7) := b6.out.trans (hb7.mono b6.out.size)
  have z7 := b7.out.size
  clear hb7 s6 b6
  have s8 : Hid (Kn (kal4 w7 (f)) [(w7.heap.size, (c4 (f))), (w5.heap.size, (c4 (os))), (kb, (bR (s))), (k1, (prR (x) (m) (a))), (j1, (sgR (r) (s))), (w.heap.size + 1, (c4 (n))), (w.heap.size, (bR (d)))]) := s7.out.al (c4 (f)) 27 rfl
  have b8 : Hid (Below w.heap.size w (kal4 w7 (f))) := b7.out.alloc b7.out.size _
  have z8 := b7.out.size
  clear s7 b7
  have un_0 : (kal4 w7 (f)).cell? ⟨w.heap.size + 1, 0, none⟩ = some (.int .u64 (n).a) := Kn.get s8.out 5 0 rfl rfl
  have un_1 : (kal4 w7 (f)).cell? ⟨w.heap.size + 1, 1, none⟩ = some (.int .u64 (n).b) := Kn.get s8.out 5 1 rfl rfl
  have un_2 : (kal4 w7 (f)).cell? ⟨w.heap.size + 1, 2, none⟩ = some (.int .u64 (n).c) := Kn.get s8.out 5 2 rfl rfl
  have un_3 : (kal4 w7 (f)).cell? ⟨w.heap.size + 1, 3, none⟩ = some (.int .u64 (n).d) := Kn.get s8.out 5 3 rfl rfl
  have ufr_0 : (kal4 w7 (f)).cell? ⟨w7.heap.size, 0, none⟩ = some (.int .u64 (f).a) := Kn.get s8.out 0 0 rfl rfl
  have ufr_1 : (kal4 w7 (f)).cell? ⟨w7.heap.size, 1, none⟩ = some (.int .u64 (f).b) := Kn.get s8.out 0 1 rfl rfl
  have ufr_2 : (kal4 w7 (f)).cell? ⟨w7.heap.size, 2, none⟩ = some (.int .u64 (f).c) := Kn.get s8.out 0 2 rfl rfl
  have ufr_3 : (kal4 w7 (f)).cell? ⟨w7.heap.size, 3, none⟩ = some (.int .u64 (f).d) := Kn.get s8.out 0 3 rfl rfl
  go_wp2_with fail
  clear un_0 un_1 un_2 un_3 ufr_0 ufr_1 ufr_2 ufr_3
  go_ret
  exact ⟨rfl, b8.out⟩
theorem PathH.appB {ops : Array Oper} {Q : Exit → Act → World → Prop} {S : World → Prop} {o : Oper} {r : List Oper} {a : Act} {w : World} (hgd : o.guard = none) (s x : Operand)
    (ho : o.op = .call { callee := .builtin .append, args := #[s, x], argTypes := #[23, 23] })
    (B : Nat) (v u : Value) (xs ys : List Nat) (W0 : World) (hs : a.eval s = v) (hown : Ob W0 B v xs) (hup : Below W0.heap.size W0 w) (hx : a.eval x = u) (hy : By w u ys)
    (hl : xs.length + ys.length ≤ 140737488355328) (hB : B ≤ W0.heap.size) (h : ∀ v' w', Ob w' B v' (xs ++ ys) → Below B W0 w' → S w' ∧ PathH Tryd.prog ops Q S r (a.put o.dst v') w') : PathH Tryd.prog ops Q S (o :: r) a w :=
  wp_appB (ops := ops) (rest := []) (Q := upN Q fun a' w' => S w' ∧ PathH Tryd.prog ops Q S r a' w') hgd s x ho B v u xs ys W0 hs hown hup hx hy hl hB fun v' w' h1 _ h2 => h v' w' h1 h2
theorem By.front64 {w : World} {j r s : Nat} (h : w.rangeAt j 0 (bR r ++ bR s)) : By w (.slice (some ⟨j, 0, none⟩) 32 64) (S.by r) := by
  have h1 := (range_app h).1
  have := By.of_cells (w := w) (b := j) (o := 0) (c := 64) (xs := S.by r) (by rw [S.by_length]; decide) fun i hi => by
    refine h1 i _ ?_
    rw [S.by_row, List.getElem?_map, List.getElem?_eq_getElem hi, List.getD_eq_getElem?_getD, List.getElem?_eq_getElem hi]
    rfl
  rw [S.by_length] at this
  exact this
end Go.Proofs.YtfknkfninjjgbaaDoor
