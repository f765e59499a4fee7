/- AgreeBoth, AgreeThree, AgreeSmall, out of package agree's contracts. -/
import Derived.Test.YtpnfopakkaoibaaQAgC
import Derived.Test.YtpnfopakkaoibaaQLadC
import Derived.Test.YtpnfopakkaoibaaQCrvS
import Derived.Test.YtpnfopakkaoibaaQScDToScF
import Derived.Test.YtpnfopakkaoibaaQCurveIs
import Derived.Test.YtpnfopakkaoibaaQCrvGroup
namespace Go.Proofs.Ytpnfopakkaoibaa
open Go.RowKit
attribute [local go_sem] World.cell?_alloc_some cell_alloc2 cell_alloc3 cell_alloc4 frozen?_alloc_cells frozen_out
set_option linter.unusedSimpArgs false
theorem wp_build1 {t : TypeId} {v : Value} {cs : Array Value} {ops : Array Oper} {rest : List Oper} {o : Oper} {a : Act} {Q : Exit → Act → World → Prop} {w : World} (hgd : o.guard = none) (ho : o.op = .build t #[(0, .const v)]) (hb : Try.prog.built t [(0, v)] = some cs)
    (h : wpList Try.prog ops Q rest (a.put o.dst (.agg cs)) w) : wpList Try.prog ops Q (o :: rest) a w := by
  refine wpList_plain hgd fun K hK => ?_
  have e : (Instr.build t ((#[(0, .const v)] : Array (Nat × Operand)).map fun x => (x.fst, a.eval x.snd))).run Try.prog w = .ok (.agg cs) w := run_build w t _ _ (by simpa [Act.eval] using hb)
  unfold Oper.wp
  simp only [execOp, ho, Sem.run_bind, e, Result.andThen_ok, Sem.run_pure]
  exact hK _ _ h
theorem b32_one : Try.prog.built 22 [(0, .int .u8 1)] = some (bR 1).toArray := by kernel_rfl
set_option maxRecDepth 20000 in
set_option maxHeartbeats 1000000 in
theorem agrees_walk (m : Nat) (e1 : ∀ w, (binOp .neq 22 (bV m) (bV 0)).run Try.prog w = .ok (.bool true) w)
    (P1 : ∀ w, Calls Try.prog 12 #[.agg (bR (1)).toArray] w fun e w' => e = .returned (.agg (bR (m)).toArray) ∧ Below w.heap.size w w')
    (w : World) :
    Calls Try.prog 14 #[] w fun e w' => e = .returned (.bool true) ∧ Below w.heap.size w w' := by
  go_enter Try.func14, Try.ntmps14
  have s0 : Hid (Kn w []) := (Kn.nil w)
  have b0 : Hid (Below w.heap.size w w) := (Below.refl _ _)
  go_wp2_with (first | refine wp_build1 rfl rfl b32_one ?_)
  refine (P1 _).mono ?_
  rintro e w1 ⟨rfl, hb1⟩
  have s1 : Hid (Kn w1 []) := s0.out.up hb1
  have b1 : Hid (Below w.heap.size w w1) := b0.out.trans (hb1.mono b0.out.size)
  have z1 := b1.out.size
  clear hb1 s0 b0
  go_wp2_with (first | refine wp_buildZ rfl rfl b32_zero ?_)
  go_ret
  exact ⟨rfl, b1.out⟩
theorem agrees_fun (w : World) : Calls Try.prog 14 #[] w fun e w' => e = .returned (.bool true) ∧ Below w.heap.size w w' := by
  have e := neB (Ag.lt_256 (Ag.pub_lt 1)) (show 0 < 2 ^ 256 by decide)
  rw [decide_eq_false (Ag.pub_ne 1)] at e
  exact agrees_walk _ e (public_fun 1 (by decide)) w
set_option maxRecDepth 20000 in
set_option maxHeartbeats 1000000 in
theorem agreeBoth_walk (m n pm pn k : Nat) (e1 : ∀ w, (binOp .eql 22 (bV k) (bV k)).run Try.prog w = .ok (.bool true) w)
    (AL : ∀ w, Calls Try.prog 14 #[] w fun e w' => e = .returned (.bool true) ∧ Below w.heap.size w w')
    (PN : ∀ w, Calls Try.prog 12 #[.agg (bR (n)).toArray] w fun e w' => e = .returned (.agg (bR (pn)).toArray) ∧ Below w.heap.size w w')
    (SM : ∀ w, Calls Try.prog 8 #[.agg (bR (m)).toArray, .agg (bR (pn)).toArray] w fun e w' => e = .returned (.tuple #[.agg (bR (k)).toArray, .int .i64 0]) ∧ Below w.heap.size w w')
    (PM : ∀ w, Calls Try.prog 12 #[.agg (bR (m)).toArray] w fun e w' => e = .returned (.agg (bR (pm)).toArray) ∧ Below w.heap.size w w')
    (SN : ∀ w, Calls Try.prog 8 #[.agg (bR (n)).toArray, .agg (bR (pm)).toArray] w fun e w' => e = .returned (.tuple #[.agg (bR (k)).toArray, .int .i64 0]) ∧ Below w.heap.size w w')
    (w : World) :
    Calls Try.prog 4 #[bV m, bV n] w fun e w' => e = .returned (.bool true) ∧ Below w.heap.size w w' := by
  go_enter Try.func4, Try.ntmps4
  have s0 : Hid (Kn ((w.alloc (.cells (bR (m)).toArray 22)).alloc (.cells (bR (n)).toArray 22)) [(w.heap.size + 1, (bR (n))), (w.heap.size, (bR (m)))]) := (((Kn.nil w).al (bR (m)) 22 rfl).al (bR (n)) 22 (by simp))
  have b0 : Hid (Below w.heap.size w ((w.alloc (.cells (bR (m)).toArray 22)).alloc (.cells (bR (n)).toArray 22))) := (((Below.refl _ _).alloc (Nat.le_refl _) _).alloc (by simp <;> omega) _)
  go_wp2_with fail
  refine (AL _).mono ?_
  rintro e w1 ⟨rfl, hb1⟩
  have s1 : Hid (Kn w1 [(w.heap.size + 1, (bR (n))), (w.heap.size, (bR (m)))]) := s0.out.up hb1
  have b1 : Hid (Below w.heap.size w w1) := b0.out.trans (hb1.mono b0.out.size)
  have z1 := b1.out.size
  clear hb1 s0 b0
  go_wp2_with fail
  refine wp_region_alloc1 7 (.cells #[Value.int IntKind.u8 0, Value.int IntKind.u8 0, Value.int IntKind.u8 0, Value.int IntKind.u8 0, Value.int IntKind.u8 0, Value.int IntKind.u8 0, Value.int IntKind.u8 0, Value.int IntKind.u8 0, Value.int IntKind.u8 0, Value.int IntKind.u8 0, Value.int IntKind.u8 0, Value.int IntKind.u8 0, Value.int IntKind.u8 0, Value.int IntKind.u8 0, Value.int IntKind.u8 0, Value.int IntKind.u8 0, Value.int IntKind.u8 0, Value.int IntKind.u8 0, Value.int IntKind.u8 0, Value.int IntKind.u8 0, Value.int IntKind.u8 0, Value.int IntKind.u8 0, Value.int IntKind.u8 0, Value.int IntKind.u8 0, Value.int IntKind.u8 0, Value.int IntKind.u8 0, Value.int IntKind.u8 0, Value.int IntKind.u8 0, Value.int IntKind.u8 0, Value.int IntKind.u8 0, Value.int IntKind.u8 0, Value.int IntKind.u8 0] 22) (by kernel_rfl) (by kernel_rfl) (by kernel_rfl) (by kernel_rfl) (by decide) (fun _ _ d _ _ h => by cases d <;> exact h) rfl rfl (fun _ _ => by kernel_rfl) ?_
  apply Exists.intro
  refine ⟨fun U hU f hf hcl => ?_, fun k2 w2 hb2 hk2 hc2 => ?_⟩
  · skip
    have ra_a_0 := fun nx => (Kn.rng (s1.out.up (hf nx).out) 1 rfl : (f nx).rangeAt (w.heap.size) 0 (bR (m)))
    have ra_b_0 := fun nx => (Kn.rng (s1.out.up (hf nx).out) 0 rfl : (f nx).rangeAt (w.heap.size + 1) 0 (bR (n)))
    clear hf
    simp only [List.take_succ_cons, List.take_zero]
    repeat (first | (refine I.quiet_load rfl 22 _ rfl (w.heap.size) 0 rfl (bR (m)) _ (fun W hW => by obtain ⟨nx, rfl⟩ := hW; exact ra_a_0 nx) Try.underlying22 rfl (info_bR (m)) ?_; simp only [Act.put, List.setIfInBounds_toArray, List.set_cons_succ, List.set_cons_zero]) | (refine I.quiet_load rfl 22 _ rfl (w.heap.size + 1) 0 rfl (bR (n)) _ (fun W hW => by obtain ⟨nx, rfl⟩ := hW; exact ra_b_0 nx) Try.underlying22 rfl (info_bR (n)) ?_; simp only [Act.put, List.setIfInBounds_toArray, List.set_cons_succ, List.set_cons_zero]) | go_big_quiet_step (first | (go_at_call 12; exact (PN _).mono fun e w'' ⟨he, hb⟩ => ⟨he, hcl.out _ _ hb⟩) | (go_at_call 8; exact (SM _).mono fun e w'' ⟨he, hb⟩ => ⟨he, hcl.out _ _ hb⟩)))
    exact wpQuiet_nil rfl
  simp only [List.drop_succ_cons, List.drop_zero]
  have z2 := b1.out.size
  have s2 : Hid (Kn w2 [(k2, bZ), (w.heap.size + 1, (bR (n))), (w.heap.size, (bR (m)))]) := s1.out.fresh (vs := bZ) hb2.out hk2 hc2.out
  have g2 : w.heap.size ≤ k2 := Nat.le_trans b1.out.size hk2
  have b2 : Hid (Below w.heap.size w w2) := b1.out.trans (hb2.out.mono b1.out.size)
  clear s1 b1 hb2 hc2 hk2
  have s3x : Hid (Kn w2 [(k2, bZ), (w.heap.size + 1, (bR (n))), (w.heap.size, (bR (m)))]) := s2.out.front 0 rfl
  have b3x : Hid (Below w.heap.size w w2) := b2.out
  have TT3 : Hid (w2.there k2 0 (bR (k)).length) := Kn.there s3x.out 0 rfl (by rw [(bR_length (k)), bZ_length])
  go_wp2_with (first | refine I.wp_store_eq rfl 22 _ _ rfl k2 0 (bR (k)) rfl rfl TT3.out (info_bR (k)) (bR_one (k)) ?_)
  intro w3 hw3
  try simp only [Act.put, List.setIfInBounds_toArray, List.set_cons_succ, List.set_cons_zero]
  have s3 : Hid (Kn w3 [(k2, (bR (k))), (w.heap.size + 1, (bR (n))), (w.heap.size, (bR (m)))]) := by rw [hw3.out]; exact Kn.put s3x.out (by rw [(bR_length (k)), bZ_length])
  have b3 : Hid (Below w.heap.size w w3) := by rw [hw3.out]; exact I.below_setCells _ _ _ b3x.out g2
  have z3 := b3.out.size
  clear hw3 s3x b3x TT3 s2 b2
  go_wp2_with fail
  refine wp_region_alloc1 7 (.cells #[Value.int IntKind.u8 0, Value.int IntKind.u8 0, Value.int IntKind.u8 0, Value.int IntKind.u8 0, Value.int IntKind.u8 0, Value.int IntKind.u8 0, Value.int IntKind.u8 0, Value.int IntKind.u8 0, Value.int IntKind.u8 0, Value.int IntKind.u8 0, Value.int IntKind.u8 0, Value.int IntKind.u8 0, Value.int IntKind.u8 0, Value.int IntKind.u8 0, Value.int IntKind.u8 0, Value.int IntKind.u8 0, Value.int IntKind.u8 0, Value.int IntKind.u8 0, Value.int IntKind.u8 0, Value.int IntKind.u8 0, Value.int IntKind.u8 0, Value.int IntKind.u8 0, Value.int IntKind.u8 0, Value.int IntKind.u8 0, Value.int IntKind.u8 0, Value.int IntKind.u8 0, Value.int IntKind.u8 0, Value.int IntKind.u8 0, Value.int IntKind.u8 0, Value.int IntKind.u8 0, Value.int IntKind.u8 0, Value.int IntKind.u8 0] 22) (by kernel_rfl) (by kernel_rfl) (by kernel_rfl) (by kernel_rfl) (by decide) (fun _ _ d _ _ h => by cases d <;> exact h) rfl rfl (fun _ _ => by kernel_rfl) ?_
  apply Exists.intro
  refine ⟨fun U hU f hf hcl => ?_, fun k4 w4 hb4 hk4 hc4 => ?_⟩
  · skip
    have ra_a_0 := fun nx => (Kn.rng (s3.out.up (hf nx).out) 2 rfl : (f nx).rangeAt (w.heap.size) 0 (bR (m)))
    have ra_b_0 := fun nx => (Kn.rng (s3.out.up (hf nx).out) 1 rfl : (f nx).rangeAt (w.heap.size + 1) 0 (bR (n)))
    clear hf
    simp only [List.take_succ_cons, List.take_zero]
    repeat (first | (refine I.quiet_load rfl 22 _ rfl (w.heap.size) 0 rfl (bR (m)) _ (fun W hW => by obtain ⟨nx, rfl⟩ := hW; exact ra_a_0 nx) Try.underlying22 rfl (info_bR (m)) ?_; simp only [Act.put, List.setIfInBounds_toArray, List.set_cons_succ, List.set_cons_zero]) | (refine I.quiet_load rfl 22 _ rfl (w.heap.size + 1) 0 rfl (bR (n)) _ (fun W hW => by obtain ⟨nx, rfl⟩ := hW; exact ra_b_0 nx) Try.underlying22 rfl (info_bR (n)) ?_; simp only [Act.put, List.setIfInBounds_toArray, List.set_cons_succ, List.set_cons_zero]) | go_big_quiet_step (first | (go_at_call 12; exact (PM _).mono fun e w'' ⟨he, hb⟩ => ⟨he, hcl.out _ _ hb⟩) | (go_at_call 8; exact (SN _).mono fun e w'' ⟨he, hb⟩ => ⟨he, hcl.out _ _ hb⟩)))
    exact wpQuiet_nil rfl
  simp only [List.drop_succ_cons, List.drop_zero]
  have z4 := b3.out.size
  have s4 : Hid (Kn w4 [(k4, bZ), (k2, (bR (k))), (w.heap.size + 1, (bR (n))), (w.heap.size, (bR (m)))]) := s3.out.fresh (vs := bZ) hb4.out hk4 hc4.out
  have g4 : w.heap.size ≤ k4 := Nat.le_trans b3.out.size hk4
  have b4 : Hid (Below w.heap.size w w4) := b3.out.trans (hb4.out.mono b3.out.size)
  clear s3 b3 hb4 hc4 hk4
  have s5x : Hid (Kn w4 [(k4, bZ), (k2, (bR (k))), (w.heap.size + 1, (bR (n))), (w.heap.size, (bR (m)))]) := s4.out.front 0 rfl
  have b5x : Hid (Below w.heap.size w w4) := b4.out
  have TT5 : Hid (w4.there k4 0 (bR (k)).length) := Kn.there s5x.out 0 rfl (by rw [(bR_length (k)), bZ_length])
  go_wp2_with (first | refine I.wp_store_eq rfl 22 _ _ rfl k4 0 (bR (k)) rfl rfl TT5.out (info_bR (k)) (bR_one (k)) ?_)
  intro w5 hw5
  try simp only [Act.put, List.setIfInBounds_toArray, List.set_cons_succ, List.set_cons_zero]
  have s5 : Hid (Kn w5 [(k4, (bR (k))), (k2, (bR (k))), (w.heap.size + 1, (bR (n))), (w.heap.size, (bR (m)))]) := by rw [hw5.out]; exact Kn.put s5x.out (by rw [(bR_length (k)), bZ_length])
  have b5 : Hid (Below w.heap.size w w5) := by rw [hw5.out]; exact I.below_setCells _ _ _ b5x.out g4
  have z5 := b5.out.size
  clear hw5 s5x b5x TT5 s4 b4
  go_wp2_with (first | refine wp_ldW rfl 22 _ rfl k2 0 rfl (bR (k)) _ (Kn.rng s5.out 1 rfl) Try.underlying22 rfl (info_bR (k)) ?_ | refine wp_ldW rfl 22 _ rfl k4 0 rfl (bR (k)) _ (Kn.rng s5.out 0 rfl) Try.underlying22 rfl (info_bR (k)) ?_)
  go_ret
  exact ⟨rfl, b5.out⟩
set_option maxRecDepth 20000 in
set_option maxHeartbeats 1000000 in
theorem agreeThree_walk (l m n pm pn ab bc k : Nat) (e1 : ∀ w, (binOp .eql 22 (bV k) (bV k)).run Try.prog w = .ok (.bool true) w)
    (AL : ∀ w, Calls Try.prog 14 #[] w fun e w' => e = .returned (.bool true) ∧ Below w.heap.size w w')
    (PM : ∀ w, Calls Try.prog 12 #[.agg (bR (m)).toArray] w fun e w' => e = .returned (.agg (bR (pm)).toArray) ∧ Below w.heap.size w w')
    (SL : ∀ w, Calls Try.prog 8 #[.agg (bR (l)).toArray, .agg (bR (pm)).toArray] w fun e w' => e = .returned (.tuple #[.agg (bR (ab)).toArray, .int .i64 0]) ∧ Below w.heap.size w w')
    (PN : ∀ w, Calls Try.prog 12 #[.agg (bR (n)).toArray] w fun e w' => e = .returned (.agg (bR (pn)).toArray) ∧ Below w.heap.size w w')
    (SM : ∀ w, Calls Try.prog 8 #[.agg (bR (m)).toArray, .agg (bR (pn)).toArray] w fun e w' => e = .returned (.tuple #[.agg (bR (bc)).toArray, .int .i64 0]) ∧ Below w.heap.size w w')
    (SX : ∀ w, Calls Try.prog 8 #[.agg (bR (n)).toArray, .agg (bR (ab)).toArray] w fun e w' => e = .returned (.tuple #[.agg (bR (k)).toArray, .int .i64 0]) ∧ Below w.heap.size w w')
    (SY : ∀ w, Calls Try.prog 8 #[.agg (bR (l)).toArray, .agg (bR (bc)).toArray] w fun e w' => e = .returned (.tuple #[.agg (bR (k)).toArray, .int .i64 0]) ∧ Below w.heap.size w w')
    (w : World) :
    Calls Try.prog 5 #[bV l, bV m, bV n] w fun e w' => e = .returned (.bool true) ∧ Below w.heap.size w w' := by
  go_enter Try.func5, Try.ntmps5
  have s0 : Hid (Kn (((w.alloc (.cells (bR (l)).toArray 22)).alloc (.cells (bR (m)).toArray 22)).alloc (.cells (bR (n)).toArray 22)) [(w.heap.size + 1 + 1, (bR (n))), (w.heap.size + 1, (bR (m))), (w.heap.size, (bR (l)))]) := ((((Kn.nil w).al (bR (l)) 22 rfl).al (bR (m)) 22 (by simp)).al (bR (n)) 22 (by simp))
  have b0 : Hid (Below w.heap.size w (((w.alloc (.cells (bR (l)).toArray 22)).alloc (.cells (bR (m)).toArray 22)).alloc (.cells (bR (n)).toArray 22))) := ((((Below.refl _ _).alloc (Nat.le_refl _) _).alloc (by simp <;> omega) _).alloc (by simp <;> omega) _)
  go_wp2_with fail
  refine (AL _).mono ?_
  rintro e w1 ⟨rfl, hb1⟩
  have s1 : Hid (Kn w1 [(w.heap.size + 1 + 1, (bR (n))), (w.heap.size + 1, (bR (m))), (w.heap.size, (bR (l)))]) := s0.out.up hb1
  have b1 : Hid (Below w.heap.size w w1) := b0.out.trans (hb1.mono b0.out.size)
  have z1 := b1.out.size
  clear hb1 s0 b0
  go_wp2_with fail
  refine wp_region_alloc1 7 (.cells #[Value.int IntKind.u8 0, Value.int IntKind.u8 0, Value.int IntKind.u8 0, Value.int IntKind.u8 0, Value.int IntKind.u8 0, Value.int IntKind.u8 0, Value.int IntKind.u8 0, Value.int IntKind.u8 0, Value.int IntKind.u8 0, Value.int IntKind.u8 0, Value.int IntKind.u8 0, Value.int IntKind.u8 0, Value.int IntKind.u8 0, Value.int IntKind.u8 0, Value.int IntKind.u8 0, Value.int IntKind.u8 0, Value.int IntKind.u8 0, Value.int IntKind.u8 0, Value.int IntKind.u8 0, Value.int IntKind.u8 0, Value.int IntKind.u8 0, Value.int IntKind.u8 0, Value.int IntKind.u8 0, Value.int IntKind.u8 0, Value.int IntKind.u8 0, Value.int IntKind.u8 0, Value.int IntKind.u8 0, Value.int IntKind.u8 0, Value.int IntKind.u8 0, Value.int IntKind.u8 0, Value.int IntKind.u8 0, Value.int IntKind.u8 0] 22) (by kernel_rfl) (by kernel_rfl) (by kernel_rfl) (by kernel_rfl) (by decide) (fun _ _ d _ _ h => by cases d <;> exact h) rfl rfl (fun _ _ => by kernel_rfl) ?_
  apply Exists.intro
  refine ⟨fun U hU f hf hcl => ?_, fun k2 w2 hb2 hk2 hc2 => ?_⟩
  · skip
    have ra_a_0 := fun nx => (Kn.rng (s1.out.up (hf nx).out) 2 rfl : (f nx).rangeAt (w.heap.size) 0 (bR (l)))
    have ra_b_0 := fun nx => (Kn.rng (s1.out.up (hf nx).out) 1 rfl : (f nx).rangeAt (w.heap.size + 1) 0 (bR (m)))
    clear hf
    simp only [List.take_succ_cons, List.take_zero]
    repeat (first | (refine I.quiet_load rfl 22 _ rfl (w.heap.size) 0 rfl (bR (l)) _ (fun W hW => by obtain ⟨nx, rfl⟩ := hW; exact ra_a_0 nx) Try.underlying22 rfl (info_bR (l)) ?_; simp only [Act.put, List.setIfInBounds_toArray, List.set_cons_succ, List.set_cons_zero]) | (refine I.quiet_load rfl 22 _ rfl (w.heap.size + 1) 0 rfl (bR (m)) _ (fun W hW => by obtain ⟨nx, rfl⟩ := hW; exact ra_b_0 nx) Try.underlying22 rfl (info_bR (m)) ?_; simp only [Act.put, List.setIfInBounds_toArray, List.set_cons_succ, List.set_cons_zero]) | go_big_quiet_step (first | (go_at_call 12; exact (PM _).mono fun e w'' ⟨he, hb⟩ => ⟨he, hcl.out _ _ hb⟩) | (go_at_call 8; exact (SL _).mono fun e w'' ⟨he, hb⟩ => ⟨he, hcl.out _ _ hb⟩)))
    exact wpQuiet_nil rfl
  simp only [List.drop_succ_cons, List.drop_zero]
  have z2 := b1.out.size
  have s2 : Hid (Kn w2 [(k2, bZ), (w.heap.size + 1 + 1, (bR (n))), (w.heap.size + 1, (bR (m))), (w.heap.size, (bR (l)))]) := s1.out.fresh (vs := bZ) hb2.out hk2 hc2.out
  have g2 : w.heap.size ≤ k2 := Nat.le_trans b1.out.size hk2
  have b2 : Hid (Below w.heap.size w w2) := b1.out.trans (hb2.out.mono b1.out.size)
  clear s1 b1 hb2 hc2 hk2
  have s3x : Hid (Kn w2 [(k2, bZ), (w.heap.size + 1 + 1, (bR (n))), (w.heap.size + 1, (bR (m))), (w.heap.size, (bR (l)))]) := s2.out.front 0 rfl
  have b3x : Hid (Below w.heap.size w w2) := b2.out
  have TT3 : Hid (w2.there k2 0 (bR (ab)).length) := Kn.there s3x.out 0 rfl (by rw [(bR_length (ab)), bZ_length])
  go_wp2_with (first | refine I.wp_store_eq rfl 22 _ _ rfl k2 0 (bR (ab)) rfl rfl TT3.out (info_bR (ab)) (bR_one (ab)) ?_)
  intro w3 hw3
  try simp only [Act.put, List.setIfInBounds_toArray, List.set_cons_succ, List.set_cons_zero]
  have s3 : Hid (Kn w3 [(k2, (bR (ab))), (w.heap.size + 1 + 1, (bR (n))), (w.heap.size + 1, (bR (m))), (w.heap.size, (bR (l)))]) := by rw [hw3.out]; exact Kn.put s3x.out (by rw [(bR_length (ab)), bZ_length])
  have b3 : Hid (Below w.heap.size w w3) := by rw [hw3.out]; exact I.below_setCells _ _ _ b3x.out g2
  have z3 := b3.out.size
  clear hw3 s3x b3x TT3 s2 b2
  go_wp2_with fail
  refine wp_region_alloc1 7 (.cells #[Value.int IntKind.u8 0, Value.int IntKind.u8 0, Value.int IntKind.u8 0, Value.int IntKind.u8 0, Value.int IntKind.u8 0, Value.int IntKind.u8 0, Value.int IntKind.u8 0, Value.int IntKind.u8 0, Value.int IntKind.u8 0, Value.int IntKind.u8 0, Value.int IntKind.u8 0, Value.int IntKind.u8 0, Value.int IntKind.u8 0, Value.int IntKind.u8 0, Value.int IntKind.u8 0, Value.int IntKind.u8 0, Value.int IntKind.u8 0, Value.int IntKind.u8 0, Value.int IntKind.u8 0, Value.int IntKind.u8 0, Value.int IntKind.u8 0, Value.int IntKind.u8 0, Value.int IntKind.u8 0, Value.int IntKind.u8 0, Value.int IntKind.u8 0, Value.int IntKind.u8 0, Value.int IntKind.u8 0, Value.int IntKind.u8 0, Value.int IntKind.u8 0, Value.int IntKind.u8 0, Value.int IntKind.u8 0, Value.int IntKind.u8 0] 22) (by kernel_rfl) (by kernel_rfl) (by kernel_rfl) (by kernel_rfl) (by decide) (fun _ _ d _ _ h => by cases d <;> exact h) rfl rfl (fun _ _ => by kernel_rfl) ?_
  apply Exists.intro
  refine ⟨fun U hU f hf hcl => ?_, fun k4 w4 hb4 hk4 hc4 => ?_⟩
  · skip
    have ra_b_0 := fun nx => (Kn.rng (s3.out.up (hf nx).out) 2 rfl : (f nx).rangeAt (w.heap.size + 1) 0 (bR (m)))
    have ra_c_0 := fun nx => (Kn.rng (s3.out.up (hf nx).out) 1 rfl : (f nx).rangeAt (w.heap.size + 1 + 1) 0 (bR (n)))
    clear hf
    simp only [List.take_succ_cons, List.take_zero]
    repeat (first | (refine I.quiet_load rfl 22 _ rfl (w.heap.size + 1) 0 rfl (bR (m)) _ (fun W hW => by obtain ⟨nx, rfl⟩ := hW; exact ra_b_0 nx) Try.underlying22 rfl (info_bR (m)) ?_; simp only [Act.put, List.setIfInBounds_toArray, List.set_cons_succ, List.set_cons_zero]) | (refine I.quiet_load rfl 22 _ rfl (w.heap.size + 1 + 1) 0 rfl (bR (n)) _ (fun W hW => by obtain ⟨nx, rfl⟩ := hW; exact ra_c_0 nx) Try.underlying22 rfl (info_bR (n)) ?_; simp only [Act.put, List.setIfInBounds_toArray, List.set_cons_succ, List.set_cons_zero]) | go_big_quiet_step (first | (go_at_call 12; exact (PN _).mono fun e w'' ⟨he, hb⟩ => ⟨he, hcl.out _ _ hb⟩) | (go_at_call 8; exact (SM _).mono fun e w'' ⟨he, hb⟩ => ⟨he, hcl.out _ _ hb⟩)))
    exact wpQuiet_nil rfl
  simp only [List.drop_succ_cons, List.drop_zero]
  have z4 := b3.out.size
  have s4 : Hid (Kn w4 [(k4, bZ), (k2, (bR (ab))), (w.heap.size + 1 + 1, (bR (n))), (w.heap.size + 1, (bR (m))), (w.heap.size, (bR (l)))]) := s3.out.fresh (vs := bZ) hb4.out hk4 hc4.out
  have g4 : w.heap.size ≤ k4 := Nat.le_trans b3.out.size hk4
  have b4 : Hid (Below w.heap.size w w4) := b3.out.trans (hb4.out.mono b3.out.size)
  clear s3 b3 hb4 hc4 hk4
  have s5x : Hid (Kn w4 [(k4, bZ), (k2, (bR (ab))), (w.heap.size + 1 + 1, (bR (n))), (w.heap.size + 1, (bR (m))), (w.heap.size, (bR (l)))]) := s4.out.front 0 rfl
  have b5x : Hid (Below w.heap.size w w4) := b4.out
  have TT5 : Hid (w4.there k4 0 (bR (bc)).length) := Kn.there s5x.out 0 rfl (by rw [(bR_length (bc)), bZ_length])
  go_wp2_with (first | refine I.wp_store_eq rfl 22 _ _ rfl k4 0 (bR (bc)) rfl rfl TT5.out (info_bR (bc)) (bR_one (bc)) ?_)
  intro w5 hw5
  try simp only [Act.put, List.setIfInBounds_toArray, List.set_cons_succ, List.set_cons_zero]
  have s5 : Hid (Kn w5 [(k4, (bR (bc))), (k2, (bR (ab))), (w.heap.size + 1 + 1, (bR (n))), (w.heap.size + 1, (bR (m))), (w.heap.size, (bR (l)))]) := by rw [hw5.out]; exact Kn.put s5x.out (by rw [(bR_length (bc)), bZ_length])
  have b5 : Hid (Below w.heap.size w w5) := by rw [hw5.out]; exact I.below_setCells _ _ _ b5x.out g4
  have z5 := b5.out.size
  clear hw5 s5x b5x TT5 s4 b4
  go_wp2_with (first | refine wp_ldW rfl 22 _ rfl k2 0 rfl (bR (ab)) _ (Kn.rng s5.out 1 rfl) Try.underlying22 rfl (info_bR (ab)) ?_ | refine wp_ldW rfl 22 _ rfl (w.heap.size + 1 + 1) 0 rfl (bR (n)) _ (Kn.rng s5.out 2 rfl) Try.underlying22 rfl (info_bR (n)) ?_)
  refine (SX _).mono ?_
  rintro e w6 ⟨rfl, hb6⟩
  have s6 : Hid (Kn w6 [(k4, (bR (bc))), (k2, (bR (ab))), (w.heap.size + 1 + 1, (bR (n))), (w.heap.size + 1, (bR (m))), (w.heap.size, (bR (l)))]) := s5.out.up hb6
  have b6 : Hid (Below w.heap.size w w6) := b5.out.trans (hb6.mono b5.out.size)
  have z6 := b6.out.size
  clear hb6 s5 b5
  have s7x : Hid (Kn (w6.alloc (.cells #[Value.int IntKind.u8 0, Value.int IntKind.u8 0, Value.int IntKind.u8 0, Value.int IntKind.u8 0, Value.int IntKind.u8 0, Value.int IntKind.u8 0, Value.int IntKind.u8 0, Value.int IntKind.u8 0, Value.int IntKind.u8 0, Value.int IntKind.u8 0, Value.int IntKind.u8 0, Value.int IntKind.u8 0, Value.int IntKind.u8 0, Value.int IntKind.u8 0, Value.int IntKind.u8 0, Value.int IntKind.u8 0, Value.int IntKind.u8 0, Value.int IntKind.u8 0, Value.int IntKind.u8 0, Value.int IntKind.u8 0, Value.int IntKind.u8 0, Value.int IntKind.u8 0, Value.int IntKind.u8 0, Value.int IntKind.u8 0, Value.int IntKind.u8 0, Value.int IntKind.u8 0, Value.int IntKind.u8 0, Value.int IntKind.u8 0, Value.int IntKind.u8 0, Value.int IntKind.u8 0, Value.int IntKind.u8 0, Value.int IntKind.u8 0] 22)) [(w6.heap.size, bZ), (k4, (bR (bc))), (k2, (bR (ab))), (w.heap.size + 1 + 1, (bR (n))), (w.heap.size + 1, (bR (m))), (w.heap.size, (bR (l)))]) := s6.out.al bZ 22 rfl
  have b7x : Hid (Below w.heap.size w (w6.alloc (.cells #[Value.int IntKind.u8 0, Value.int IntKind.u8 0, Value.int IntKind.u8 0, Value.int IntKind.u8 0, Value.int IntKind.u8 0, Value.int IntKind.u8 0, Value.int IntKind.u8 0, Value.int IntKind.u8 0, Value.int IntKind.u8 0, Value.int IntKind.u8 0, Value.int IntKind.u8 0, Value.int IntKind.u8 0, Value.int IntKind.u8 0, Value.int IntKind.u8 0, Value.int IntKind.u8 0, Value.int IntKind.u8 0, Value.int IntKind.u8 0, Value.int IntKind.u8 0, Value.int IntKind.u8 0, Value.int IntKind.u8 0, Value.int IntKind.u8 0, Value.int IntKind.u8 0, Value.int IntKind.u8 0, Value.int IntKind.u8 0, Value.int IntKind.u8 0, Value.int IntKind.u8 0, Value.int IntKind.u8 0, Value.int IntKind.u8 0, Value.int IntKind.u8 0, Value.int IntKind.u8 0, Value.int IntKind.u8 0, Value.int IntKind.u8 0] 22))) := b6.out.alloc b6.out.size _
  have g7 : w.heap.size ≤ w6.heap.size := b6.out.size
  have TT7 : Hid ((w6.alloc (.cells #[Value.int IntKind.u8 0, Value.int IntKind.u8 0, Value.int IntKind.u8 0, Value.int IntKind.u8 0, Value.int IntKind.u8 0, Value.int IntKind.u8 0, Value.int IntKind.u8 0, Value.int IntKind.u8 0, Value.int IntKind.u8 0, Value.int IntKind.u8 0, Value.int IntKind.u8 0, Value.int IntKind.u8 0, Value.int IntKind.u8 0, Value.int IntKind.u8 0, Value.int IntKind.u8 0, Value.int IntKind.u8 0, Value.int IntKind.u8 0, Value.int IntKind.u8 0, Value.int IntKind.u8 0, Value.int IntKind.u8 0, Value.int IntKind.u8 0, Value.int IntKind.u8 0, Value.int IntKind.u8 0, Value.int IntKind.u8 0, Value.int IntKind.u8 0, Value.int IntKind.u8 0, Value.int IntKind.u8 0, Value.int IntKind.u8 0, Value.int IntKind.u8 0, Value.int IntKind.u8 0, Value.int IntKind.u8 0, Value.int IntKind.u8 0] 22)).there (w6.heap.size) 0 (bR (k)).length) := Kn.there s7x.out 0 rfl (by rw [(bR_length (k)), bZ_length])
  go_wp2_with (first | simp only [zero_b32] | refine I.wp_store_eq rfl 22 _ _ rfl (w6.heap.size) 0 (bR (k)) rfl rfl TT7.out (info_bR (k)) (bR_one (k)) ?_)
  intro w7 hw7
  try simp only [Act.put, List.setIfInBounds_toArray, List.set_cons_succ, List.set_cons_zero]
  have s7 : Hid (Kn w7 [(w6.heap.size, (bR (k))), (k4, (bR (bc))), (k2, (bR (ab))), (w.heap.size + 1 + 1, (bR (n))), (w.heap.size + 1, (bR (m))), (w.heap.size, (bR (l)))]) := by rw [hw7.out]; exact Kn.put s7x.out (by rw [(bR_length (k)), bZ_length])
  have b7 : Hid (Below w.heap.size w w7) := by rw [hw7.out]; exact I.below_setCells _ _ _ b7x.out g7
  have z7 := b7.out.size
  clear hw7 s7x b7x TT7 s6 b6
  go_wp2_with (first | refine wp_ldW rfl 22 _ rfl (w.heap.size) 0 rfl (bR (l)) _ (Kn.rng s7.out 5 rfl) Try.underlying22 rfl (info_bR (l)) ?_ | refine wp_ldW rfl 22 _ rfl k4 0 rfl (bR (bc)) _ (Kn.rng s7.out 1 rfl) Try.underlying22 rfl (info_bR (bc)) ?_)
  refine (SY _).mono ?_
  rintro e w8 ⟨rfl, hb8⟩
  have s8 : Hid (Kn w8 [(w6.heap.size, (bR (k))), (k4, (bR (bc))), (k2, (bR (ab))), (w.heap.size + 1 + 1, (bR (n))), (w.heap.size + 1, (bR (m))), (w.heap.size, (bR (l)))]) := s7.out.up hb8
  have b8 : Hid (Below w.heap.size w w8) := b7.out.trans (hb8.mono b7.out.size)
  have z8 := b8.out.size
  clear hb8 s7 b7
  have s9x : Hid (Kn (w8.alloc (.cells #[Value.int IntKind.u8 0, Value.int IntKind.u8 0, Value.int IntKind.u8 0, Value.int IntKind.u8 0, Value.int IntKind.u8 0, Value.int IntKind.u8 0, Value.int IntKind.u8 0, Value.int IntKind.u8 0, Value.int IntKind.u8 0, Value.int IntKind.u8 0, Value.int IntKind.u8 0, Value.int IntKind.u8 0, Value.int IntKind.u8 0, Value.int IntKind.u8 0, Value.int IntKind.u8 0, Value.int IntKind.u8 0, Value.int IntKind.u8 0, Value.int IntKind.u8 0, Value.int IntKind.u8 0, Value.int IntKind.u8 0, Value.int IntKind.u8 0, Value.int IntKind.u8 0, Value.int IntKind.u8 0, Value.int IntKind.u8 0, Value.int IntKind.u8 0, Value.int IntKind.u8 0, Value.int IntKind.u8 0, Value.int IntKind.u8 0, Value.int IntKind.u8 0, Value.int IntKind.u8 0, Value.int IntKind.u8 0, Value.int IntKind.u8 0] 22)) [(w8.heap.size, bZ), (w6.heap.size, (bR (k))), (k4, (bR (bc))), (k2, (bR (ab))), (w.heap.size + 1 + 1, (bR (n))), (w.heap.size + 1, (bR (m))), (w.heap.size, (bR (l)))]) := s8.out.al bZ 22 rfl
  have b9x : Hid (Below w.heap.size w (w8.alloc (.cells #[Value.int IntKind.u8 0, Value.int IntKind.u8 0, Value.int IntKind.u8 0, Value.int IntKind.u8 0, Value.int IntKind.u8 0, Value.int IntKind.u8 0, Value.int IntKind.u8 0, Value.int IntKind.u8 0, Value.int IntKind.u8 0, Value.int IntKind.u8 0, Value.int IntKind.u8 0, Value.int IntKind.u8 0, Value.int IntKind.u8 0, Value.int IntKind.u8 0, Value.int IntKind.u8 0, Value.int IntKind.u8 0, Value.int IntKind.u8 0, Value.int IntKind.u8 0, Value.int IntKind.u8 0, Value.int IntKind.u8 0, Value.int IntKind.u8 0, Value.int IntKind.u8 0, Value.int IntKind.u8 0, Value.int IntKind.u8 0, Value.int IntKind.u8 0, Value.int IntKind.u8 0, Value.int IntKind.u8 0, Value.int IntKind.u8 0, Value.int IntKind.u8 0, Value.int IntKind.u8 0, Value.int IntKind.u8 0, Value.int IntKind.u8 0] 22))) := b8.out.alloc b8.out.size _
  have g9 : w.heap.size ≤ w8.heap.size := b8.out.size
  have TT9 : Hid ((w8.alloc (.cells #[Value.int IntKind.u8 0, Value.int IntKind.u8 0, Value.int IntKind.u8 0, Value.int IntKind.u8 0, Value.int IntKind.u8 0, Value.int IntKind.u8 0, Value.int IntKind.u8 0, Value.int IntKind.u8 0, Value.int IntKind.u8 0, Value.int IntKind.u8 0, Value.int IntKind.u8 0, Value.int IntKind.u8 0, Value.int IntKind.u8 0, Value.int IntKind.u8 0, Value.int IntKind.u8 0, Value.int IntKind.u8 0, Value.int IntKind.u8 0, Value.int IntKind.u8 0, Value.int IntKind.u8 0, Value.int IntKind.u8 0, Value.int IntKind.u8 0, Value.int IntKind.u8 0, Value.int IntKind.u8 0, Value.int IntKind.u8 0, Value.int IntKind.u8 0, Value.int IntKind.u8 0, Value.int IntKind.u8 0, Value.int IntKind.u8 0, Value.int IntKind.u8 0, Value.int IntKind.u8 0, Value.int IntKind.u8 0, Value.int IntKind.u8 0] 22)).there (w8.heap.size) 0 (bR (k)).length) := Kn.there s9x.out 0 rfl (by rw [(bR_length (k)), bZ_length])
  go_wp2_with (first | simp only [zero_b32] | refine I.wp_store_eq rfl 22 _ _ rfl (w8.heap.size) 0 (bR (k)) rfl rfl TT9.out (info_bR (k)) (bR_one (k)) ?_)
  intro w9 hw9
  try simp only [Act.put, List.setIfInBounds_toArray, List.set_cons_succ, List.set_cons_zero]
  have s9 : Hid (Kn w9 [(w8.heap.size, (bR (k))), (w6.heap.size, (bR (k))), (k4, (bR (bc))), (k2, (bR (ab))), (w.heap.size + 1 + 1, (bR (n))), (w.heap.size + 1, (bR (m))), (w.heap.size, (bR (l)))]) := by rw [hw9.out]; exact Kn.put s9x.out (by rw [(bR_length (k)), bZ_length])
  have b9 : Hid (Below w.heap.size w w9) := by rw [hw9.out]; exact I.below_setCells _ _ _ b9x.out g9
  have z9 := b9.out.size
  clear hw9 s9x b9x TT9 s8 b8
  go_wp2_with (first | refine wp_ldW rfl 22 _ rfl (w6.heap.size) 0 rfl (bR (k)) _ (Kn.rng s9.out 1 rfl) Try.underlying22 rfl (info_bR (k)) ?_ | refine wp_ldW rfl 22 _ rfl (w8.heap.size) 0 rfl (bR (k)) _ (Kn.rng s9.out 0 rfl) Try.underlying22 rfl (info_bR (k)) ?_)
  go_ret
  exact ⟨rfl, b9.out⟩
theorem shV_ok {k : Nat} (h : k ≠ 0) : shV k = .tuple #[bV k, .int .i64 0] := by
  show Value.tuple #[bV k, .int .i64 (if k = 0 then 1 else 0)] = _
  rw [if_neg h]
theorem eqB_k {k : Nat} (h : k < 2 ^ 256) (w : World) : (binOp .eql 22 (bV k) (bV k)).run Try.prog w = .ok (.bool true) w := by
  rw [eqB h h, decide_eq_true rfl]
theorem agreeBoth_of (m n : Nat) (hm : m < 2 ^ 256) (hn : n < 2 ^ 256) (w : World) :
    Calls Try.prog 4 #[bV m, bV n] w fun e w' => e = .returned (.bool true) ∧ Below w.heap.size w w' := by
  have hb := Ag.both m n
  have SM := shared_fun m (Ag.pub n) hm (Ag.lt_256 (Ag.pub_lt n))
  have SN := shared_fun n (Ag.pub m) hn (Ag.lt_256 (Ag.pub_lt m))
  rw [← hb.1, shV_ok hb.2] at SN
  rw [shV_ok hb.2] at SM
  exact agreeBoth_walk m n _ _ _ (eqB_k (Ag.lt_256 (Ag.sh_lt _ _))) agrees_fun (public_fun n hn) SM (public_fun m hm) SN w
theorem agreeThree_of (l m n : Nat) (hl : l < 2 ^ 256) (hm : m < 2 ^ 256) (hn : n < 2 ^ 256) (w : World) :
    Calls Try.prog 5 #[bV l, bV m, bV n] w fun e w' => e = .returned (.bool true) ∧ Below w.heap.size w w' := by
  have hb := Ag.all l m n
  have SL := shared_fun l (Ag.pub m) hl (Ag.lt_256 (Ag.pub_lt m))
  have SM := shared_fun m (Ag.pub n) hm (Ag.lt_256 (Ag.pub_lt n))
  rw [shV_ok (Ag.both l m).2] at SL
  rw [shV_ok (Ag.both m n).2] at SM
  have SX := shared_fun n (Ag.sh l (Ag.pub m)) hn (Ag.lt_256 (Ag.sh_lt _ _))
  have SY := shared_fun l (Ag.sh m (Ag.pub n)) hl (Ag.lt_256 (Ag.sh_lt _ _))
  rw [← hb.1, shV_ok hb.2] at SY
  rw [shV_ok hb.2] at SX
  exact agreeThree_walk l m n _ _ _ _ _ (eqB_k (Ag.lt_256 (Ag.sh_lt _ _))) agrees_fun (public_fun m hm) SL (public_fun n hn) SM SX SY w
theorem wp_buildG {t : TypeId} {cs : Array Value} {ops : Array Oper} {rest : List Oper} {o : Oper} {a : Act} {Q : Exit → Act → World → Prop} {w : World} (hgd : Region.wanted o (yielded ops a.tmps) = true) (ho : o.op = .build t #[]) (hb : Try.prog.built t [] = some cs)
    (h : wpList Try.prog ops Q rest (a.put o.dst (.agg cs)) w) : wpList Try.prog ops Q (o :: rest) a w := by
  refine wpList_step fun K hK => ?_
  simp only [hgd, if_true]
  have e : (Instr.build t ((#[] : Array (Nat × Operand)).map fun x => (x.fst, a.eval x.snd))).run Try.prog w = .ok (.agg cs) w := run_build w t _ _ (by simpa using hb)
  unfold Oper.wp
  simp only [execOp, ho, Sem.run_bind, e, Result.andThen_ok, Sem.run_pure]
  exact hK _ _ h
set_option maxHeartbeats 1000000 in
theorem agreeSmall_no (n : Nat) (px py : Nm)
    (AL : ∀ w, Calls Try.prog 14 #[] w fun e w' => e = .returned (.bool true) ∧ Below w.heap.size w w')
    (O1 : ∀ w, Calls Try.prog 15 #[Wv px py] w fun e w' => e = .returned (.bool false) ∧ Below w.heap.size w w')
    (w : World) :
    Calls Try.prog 6 #[bV n, Wv px py] w fun e w' => e = .returned (.bool true) ∧ Below w.heap.size w w' := by
  go_enter Try.func6, Try.ntmps6
  have s0 : Hid (Kn (kalP (w.alloc (.cells (bR (n)).toArray 22)) (px) (py)) [(w.heap.size + 1, (c8 (px) (py))), (w.heap.size, (bR (n)))]) := (((Kn.nil w).al (bR (n)) 22 rfl).al (c8 (px) (py)) 35 (by simp))
  have b0 : Hid (Below w.heap.size w (kalP (w.alloc (.cells (bR (n)).toArray 22)) (px) (py))) := (((Below.refl _ _).alloc (Nat.le_refl _) _).alloc (by simp <;> omega) _)
  go_wp2_with fail
  refine (AL _).mono ?_
  rintro e w1 ⟨rfl, hb1⟩
  have s1 : Hid (Kn w1 [(w.heap.size + 1, (c8 (px) (py))), (w.heap.size, (bR (n)))]) := s0.out.up hb1
  have b1 : Hid (Below w.heap.size w w1) := b0.out.trans (hb1.mono b0.out.size)
  have z1 := b1.out.size
  clear hb1 s0 b0
  have up_0 : w1.cell? ⟨w.heap.size + 1, 0, none⟩ = some (.int .u64 (px).a) := Kn.get s1.out 0 0 rfl rfl
  have up_1 : w1.cell? ⟨w.heap.size + 1, 1, none⟩ = some (.int .u64 (px).b) := Kn.get s1.out 0 1 rfl rfl
  have up_2 : w1.cell? ⟨w.heap.size + 1, 2, none⟩ = some (.int .u64 (px).c) := Kn.get s1.out 0 2 rfl rfl
  have up_3 : w1.cell? ⟨w.heap.size + 1, 3, none⟩ = some (.int .u64 (px).d) := Kn.get s1.out 0 3 rfl rfl
  have up_4 : w1.cell? ⟨w.heap.size + 1, 4, none⟩ = some (.int .u64 (py).a) := Kn.get s1.out 0 4 rfl rfl
  have up_5 : w1.cell? ⟨w.heap.size + 1, 5, none⟩ = some (.int .u64 (py).b) := Kn.get s1.out 0 5 rfl rfl
  have up_6 : w1.cell? ⟨w.heap.size + 1, 6, none⟩ = some (.int .u64 (py).c) := Kn.get s1.out 0 6 rfl rfl
  have up_7 : w1.cell? ⟨w.heap.size + 1, 7, none⟩ = some (.int .u64 (py).d) := Kn.get s1.out 0 7 rfl rfl
  go_wp2_with fail
  clear up_0 up_1 up_2 up_3 up_4 up_5 up_6 up_7
  refine (O1 _).mono ?_
  rintro e w2 ⟨rfl, hb2⟩
  have s2 : Hid (Kn w2 [(w.heap.size + 1, (c8 (px) (py))), (w.heap.size, (bR (n)))]) := s1.out.up hb2
  have b2 : Hid (Below w.heap.size w w2) := b1.out.trans (hb2.mono b1.out.size)
  have z2 := b2.out.size
  clear hb2 s1 b1
  go_wp2_with fail
  go_ret
  exact ⟨rfl, b2.out⟩
set_option maxRecDepth 20000 in
set_option maxHeartbeats 1000000 in
theorem agreeSmall_yes (n b : Nat) (px py l tx ty u : Nm) (e1 : ∀ w, (binOp .eql 22 (bV 0) (bV 0)).run Try.prog w = .ok (.bool true) w)
    (AL : ∀ w, Calls Try.prog 14 #[] w fun e w' => e = .returned (.bool true) ∧ Below w.heap.size w w')
    (O1 : ∀ w, Calls Try.prog 15 #[Wv px py] w fun e w' => e = .returned (.bool true) ∧ Below w.heap.size w w')
    (SL : ∀ w, Calls Try.prog 19 #[] w fun e w' => e = .returned (N l) ∧ Below w.heap.size w w')
    (TM : ∀ w, Calls Try.prog 18 #[N l, Wv px py] w fun e w' => e = .returned (Wv tx ty) ∧ Below w.heap.size w w')
    (PL : ∀ w, Calls Try.prog 17 #[Wv tx ty] w fun e w' => e = .returned (N u) ∧ Below w.heap.size w w')
    (BY : ∀ w, Calls Try.prog 16 #[N u] w fun e w' => e = .returned (.agg (bR (b)).toArray) ∧ Below w.heap.size w w')
    (SH : ∀ w, Calls Try.prog 8 #[.agg (bR (n)).toArray, .agg (bR (b)).toArray] w fun e w' => e = .returned (.tuple #[.agg (bR (0)).toArray, .int .i64 1]) ∧ Below w.heap.size w w')
    (w : World) :
    Calls Try.prog 6 #[bV n, Wv px py] w fun e w' => e = .returned (.bool true) ∧ Below w.heap.size w w' := by
  go_enter Try.func6, Try.ntmps6
  have s0 : Hid (Kn (kalP (w.alloc (.cells (bR (n)).toArray 22)) (px) (py)) [(w.heap.size + 1, (c8 (px) (py))), (w.heap.size, (bR (n)))]) := (((Kn.nil w).al (bR (n)) 22 rfl).al (c8 (px) (py)) 35 (by simp))
  have b0 : Hid (Below w.heap.size w (kalP (w.alloc (.cells (bR (n)).toArray 22)) (px) (py))) := (((Below.refl _ _).alloc (Nat.le_refl _) _).alloc (by simp <;> omega) _)
  go_wp2_with fail
  refine (AL _).mono ?_
  rintro e w1 ⟨rfl, hb1⟩
  have s1 : Hid (Kn w1 [(w.heap.size + 1, (c8 (px) (py))), (w.heap.size, (bR (n)))]) := s0.out.up hb1
  have b1 : Hid (Below w.heap.size w w1) := b0.out.trans (hb1.mono b0.out.size)
  have z1 := b1.out.size
  clear hb1 s0 b0
  have up_0 : w1.cell? ⟨w.heap.size + 1, 0, none⟩ = some (.int .u64 (px).a) := Kn.get s1.out 0 0 rfl rfl
  have up_1 : w1.cell? ⟨w.heap.size + 1, 1, none⟩ = some (.int .u64 (px).b) := Kn.get s1.out 0 1 rfl rfl
  have up_2 : w1.cell? ⟨w.heap.size + 1, 2, none⟩ = some (.int .u64 (px).c) := Kn.get s1.out 0 2 rfl rfl
  have up_3 : w1.cell? ⟨w.heap.size + 1, 3, none⟩ = some (.int .u64 (px).d) := Kn.get s1.out 0 3 rfl rfl
  have up_4 : w1.cell? ⟨w.heap.size + 1, 4, none⟩ = some (.int .u64 (py).a) := Kn.get s1.out 0 4 rfl rfl
  have up_5 : w1.cell? ⟨w.heap.size + 1, 5, none⟩ = some (.int .u64 (py).b) := Kn.get s1.out 0 5 rfl rfl
  have up_6 : w1.cell? ⟨w.heap.size + 1, 6, none⟩ = some (.int .u64 (py).c) := Kn.get s1.out 0 6 rfl rfl
  have up_7 : w1.cell? ⟨w.heap.size + 1, 7, none⟩ = some (.int .u64 (py).d) := Kn.get s1.out 0 7 rfl rfl
  go_wp2_with fail
  clear up_0 up_1 up_2 up_3 up_4 up_5 up_6 up_7
  refine (O1 _).mono ?_
  rintro e w2 ⟨rfl, hb2⟩
  have s2 : Hid (Kn w2 [(w.heap.size + 1, (c8 (px) (py))), (w.heap.size, (bR (n)))]) := s1.out.up hb2
  have b2 : Hid (Below w.heap.size w w2) := b1.out.trans (hb2.mono b1.out.size)
  have z2 := b2.out.size
  clear hb2 s1 b1
  go_wp2_with fail
  refine wp_region_alloc1 10 (.cells #[Value.int IntKind.u8 0, Value.int IntKind.u8 0, Value.int IntKind.u8 0, Value.int IntKind.u8 0, Value.int IntKind.u8 0, Value.int IntKind.u8 0, Value.int IntKind.u8 0, Value.int IntKind.u8 0, Value.int IntKind.u8 0, Value.int IntKind.u8 0, Value.int IntKind.u8 0, Value.int IntKind.u8 0, Value.int IntKind.u8 0, Value.int IntKind.u8 0, Value.int IntKind.u8 0, Value.int IntKind.u8 0, Value.int IntKind.u8 0, Value.int IntKind.u8 0, Value.int IntKind.u8 0, Value.int IntKind.u8 0, Value.int IntKind.u8 0, Value.int IntKind.u8 0, Value.int IntKind.u8 0, Value.int IntKind.u8 0, Value.int IntKind.u8 0, Value.int IntKind.u8 0, Value.int IntKind.u8 0, Value.int IntKind.u8 0, Value.int IntKind.u8 0, Value.int IntKind.u8 0, Value.int IntKind.u8 0, Value.int IntKind.u8 0] 22) (by kernel_rfl) (by kernel_rfl) (by kernel_rfl) (by kernel_rfl) (by decide) (fun _ _ d _ _ h => by cases d <;> exact h) rfl rfl (fun _ _ => by kernel_rfl) ?_
  apply Exists.intro
  refine ⟨fun U hU f hf hcl => ?_, fun k3 w3 hb3 hk3 hc3 => ?_⟩
  · skip
    have up_0 := fun nx => (Kn.get (s2.out.up (hf nx).out) 0 0 rfl rfl : (f nx).cell? ⟨w.heap.size + 1, 0, none⟩ = some (.int .u64 (px).a))
    have up_1 := fun nx => (Kn.get (s2.out.up (hf nx).out) 0 1 rfl rfl : (f nx).cell? ⟨w.heap.size + 1, 1, none⟩ = some (.int .u64 (px).b))
    have up_2 := fun nx => (Kn.get (s2.out.up (hf nx).out) 0 2 rfl rfl : (f nx).cell? ⟨w.heap.size + 1, 2, none⟩ = some (.int .u64 (px).c))
    have up_3 := fun nx => (Kn.get (s2.out.up (hf nx).out) 0 3 rfl rfl : (f nx).cell? ⟨w.heap.size + 1, 3, none⟩ = some (.int .u64 (px).d))
    have up_4 := fun nx => (Kn.get (s2.out.up (hf nx).out) 0 4 rfl rfl : (f nx).cell? ⟨w.heap.size + 1, 4, none⟩ = some (.int .u64 (py).a))
    have up_5 := fun nx => (Kn.get (s2.out.up (hf nx).out) 0 5 rfl rfl : (f nx).cell? ⟨w.heap.size + 1, 5, none⟩ = some (.int .u64 (py).b))
    have up_6 := fun nx => (Kn.get (s2.out.up (hf nx).out) 0 6 rfl rfl : (f nx).cell? ⟨w.heap.size + 1, 6, none⟩ = some (.int .u64 (py).c))
    have up_7 := fun nx => (Kn.get (s2.out.up (hf nx).out) 0 7 rfl rfl : (f nx).cell? ⟨w.heap.size + 1, 7, none⟩ = some (.int .u64 (py).d))
    have ra_s_0 := fun nx => (Kn.rng (s2.out.up (hf nx).out) 1 rfl : (f nx).rangeAt (w.heap.size) 0 (bR (n)))
    clear hf
    simp only [List.take_succ_cons, List.take_zero]
    repeat (first | (refine I.quiet_load rfl 22 _ rfl (w.heap.size) 0 rfl (bR (n)) _ (fun W hW => by obtain ⟨nx, rfl⟩ := hW; exact ra_s_0 nx) Try.underlying22 rfl (info_bR (n)) ?_; simp only [Act.put, List.setIfInBounds_toArray, List.set_cons_succ, List.set_cons_zero]) | go_big_quiet_step (first | (go_at_call 19; exact (SL _).mono fun e w'' ⟨he, hb⟩ => ⟨he, hcl.out _ _ hb⟩) | (go_at_call 18; exact (TM _).mono fun e w'' ⟨he, hb⟩ => ⟨he, hcl.out _ _ hb⟩) | (go_at_call 17; exact (PL _).mono fun e w'' ⟨he, hb⟩ => ⟨he, hcl.out _ _ hb⟩) | (go_at_call 16; exact (BY _).mono fun e w'' ⟨he, hb⟩ => ⟨he, hcl.out _ _ hb⟩) | (go_at_call 8; exact (SH _).mono fun e w'' ⟨he, hb⟩ => ⟨he, hcl.out _ _ hb⟩)))
    exact wpQuiet_nil rfl
  simp only [List.drop_succ_cons, List.drop_zero]
  have z3 := b2.out.size
  have s3 : Hid (Kn w3 [(k3, bZ), (w.heap.size + 1, (c8 (px) (py))), (w.heap.size, (bR (n)))]) := s2.out.fresh (vs := bZ) hb3.out hk3 hc3.out
  have g3 : w.heap.size ≤ k3 := Nat.le_trans b2.out.size hk3
  have b3 : Hid (Below w.heap.size w w3) := b2.out.trans (hb3.out.mono b2.out.size)
  clear s2 b2 hb3 hc3 hk3
  have s4x : Hid (Kn w3 [(k3, bZ), (w.heap.size + 1, (c8 (px) (py))), (w.heap.size, (bR (n)))]) := s3.out.front 0 rfl
  have b4x : Hid (Below w.heap.size w w3) := b3.out
  have TT4 : Hid (w3.there k3 0 (bR (0)).length) := Kn.there s4x.out 0 rfl (by rw [(bR_length (0)), bZ_length])
  go_wp2_with (first | refine I.wp_store_eq rfl 22 _ _ rfl k3 0 (bR (0)) rfl rfl TT4.out (info_bR (0)) (bR_one (0)) ?_)
  intro w4 hw4
  try simp only [Act.put, List.setIfInBounds_toArray, List.set_cons_succ, List.set_cons_zero]
  have s4 : Hid (Kn w4 [(k3, (bR (0))), (w.heap.size + 1, (c8 (px) (py))), (w.heap.size, (bR (n)))]) := by rw [hw4.out]; exact Kn.put s4x.out (by rw [(bR_length (0)), bZ_length])
  have b4 : Hid (Below w.heap.size w w4) := by rw [hw4.out]; exact I.below_setCells _ _ _ b4x.out g3
  have z4 := b4.out.size
  clear hw4 s4x b4x TT4 s3 b3
  go_wp2_with (first | refine wp_ldW rfl 22 _ rfl k3 0 rfl (bR (0)) _ (Kn.rng s4.out 0 rfl) Try.underlying22 rfl (info_bR (0)) ?_ | refine wp_buildG rfl rfl b32_zero ?_)
  go_ret
  exact ⟨rfl, b4.out⟩
theorem agreeSmall_of (n : Nat) (hn : n < 2 ^ 256) (px py : Nm) (a1 : px.ok) (a2 : py.ok) (w : World) :
    Calls Try.prog 6 #[bV n, Wv px py] w fun e w' => e = .returned (.bool true) ∧ Below w.heap.size w w' := by
  by_cases hP : Cv.On (px.nat, py.nat)
  · have O1 := cOnC.1 _ hP
    have T1 := times_fun cTimesC (nm Cv.ord) (nm_ok _) _ hP
    have P1 := place_fun lOfC _ (Cv.times_on hP (nm Cv.ord).nat)
    rw [nm_nat ord_lt] at T1 P1
    rw [← pv_of a1 a2] at O1 T1
    have lp := Ag.lt_256 (Cv.place_lt (Cv.times Cv.ord (px.nat, py.nat)))
    have SH := shared_fun n _ hn lp
    rw [Ag.small hP] at SH
    exact agreeSmall_yes n _ px py _ _ _ _ (eqB_k (by decide)) agrees_fun O1 sLC T1 P1 (bytes_n _ lp) SH w
  · exact agreeSmall_no n px py agrees_fun (cOnC.2 px py a1 a2 hP) w
end Go.Proofs.Ytpnfopakkaoibaa
