/- FieldInverse, out of what package field must keep. -/
import Derived.Test.YtmajielbbajdhaaFldC
import Derived.Test.YtmajielbbajdhaaAl
import Derived.Test.YtmajielbbajdhaaUpV3
namespace Go.Proofs.Ytmajielbbajdhaa
open Go.RowKit
attribute [local go_sem] World.cell?_alloc_some cell_alloc2 cell_alloc3 cell_alloc4 frozen?_alloc_cells frozen_out
set_option linter.unusedSimpArgs false
set_option maxHeartbeats 2000000 in
theorem fieldInv_zero (a b x y : Nm) (e1 : ∀ w, (binOp .eql 24 (N ⟨0, 0, 0, 0⟩) (N ⟨0, 0, 0, 0⟩)).run Try.prog w = .ok (.bool true) w) (hx : x = ⟨0, 0, 0, 0⟩)
    (FA : ∀ w, Calls Try.prog 26 #[] w fun e w' => e = .returned (.bool true) ∧ Below w.heap.size w w')
    (I1 : ∀ w, Calls Try.prog 23 #[N a] w fun e w' => e = .returned (N x) ∧ Below w.heap.size w w')
    (I2 : ∀ w, Calls Try.prog 23 #[N b] w fun e w' => e = .returned (N y) ∧ Below w.heap.size w w')
    (L1 : ∀ w, Calls Try.prog 15 #[N a] w fun e w' => e = .returned (N ⟨0, 0, 0, 0⟩) ∧ Below w.heap.size w w')
    (w : World) :
    Calls Try.prog 5 #[N a, N b] w fun e w' => e = .returned (.bool true) ∧ Below w.heap.size w w' := by
  subst hx
  go_enter Try.func5, Try.ntmps5
  have s0 : Hid (Kn (kal4 (kal4 w (a)) (b)) [(w.heap.size + 1, (c4 (b))), (w.heap.size, (c4 (a)))]) := (((Kn.nil w).al (c4 (a)) 24 rfl).al (c4 (b)) 24 (by simp))
  have b0 : Hid (Below w.heap.size w (kal4 (kal4 w (a)) (b))) := (((Below.refl _ _).alloc (Nat.le_refl _) _).alloc (by simp <;> omega) _)
  go_wp2_with fail
  refine (FA _).mono ?_
  rintro e w1 ⟨rfl, hb1⟩
  have s1 : Hid (Kn w1 [(w.heap.size + 1, (c4 (b))), (w.heap.size, (c4 (a)))]) := s0.out.up hb1
  have b1 : Hid (Below w.heap.size w w1) := b0.out.trans (hb1.mono b0.out.size)
  have z1 := b1.out.size
  clear hb1 s0 b0
  go_wp2_with fail
  refine wp_region_vars3 5 (.cells #[.int .u64 0, .int .u64 0, .int .u64 0, .int .u64 0] 24) (.cells #[.int .u64 0, .int .u64 0, .int .u64 0, .int .u64 0] 24) (.cells #[.int .u64 0, .int .u64 0, .int .u64 0, .int .u64 0] 24) (.cells #[.int .u64 ((⟨0, 0, 0, 0⟩ : Nm)).a, .int .u64 ((⟨0, 0, 0, 0⟩ : Nm)).b, .int .u64 ((⟨0, 0, 0, 0⟩ : Nm)).c, .int .u64 ((⟨0, 0, 0, 0⟩ : Nm)).d] 24) (.cells #[.int .u64 (y).a, .int .u64 (y).b, .int .u64 (y).c, .int .u64 (y).d] 24) (.cells #[.int .u64 ((⟨0, 0, 0, 0⟩ : Nm)).a, .int .u64 ((⟨0, 0, 0, 0⟩ : Nm)).b, .int .u64 ((⟨0, 0, 0, 0⟩ : Nm)).c, .int .u64 ((⟨0, 0, 0, 0⟩ : Nm)).d] 24) (by kernel_rfl) (by kernel_rfl) (by kernel_rfl) (by kernel_rfl) rfl rfl rfl rfl rfl rfl (by decide) rfl rfl rfl (fun _ _ => by kernel_rfl) (fun _ _ => by kernel_rfl) (fun _ _ => by kernel_rfl) ?_
  apply Exists.intro
  refine ⟨fun U hU f hf hcl => ?_, fun k j i W hc => ?_, fun k j i W hc => ?_, fun k j i W hc => ?_, fun k2 j2 i2 w2 hb2 hk2 hj2 hi2 hn2 hc2 hd2 he2 => ?_⟩
  · skip
    have ua_0 := fun nx => (Kn.get (s1.out.up (hf nx).out) 1 0 rfl rfl : (f nx).cell? ⟨w.heap.size, 0, none⟩ = some (.int .u64 (a).a))
    have ua_1 := fun nx => (Kn.get (s1.out.up (hf nx).out) 1 1 rfl rfl : (f nx).cell? ⟨w.heap.size, 1, none⟩ = some (.int .u64 (a).b))
    have ua_2 := fun nx => (Kn.get (s1.out.up (hf nx).out) 1 2 rfl rfl : (f nx).cell? ⟨w.heap.size, 2, none⟩ = some (.int .u64 (a).c))
    have ua_3 := fun nx => (Kn.get (s1.out.up (hf nx).out) 1 3 rfl rfl : (f nx).cell? ⟨w.heap.size, 3, none⟩ = some (.int .u64 (a).d))
    have ub_0 := fun nx => (Kn.get (s1.out.up (hf nx).out) 0 0 rfl rfl : (f nx).cell? ⟨w.heap.size + 1, 0, none⟩ = some (.int .u64 (b).a))
    have ub_1 := fun nx => (Kn.get (s1.out.up (hf nx).out) 0 1 rfl rfl : (f nx).cell? ⟨w.heap.size + 1, 1, none⟩ = some (.int .u64 (b).b))
    have ub_2 := fun nx => (Kn.get (s1.out.up (hf nx).out) 0 2 rfl rfl : (f nx).cell? ⟨w.heap.size + 1, 2, none⟩ = some (.int .u64 (b).c))
    have ub_3 := fun nx => (Kn.get (s1.out.up (hf nx).out) 0 3 rfl rfl : (f nx).cell? ⟨w.heap.size + 1, 3, none⟩ = some (.int .u64 (b).d))
    clear hf
    simp only [List.take_succ_cons, List.take_zero]
    repeat (go_big_quiet_step (first | (go_at_call_of 23 [Value.agg #[Value.int IntKind.u64 a.a, Value.int IntKind.u64 a.b, Value.int IntKind.u64 a.c, Value.int IntKind.u64 a.d]]; exact (I1 _).mono fun e w'' ⟨he, hb⟩ => ⟨he, hcl.out _ _ hb⟩) | (go_at_call_of 23 [Value.agg #[Value.int IntKind.u64 b.a, Value.int IntKind.u64 b.b, Value.int IntKind.u64 b.c, Value.int IntKind.u64 b.d]]; exact (I2 _).mono fun e w'' ⟨he, hb⟩ => ⟨he, hcl.out _ _ hb⟩)))
    exact wpQuiet_nil rfl
  · obtain ⟨c0, c1, c2, c3, cz⟩ := cells4 hc.out
    exact ⟨(st4 W k ((⟨0, 0, 0, 0⟩ : Nm))), by simp [execOp, go_sem, c0, c1, c2, c3, cz], by first | exact heap_st4 hc.out _ | exact heap_st8 hc.out _ _, fun hk => by first | exact below_st4 (Below.refl _ _) hk | exact below_st8 (Below.refl _ _) hk, fun b hb => by first | exact heap_st4_ne hb | exact heap_st8_ne hb⟩
  · obtain ⟨c0, c1, c2, c3, cz⟩ := cells4 hc.out
    exact ⟨(st4 W j (y)), by simp [execOp, go_sem, c0, c1, c2, c3, cz], by first | exact heap_st4 hc.out _ | exact heap_st8 hc.out _ _, fun hk => by first | exact below_st4 (Below.refl _ _) hk | exact below_st8 (Below.refl _ _) hk, fun b hb => by first | exact heap_st4_ne hb | exact heap_st8_ne hb⟩
  · obtain ⟨c0, c1, c2, c3, cz⟩ := cells4 hc.out
    exact ⟨(st4 W i ((⟨0, 0, 0, 0⟩ : Nm))), by simp [execOp, go_sem, c0, c1, c2, c3, cz], by first | exact heap_st4 hc.out _ | exact heap_st8 hc.out _ _, fun hk => by first | exact below_st4 (Below.refl _ _) hk | exact below_st8 (Below.refl _ _) hk, fun b hb => by first | exact heap_st4_ne hb | exact heap_st8_ne hb⟩
  simp only [Act.put, List.setIfInBounds_toArray, List.set_cons_succ, List.set_cons_zero]
  have z2 := b1.out.size
  have g2 : w.heap.size ≤ k2 := Nat.le_trans b1.out.size hk2
  have gj2 : w.heap.size ≤ j2 := Nat.le_trans b1.out.size hj2
  have gi2 : w.heap.size ≤ i2 := Nat.le_trans b1.out.size hi2
  have s2 : Hid (Kn w2 [(k2, (c4 ((⟨0, 0, 0, 0⟩ : Nm)))), (j2, (c4 (y))), (i2, (c4 ((⟨0, 0, 0, 0⟩ : Nm)))), (w.heap.size + 1, (c4 (b))), (w.heap.size, (c4 (a)))]) := s1.out.three hb2.out hk2 hj2 hi2 hn2.out hc2.out hd2.out he2.out
  have b2 : Hid (Below w.heap.size w w2) := b1.out.trans (hb2.out.mono b1.out.size)
  clear s1 b1 hb2 hc2 hd2 he2 hk2 hj2 hi2
  go_wp2_with fail
  refine wp_region_up (by kernel_rfl) (by kernel_rfl) (fun U hU f hf hcl => ?_)
  have ua_0 := fun nx => (Kn.get (s2.out.up (hf nx).out) 4 0 rfl rfl : (f nx).cell? ⟨w.heap.size, 0, none⟩ = some (.int .u64 (a).a))
  have ua_1 := fun nx => (Kn.get (s2.out.up (hf nx).out) 4 1 rfl rfl : (f nx).cell? ⟨w.heap.size, 1, none⟩ = some (.int .u64 (a).b))
  have ua_2 := fun nx => (Kn.get (s2.out.up (hf nx).out) 4 2 rfl rfl : (f nx).cell? ⟨w.heap.size, 2, none⟩ = some (.int .u64 (a).c))
  have ua_3 := fun nx => (Kn.get (s2.out.up (hf nx).out) 4 3 rfl rfl : (f nx).cell? ⟨w.heap.size, 3, none⟩ = some (.int .u64 (a).d))
  have unone_0 := fun nx => (Kn.get (s2.out.up (hf nx).out) 2 0 rfl rfl : (f nx).cell? ⟨i2, 0, none⟩ = some (.int .u64 ((⟨0, 0, 0, 0⟩ : Nm)).a))
  have unone_1 := fun nx => (Kn.get (s2.out.up (hf nx).out) 2 1 rfl rfl : (f nx).cell? ⟨i2, 1, none⟩ = some (.int .u64 ((⟨0, 0, 0, 0⟩ : Nm)).b))
  have unone_2 := fun nx => (Kn.get (s2.out.up (hf nx).out) 2 2 rfl rfl : (f nx).cell? ⟨i2, 2, none⟩ = some (.int .u64 ((⟨0, 0, 0, 0⟩ : Nm)).c))
  have unone_3 := fun nx => (Kn.get (s2.out.up (hf nx).out) 2 3 rfl rfl : (f nx).cell? ⟨i2, 3, none⟩ = some (.int .u64 ((⟨0, 0, 0, 0⟩ : Nm)).d))
  try simp only [List.append_eq, List.cons_append, List.nil_append]
  repeat (go_big_quiet_step (first | (go_at_call 15; exact (L1 _).mono fun e w'' ⟨he, hb⟩ => ⟨he, hcl.out _ _ hb⟩)))
  refine wpQuiet_nil ?_
  intro nx
  have hb3 := (hf nx).out
  clear hf hcl ua_0 ua_1 ua_2 ua_3 unone_0 unone_1 unone_2 unone_3
  generalize f nx = w3 at hb3 ⊢
  have s3 : Hid (Kn w3 [(k2, (c4 ((⟨0, 0, 0, 0⟩ : Nm)))), (j2, (c4 (y))), (i2, (c4 ((⟨0, 0, 0, 0⟩ : Nm)))), (w.heap.size + 1, (c4 (b))), (w.heap.size, (c4 (a)))]) := s2.out.up hb3
  have b3 : Hid (Below w.heap.size w w3) := b2.out.trans (hb3.mono b2.out.size)
  have z3 := b3.out.size
  clear hb3 s2 b2
  have ux_0 : w3.cell? ⟨k2, 0, none⟩ = some (.int .u64 ((⟨0, 0, 0, 0⟩ : Nm)).a) := Kn.get s3.out 0 0 rfl rfl
  have ux_1 : w3.cell? ⟨k2, 1, none⟩ = some (.int .u64 ((⟨0, 0, 0, 0⟩ : Nm)).b) := Kn.get s3.out 0 1 rfl rfl
  have ux_2 : w3.cell? ⟨k2, 2, none⟩ = some (.int .u64 ((⟨0, 0, 0, 0⟩ : Nm)).c) := Kn.get s3.out 0 2 rfl rfl
  have ux_3 : w3.cell? ⟨k2, 3, none⟩ = some (.int .u64 ((⟨0, 0, 0, 0⟩ : Nm)).d) := Kn.get s3.out 0 3 rfl rfl
  have unone_0 : w3.cell? ⟨i2, 0, none⟩ = some (.int .u64 ((⟨0, 0, 0, 0⟩ : Nm)).a) := Kn.get s3.out 2 0 rfl rfl
  have unone_1 : w3.cell? ⟨i2, 1, none⟩ = some (.int .u64 ((⟨0, 0, 0, 0⟩ : Nm)).b) := Kn.get s3.out 2 1 rfl rfl
  have unone_2 : w3.cell? ⟨i2, 2, none⟩ = some (.int .u64 ((⟨0, 0, 0, 0⟩ : Nm)).c) := Kn.get s3.out 2 2 rfl rfl
  have unone_3 : w3.cell? ⟨i2, 3, none⟩ = some (.int .u64 ((⟨0, 0, 0, 0⟩ : Nm)).d) := Kn.get s3.out 2 3 rfl rfl
  go_wp2_with fail
  clear ux_0 ux_1 ux_2 ux_3 unone_0 unone_1 unone_2 unone_3
  go_ret
  exact ⟨rfl, b3.out⟩
set_option maxHeartbeats 2000000 in
theorem fieldInv_good (a b x y la m xy : Nm) (e0 : ∀ w, (binOp .eql 24 (N la) (N ⟨0, 0, 0, 0⟩)).run Try.prog w = .ok (.bool false) w) (e1 : ∀ w, (binOp .eql 24 (N ⟨1, 0, 0, 0⟩) (N ⟨1, 0, 0, 0⟩)).run Try.prog w = .ok (.bool true) w)
    (e2 : ∀ w, (binOp .eql 24 (N la) (N la)).run Try.prog w = .ok (.bool true) w) (e3 : ∀ w, (binOp .eql 24 (N xy) (N xy)).run Try.prog w = .ok (.bool true) w)
    (FA : ∀ w, Calls Try.prog 26 #[] w fun e w' => e = .returned (.bool true) ∧ Below w.heap.size w w')
    (I1 : ∀ w, Calls Try.prog 23 #[N a] w fun e w' => e = .returned (N x) ∧ Below w.heap.size w w')
    (I2 : ∀ w, Calls Try.prog 23 #[N b] w fun e w' => e = .returned (N y) ∧ Below w.heap.size w w')
    (L1 : ∀ w, Calls Try.prog 15 #[N a] w fun e w' => e = .returned (N la) ∧ Below w.heap.size w w')
    (M1 : ∀ w, Calls Try.prog 21 #[N a, N x] w fun e w' => e = .returned (N ⟨1, 0, 0, 0⟩) ∧ Below w.heap.size w w')
    (I3 : ∀ w, Calls Try.prog 23 #[N x] w fun e w' => e = .returned (N la) ∧ Below w.heap.size w w')
    (M2 : ∀ w, Calls Try.prog 21 #[N a, N b] w fun e w' => e = .returned (N m) ∧ Below w.heap.size w w')
    (I4 : ∀ w, Calls Try.prog 23 #[N m] w fun e w' => e = .returned (N xy) ∧ Below w.heap.size w w')
    (M3 : ∀ w, Calls Try.prog 21 #[N x, N y] w fun e w' => e = .returned (N xy) ∧ Below w.heap.size w w')
    (w : World) :
    Calls Try.prog 5 #[N a, N b] w fun e w' => e = .returned (.bool true) ∧ Below w.heap.size w w' := by
  go_enter Try.func5, Try.ntmps5
  have s0 : Hid (Kn (kal4 (kal4 w (a)) (b)) [(w.heap.size + 1, (c4 (b))), (w.heap.size, (c4 (a)))]) := (((Kn.nil w).al (c4 (a)) 24 rfl).al (c4 (b)) 24 (by simp))
  have b0 : Hid (Below w.heap.size w (kal4 (kal4 w (a)) (b))) := (((Below.refl _ _).alloc (Nat.le_refl _) _).alloc (by simp <;> omega) _)
  go_wp2_with fail
  refine (FA _).mono ?_
  rintro e w1 ⟨rfl, hb1⟩
  have s1 : Hid (Kn w1 [(w.heap.size + 1, (c4 (b))), (w.heap.size, (c4 (a)))]) := s0.out.up hb1
  have b1 : Hid (Below w.heap.size w w1) := b0.out.trans (hb1.mono b0.out.size)
  have z1 := b1.out.size
  clear hb1 s0 b0
  go_wp2_with fail
  refine wp_region_vars3 5 (.cells #[.int .u64 0, .int .u64 0, .int .u64 0, .int .u64 0] 24) (.cells #[.int .u64 0, .int .u64 0, .int .u64 0, .int .u64 0] 24) (.cells #[.int .u64 0, .int .u64 0, .int .u64 0, .int .u64 0] 24) (.cells #[.int .u64 (x).a, .int .u64 (x).b, .int .u64 (x).c, .int .u64 (x).d] 24) (.cells #[.int .u64 (y).a, .int .u64 (y).b, .int .u64 (y).c, .int .u64 (y).d] 24) (.cells #[.int .u64 ((⟨0, 0, 0, 0⟩ : Nm)).a, .int .u64 ((⟨0, 0, 0, 0⟩ : Nm)).b, .int .u64 ((⟨0, 0, 0, 0⟩ : Nm)).c, .int .u64 ((⟨0, 0, 0, 0⟩ : Nm)).d] 24) (by kernel_rfl) (by kernel_rfl) (by kernel_rfl) (by kernel_rfl) rfl rfl rfl rfl rfl rfl (by decide) rfl rfl rfl (fun _ _ => by kernel_rfl) (fun _ _ => by kernel_rfl) (fun _ _ => by kernel_rfl) ?_
  apply Exists.intro
  refine ⟨fun U hU f hf hcl => ?_, fun k j i W hc => ?_, fun k j i W hc => ?_, fun k j i W hc => ?_, fun k2 j2 i2 w2 hb2 hk2 hj2 hi2 hn2 hc2 hd2 he2 => ?_⟩
  · skip
    have ua_0 := fun nx => (Kn.get (s1.out.up (hf nx).out) 1 0 rfl rfl : (f nx).cell? ⟨w.heap.size, 0, none⟩ = some (.int .u64 (a).a))
    have ua_1 := fun nx => (Kn.get (s1.out.up (hf nx).out) 1 1 rfl rfl : (f nx).cell? ⟨w.heap.size, 1, none⟩ = some (.int .u64 (a).b))
    have ua_2 := fun nx => (Kn.get (s1.out.up (hf nx).out) 1 2 rfl rfl : (f nx).cell? ⟨w.heap.size, 2, none⟩ = some (.int .u64 (a).c))
    have ua_3 := fun nx => (Kn.get (s1.out.up (hf nx).out) 1 3 rfl rfl : (f nx).cell? ⟨w.heap.size, 3, none⟩ = some (.int .u64 (a).d))
    have ub_0 := fun nx => (Kn.get (s1.out.up (hf nx).out) 0 0 rfl rfl : (f nx).cell? ⟨w.heap.size + 1, 0, none⟩ = some (.int .u64 (b).a))
    have ub_1 := fun nx => (Kn.get (s1.out.up (hf nx).out) 0 1 rfl rfl : (f nx).cell? ⟨w.heap.size + 1, 1, none⟩ = some (.int .u64 (b).b))
    have ub_2 := fun nx => (Kn.get (s1.out.up (hf nx).out) 0 2 rfl rfl : (f nx).cell? ⟨w.heap.size + 1, 2, none⟩ = some (.int .u64 (b).c))
    have ub_3 := fun nx => (Kn.get (s1.out.up (hf nx).out) 0 3 rfl rfl : (f nx).cell? ⟨w.heap.size + 1, 3, none⟩ = some (.int .u64 (b).d))
    clear hf
    simp only [List.take_succ_cons, List.take_zero]
    repeat (go_big_quiet_step (first | (go_at_call_of 23 [Value.agg #[Value.int IntKind.u64 a.a, Value.int IntKind.u64 a.b, Value.int IntKind.u64 a.c, Value.int IntKind.u64 a.d]]; exact (I1 _).mono fun e w'' ⟨he, hb⟩ => ⟨he, hcl.out _ _ hb⟩) | (go_at_call_of 23 [Value.agg #[Value.int IntKind.u64 b.a, Value.int IntKind.u64 b.b, Value.int IntKind.u64 b.c, Value.int IntKind.u64 b.d]]; exact (I2 _).mono fun e w'' ⟨he, hb⟩ => ⟨he, hcl.out _ _ hb⟩)))
    exact wpQuiet_nil rfl
  · obtain ⟨c0, c1, c2, c3, cz⟩ := cells4 hc.out
    exact ⟨(st4 W k (x)), by simp [execOp, go_sem, c0, c1, c2, c3, cz], by first | exact heap_st4 hc.out _ | exact heap_st8 hc.out _ _, fun hk => by first | exact below_st4 (Below.refl _ _) hk | exact below_st8 (Below.refl _ _) hk, fun b hb => by first | exact heap_st4_ne hb | exact heap_st8_ne hb⟩
  · obtain ⟨c0, c1, c2, c3, cz⟩ := cells4 hc.out
    exact ⟨(st4 W j (y)), by simp [execOp, go_sem, c0, c1, c2, c3, cz], by first | exact heap_st4 hc.out _ | exact heap_st8 hc.out _ _, fun hk => by first | exact below_st4 (Below.refl _ _) hk | exact below_st8 (Below.refl _ _) hk, fun b hb => by first | exact heap_st4_ne hb | exact heap_st8_ne hb⟩
  · obtain ⟨c0, c1, c2, c3, cz⟩ := cells4 hc.out
    exact ⟨(st4 W i ((⟨0, 0, 0, 0⟩ : Nm))), by simp [execOp, go_sem, c0, c1, c2, c3, cz], by first | exact heap_st4 hc.out _ | exact heap_st8 hc.out _ _, fun hk => by first | exact below_st4 (Below.refl _ _) hk | exact below_st8 (Below.refl _ _) hk, fun b hb => by first | exact heap_st4_ne hb | exact heap_st8_ne hb⟩
  simp only [Act.put, List.setIfInBounds_toArray, List.set_cons_succ, List.set_cons_zero]
  have z2 := b1.out.size
  have g2 : w.heap.size ≤ k2 := Nat.le_trans b1.out.size hk2
  have gj2 : w.heap.size ≤ j2 := Nat.le_trans b1.out.size hj2
  have gi2 : w.heap.size ≤ i2 := Nat.le_trans b1.out.size hi2
  have s2 : Hid (Kn w2 [(k2, (c4 (x))), (j2, (c4 (y))), (i2, (c4 ((⟨0, 0, 0, 0⟩ : Nm)))), (w.heap.size + 1, (c4 (b))), (w.heap.size, (c4 (a)))]) := s1.out.three hb2.out hk2 hj2 hi2 hn2.out hc2.out hd2.out he2.out
  have b2 : Hid (Below w.heap.size w w2) := b1.out.trans (hb2.out.mono b1.out.size)
  clear s1 b1 hb2 hc2 hd2 he2 hk2 hj2 hi2
  go_wp2_with fail
  refine wp_region_up (by kernel_rfl) (by kernel_rfl) (fun U hU f hf hcl => ?_)
  have ua_0 := fun nx => (Kn.get (s2.out.up (hf nx).out) 4 0 rfl rfl : (f nx).cell? ⟨w.heap.size, 0, none⟩ = some (.int .u64 (a).a))
  have ua_1 := fun nx => (Kn.get (s2.out.up (hf nx).out) 4 1 rfl rfl : (f nx).cell? ⟨w.heap.size, 1, none⟩ = some (.int .u64 (a).b))
  have ua_2 := fun nx => (Kn.get (s2.out.up (hf nx).out) 4 2 rfl rfl : (f nx).cell? ⟨w.heap.size, 2, none⟩ = some (.int .u64 (a).c))
  have ua_3 := fun nx => (Kn.get (s2.out.up (hf nx).out) 4 3 rfl rfl : (f nx).cell? ⟨w.heap.size, 3, none⟩ = some (.int .u64 (a).d))
  have unone_0 := fun nx => (Kn.get (s2.out.up (hf nx).out) 2 0 rfl rfl : (f nx).cell? ⟨i2, 0, none⟩ = some (.int .u64 ((⟨0, 0, 0, 0⟩ : Nm)).a))
  have unone_1 := fun nx => (Kn.get (s2.out.up (hf nx).out) 2 1 rfl rfl : (f nx).cell? ⟨i2, 1, none⟩ = some (.int .u64 ((⟨0, 0, 0, 0⟩ : Nm)).b))
  have unone_2 := fun nx => (Kn.get (s2.out.up (hf nx).out) 2 2 rfl rfl : (f nx).cell? ⟨i2, 2, none⟩ = some (.int .u64 ((⟨0, 0, 0, 0⟩ : Nm)).c))
  have unone_3 := fun nx => (Kn.get (s2.out.up (hf nx).out) 2 3 rfl rfl : (f nx).cell? ⟨i2, 3, none⟩ = some (.int .u64 ((⟨0, 0, 0, 0⟩ : Nm)).d))
  try simp only [List.append_eq, List.cons_append, List.nil_append]
  repeat (go_big_quiet_step (first | (go_at_call 15; exact (L1 _).mono fun e w'' ⟨he, hb⟩ => ⟨he, hcl.out _ _ hb⟩)))
  refine wpQuiet_nil ?_
  intro nx
  have hb3 := (hf nx).out
  clear hf hcl ua_0 ua_1 ua_2 ua_3 unone_0 unone_1 unone_2 unone_3
  generalize f nx = w3 at hb3 ⊢
  have s3 : Hid (Kn w3 [(k2, (c4 (x))), (j2, (c4 (y))), (i2, (c4 ((⟨0, 0, 0, 0⟩ : Nm)))), (w.heap.size + 1, (c4 (b))), (w.heap.size, (c4 (a)))]) := s2.out.up hb3
  have b3 : Hid (Below w.heap.size w w3) := b2.out.trans (hb3.mono b2.out.size)
  have z3 := b3.out.size
  clear hb3 s2 b2
  go_wp2_with fail
  refine wp_region_up (by kernel_rfl) (by kernel_rfl) (fun U hU f hf hcl => ?_)
  have ua_0 := fun nx => (Kn.get (s3.out.up (hf nx).out) 4 0 rfl rfl : (f nx).cell? ⟨w.heap.size, 0, none⟩ = some (.int .u64 (a).a))
  have ua_1 := fun nx => (Kn.get (s3.out.up (hf nx).out) 4 1 rfl rfl : (f nx).cell? ⟨w.heap.size, 1, none⟩ = some (.int .u64 (a).b))
  have ua_2 := fun nx => (Kn.get (s3.out.up (hf nx).out) 4 2 rfl rfl : (f nx).cell? ⟨w.heap.size, 2, none⟩ = some (.int .u64 (a).c))
  have ua_3 := fun nx => (Kn.get (s3.out.up (hf nx).out) 4 3 rfl rfl : (f nx).cell? ⟨w.heap.size, 3, none⟩ = some (.int .u64 (a).d))
  have ub_0 := fun nx => (Kn.get (s3.out.up (hf nx).out) 3 0 rfl rfl : (f nx).cell? ⟨w.heap.size + 1, 0, none⟩ = some (.int .u64 (b).a))
  have ub_1 := fun nx => (Kn.get (s3.out.up (hf nx).out) 3 1 rfl rfl : (f nx).cell? ⟨w.heap.size + 1, 1, none⟩ = some (.int .u64 (b).b))
  have ub_2 := fun nx => (Kn.get (s3.out.up (hf nx).out) 3 2 rfl rfl : (f nx).cell? ⟨w.heap.size + 1, 2, none⟩ = some (.int .u64 (b).c))
  have ub_3 := fun nx => (Kn.get (s3.out.up (hf nx).out) 3 3 rfl rfl : (f nx).cell? ⟨w.heap.size + 1, 3, none⟩ = some (.int .u64 (b).d))
  have ux_0 := fun nx => (Kn.get (s3.out.up (hf nx).out) 0 0 rfl rfl : (f nx).cell? ⟨k2, 0, none⟩ = some (.int .u64 (x).a))
  have ux_1 := fun nx => (Kn.get (s3.out.up (hf nx).out) 0 1 rfl rfl : (f nx).cell? ⟨k2, 1, none⟩ = some (.int .u64 (x).b))
  have ux_2 := fun nx => (Kn.get (s3.out.up (hf nx).out) 0 2 rfl rfl : (f nx).cell? ⟨k2, 2, none⟩ = some (.int .u64 (x).c))
  have ux_3 := fun nx => (Kn.get (s3.out.up (hf nx).out) 0 3 rfl rfl : (f nx).cell? ⟨k2, 3, none⟩ = some (.int .u64 (x).d))
  have uy_0 := fun nx => (Kn.get (s3.out.up (hf nx).out) 1 0 rfl rfl : (f nx).cell? ⟨j2, 0, none⟩ = some (.int .u64 (y).a))
  have uy_1 := fun nx => (Kn.get (s3.out.up (hf nx).out) 1 1 rfl rfl : (f nx).cell? ⟨j2, 1, none⟩ = some (.int .u64 (y).b))
  have uy_2 := fun nx => (Kn.get (s3.out.up (hf nx).out) 1 2 rfl rfl : (f nx).cell? ⟨j2, 2, none⟩ = some (.int .u64 (y).c))
  have uy_3 := fun nx => (Kn.get (s3.out.up (hf nx).out) 1 3 rfl rfl : (f nx).cell? ⟨j2, 3, none⟩ = some (.int .u64 (y).d))
  try simp only [List.append_eq, List.cons_append, List.nil_append]
  repeat (go_big_quiet_step (first | (go_at_call_of 21 [Value.agg #[Value.int IntKind.u64 a.a, Value.int IntKind.u64 a.b, Value.int IntKind.u64 a.c, Value.int IntKind.u64 a.d], Value.agg #[Value.int IntKind.u64 x.a, Value.int IntKind.u64 x.b, Value.int IntKind.u64 x.c, Value.int IntKind.u64 x.d]]; exact (M1 _).mono fun e w'' ⟨he, hb⟩ => ⟨he, hcl.out _ _ hb⟩) | (go_at_call_of 23 [Value.agg #[Value.int IntKind.u64 x.a, Value.int IntKind.u64 x.b, Value.int IntKind.u64 x.c, Value.int IntKind.u64 x.d]]; exact (I3 _).mono fun e w'' ⟨he, hb⟩ => ⟨he, hcl.out _ _ hb⟩) | (go_at_call 15; exact (L1 _).mono fun e w'' ⟨he, hb⟩ => ⟨he, hcl.out _ _ hb⟩) | (go_at_call_of 21 [Value.agg #[Value.int IntKind.u64 a.a, Value.int IntKind.u64 a.b, Value.int IntKind.u64 a.c, Value.int IntKind.u64 a.d], Value.agg #[Value.int IntKind.u64 b.a, Value.int IntKind.u64 b.b, Value.int IntKind.u64 b.c, Value.int IntKind.u64 b.d]]; exact (M2 _).mono fun e w'' ⟨he, hb⟩ => ⟨he, hcl.out _ _ hb⟩) | (go_at_call_of 23 [N m]; exact (I4 _).mono fun e w'' ⟨he, hb⟩ => ⟨he, hcl.out _ _ hb⟩) | (go_at_call_of 21 [Value.agg #[Value.int IntKind.u64 x.a, Value.int IntKind.u64 x.b, Value.int IntKind.u64 x.c, Value.int IntKind.u64 x.d], Value.agg #[Value.int IntKind.u64 y.a, Value.int IntKind.u64 y.b, Value.int IntKind.u64 y.c, Value.int IntKind.u64 y.d]]; exact (M3 _).mono fun e w'' ⟨he, hb⟩ => ⟨he, hcl.out _ _ hb⟩)))
  refine wpQuiet_nil ?_
  intro nx
  have hb4 := (hf nx).out
  clear hf hcl ua_0 ua_1 ua_2 ua_3 ub_0 ub_1 ub_2 ub_3 ux_0 ux_1 ux_2 ux_3 uy_0 uy_1 uy_2 uy_3
  generalize f nx = w4 at hb4 ⊢
  have s4 : Hid (Kn w4 [(k2, (c4 (x))), (j2, (c4 (y))), (i2, (c4 ((⟨0, 0, 0, 0⟩ : Nm)))), (w.heap.size + 1, (c4 (b))), (w.heap.size, (c4 (a)))]) := s3.out.up hb4
  have b4 : Hid (Below w.heap.size w w4) := b3.out.trans (hb4.mono b3.out.size)
  have z4 := b4.out.size
  clear hb4 s3 b3
  go_wp2_with fail
  go_ret
  exact ⟨rfl, b4.out⟩
theorem fieldInverse_of (FA : FAddC) (FM : FMulC) (FL : FLowC) (FI : FInvC) (a b : Nm) (oa : a.ok) (ob : b.ok) (w : World) :
    Calls Try.prog 5 #[N a, N b] w fun e w' => e = .returned (.bool true) ∧ Below w.heap.size w w' := by
  have I1 := FI a oa
  have I2 := FI b ob
  have L1 := FL a oa
  by_cases h : a.nat % F.p = 0
  · have e1 := eqN ⟨0, 0, 0, 0⟩ ⟨0, 0, 0, 0⟩
    rw [Nm.beq_self] at e1
    rw [h] at L1
    exact fieldInv_zero a b _ _ e1 (by rw [F.inv_zero h]; rfl) (fields_fun FA) I1 I2 L1 w
  · have e0 := eqN (nm (a.nat % F.p)) ⟨0, 0, 0, 0⟩
    rw [Nm.beq_ne fun e => h ((f_zero (F.mod_lt _)).1 e)] at e0
    have e1 := eqN ⟨1, 0, 0, 0⟩ ⟨1, 0, 0, 0⟩
    have e2 := eqN (nm (a.nat % F.p)) (nm (a.nat % F.p))
    have e3 := eqN (nm (F.mul (F.inv a.nat) (F.inv b.nat))) (nm (F.mul (F.inv a.nat) (F.inv b.nat)))
    rw [Nm.beq_self] at e1 e2 e3
    have M1 := FM a (nm (F.inv a.nat)) oa (nm_ok _)
    rw [f_nat (F.inv_lt _), F.mul_inv h] at M1
    have I3 := FI (nm (F.inv a.nat)) (nm_ok _)
    rw [f_nat (F.inv_lt _), F.inv_inv h] at I3
    have M2 := FM a b oa ob
    have I4 := FI (nm (F.mul a.nat b.nat)) (nm_ok _)
    rw [f_nat (F.mul_lt _ _), F.inv_mul] at I4
    have M3 := FM (nm (F.inv a.nat)) (nm (F.inv b.nat)) (nm_ok _) (nm_ok _)
    rw [f_nat (F.inv_lt _), f_nat (F.inv_lt _)] at M3
    exact fieldInv_good a b _ _ _ _ _ e0 e1 e2 e3 (fields_fun FA) I1 I2 L1 M1 I3 M2 I4 M3 w
end Go.Proofs.Ytmajielbbajdhaa
