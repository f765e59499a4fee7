/- FieldZero, out of what package field must keep. -/
import Derived.Test.YtmajielbbajdhaaFldC
import Derived.Test.YtmajielbbajdhaaAl
import Derived.Test.YtmajielbbajdhaaUpA
namespace Go.Proofs.Ytmajielbbajdhaa
open Go.RowKit
attribute [local go_sem] World.cell?_alloc_some cell_alloc2 cell_alloc3 cell_alloc4 frozen?_alloc_cells frozen_out
set_option linter.unusedSimpArgs false
set_option maxHeartbeats 1000000 in
theorem fieldZero_1 (a b m la : Nm) (e1 : ∀ w, (binOp .eql 24 (N m) (N ⟨0, 0, 0, 0⟩)).run Try.prog w = .ok (.bool true) w) (e2 : ∀ w, (binOp .eql 24 (N la) (N ⟨0, 0, 0, 0⟩)).run Try.prog w = .ok (.bool true) w)
    (FA : ∀ w, Calls Try.prog 26 #[] w fun e w' => e = .returned (.bool true) ∧ Below w.heap.size w w')
    (M1 : ∀ w, Calls Try.prog 21 #[N a, N b] w fun e w' => e = .returned (N m) ∧ Below w.heap.size w w')
    (L1 : ∀ w, Calls Try.prog 15 #[N a] w fun e w' => e = .returned (N la) ∧ Below w.heap.size w w')
    (w : World) :
    Calls Try.prog 6 #[N a, N b] w fun e w' => e = .returned (.bool true) ∧ Below w.heap.size w w' := by
  go_enter Try.func6, Try.ntmps6
  have s0 : Hid (Kn (kal4 (kal4 w (a)) (b)) [(w.heap.size + 1, (c4 (b))), (w.heap.size, (c4 (a)))]) := (((Kn.nil w).al (c4 (a)) 24 rfl).al (c4 (b)) 24 (by simp))
  have b0 : Hid (Below w.heap.size w (kal4 (kal4 w (a)) (b))) := (((Below.refl _ _).alloc (Nat.le_refl _) _).alloc (by simp <;> omega) _)
  go_wp2_with fail
  refine (FA _).mono ?_
  rintro e w1 ⟨rfl, hb1⟩
  have s1 : Hid (Kn w1 [(w.heap.size + 1, (c4 (b))), (w.heap.size, (c4 (a)))]) := s0.out.up hb1
  have b1 : Hid (Below w.heap.size w w1) := b0.out.trans (hb1.mono b0.out.size)
  have z1 := b1.out.size
  clear hb1 s0 b0
  go_wp2_with fail
  have s2 : Hid (Kn (kal4 w1 ((⟨0, 0, 0, 0⟩ : Nm))) [(w1.heap.size, (c4 ((⟨0, 0, 0, 0⟩ : Nm)))), (w.heap.size + 1, (c4 (b))), (w.heap.size, (c4 (a)))]) := s1.out.al (c4 ((⟨0, 0, 0, 0⟩ : Nm))) 24 rfl
  have b2 : Hid (Below w.heap.size w (kal4 w1 ((⟨0, 0, 0, 0⟩ : Nm)))) := b1.out.alloc b1.out.size _
  have z2 := b1.out.size
  clear s1 b1
  go_wp2_with fail
  refine wp_region_up (by kernel_rfl) (by kernel_rfl) (fun U hU f hf hcl => ?_)
  have ua_0 := fun nx => (Kn.get (s2.out.up (hf nx).out) 2 0 rfl rfl : (f nx).cell? ⟨w.heap.size, 0, none⟩ = some (.int .u64 (a).a))
  have ua_1 := fun nx => (Kn.get (s2.out.up (hf nx).out) 2 1 rfl rfl : (f nx).cell? ⟨w.heap.size, 1, none⟩ = some (.int .u64 (a).b))
  have ua_2 := fun nx => (Kn.get (s2.out.up (hf nx).out) 2 2 rfl rfl : (f nx).cell? ⟨w.heap.size, 2, none⟩ = some (.int .u64 (a).c))
  have ua_3 := fun nx => (Kn.get (s2.out.up (hf nx).out) 2 3 rfl rfl : (f nx).cell? ⟨w.heap.size, 3, none⟩ = some (.int .u64 (a).d))
  have ub_0 := fun nx => (Kn.get (s2.out.up (hf nx).out) 1 0 rfl rfl : (f nx).cell? ⟨w.heap.size + 1, 0, none⟩ = some (.int .u64 (b).a))
  have ub_1 := fun nx => (Kn.get (s2.out.up (hf nx).out) 1 1 rfl rfl : (f nx).cell? ⟨w.heap.size + 1, 1, none⟩ = some (.int .u64 (b).b))
  have ub_2 := fun nx => (Kn.get (s2.out.up (hf nx).out) 1 2 rfl rfl : (f nx).cell? ⟨w.heap.size + 1, 2, none⟩ = some (.int .u64 (b).c))
  have ub_3 := fun nx => (Kn.get (s2.out.up (hf nx).out) 1 3 rfl rfl : (f nx).cell? ⟨w.heap.size + 1, 3, none⟩ = some (.int .u64 (b).d))
  have unone_0 := fun nx => (Kn.get (s2.out.up (hf nx).out) 0 0 rfl rfl : (f nx).cell? ⟨w1.heap.size, 0, none⟩ = some (.int .u64 ((⟨0, 0, 0, 0⟩ : Nm)).a))
  have unone_1 := fun nx => (Kn.get (s2.out.up (hf nx).out) 0 1 rfl rfl : (f nx).cell? ⟨w1.heap.size, 1, none⟩ = some (.int .u64 ((⟨0, 0, 0, 0⟩ : Nm)).b))
  have unone_2 := fun nx => (Kn.get (s2.out.up (hf nx).out) 0 2 rfl rfl : (f nx).cell? ⟨w1.heap.size, 2, none⟩ = some (.int .u64 ((⟨0, 0, 0, 0⟩ : Nm)).c))
  have unone_3 := fun nx => (Kn.get (s2.out.up (hf nx).out) 0 3 rfl rfl : (f nx).cell? ⟨w1.heap.size, 3, none⟩ = some (.int .u64 ((⟨0, 0, 0, 0⟩ : Nm)).d))
  try simp only [List.append_eq, List.cons_append, List.nil_append]
  repeat (go_big_quiet_step (first | (go_at_call 21; exact (M1 _).mono fun e w'' ⟨he, hb⟩ => ⟨he, hcl.out _ _ hb⟩) | (go_at_call 15; exact (L1 _).mono fun e w'' ⟨he, hb⟩ => ⟨he, hcl.out _ _ hb⟩)))
  refine wpQuiet_nil ?_
  intro nx
  have hb3 := (hf nx).out
  clear hf hcl ua_0 ua_1 ua_2 ua_3 ub_0 ub_1 ub_2 ub_3 unone_0 unone_1 unone_2 unone_3
  generalize f nx = w3 at hb3 ⊢
  have s3 : Hid (Kn w3 [(w1.heap.size, (c4 ((⟨0, 0, 0, 0⟩ : Nm)))), (w.heap.size + 1, (c4 (b))), (w.heap.size, (c4 (a)))]) := s2.out.up hb3
  have b3 : Hid (Below w.heap.size w w3) := b2.out.trans (hb3.mono b2.out.size)
  have z3 := b3.out.size
  clear hb3 s2 b2
  go_wp2_with fail
  go_ret
  exact ⟨rfl, b3.out⟩
set_option maxHeartbeats 1000000 in
theorem fieldZero_3 (a b m la lb : Nm) (e1 : ∀ w, (binOp .eql 24 (N m) (N ⟨0, 0, 0, 0⟩)).run Try.prog w = .ok (.bool true) w) (e2 : ∀ w, (binOp .eql 24 (N la) (N ⟨0, 0, 0, 0⟩)).run Try.prog w = .ok (.bool false) w) (e3 : ∀ w, (binOp .eql 24 (N lb) (N ⟨0, 0, 0, 0⟩)).run Try.prog w = .ok (.bool true) w)
    (FA : ∀ w, Calls Try.prog 26 #[] w fun e w' => e = .returned (.bool true) ∧ Below w.heap.size w w')
    (M1 : ∀ w, Calls Try.prog 21 #[N a, N b] w fun e w' => e = .returned (N m) ∧ Below w.heap.size w w')
    (L1 : ∀ w, Calls Try.prog 15 #[N a] w fun e w' => e = .returned (N la) ∧ Below w.heap.size w w')
    (L2 : ∀ w, Calls Try.prog 15 #[N b] w fun e w' => e = .returned (N lb) ∧ Below w.heap.size w w')
    (w : World) :
    Calls Try.prog 6 #[N a, N b] w fun e w' => e = .returned (.bool true) ∧ Below w.heap.size w w' := by
  go_enter Try.func6, Try.ntmps6
  have s0 : Hid (Kn (kal4 (kal4 w (a)) (b)) [(w.heap.size + 1, (c4 (b))), (w.heap.size, (c4 (a)))]) := (((Kn.nil w).al (c4 (a)) 24 rfl).al (c4 (b)) 24 (by simp))
  have b0 : Hid (Below w.heap.size w (kal4 (kal4 w (a)) (b))) := (((Below.refl _ _).alloc (Nat.le_refl _) _).alloc (by simp <;> omega) _)
  go_wp2_with fail
  refine (FA _).mono ?_
  rintro e w1 ⟨rfl, hb1⟩
  have s1 : Hid (Kn w1 [(w.heap.size + 1, (c4 (b))), (w.heap.size, (c4 (a)))]) := s0.out.up hb1
  have b1 : Hid (Below w.heap.size w w1) := b0.out.trans (hb1.mono b0.out.size)
  have z1 := b1.out.size
  clear hb1 s0 b0
  go_wp2_with fail
  have s2 : Hid (Kn (kal4 w1 ((⟨0, 0, 0, 0⟩ : Nm))) [(w1.heap.size, (c4 ((⟨0, 0, 0, 0⟩ : Nm)))), (w.heap.size + 1, (c4 (b))), (w.heap.size, (c4 (a)))]) := s1.out.al (c4 ((⟨0, 0, 0, 0⟩ : Nm))) 24 rfl
  have b2 : Hid (Below w.heap.size w (kal4 w1 ((⟨0, 0, 0, 0⟩ : Nm)))) := b1.out.alloc b1.out.size _
  have z2 := b1.out.size
  clear s1 b1
  go_wp2_with fail
  refine wp_region_up (by kernel_rfl) (by kernel_rfl) (fun U hU f hf hcl => ?_)
  have ua_0 := fun nx => (Kn.get (s2.out.up (hf nx).out) 2 0 rfl rfl : (f nx).cell? ⟨w.heap.size, 0, none⟩ = some (.int .u64 (a).a))
  have ua_1 := fun nx => (Kn.get (s2.out.up (hf nx).out) 2 1 rfl rfl : (f nx).cell? ⟨w.heap.size, 1, none⟩ = some (.int .u64 (a).b))
  have ua_2 := fun nx => (Kn.get (s2.out.up (hf nx).out) 2 2 rfl rfl : (f nx).cell? ⟨w.heap.size, 2, none⟩ = some (.int .u64 (a).c))
  have ua_3 := fun nx => (Kn.get (s2.out.up (hf nx).out) 2 3 rfl rfl : (f nx).cell? ⟨w.heap.size, 3, none⟩ = some (.int .u64 (a).d))
  have ub_0 := fun nx => (Kn.get (s2.out.up (hf nx).out) 1 0 rfl rfl : (f nx).cell? ⟨w.heap.size + 1, 0, none⟩ = some (.int .u64 (b).a))
  have ub_1 := fun nx => (Kn.get (s2.out.up (hf nx).out) 1 1 rfl rfl : (f nx).cell? ⟨w.heap.size + 1, 1, none⟩ = some (.int .u64 (b).b))
  have ub_2 := fun nx => (Kn.get (s2.out.up (hf nx).out) 1 2 rfl rfl : (f nx).cell? ⟨w.heap.size + 1, 2, none⟩ = some (.int .u64 (b).c))
  have ub_3 := fun nx => (Kn.get (s2.out.up (hf nx).out) 1 3 rfl rfl : (f nx).cell? ⟨w.heap.size + 1, 3, none⟩ = some (.int .u64 (b).d))
  have unone_0 := fun nx => (Kn.get (s2.out.up (hf nx).out) 0 0 rfl rfl : (f nx).cell? ⟨w1.heap.size, 0, none⟩ = some (.int .u64 ((⟨0, 0, 0, 0⟩ : Nm)).a))
  have unone_1 := fun nx => (Kn.get (s2.out.up (hf nx).out) 0 1 rfl rfl : (f nx).cell? ⟨w1.heap.size, 1, none⟩ = some (.int .u64 ((⟨0, 0, 0, 0⟩ : Nm)).b))
  have unone_2 := fun nx => (Kn.get (s2.out.up (hf nx).out) 0 2 rfl rfl : (f nx).cell? ⟨w1.heap.size, 2, none⟩ = some (.int .u64 ((⟨0, 0, 0, 0⟩ : Nm)).c))
  have unone_3 := fun nx => (Kn.get (s2.out.up (hf nx).out) 0 3 rfl rfl : (f nx).cell? ⟨w1.heap.size, 3, none⟩ = some (.int .u64 ((⟨0, 0, 0, 0⟩ : Nm)).d))
  try simp only [List.append_eq, List.cons_append, List.nil_append]
  repeat (go_big_quiet_step (first | (go_at_call 21; exact (M1 _).mono fun e w'' ⟨he, hb⟩ => ⟨he, hcl.out _ _ hb⟩) | (go_at_call_of 15 [Value.agg #[Value.int IntKind.u64 a.a, Value.int IntKind.u64 a.b, Value.int IntKind.u64 a.c, Value.int IntKind.u64 a.d]]; exact (L1 _).mono fun e w'' ⟨he, hb⟩ => ⟨he, hcl.out _ _ hb⟩) | (go_at_call_of 15 [Value.agg #[Value.int IntKind.u64 b.a, Value.int IntKind.u64 b.b, Value.int IntKind.u64 b.c, Value.int IntKind.u64 b.d]]; exact (L2 _).mono fun e w'' ⟨he, hb⟩ => ⟨he, hcl.out _ _ hb⟩)))
  refine wpQuiet_nil ?_
  intro nx
  have hb3 := (hf nx).out
  clear hf hcl ua_0 ua_1 ua_2 ua_3 ub_0 ub_1 ub_2 ub_3 unone_0 unone_1 unone_2 unone_3
  generalize f nx = w3 at hb3 ⊢
  have s3 : Hid (Kn w3 [(w1.heap.size, (c4 ((⟨0, 0, 0, 0⟩ : Nm)))), (w.heap.size + 1, (c4 (b))), (w.heap.size, (c4 (a)))]) := s2.out.up hb3
  have b3 : Hid (Below w.heap.size w w3) := b2.out.trans (hb3.mono b2.out.size)
  have z3 := b3.out.size
  clear hb3 s2 b2
  go_wp2_with fail
  go_ret
  exact ⟨rfl, b3.out⟩
set_option maxHeartbeats 1000000 in
theorem fieldZero_4 (a b m la lb : Nm) (e1 : ∀ w, (binOp .eql 24 (N m) (N ⟨0, 0, 0, 0⟩)).run Try.prog w = .ok (.bool false) w) (e2 : ∀ w, (binOp .eql 24 (N la) (N ⟨0, 0, 0, 0⟩)).run Try.prog w = .ok (.bool false) w) (e3 : ∀ w, (binOp .eql 24 (N lb) (N ⟨0, 0, 0, 0⟩)).run Try.prog w = .ok (.bool false) w)
    (FA : ∀ w, Calls Try.prog 26 #[] w fun e w' => e = .returned (.bool true) ∧ Below w.heap.size w w')
    (M1 : ∀ w, Calls Try.prog 21 #[N a, N b] w fun e w' => e = .returned (N m) ∧ Below w.heap.size w w')
    (L1 : ∀ w, Calls Try.prog 15 #[N a] w fun e w' => e = .returned (N la) ∧ Below w.heap.size w w')
    (L2 : ∀ w, Calls Try.prog 15 #[N b] w fun e w' => e = .returned (N lb) ∧ Below w.heap.size w w')
    (w : World) :
    Calls Try.prog 6 #[N a, N b] w fun e w' => e = .returned (.bool true) ∧ Below w.heap.size w w' := by
  go_enter Try.func6, Try.ntmps6
  have s0 : Hid (Kn (kal4 (kal4 w (a)) (b)) [(w.heap.size + 1, (c4 (b))), (w.heap.size, (c4 (a)))]) := (((Kn.nil w).al (c4 (a)) 24 rfl).al (c4 (b)) 24 (by simp))
  have b0 : Hid (Below w.heap.size w (kal4 (kal4 w (a)) (b))) := (((Below.refl _ _).alloc (Nat.le_refl _) _).alloc (by simp <;> omega) _)
  go_wp2_with fail
  refine (FA _).mono ?_
  rintro e w1 ⟨rfl, hb1⟩
  have s1 : Hid (Kn w1 [(w.heap.size + 1, (c4 (b))), (w.heap.size, (c4 (a)))]) := s0.out.up hb1
  have b1 : Hid (Below w.heap.size w w1) := b0.out.trans (hb1.mono b0.out.size)
  have z1 := b1.out.size
  clear hb1 s0 b0
  go_wp2_with fail
  have s2 : Hid (Kn (kal4 w1 ((⟨0, 0, 0, 0⟩ : Nm))) [(w1.heap.size, (c4 ((⟨0, 0, 0, 0⟩ : Nm)))), (w.heap.size + 1, (c4 (b))), (w.heap.size, (c4 (a)))]) := s1.out.al (c4 ((⟨0, 0, 0, 0⟩ : Nm))) 24 rfl
  have b2 : Hid (Below w.heap.size w (kal4 w1 ((⟨0, 0, 0, 0⟩ : Nm)))) := b1.out.alloc b1.out.size _
  have z2 := b1.out.size
  clear s1 b1
  go_wp2_with fail
  refine wp_region_up (by kernel_rfl) (by kernel_rfl) (fun U hU f hf hcl => ?_)
  have ua_0 := fun nx => (Kn.get (s2.out.up (hf nx).out) 2 0 rfl rfl : (f nx).cell? ⟨w.heap.size, 0, none⟩ = some (.int .u64 (a).a))
  have ua_1 := fun nx => (Kn.get (s2.out.up (hf nx).out) 2 1 rfl rfl : (f nx).cell? ⟨w.heap.size, 1, none⟩ = some (.int .u64 (a).b))
  have ua_2 := fun nx => (Kn.get (s2.out.up (hf nx).out) 2 2 rfl rfl : (f nx).cell? ⟨w.heap.size, 2, none⟩ = some (.int .u64 (a).c))
  have ua_3 := fun nx => (Kn.get (s2.out.up (hf nx).out) 2 3 rfl rfl : (f nx).cell? ⟨w.heap.size, 3, none⟩ = some (.int .u64 (a).d))
  have ub_0 := fun nx => (Kn.get (s2.out.up (hf nx).out) 1 0 rfl rfl : (f nx).cell? ⟨w.heap.size + 1, 0, none⟩ = some (.int .u64 (b).a))
  have ub_1 := fun nx => (Kn.get (s2.out.up (hf nx).out) 1 1 rfl rfl : (f nx).cell? ⟨w.heap.size + 1, 1, none⟩ = some (.int .u64 (b).b))
  have ub_2 := fun nx => (Kn.get (s2.out.up (hf nx).out) 1 2 rfl rfl : (f nx).cell? ⟨w.heap.size + 1, 2, none⟩ = some (.int .u64 (b).c))
  have ub_3 := fun nx => (Kn.get (s2.out.up (hf nx).out) 1 3 rfl rfl : (f nx).cell? ⟨w.heap.size + 1, 3, none⟩ = some (.int .u64 (b).d))
  have unone_0 := fun nx => (Kn.get (s2.out.up (hf nx).out) 0 0 rfl rfl : (f nx).cell? ⟨w1.heap.size, 0, none⟩ = some (.int .u64 ((⟨0, 0, 0, 0⟩ : Nm)).a))
  have unone_1 := fun nx => (Kn.get (s2.out.up (hf nx).out) 0 1 rfl rfl : (f nx).cell? ⟨w1.heap.size, 1, none⟩ = some (.int .u64 ((⟨0, 0, 0, 0⟩ : Nm)).b))
  have unone_2 := fun nx => (Kn.get (s2.out.up (hf nx).out) 0 2 rfl rfl : (f nx).cell? ⟨w1.heap.size, 2, none⟩ = some (.int .u64 ((⟨0, 0, 0, 0⟩ : Nm)).c))
  have unone_3 := fun nx => (Kn.get (s2.out.up (hf nx).out) 0 3 rfl rfl : (f nx).cell? ⟨w1.heap.size, 3, none⟩ = some (.int .u64 ((⟨0, 0, 0, 0⟩ : Nm)).d))
  try simp only [List.append_eq, List.cons_append, List.nil_append]
  repeat (go_big_quiet_step (first | (go_at_call 21; exact (M1 _).mono fun e w'' ⟨he, hb⟩ => ⟨he, hcl.out _ _ hb⟩) | (go_at_call_of 15 [Value.agg #[Value.int IntKind.u64 a.a, Value.int IntKind.u64 a.b, Value.int IntKind.u64 a.c, Value.int IntKind.u64 a.d]]; exact (L1 _).mono fun e w'' ⟨he, hb⟩ => ⟨he, hcl.out _ _ hb⟩) | (go_at_call_of 15 [Value.agg #[Value.int IntKind.u64 b.a, Value.int IntKind.u64 b.b, Value.int IntKind.u64 b.c, Value.int IntKind.u64 b.d]]; exact (L2 _).mono fun e w'' ⟨he, hb⟩ => ⟨he, hcl.out _ _ hb⟩)))
  refine wpQuiet_nil ?_
  intro nx
  have hb3 := (hf nx).out
  clear hf hcl ua_0 ua_1 ua_2 ua_3 ub_0 ub_1 ub_2 ub_3 unone_0 unone_1 unone_2 unone_3
  generalize f nx = w3 at hb3 ⊢
  have s3 : Hid (Kn w3 [(w1.heap.size, (c4 ((⟨0, 0, 0, 0⟩ : Nm)))), (w.heap.size + 1, (c4 (b))), (w.heap.size, (c4 (a)))]) := s2.out.up hb3
  have b3 : Hid (Below w.heap.size w w3) := b2.out.trans (hb3.mono b2.out.size)
  have z3 := b3.out.size
  clear hb3 s2 b2
  go_wp2_with fail
  go_ret
  exact ⟨rfl, b3.out⟩
theorem fieldZero_of (FA : FAddC) (FM : FMulC) (FL : FLowC) (a b : Nm) (oa : a.ok) (ob : b.ok) (w : World) :
    Calls Try.prog 6 #[N a, N b] w fun e w' => e = .returned (.bool true) ∧ Below w.heap.size w w' := by
  have q : ∀ n, n < F.p → ∀ w, (binOp .eql 24 (N (nm n)) (N ⟨0, 0, 0, 0⟩)).run Try.prog w = .ok (.bool (decide (n = 0))) w := fun n hn w => by
    rw [eqN]
    by_cases h : n = 0
    · rw [decide_eq_true h, Nm.beq_iff.2 ((f_zero hn).2 h)]
    · rw [decide_eq_false h, Nm.beq_ne fun e => h ((f_zero hn).1 e)]
  have h1 := F.mul_zero_iff a.nat b.nat
  have e1 := q _ (F.mul_lt a.nat b.nat)
  have e2 := q _ (F.mod_lt a.nat)
  have e3 := q _ (F.mod_lt b.nat)
  have M1 := FM a b oa ob
  have L1 := FL a oa
  have L2 := FL b ob
  by_cases ha : a.nat % F.p = 0
  · rw [decide_eq_true (h1.2 (.inl ha))] at e1
    rw [decide_eq_true ha] at e2
    exact fieldZero_1 a b _ _ e1 e2 (fields_fun FA) M1 L1 w
  · rw [decide_eq_false ha] at e2
    by_cases hb : b.nat % F.p = 0
    · rw [decide_eq_true (h1.2 (.inr hb))] at e1
      rw [decide_eq_true hb] at e3
      exact fieldZero_3 a b _ _ _ e1 e2 e3 (fields_fun FA) M1 L1 L2 w
    · rw [decide_eq_false fun h => (h1.1 h).elim ha hb] at e1
      rw [decide_eq_false hb] at e3
      exact fieldZero_4 a b _ _ _ e1 e2 e3 (fields_fun FA) M1 L1 L2 w
end Go.Proofs.Ytmajielbbajdhaa
