/- FieldEuler, out of what package field must keep. -/
import Derived.Test.YtmajielbbajdhaaFldC
import Derived.Test.YtmajielbbajdhaaAl
import Derived.Test.YtmajielbbajdhaaUpA
namespace Go.Proofs.Ytmajielbbajdhaa
open Go.RowKit
attribute [local go_sem] World.cell?_alloc_some cell_alloc2 cell_alloc3 cell_alloc4 frozen?_alloc_cells frozen_out
set_option linter.unusedSimpArgs false
set_option maxHeartbeats 2000000 in
theorem fieldEuler_1 (a b m r : Nm) (e1 : ∀ w, (binOp .eql 24 (N ⟨0, 0, 0, 0⟩) (N ⟨0, 0, 0, 0⟩)).run Try.prog w = .ok (.bool true) w)
    (L1 : ∀ w, Calls Try.prog 15 #[N a] w fun e w' => e = .returned (N ⟨0, 0, 0, 0⟩) ∧ Below w.heap.size w w')
    (M1 : ∀ w, Calls Try.prog 21 #[N a, N b] w fun e w' => e = .returned (N m) ∧ Below w.heap.size w w')
    (S1 : ∀ w, Calls Try.prog 10 #[N m] w fun e w' => e = .returned (.tuple #[N r, .bool true]) ∧ Below w.heap.size w w')
    (w : World) :
    Calls Try.prog 8 #[N a, N b] w fun e w' => e = .returned (.bool true) ∧ Below w.heap.size w w' := by
  go_enter Try.func8, Try.ntmps8
  have s0 : Hid (Kn (kal4 (kal4 w (a)) (b)) [(w.heap.size + 1, (c4 (b))), (w.heap.size, (c4 (a)))]) := (((Kn.nil w).al (c4 (a)) 24 rfl).al (c4 (b)) 24 (by simp))
  have b0 : Hid (Below w.heap.size w (kal4 (kal4 w (a)) (b))) := (((Below.refl _ _).alloc (Nat.le_refl _) _).alloc (by simp <;> omega) _)
  go_wp2_with fail
  have s1 : Hid (Kn (kal4 (kal4 (kal4 w (a)) (b)) ((⟨0, 0, 0, 0⟩ : Nm))) [(w.heap.size + 1 + 1, (c4 ((⟨0, 0, 0, 0⟩ : Nm)))), (w.heap.size + 1, (c4 (b))), (w.heap.size, (c4 (a)))]) := s0.out.al (c4 ((⟨0, 0, 0, 0⟩ : Nm))) 24 (by simp)
  have b1 : Hid (Below w.heap.size w (kal4 (kal4 (kal4 w (a)) (b)) ((⟨0, 0, 0, 0⟩ : Nm)))) := b0.out.alloc b0.out.size _
  have z1 := b0.out.size
  clear s0 b0
  go_wp2_with fail
  refine wp_region_up (by kernel_rfl) (by kernel_rfl) (fun U hU f hf hcl => ?_)
  have ua_0 := fun nx => (Kn.get (s1.out.up (hf nx).out) 2 0 rfl rfl : (f nx).cell? ⟨w.heap.size, 0, none⟩ = some (.int .u64 (a).a))
  have ua_1 := fun nx => (Kn.get (s1.out.up (hf nx).out) 2 1 rfl rfl : (f nx).cell? ⟨w.heap.size, 1, none⟩ = some (.int .u64 (a).b))
  have ua_2 := fun nx => (Kn.get (s1.out.up (hf nx).out) 2 2 rfl rfl : (f nx).cell? ⟨w.heap.size, 2, none⟩ = some (.int .u64 (a).c))
  have ua_3 := fun nx => (Kn.get (s1.out.up (hf nx).out) 2 3 rfl rfl : (f nx).cell? ⟨w.heap.size, 3, none⟩ = some (.int .u64 (a).d))
  have ub_0 := fun nx => (Kn.get (s1.out.up (hf nx).out) 1 0 rfl rfl : (f nx).cell? ⟨w.heap.size + 1, 0, none⟩ = some (.int .u64 (b).a))
  have ub_1 := fun nx => (Kn.get (s1.out.up (hf nx).out) 1 1 rfl rfl : (f nx).cell? ⟨w.heap.size + 1, 1, none⟩ = some (.int .u64 (b).b))
  have ub_2 := fun nx => (Kn.get (s1.out.up (hf nx).out) 1 2 rfl rfl : (f nx).cell? ⟨w.heap.size + 1, 2, none⟩ = some (.int .u64 (b).c))
  have ub_3 := fun nx => (Kn.get (s1.out.up (hf nx).out) 1 3 rfl rfl : (f nx).cell? ⟨w.heap.size + 1, 3, none⟩ = some (.int .u64 (b).d))
  have unone_0 := fun nx => (Kn.get (s1.out.up (hf nx).out) 0 0 rfl rfl : (f nx).cell? ⟨w.heap.size + 1 + 1, 0, none⟩ = some (.int .u64 ((⟨0, 0, 0, 0⟩ : Nm)).a))
  have unone_1 := fun nx => (Kn.get (s1.out.up (hf nx).out) 0 1 rfl rfl : (f nx).cell? ⟨w.heap.size + 1 + 1, 1, none⟩ = some (.int .u64 ((⟨0, 0, 0, 0⟩ : Nm)).b))
  have unone_2 := fun nx => (Kn.get (s1.out.up (hf nx).out) 0 2 rfl rfl : (f nx).cell? ⟨w.heap.size + 1 + 1, 2, none⟩ = some (.int .u64 ((⟨0, 0, 0, 0⟩ : Nm)).c))
  have unone_3 := fun nx => (Kn.get (s1.out.up (hf nx).out) 0 3 rfl rfl : (f nx).cell? ⟨w.heap.size + 1 + 1, 3, none⟩ = some (.int .u64 ((⟨0, 0, 0, 0⟩ : Nm)).d))
  try simp only [List.append_eq, List.cons_append, List.nil_append]
  repeat (go_big_quiet_step (first | (go_at_call 15; exact (L1 _).mono fun e w'' ⟨he, hb⟩ => ⟨he, hcl.out _ _ hb⟩)))
  refine wpQuiet_nil ?_
  intro nx
  have hb2 := (hf nx).out
  clear hf hcl ua_0 ua_1 ua_2 ua_3 ub_0 ub_1 ub_2 ub_3 unone_0 unone_1 unone_2 unone_3
  generalize f nx = w2 at hb2 ⊢
  have s2 : Hid (Kn w2 [(w.heap.size + 1 + 1, (c4 ((⟨0, 0, 0, 0⟩ : Nm)))), (w.heap.size + 1, (c4 (b))), (w.heap.size, (c4 (a)))]) := s1.out.up hb2
  have b2 : Hid (Below w.heap.size w w2) := b1.out.trans (hb2.mono b1.out.size)
  have z2 := b2.out.size
  clear hb2 s1 b1
  have ua_0 : w2.cell? ⟨w.heap.size, 0, none⟩ = some (.int .u64 (a).a) := Kn.get s2.out 2 0 rfl rfl
  have ua_1 : w2.cell? ⟨w.heap.size, 1, none⟩ = some (.int .u64 (a).b) := Kn.get s2.out 2 1 rfl rfl
  have ua_2 : w2.cell? ⟨w.heap.size, 2, none⟩ = some (.int .u64 (a).c) := Kn.get s2.out 2 2 rfl rfl
  have ua_3 : w2.cell? ⟨w.heap.size, 3, none⟩ = some (.int .u64 (a).d) := Kn.get s2.out 2 3 rfl rfl
  have ub_0 : w2.cell? ⟨w.heap.size + 1, 0, none⟩ = some (.int .u64 (b).a) := Kn.get s2.out 1 0 rfl rfl
  have ub_1 : w2.cell? ⟨w.heap.size + 1, 1, none⟩ = some (.int .u64 (b).b) := Kn.get s2.out 1 1 rfl rfl
  have ub_2 : w2.cell? ⟨w.heap.size + 1, 2, none⟩ = some (.int .u64 (b).c) := Kn.get s2.out 1 2 rfl rfl
  have ub_3 : w2.cell? ⟨w.heap.size + 1, 3, none⟩ = some (.int .u64 (b).d) := Kn.get s2.out 1 3 rfl rfl
  go_wp2_with fail
  clear ua_0 ua_1 ua_2 ua_3 ub_0 ub_1 ub_2 ub_3
  refine (M1 _).mono ?_
  rintro e w3 ⟨rfl, hb3⟩
  have s3 : Hid (Kn w3 [(w.heap.size + 1 + 1, (c4 ((⟨0, 0, 0, 0⟩ : Nm)))), (w.heap.size + 1, (c4 (b))), (w.heap.size, (c4 (a)))]) := s2.out.up hb3
  have b3 : Hid (Below w.heap.size w w3) := b2.out.trans (hb3.mono b2.out.size)
  have z3 := b3.out.size
  clear hb3 s2 b2
  go_wp2_with fail
  refine (S1 _).mono ?_
  rintro e w4 ⟨rfl, hb4⟩
  have s4 : Hid (Kn w4 [(w.heap.size + 1 + 1, (c4 ((⟨0, 0, 0, 0⟩ : Nm)))), (w.heap.size + 1, (c4 (b))), (w.heap.size, (c4 (a)))]) := s3.out.up hb4
  have b4 : Hid (Below w.heap.size w w4) := b3.out.trans (hb4.mono b3.out.size)
  have z4 := b4.out.size
  clear hb4 s3 b3
  have s5 : Hid (Kn (kal4 w4 (r)) [(w4.heap.size, (c4 (r))), (w.heap.size + 1 + 1, (c4 ((⟨0, 0, 0, 0⟩ : Nm)))), (w.heap.size + 1, (c4 (b))), (w.heap.size, (c4 (a)))]) := s4.out.al (c4 (r)) 24 rfl
  have b5 : Hid (Below w.heap.size w (kal4 w4 (r))) := b4.out.alloc b4.out.size _
  have z5 := b4.out.size
  clear s4 b4
  go_wp2_with fail
  go_ret
  exact ⟨rfl, b5.out⟩
set_option maxHeartbeats 2000000 in
theorem fieldEuler_2 (a b la m r : Nm) (e0 : ∀ w, (binOp .eql 24 (N la) (N ⟨0, 0, 0, 0⟩)).run Try.prog w = .ok (.bool false) w) (e1 : ∀ w, (binOp .eql 24 (N ⟨0, 0, 0, 0⟩) (N ⟨0, 0, 0, 0⟩)).run Try.prog w = .ok (.bool true) w)
    (L1 : ∀ w, Calls Try.prog 15 #[N a] w fun e w' => e = .returned (N la) ∧ Below w.heap.size w w')
    (L2 : ∀ w, Calls Try.prog 15 #[N b] w fun e w' => e = .returned (N ⟨0, 0, 0, 0⟩) ∧ Below w.heap.size w w')
    (M1 : ∀ w, Calls Try.prog 21 #[N a, N b] w fun e w' => e = .returned (N m) ∧ Below w.heap.size w w')
    (S1 : ∀ w, Calls Try.prog 10 #[N m] w fun e w' => e = .returned (.tuple #[N r, .bool true]) ∧ Below w.heap.size w w')
    (w : World) :
    Calls Try.prog 8 #[N a, N b] w fun e w' => e = .returned (.bool true) ∧ Below w.heap.size w w' := by
  go_enter Try.func8, Try.ntmps8
  have s0 : Hid (Kn (kal4 (kal4 w (a)) (b)) [(w.heap.size + 1, (c4 (b))), (w.heap.size, (c4 (a)))]) := (((Kn.nil w).al (c4 (a)) 24 rfl).al (c4 (b)) 24 (by simp))
  have b0 : Hid (Below w.heap.size w (kal4 (kal4 w (a)) (b))) := (((Below.refl _ _).alloc (Nat.le_refl _) _).alloc (by simp <;> omega) _)
  go_wp2_with fail
  have s1 : Hid (Kn (kal4 (kal4 (kal4 w (a)) (b)) ((⟨0, 0, 0, 0⟩ : Nm))) [(w.heap.size + 1 + 1, (c4 ((⟨0, 0, 0, 0⟩ : Nm)))), (w.heap.size + 1, (c4 (b))), (w.heap.size, (c4 (a)))]) := s0.out.al (c4 ((⟨0, 0, 0, 0⟩ : Nm))) 24 (by simp)
  have b1 : Hid (Below w.heap.size w (kal4 (kal4 (kal4 w (a)) (b)) ((⟨0, 0, 0, 0⟩ : Nm)))) := b0.out.alloc b0.out.size _
  have z1 := b0.out.size
  clear s0 b0
  go_wp2_with fail
  refine wp_region_up (by kernel_rfl) (by kernel_rfl) (fun U hU f hf hcl => ?_)
  have ua_0 := fun nx => (Kn.get (s1.out.up (hf nx).out) 2 0 rfl rfl : (f nx).cell? ⟨w.heap.size, 0, none⟩ = some (.int .u64 (a).a))
  have ua_1 := fun nx => (Kn.get (s1.out.up (hf nx).out) 2 1 rfl rfl : (f nx).cell? ⟨w.heap.size, 1, none⟩ = some (.int .u64 (a).b))
  have ua_2 := fun nx => (Kn.get (s1.out.up (hf nx).out) 2 2 rfl rfl : (f nx).cell? ⟨w.heap.size, 2, none⟩ = some (.int .u64 (a).c))
  have ua_3 := fun nx => (Kn.get (s1.out.up (hf nx).out) 2 3 rfl rfl : (f nx).cell? ⟨w.heap.size, 3, none⟩ = some (.int .u64 (a).d))
  have ub_0 := fun nx => (Kn.get (s1.out.up (hf nx).out) 1 0 rfl rfl : (f nx).cell? ⟨w.heap.size + 1, 0, none⟩ = some (.int .u64 (b).a))
  have ub_1 := fun nx => (Kn.get (s1.out.up (hf nx).out) 1 1 rfl rfl : (f nx).cell? ⟨w.heap.size + 1, 1, none⟩ = some (.int .u64 (b).b))
  have ub_2 := fun nx => (Kn.get (s1.out.up (hf nx).out) 1 2 rfl rfl : (f nx).cell? ⟨w.heap.size + 1, 2, none⟩ = some (.int .u64 (b).c))
  have ub_3 := fun nx => (Kn.get (s1.out.up (hf nx).out) 1 3 rfl rfl : (f nx).cell? ⟨w.heap.size + 1, 3, none⟩ = some (.int .u64 (b).d))
  have unone_0 := fun nx => (Kn.get (s1.out.up (hf nx).out) 0 0 rfl rfl : (f nx).cell? ⟨w.heap.size + 1 + 1, 0, none⟩ = some (.int .u64 ((⟨0, 0, 0, 0⟩ : Nm)).a))
  have unone_1 := fun nx => (Kn.get (s1.out.up (hf nx).out) 0 1 rfl rfl : (f nx).cell? ⟨w.heap.size + 1 + 1, 1, none⟩ = some (.int .u64 ((⟨0, 0, 0, 0⟩ : Nm)).b))
  have unone_2 := fun nx => (Kn.get (s1.out.up (hf nx).out) 0 2 rfl rfl : (f nx).cell? ⟨w.heap.size + 1 + 1, 2, none⟩ = some (.int .u64 ((⟨0, 0, 0, 0⟩ : Nm)).c))
  have unone_3 := fun nx => (Kn.get (s1.out.up (hf nx).out) 0 3 rfl rfl : (f nx).cell? ⟨w.heap.size + 1 + 1, 3, none⟩ = some (.int .u64 ((⟨0, 0, 0, 0⟩ : Nm)).d))
  try simp only [List.append_eq, List.cons_append, List.nil_append]
  repeat (go_big_quiet_step (first | (go_at_call_of 15 [Value.agg #[Value.int IntKind.u64 a.a, Value.int IntKind.u64 a.b, Value.int IntKind.u64 a.c, Value.int IntKind.u64 a.d]]; exact (L1 _).mono fun e w'' ⟨he, hb⟩ => ⟨he, hcl.out _ _ hb⟩) | (go_at_call_of 15 [Value.agg #[Value.int IntKind.u64 b.a, Value.int IntKind.u64 b.b, Value.int IntKind.u64 b.c, Value.int IntKind.u64 b.d]]; exact (L2 _).mono fun e w'' ⟨he, hb⟩ => ⟨he, hcl.out _ _ hb⟩)))
  refine wpQuiet_nil ?_
  intro nx
  have hb2 := (hf nx).out
  clear hf hcl ua_0 ua_1 ua_2 ua_3 ub_0 ub_1 ub_2 ub_3 unone_0 unone_1 unone_2 unone_3
  generalize f nx = w2 at hb2 ⊢
  have s2 : Hid (Kn w2 [(w.heap.size + 1 + 1, (c4 ((⟨0, 0, 0, 0⟩ : Nm)))), (w.heap.size + 1, (c4 (b))), (w.heap.size, (c4 (a)))]) := s1.out.up hb2
  have b2 : Hid (Below w.heap.size w w2) := b1.out.trans (hb2.mono b1.out.size)
  have z2 := b2.out.size
  clear hb2 s1 b1
  have ua_0 : w2.cell? ⟨w.heap.size, 0, none⟩ = some (.int .u64 (a).a) := Kn.get s2.out 2 0 rfl rfl
  have ua_1 : w2.cell? ⟨w.heap.size, 1, none⟩ = some (.int .u64 (a).b) := Kn.get s2.out 2 1 rfl rfl
  have ua_2 : w2.cell? ⟨w.heap.size, 2, none⟩ = some (.int .u64 (a).c) := Kn.get s2.out 2 2 rfl rfl
  have ua_3 : w2.cell? ⟨w.heap.size, 3, none⟩ = some (.int .u64 (a).d) := Kn.get s2.out 2 3 rfl rfl
  have ub_0 : w2.cell? ⟨w.heap.size + 1, 0, none⟩ = some (.int .u64 (b).a) := Kn.get s2.out 1 0 rfl rfl
  have ub_1 : w2.cell? ⟨w.heap.size + 1, 1, none⟩ = some (.int .u64 (b).b) := Kn.get s2.out 1 1 rfl rfl
  have ub_2 : w2.cell? ⟨w.heap.size + 1, 2, none⟩ = some (.int .u64 (b).c) := Kn.get s2.out 1 2 rfl rfl
  have ub_3 : w2.cell? ⟨w.heap.size + 1, 3, none⟩ = some (.int .u64 (b).d) := Kn.get s2.out 1 3 rfl rfl
  go_wp2_with fail
  clear ua_0 ua_1 ua_2 ua_3 ub_0 ub_1 ub_2 ub_3
  refine (M1 _).mono ?_
  rintro e w3 ⟨rfl, hb3⟩
  have s3 : Hid (Kn w3 [(w.heap.size + 1 + 1, (c4 ((⟨0, 0, 0, 0⟩ : Nm)))), (w.heap.size + 1, (c4 (b))), (w.heap.size, (c4 (a)))]) := s2.out.up hb3
  have b3 : Hid (Below w.heap.size w w3) := b2.out.trans (hb3.mono b2.out.size)
  have z3 := b3.out.size
  clear hb3 s2 b2
  go_wp2_with fail
  refine (S1 _).mono ?_
  rintro e w4 ⟨rfl, hb4⟩
  have s4 : Hid (Kn w4 [(w.heap.size + 1 + 1, (c4 ((⟨0, 0, 0, 0⟩ : Nm)))), (w.heap.size + 1, (c4 (b))), (w.heap.size, (c4 (a)))]) := s3.out.up hb4
  have b4 : Hid (Below w.heap.size w w4) := b3.out.trans (hb4.mono b3.out.size)
  have z4 := b4.out.size
  clear hb4 s3 b3
  have s5 : Hid (Kn (kal4 w4 (r)) [(w4.heap.size, (c4 (r))), (w.heap.size + 1 + 1, (c4 ((⟨0, 0, 0, 0⟩ : Nm)))), (w.heap.size + 1, (c4 (b))), (w.heap.size, (c4 (a)))]) := s4.out.al (c4 (r)) 24 rfl
  have b5 : Hid (Below w.heap.size w (kal4 w4 (r))) := b4.out.alloc b4.out.size _
  have z5 := b4.out.size
  clear s4 b4
  go_wp2_with fail
  go_ret
  exact ⟨rfl, b5.out⟩
set_option maxHeartbeats 2000000 in
theorem fieldEuler_3 (a b la lb s m r1 r2 r3 r4 : Nm) (e0 : ∀ w, (binOp .eql 24 (N la) (N ⟨0, 0, 0, 0⟩)).run Try.prog w = .ok (.bool false) w) (e1 : ∀ w, (binOp .eql 24 (N lb) (N ⟨0, 0, 0, 0⟩)).run Try.prog w = .ok (.bool false) w)
    (L1 : ∀ w, Calls Try.prog 15 #[N a] w fun e w' => e = .returned (N la) ∧ Below w.heap.size w w')
    (L2 : ∀ w, Calls Try.prog 15 #[N b] w fun e w' => e = .returned (N lb) ∧ Below w.heap.size w w')
    (S1 : ∀ w, Calls Try.prog 10 #[N a] w fun e w' => e = .returned (.tuple #[N r1, .bool true]) ∧ Below w.heap.size w w')
    (A1 : ∀ w, Calls Try.prog 17 #[N a, N a] w fun e w' => e = .returned (N s) ∧ Below w.heap.size w w')
    (S2 : ∀ w, Calls Try.prog 10 #[N s] w fun e w' => e = .returned (.tuple #[N r2, .bool false]) ∧ Below w.heap.size w w')
    (S3 : ∀ w, Calls Try.prog 10 #[N b] w fun e w' => e = .returned (.tuple #[N r3, .bool true]) ∧ Below w.heap.size w w')
    (M1 : ∀ w, Calls Try.prog 21 #[N a, N b] w fun e w' => e = .returned (N m) ∧ Below w.heap.size w w')
    (S4 : ∀ w, Calls Try.prog 10 #[N m] w fun e w' => e = .returned (.tuple #[N r4, .bool true]) ∧ Below w.heap.size w w')
    (w : World) :
    Calls Try.prog 8 #[N a, N b] w fun e w' => e = .returned (.bool true) ∧ Below w.heap.size w w' := by
  go_enter Try.func8, Try.ntmps8
  have s0 : Hid (Kn (kal4 (kal4 w (a)) (b)) [(w.heap.size + 1, (c4 (b))), (w.heap.size, (c4 (a)))]) := (((Kn.nil w).al (c4 (a)) 24 rfl).al (c4 (b)) 24 (by simp))
  have b0 : Hid (Below w.heap.size w (kal4 (kal4 w (a)) (b))) := (((Below.refl _ _).alloc (Nat.le_refl _) _).alloc (by simp <;> omega) _)
  go_wp2_with fail
  have s1 : Hid (Kn (kal4 (kal4 (kal4 w (a)) (b)) ((⟨0, 0, 0, 0⟩ : Nm))) [(w.heap.size + 1 + 1, (c4 ((⟨0, 0, 0, 0⟩ : Nm)))), (w.heap.size + 1, (c4 (b))), (w.heap.size, (c4 (a)))]) := s0.out.al (c4 ((⟨0, 0, 0, 0⟩ : Nm))) 24 (by simp)
  have b1 : Hid (Below w.heap.size w (kal4 (kal4 (kal4 w (a)) (b)) ((⟨0, 0, 0, 0⟩ : Nm)))) := b0.out.alloc b0.out.size _
  have z1 := b0.out.size
  clear s0 b0
  go_wp2_with fail
  refine wp_region_up (by kernel_rfl) (by kernel_rfl) (fun U hU f hf hcl => ?_)
  have ua_0 := fun nx => (Kn.get (s1.out.up (hf nx).out) 2 0 rfl rfl : (f nx).cell? ⟨w.heap.size, 0, none⟩ = some (.int .u64 (a).a))
  have ua_1 := fun nx => (Kn.get (s1.out.up (hf nx).out) 2 1 rfl rfl : (f nx).cell? ⟨w.heap.size, 1, none⟩ = some (.int .u64 (a).b))
  have ua_2 := fun nx => (Kn.get (s1.out.up (hf nx).out) 2 2 rfl rfl : (f nx).cell? ⟨w.heap.size, 2, none⟩ = some (.int .u64 (a).c))
  have ua_3 := fun nx => (Kn.get (s1.out.up (hf nx).out) 2 3 rfl rfl : (f nx).cell? ⟨w.heap.size, 3, none⟩ = some (.int .u64 (a).d))
  have ub_0 := fun nx => (Kn.get (s1.out.up (hf nx).out) 1 0 rfl rfl : (f nx).cell? ⟨w.heap.size + 1, 0, none⟩ = some (.int .u64 (b).a))
  have ub_1 := fun nx => (Kn.get (s1.out.up (hf nx).out) 1 1 rfl rfl : (f nx).cell? ⟨w.heap.size + 1, 1, none⟩ = some (.int .u64 (b).b))
  have ub_2 := fun nx => (Kn.get (s1.out.up (hf nx).out) 1 2 rfl rfl : (f nx).cell? ⟨w.heap.size + 1, 2, none⟩ = some (.int .u64 (b).c))
  have ub_3 := fun nx => (Kn.get (s1.out.up (hf nx).out) 1 3 rfl rfl : (f nx).cell? ⟨w.heap.size + 1, 3, none⟩ = some (.int .u64 (b).d))
  have unone_0 := fun nx => (Kn.get (s1.out.up (hf nx).out) 0 0 rfl rfl : (f nx).cell? ⟨w.heap.size + 1 + 1, 0, none⟩ = some (.int .u64 ((⟨0, 0, 0, 0⟩ : Nm)).a))
  have unone_1 := fun nx => (Kn.get (s1.out.up (hf nx).out) 0 1 rfl rfl : (f nx).cell? ⟨w.heap.size + 1 + 1, 1, none⟩ = some (.int .u64 ((⟨0, 0, 0, 0⟩ : Nm)).b))
  have unone_2 := fun nx => (Kn.get (s1.out.up (hf nx).out) 0 2 rfl rfl : (f nx).cell? ⟨w.heap.size + 1 + 1, 2, none⟩ = some (.int .u64 ((⟨0, 0, 0, 0⟩ : Nm)).c))
  have unone_3 := fun nx => (Kn.get (s1.out.up (hf nx).out) 0 3 rfl rfl : (f nx).cell? ⟨w.heap.size + 1 + 1, 3, none⟩ = some (.int .u64 ((⟨0, 0, 0, 0⟩ : Nm)).d))
  try simp only [List.append_eq, List.cons_append, List.nil_append]
  repeat (go_big_quiet_step (first | (go_at_call_of 15 [Value.agg #[Value.int IntKind.u64 a.a, Value.int IntKind.u64 a.b, Value.int IntKind.u64 a.c, Value.int IntKind.u64 a.d]]; exact (L1 _).mono fun e w'' ⟨he, hb⟩ => ⟨he, hcl.out _ _ hb⟩) | (go_at_call_of 15 [Value.agg #[Value.int IntKind.u64 b.a, Value.int IntKind.u64 b.b, Value.int IntKind.u64 b.c, Value.int IntKind.u64 b.d]]; exact (L2 _).mono fun e w'' ⟨he, hb⟩ => ⟨he, hcl.out _ _ hb⟩)))
  refine wpQuiet_nil ?_
  intro nx
  have hb2 := (hf nx).out
  clear hf hcl ua_0 ua_1 ua_2 ua_3 ub_0 ub_1 ub_2 ub_3 unone_0 unone_1 unone_2 unone_3
  generalize f nx = w2 at hb2 ⊢
  have s2 : Hid (Kn w2 [(w.heap.size + 1 + 1, (c4 ((⟨0, 0, 0, 0⟩ : Nm)))), (w.heap.size + 1, (c4 (b))), (w.heap.size, (c4 (a)))]) := s1.out.up hb2
  have b2 : Hid (Below w.heap.size w w2) := b1.out.trans (hb2.mono b1.out.size)
  have z2 := b2.out.size
  clear hb2 s1 b1
  have ua_0 : w2.cell? ⟨w.heap.size, 0, none⟩ = some (.int .u64 (a).a) := Kn.get s2.out 2 0 rfl rfl
  have ua_1 : w2.cell? ⟨w.heap.size, 1, none⟩ = some (.int .u64 (a).b) := Kn.get s2.out 2 1 rfl rfl
  have ua_2 : w2.cell? ⟨w.heap.size, 2, none⟩ = some (.int .u64 (a).c) := Kn.get s2.out 2 2 rfl rfl
  have ua_3 : w2.cell? ⟨w.heap.size, 3, none⟩ = some (.int .u64 (a).d) := Kn.get s2.out 2 3 rfl rfl
  go_wp2_with fail
  clear ua_0 ua_1 ua_2 ua_3
  refine (S1 _).mono ?_
  rintro e w3 ⟨rfl, hb3⟩
  have s3 : Hid (Kn w3 [(w.heap.size + 1 + 1, (c4 ((⟨0, 0, 0, 0⟩ : Nm)))), (w.heap.size + 1, (c4 (b))), (w.heap.size, (c4 (a)))]) := s2.out.up hb3
  have b3 : Hid (Below w.heap.size w w3) := b2.out.trans (hb3.mono b2.out.size)
  have z3 := b3.out.size
  clear hb3 s2 b2
  have s4 : Hid (Kn (kal4 w3 (r1)) [(w3.heap.size, (c4 (r1))), (w.heap.size + 1 + 1, (c4 ((⟨0, 0, 0, 0⟩ : Nm)))), (w.heap.size + 1, (c4 (b))), (w.heap.size, (c4 (a)))]) := s3.out.al (c4 (r1)) 24 rfl
  have b4 : Hid (Below w.heap.size w (kal4 w3 (r1))) := b3.out.alloc b3.out.size _
  have z4 := b3.out.size
  clear s3 b3
  have ua_0 : (kal4 w3 (r1)).cell? ⟨w.heap.size, 0, none⟩ = some (.int .u64 (a).a) := Kn.get s4.out 3 0 rfl rfl
  have ua_1 : (kal4 w3 (r1)).cell? ⟨w.heap.size, 1, none⟩ = some (.int .u64 (a).b) := Kn.get s4.out 3 1 rfl rfl
  have ua_2 : (kal4 w3 (r1)).cell? ⟨w.heap.size, 2, none⟩ = some (.int .u64 (a).c) := Kn.get s4.out 3 2 rfl rfl
  have ua_3 : (kal4 w3 (r1)).cell? ⟨w.heap.size, 3, none⟩ = some (.int .u64 (a).d) := Kn.get s4.out 3 3 rfl rfl
  go_wp2_with fail
  clear ua_0 ua_1 ua_2 ua_3
  refine (A1 _).mono ?_
  rintro e w5 ⟨rfl, hb5⟩
  have s5 : Hid (Kn w5 [(w3.heap.size, (c4 (r1))), (w.heap.size + 1 + 1, (c4 ((⟨0, 0, 0, 0⟩ : Nm)))), (w.heap.size + 1, (c4 (b))), (w.heap.size, (c4 (a)))]) := s4.out.up hb5
  have b5 : Hid (Below w.heap.size w w5) := b4.out.trans (hb5.mono b4.out.size)
  have z5 := b5.out.size
  clear hb5 s4 b4
  go_wp2_with fail
  refine (S2 _).mono ?_
  rintro e w6 ⟨rfl, hb6⟩
  have s6 : Hid (Kn w6 [(w3.heap.size, (c4 (r1))), (w.heap.size + 1 + 1, (c4 ((⟨0, 0, 0, 0⟩ : Nm)))), (w.heap.size + 1, (c4 (b))), (w.heap.size, (c4 (a)))]) := s5.out.up hb6
  have b6 : Hid (Below w.heap.size w w6) := b5.out.trans (hb6.mono b5.out.size)
  have z6 := b6.out.size
  clear hb6 s5 b5
  have s7 : Hid (Kn (kal4 w6 (r2)) [(w6.heap.size, (c4 (r2))), (w3.heap.size, (c4 (r1))), (w.heap.size + 1 + 1, (c4 ((⟨0, 0, 0, 0⟩ : Nm)))), (w.heap.size + 1, (c4 (b))), (w.heap.size, (c4 (a)))]) := s6.out.al (c4 (r2)) 24 rfl
  have b7 : Hid (Below w.heap.size w (kal4 w6 (r2))) := b6.out.alloc b6.out.size _
  have z7 := b6.out.size
  clear s6 b6
  have ub_0 : (kal4 w6 (r2)).cell? ⟨w.heap.size + 1, 0, none⟩ = some (.int .u64 (b).a) := Kn.get s7.out 3 0 rfl rfl
  have ub_1 : (kal4 w6 (r2)).cell? ⟨w.heap.size + 1, 1, none⟩ = some (.int .u64 (b).b) := Kn.get s7.out 3 1 rfl rfl
  have ub_2 : (kal4 w6 (r2)).cell? ⟨w.heap.size + 1, 2, none⟩ = some (.int .u64 (b).c) := Kn.get s7.out 3 2 rfl rfl
  have ub_3 : (kal4 w6 (r2)).cell? ⟨w.heap.size + 1, 3, none⟩ = some (.int .u64 (b).d) := Kn.get s7.out 3 3 rfl rfl
  go_wp2_with fail
  clear ub_0 ub_1 ub_2 ub_3
  refine (S3 _).mono ?_
  rintro e w8 ⟨rfl, hb8⟩
  have s8 : Hid (Kn w8 [(w6.heap.size, (c4 (r2))), (w3.heap.size, (c4 (r1))), (w.heap.size + 1 + 1, (c4 ((⟨0, 0, 0, 0⟩ : Nm)))), (w.heap.size + 1, (c4 (b))), (w.heap.size, (c4 (a)))]) := s7.out.up hb8
  have b8 : Hid (Below w.heap.size w w8) := b7.out.trans (hb8.mono b7.out.size)
  have z8 := b8.out.size
  clear hb8 s7 b7
  have s9 : Hid (Kn (kal4 w8 (r3)) [(w8.heap.size, (c4 (r3))), (w6.heap.size, (c4 (r2))), (w3.heap.size, (c4 (r1))), (w.heap.size + 1 + 1, (c4 ((⟨0, 0, 0, 0⟩ : Nm)))), (w.heap.size + 1, (c4 (b))), (w.heap.size, (c4 (a)))]) := s8.out.al (c4 (r3)) 24 rfl
  have b9 : Hid (Below w.heap.size w (kal4 w8 (r3))) := b8.out.alloc b8.out.size _
  have z9 := b8.out.size
  clear s8 b8
  have ua_0 : (kal4 w8 (r3)).cell? ⟨w.heap.size, 0, none⟩ = some (.int .u64 (a).a) := Kn.get s9.out 5 0 rfl rfl
  have ua_1 : (kal4 w8 (r3)).cell? ⟨w.heap.size, 1, none⟩ = some (.int .u64 (a).b) := Kn.get s9.out 5 1 rfl rfl
  have ua_2 : (kal4 w8 (r3)).cell? ⟨w.heap.size, 2, none⟩ = some (.int .u64 (a).c) := Kn.get s9.out 5 2 rfl rfl
  have ua_3 : (kal4 w8 (r3)).cell? ⟨w.heap.size, 3, none⟩ = some (.int .u64 (a).d) := Kn.get s9.out 5 3 rfl rfl
  have ub_0 : (kal4 w8 (r3)).cell? ⟨w.heap.size + 1, 0, none⟩ = some (.int .u64 (b).a) := Kn.get s9.out 4 0 rfl rfl
  have ub_1 : (kal4 w8 (r3)).cell? ⟨w.heap.size + 1, 1, none⟩ = some (.int .u64 (b).b) := Kn.get s9.out 4 1 rfl rfl
  have ub_2 : (kal4 w8 (r3)).cell? ⟨w.heap.size + 1, 2, none⟩ = some (.int .u64 (b).c) := Kn.get s9.out 4 2 rfl rfl
  have ub_3 : (kal4 w8 (r3)).cell? ⟨w.heap.size + 1, 3, none⟩ = some (.int .u64 (b).d) := Kn.get s9.out 4 3 rfl rfl
  go_wp2_with fail
  clear ua_0 ua_1 ua_2 ua_3 ub_0 ub_1 ub_2 ub_3
  refine (M1 _).mono ?_
  rintro e w10 ⟨rfl, hb10⟩
  have s10 : Hid (Kn w10 [(w8.heap.size, (c4 (r3))), (w6.heap.size, (c4 (r2))), (w3.heap.size, (c4 (r1))), (w.heap.size + 1 + 1, (c4 ((⟨0, 0, 0, 0⟩ : Nm)))), (w.heap.size + 1, (c4 (b))), (w.heap.size, (c4 (a)))]) := s9.out.up hb10
  have b10 : Hid (Below w.heap.size w w10) := b9.out.trans (hb10.mono b9.out.size)
  have z10 := b10.out.size
  clear hb10 s9 b9
  go_wp2_with fail
  refine (S4 _).mono ?_
  rintro e w11 ⟨rfl, hb11⟩
  have s11 : Hid (Kn w11 [(w8.heap.size, (c4 (r3))), (w6.heap.size, (c4 (r2))), (w3.heap.size, (c4 (r1))), (w.heap.size + 1 + 1, (c4 ((⟨0, 0, 0, 0⟩ : Nm)))), (w.heap.size + 1, (c4 (b))), (w.heap.size, (c4 (a)))]) := s10.out.up hb11
  have b11 : Hid (Below w.heap.size w w11) := b10.out.trans (hb11.mono b10.out.size)
  have z11 := b11.out.size
  clear hb11 s10 b10
  have s12 : Hid (Kn (kal4 w11 (r4)) [(w11.heap.size, (c4 (r4))), (w8.heap.size, (c4 (r3))), (w6.heap.size, (c4 (r2))), (w3.heap.size, (c4 (r1))), (w.heap.size + 1 + 1, (c4 ((⟨0, 0, 0, 0⟩ : Nm)))), (w.heap.size + 1, (c4 (b))), (w.heap.size, (c4 (a)))]) := s11.out.al (c4 (r4)) 24 rfl
  have b12 : Hid (Below w.heap.size w (kal4 w11 (r4))) := b11.out.alloc b11.out.size _
  have z12 := b11.out.size
  clear s11 b11
  go_wp2_with fail
  go_ret
  exact ⟨rfl, b12.out⟩
set_option maxHeartbeats 2000000 in
theorem fieldEuler_4 (a b la lb s m r1 r2 r3 r4 : Nm) (e0 : ∀ w, (binOp .eql 24 (N la) (N ⟨0, 0, 0, 0⟩)).run Try.prog w = .ok (.bool false) w) (e1 : ∀ w, (binOp .eql 24 (N lb) (N ⟨0, 0, 0, 0⟩)).run Try.prog w = .ok (.bool false) w)
    (L1 : ∀ w, Calls Try.prog 15 #[N a] w fun e w' => e = .returned (N la) ∧ Below w.heap.size w w')
    (L2 : ∀ w, Calls Try.prog 15 #[N b] w fun e w' => e = .returned (N lb) ∧ Below w.heap.size w w')
    (S1 : ∀ w, Calls Try.prog 10 #[N a] w fun e w' => e = .returned (.tuple #[N r1, .bool true]) ∧ Below w.heap.size w w')
    (A1 : ∀ w, Calls Try.prog 17 #[N a, N a] w fun e w' => e = .returned (N s) ∧ Below w.heap.size w w')
    (S2 : ∀ w, Calls Try.prog 10 #[N s] w fun e w' => e = .returned (.tuple #[N r2, .bool false]) ∧ Below w.heap.size w w')
    (S3 : ∀ w, Calls Try.prog 10 #[N b] w fun e w' => e = .returned (.tuple #[N r3, .bool false]) ∧ Below w.heap.size w w')
    (M1 : ∀ w, Calls Try.prog 21 #[N a, N b] w fun e w' => e = .returned (N m) ∧ Below w.heap.size w w')
    (S4 : ∀ w, Calls Try.prog 10 #[N m] w fun e w' => e = .returned (.tuple #[N r4, .bool false]) ∧ Below w.heap.size w w')
    (w : World) :
    Calls Try.prog 8 #[N a, N b] w fun e w' => e = .returned (.bool true) ∧ Below w.heap.size w w' := by
  go_enter Try.func8, Try.ntmps8
  have s0 : Hid (Kn (kal4 (kal4 w (a)) (b)) [(w.heap.size + 1, (c4 (b))), (w.heap.size, (c4 (a)))]) := (((Kn.nil w).al (c4 (a)) 24 rfl).al (c4 (b)) 24 (by simp))
  have b0 : Hid (Below w.heap.size w (kal4 (kal4 w (a)) (b))) := (((Below.refl _ _).alloc (Nat.le_refl _) _).alloc (by simp <;> omega) _)
  go_wp2_with fail
  have s1 : Hid (Kn (kal4 (kal4 (kal4 w (a)) (b)) ((⟨0, 0, 0, 0⟩ : Nm))) [(w.heap.size + 1 + 1, (c4 ((⟨0, 0, 0, 0⟩ : Nm)))), (w.heap.size + 1, (c4 (b))), (w.heap.size, (c4 (a)))]) := s0.out.al (c4 ((⟨0, 0, 0, 0⟩ : Nm))) 24 (by simp)
  have b1 : Hid (Below w.heap.size w (kal4 (kal4 (kal4 w (a)) (b)) ((⟨0, 0, 0, 0⟩ : Nm)))) := b0.out.alloc b0.out.size _
  have z1 := b0.out.size
  clear s0 b0
  go_wp2_with fail
  refine wp_region_up (by kernel_rfl) (by kernel_rfl) (fun U hU f hf hcl => ?_)
  have ua_0 := fun nx => (Kn.get (s1.out.up (hf nx).out) 2 0 rfl rfl : (f nx).cell? ⟨w.heap.size, 0, none⟩ = some (.int .u64 (a).a))
  have ua_1 := fun nx => (Kn.get (s1.out.up (hf nx).out) 2 1 rfl rfl : (f nx).cell? ⟨w.heap.size, 1, none⟩ = some (.int .u64 (a).b))
  have ua_2 := fun nx => (Kn.get (s1.out.up (hf nx).out) 2 2 rfl rfl : (f nx).cell? ⟨w.heap.size, 2, none⟩ = some (.int .u64 (a).c))
  have ua_3 := fun nx => (Kn.get (s1.out.up (hf nx).out) 2 3 rfl rfl : (f nx).cell? ⟨w.heap.size, 3, none⟩ = some (.int .u64 (a).d))
  have ub_0 := fun nx => (Kn.get (s1.out.up (hf nx).out) 1 0 rfl rfl : (f nx).cell? ⟨w.heap.size + 1, 0, none⟩ = some (.int .u64 (b).a))
  have ub_1 := fun nx => (Kn.get (s1.out.up (hf nx).out) 1 1 rfl rfl : (f nx).cell? ⟨w.heap.size + 1, 1, none⟩ = some (.int .u64 (b).b))
  have ub_2 := fun nx => (Kn.get (s1.out.up (hf nx).out) 1 2 rfl rfl : (f nx).cell? ⟨w.heap.size + 1, 2, none⟩ = some (.int .u64 (b).c))
  have ub_3 := fun nx => (Kn.get (s1.out.up (hf nx).out) 1 3 rfl rfl : (f nx).cell? ⟨w.heap.size + 1, 3, none⟩ = some (.int .u64 (b).d))
  have unone_0 := fun nx => (Kn.get (s1.out.up (hf nx).out) 0 0 rfl rfl : (f nx).cell? ⟨w.heap.size + 1 + 1, 0, none⟩ = some (.int .u64 ((⟨0, 0, 0, 0⟩ : Nm)).a))
  have unone_1 := fun nx => (Kn.get (s1.out.up (hf nx).out) 0 1 rfl rfl : (f nx).cell? ⟨w.heap.size + 1 + 1, 1, none⟩ = some (.int .u64 ((⟨0, 0, 0, 0⟩ : Nm)).b))
  have unone_2 := fun nx => (Kn.get (s1.out.up (hf nx).out) 0 2 rfl rfl : (f nx).cell? ⟨w.heap.size + 1 + 1, 2, none⟩ = some (.int .u64 ((⟨0, 0, 0, 0⟩ : Nm)).c))
  have unone_3 := fun nx => (Kn.get (s1.out.up (hf nx).out) 0 3 rfl rfl : (f nx).cell? ⟨w.heap.size + 1 + 1, 3, none⟩ = some (.int .u64 ((⟨0, 0, 0, 0⟩ : Nm)).d))
  try simp only [List.append_eq, List.cons_append, List.nil_append]
  repeat (go_big_quiet_step (first | (go_at_call_of 15 [Value.agg #[Value.int IntKind.u64 a.a, Value.int IntKind.u64 a.b, Value.int IntKind.u64 a.c, Value.int IntKind.u64 a.d]]; exact (L1 _).mono fun e w'' ⟨he, hb⟩ => ⟨he, hcl.out _ _ hb⟩) | (go_at_call_of 15 [Value.agg #[Value.int IntKind.u64 b.a, Value.int IntKind.u64 b.b, Value.int IntKind.u64 b.c, Value.int IntKind.u64 b.d]]; exact (L2 _).mono fun e w'' ⟨he, hb⟩ => ⟨he, hcl.out _ _ hb⟩)))
  refine wpQuiet_nil ?_
  intro nx
  have hb2 := (hf nx).out
  clear hf hcl ua_0 ua_1 ua_2 ua_3 ub_0 ub_1 ub_2 ub_3 unone_0 unone_1 unone_2 unone_3
  generalize f nx = w2 at hb2 ⊢
  have s2 : Hid (Kn w2 [(w.heap.size + 1 + 1, (c4 ((⟨0, 0, 0, 0⟩ : Nm)))), (w.heap.size + 1, (c4 (b))), (w.heap.size, (c4 (a)))]) := s1.out.up hb2
  have b2 : Hid (Below w.heap.size w w2) := b1.out.trans (hb2.mono b1.out.size)
  have z2 := b2.out.size
  clear hb2 s1 b1
  have ua_0 : w2.cell? ⟨w.heap.size, 0, none⟩ = some (.int .u64 (a).a) := Kn.get s2.out 2 0 rfl rfl
  have ua_1 : w2.cell? ⟨w.heap.size, 1, none⟩ = some (.int .u64 (a).b) := Kn.get s2.out 2 1 rfl rfl
  have ua_2 : w2.cell? ⟨w.heap.size, 2, none⟩ = some (.int .u64 (a).c) := Kn.get s2.out 2 2 rfl rfl
  have ua_3 : w2.cell? ⟨w.heap.size, 3, none⟩ = some (.int .u64 (a).d) := Kn.get s2.out 2 3 rfl rfl
  go_wp2_with fail
  clear ua_0 ua_1 ua_2 ua_3
  refine (S1 _).mono ?_
  rintro e w3 ⟨rfl, hb3⟩
  have s3 : Hid (Kn w3 [(w.heap.size + 1 + 1, (c4 ((⟨0, 0, 0, 0⟩ : Nm)))), (w.heap.size + 1, (c4 (b))), (w.heap.size, (c4 (a)))]) := s2.out.up hb3
  have b3 : Hid (Below w.heap.size w w3) := b2.out.trans (hb3.mono b2.out.size)
  have z3 := b3.out.size
  clear hb3 s2 b2
  have s4 : Hid (Kn (kal4 w3 (r1)) [(w3.heap.size, (c4 (r1))), (w.heap.size + 1 + 1, (c4 ((⟨0, 0, 0, 0⟩ : Nm)))), (w.heap.size + 1, (c4 (b))), (w.heap.size, (c4 (a)))]) := s3.out.al (c4 (r1)) 24 rfl
  have b4 : Hid (Below w.heap.size w (kal4 w3 (r1))) := b3.out.alloc b3.out.size _
  have z4 := b3.out.size
  clear s3 b3
  have ua_0 : (kal4 w3 (r1)).cell? ⟨w.heap.size, 0, none⟩ = some (.int .u64 (a).a) := Kn.get s4.out 3 0 rfl rfl
  have ua_1 : (kal4 w3 (r1)).cell? ⟨w.heap.size, 1, none⟩ = some (.int .u64 (a).b) := Kn.get s4.out 3 1 rfl rfl
  have ua_2 : (kal4 w3 (r1)).cell? ⟨w.heap.size, 2, none⟩ = some (.int .u64 (a).c) := Kn.get s4.out 3 2 rfl rfl
  have ua_3 : (kal4 w3 (r1)).cell? ⟨w.heap.size, 3, none⟩ = some (.int .u64 (a).d) := Kn.get s4.out 3 3 rfl rfl
  go_wp2_with fail
  clear ua_0 ua_1 ua_2 ua_3
  refine (A1 _).mono ?_
  rintro e w5 ⟨rfl, hb5⟩
  have s5 : Hid (Kn w5 [(w3.heap.size, (c4 (r1))), (w.heap.size + 1 + 1, (c4 ((⟨0, 0, 0, 0⟩ : Nm)))), (w.heap.size + 1, (c4 (b))), (w.heap.size, (c4 (a)))]) := s4.out.up hb5
  have b5 : Hid (Below w.heap.size w w5) := b4.out.trans (hb5.mono b4.out.size)
  have z5 := b5.out.size
  clear hb5 s4 b4
  go_wp2_with fail
  refine (S2 _).mono ?_
  rintro e w6 ⟨rfl, hb6⟩
  have s6 : Hid (Kn w6 [(w3.heap.size, (c4 (r1))), (w.heap.size + 1 + 1, (c4 ((⟨0, 0, 0, 0⟩ : Nm)))), (w.heap.size + 1, (c4 (b))), (w.heap.size, (c4 (a)))]) := s5.out.up hb6
  have b6 : Hid (Below w.heap.size w w6) := b5.out.trans (hb6.mono b5.out.size)
  have z6 := b6.out.size
  clear hb6 s5 b5
  have s7 : Hid (Kn (kal4 w6 (r2)) [(w6.heap.size, (c4 (r2))), (w3.heap.size, (c4 (r1))), (w.heap.size + 1 + 1, (c4 ((⟨0, 0, 0, 0⟩ : Nm)))), (w.heap.size + 1, (c4 (b))), (w.heap.size, (c4 (a)))]) := s6.out.al (c4 (r2)) 24 rfl
  have b7 : Hid (Below w.heap.size w (kal4 w6 (r2))) := b6.out.alloc b6.out.size _
  have z7 := b6.out.size
  clear s6 b6
  have ub_0 : (kal4 w6 (r2)).cell? ⟨w.heap.size + 1, 0, none⟩ = some (.int .u64 (b).a) := Kn.get s7.out 3 0 rfl rfl
  have ub_1 : (kal4 w6 (r2)).cell? ⟨w.heap.size + 1, 1, none⟩ = some (.int .u64 (b).b) := Kn.get s7.out 3 1 rfl rfl
  have ub_2 : (kal4 w6 (r2)).cell? ⟨w.heap.size + 1, 2, none⟩ = some (.int .u64 (b).c) := Kn.get s7.out 3 2 rfl rfl
  have ub_3 : (kal4 w6 (r2)).cell? ⟨w.heap.size + 1, 3, none⟩ = some (.int .u64 (b).d) := Kn.get s7.out 3 3 rfl rfl
  go_wp2_with fail
  clear ub_0 ub_1 ub_2 ub_3
  refine (S3 _).mono ?_
  rintro e w8 ⟨rfl, hb8⟩
  have s8 : Hid (Kn w8 [(w6.heap.size, (c4 (r2))), (w3.heap.size, (c4 (r1))), (w.heap.size + 1 + 1, (c4 ((⟨0, 0, 0, 0⟩ : Nm)))), (w.heap.size + 1, (c4 (b))), (w.heap.size, (c4 (a)))]) := s7.out.up hb8
  have b8 : Hid (Below w.heap.size w w8) := b7.out.trans (hb8.mono b7.out.size)
  have z8 := b8.out.size
  clear hb8 s7 b7
  have s9 : Hid (Kn (kal4 w8 (r3)) [(w8.heap.size, (c4 (r3))), (w6.heap.size, (c4 (r2))), (w3.heap.size, (c4 (r1))), (w.heap.size + 1 + 1, (c4 ((⟨0, 0, 0, 0⟩ : Nm)))), (w.heap.size + 1, (c4 (b))), (w.heap.size, (c4 (a)))]) := s8.out.al (c4 (r3)) 24 rfl
  have b9 : Hid (Below w.heap.size w (kal4 w8 (r3))) := b8.out.alloc b8.out.size _
  have z9 := b8.out.size
  clear s8 b8
  have ua_0 : (kal4 w8 (r3)).cell? ⟨w.heap.size, 0, none⟩ = some (.int .u64 (a).a) := Kn.get s9.out 5 0 rfl rfl
  have ua_1 : (kal4 w8 (r3)).cell? ⟨w.heap.size, 1, none⟩ = some (.int .u64 (a).b) := Kn.get s9.out 5 1 rfl rfl
  have ua_2 : (kal4 w8 (r3)).cell? ⟨w.heap.size, 2, none⟩ = some (.int .u64 (a).c) := Kn.get s9.out 5 2 rfl rfl
  have ua_3 : (kal4 w8 (r3)).cell? ⟨w.heap.size, 3, none⟩ = some (.int .u64 (a).d) := Kn.get s9.out 5 3 rfl rfl
  have ub_0 : (kal4 w8 (r3)).cell? ⟨w.heap.size + 1, 0, none⟩ = some (.int .u64 (b).a) := Kn.get s9.out 4 0 rfl rfl
  have ub_1 : (kal4 w8 (r3)).cell? ⟨w.heap.size + 1, 1, none⟩ = some (.int .u64 (b).b) := Kn.get s9.out 4 1 rfl rfl
  have ub_2 : (kal4 w8 (r3)).cell? ⟨w.heap.size + 1, 2, none⟩ = some (.int .u64 (b).c) := Kn.get s9.out 4 2 rfl rfl
  have ub_3 : (kal4 w8 (r3)).cell? ⟨w.heap.size + 1, 3, none⟩ = some (.int .u64 (b).d) := Kn.get s9.out 4 3 rfl rfl
  go_wp2_with fail
  clear ua_0 ua_1 ua_2 ua_3 ub_0 ub_1 ub_2 ub_3
  refine (M1 _).mono ?_
  rintro e w10 ⟨rfl, hb10⟩
  have s10 : Hid (Kn w10 [(w8.heap.size, (c4 (r3))), (w6.heap.size, (c4 (r2))), (w3.heap.size, (c4 (r1))), (w.heap.size + 1 + 1, (c4 ((⟨0, 0, 0, 0⟩ : Nm)))), (w.heap.size + 1, (c4 (b))), (w.heap.size, (c4 (a)))]) := s9.out.up hb10
  have b10 : Hid (Below w.heap.size w w10) := b9.out.trans (hb10.mono b9.out.size)
  have z10 := b10.out.size
  clear hb10 s9 b9
  go_wp2_with fail
  refine (S4 _).mono ?_
  rintro e w11 ⟨rfl, hb11⟩
  have s11 : Hid (Kn w11 [(w8.heap.size, (c4 (r3))), (w6.heap.size, (c4 (r2))), (w3.heap.size, (c4 (r1))), (w.heap.size + 1 + 1, (c4 ((⟨0, 0, 0, 0⟩ : Nm)))), (w.heap.size + 1, (c4 (b))), (w.heap.size, (c4 (a)))]) := s10.out.up hb11
  have b11 : Hid (Below w.heap.size w w11) := b10.out.trans (hb11.mono b10.out.size)
  have z11 := b11.out.size
  clear hb11 s10 b10
  have s12 : Hid (Kn (kal4 w11 (r4)) [(w11.heap.size, (c4 (r4))), (w8.heap.size, (c4 (r3))), (w6.heap.size, (c4 (r2))), (w3.heap.size, (c4 (r1))), (w.heap.size + 1 + 1, (c4 ((⟨0, 0, 0, 0⟩ : Nm)))), (w.heap.size + 1, (c4 (b))), (w.heap.size, (c4 (a)))]) := s11.out.al (c4 (r4)) 24 rfl
  have b12 : Hid (Below w.heap.size w (kal4 w11 (r4))) := b11.out.alloc b11.out.size _
  have z12 := b11.out.size
  clear s11 b11
  go_wp2_with fail
  go_ret
  exact ⟨rfl, b12.out⟩
set_option maxHeartbeats 2000000 in
theorem fieldEuler_5 (a b la lb s m r1 r2 r3 r4 : Nm) (e0 : ∀ w, (binOp .eql 24 (N la) (N ⟨0, 0, 0, 0⟩)).run Try.prog w = .ok (.bool false) w) (e1 : ∀ w, (binOp .eql 24 (N lb) (N ⟨0, 0, 0, 0⟩)).run Try.prog w = .ok (.bool false) w)
    (L1 : ∀ w, Calls Try.prog 15 #[N a] w fun e w' => e = .returned (N la) ∧ Below w.heap.size w w')
    (L2 : ∀ w, Calls Try.prog 15 #[N b] w fun e w' => e = .returned (N lb) ∧ Below w.heap.size w w')
    (S1 : ∀ w, Calls Try.prog 10 #[N a] w fun e w' => e = .returned (.tuple #[N r1, .bool false]) ∧ Below w.heap.size w w')
    (A1 : ∀ w, Calls Try.prog 17 #[N a, N a] w fun e w' => e = .returned (N s) ∧ Below w.heap.size w w')
    (S2 : ∀ w, Calls Try.prog 10 #[N s] w fun e w' => e = .returned (.tuple #[N r2, .bool true]) ∧ Below w.heap.size w w')
    (S3 : ∀ w, Calls Try.prog 10 #[N b] w fun e w' => e = .returned (.tuple #[N r3, .bool true]) ∧ Below w.heap.size w w')
    (M1 : ∀ w, Calls Try.prog 21 #[N a, N b] w fun e w' => e = .returned (N m) ∧ Below w.heap.size w w')
    (S4 : ∀ w, Calls Try.prog 10 #[N m] w fun e w' => e = .returned (.tuple #[N r4, .bool false]) ∧ Below w.heap.size w w')
    (w : World) :
    Calls Try.prog 8 #[N a, N b] w fun e w' => e = .returned (.bool true) ∧ Below w.heap.size w w' := by
  go_enter Try.func8, Try.ntmps8
  have s0 : Hid (Kn (kal4 (kal4 w (a)) (b)) [(w.heap.size + 1, (c4 (b))), (w.heap.size, (c4 (a)))]) := (((Kn.nil w).al (c4 (a)) 24 rfl).al (c4 (b)) 24 (by simp))
  have b0 : Hid (Below w.heap.size w (kal4 (kal4 w (a)) (b))) := (((Below.refl _ _).alloc (Nat.le_refl _) _).alloc (by simp <;> omega) _)
  go_wp2_with fail
  have s1 : Hid (Kn (kal4 (kal4 (kal4 w (a)) (b)) ((⟨0, 0, 0, 0⟩ : Nm))) [(w.heap.size + 1 + 1, (c4 ((⟨0, 0, 0, 0⟩ : Nm)))), (w.heap.size + 1, (c4 (b))), (w.heap.size, (c4 (a)))]) := s0.out.al (c4 ((⟨0, 0, 0, 0⟩ : Nm))) 24 (by simp)
  have b1 : Hid (Below w.heap.size w (kal4 (kal4 (kal4 w (a)) (b)) ((⟨0, 0, 0, 0⟩ : Nm)))) := b0.out.alloc b0.out.size _
  have z1 := b0.out.size
  clear s0 b0
  go_wp2_with fail
  refine wp_region_up (by kernel_rfl) (by kernel_rfl) (fun U hU f hf hcl => ?_)
  have ua_0 := fun nx => (Kn.get (s1.out.up (hf nx).out) 2 0 rfl rfl : (f nx).cell? ⟨w.heap.size, 0, none⟩ = some (.int .u64 (a).a))
  have ua_1 := fun nx => (Kn.get (s1.out.up (hf nx).out) 2 1 rfl rfl : (f nx).cell? ⟨w.heap.size, 1, none⟩ = some (.int .u64 (a).b))
  have ua_2 := fun nx => (Kn.get (s1.out.up (hf nx).out) 2 2 rfl rfl : (f nx).cell? ⟨w.heap.size, 2, none⟩ = some (.int .u64 (a).c))
  have ua_3 := fun nx => (Kn.get (s1.out.up (hf nx).out) 2 3 rfl rfl : (f nx).cell? ⟨w.heap.size, 3, none⟩ = some (.int .u64 (a).d))
  have ub_0 := fun nx => (Kn.get (s1.out.up (hf nx).out) 1 0 rfl rfl : (f nx).cell? ⟨w.heap.size + 1, 0, none⟩ = some (.int .u64 (b).a))
  have ub_1 := fun nx => (Kn.get (s1.out.up (hf nx).out) 1 1 rfl rfl : (f nx).cell? ⟨w.heap.size + 1, 1, none⟩ = some (.int .u64 (b).b))
  have ub_2 := fun nx => (Kn.get (s1.out.up (hf nx).out) 1 2 rfl rfl : (f nx).cell? ⟨w.heap.size + 1, 2, none⟩ = some (.int .u64 (b).c))
  have ub_3 := fun nx => (Kn.get (s1.out.up (hf nx).out) 1 3 rfl rfl : (f nx).cell? ⟨w.heap.size + 1, 3, none⟩ = some (.int .u64 (b).d))
  have unone_0 := fun nx => (Kn.get (s1.out.up (hf nx).out) 0 0 rfl rfl : (f nx).cell? ⟨w.heap.size + 1 + 1, 0, none⟩ = some (.int .u64 ((⟨0, 0, 0, 0⟩ : Nm)).a))
  have unone_1 := fun nx => (Kn.get (s1.out.up (hf nx).out) 0 1 rfl rfl : (f nx).cell? ⟨w.heap.size + 1 + 1, 1, none⟩ = some (.int .u64 ((⟨0, 0, 0, 0⟩ : Nm)).b))
  have unone_2 := fun nx => (Kn.get (s1.out.up (hf nx).out) 0 2 rfl rfl : (f nx).cell? ⟨w.heap.size + 1 + 1, 2, none⟩ = some (.int .u64 ((⟨0, 0, 0, 0⟩ : Nm)).c))
  have unone_3 := fun nx => (Kn.get (s1.out.up (hf nx).out) 0 3 rfl rfl : (f nx).cell? ⟨w.heap.size + 1 + 1, 3, none⟩ = some (.int .u64 ((⟨0, 0, 0, 0⟩ : Nm)).d))
  try simp only [List.append_eq, List.cons_append, List.nil_append]
  repeat (go_big_quiet_step (first | (go_at_call_of 15 [Value.agg #[Value.int IntKind.u64 a.a, Value.int IntKind.u64 a.b, Value.int IntKind.u64 a.c, Value.int IntKind.u64 a.d]]; exact (L1 _).mono fun e w'' ⟨he, hb⟩ => ⟨he, hcl.out _ _ hb⟩) | (go_at_call_of 15 [Value.agg #[Value.int IntKind.u64 b.a, Value.int IntKind.u64 b.b, Value.int IntKind.u64 b.c, Value.int IntKind.u64 b.d]]; exact (L2 _).mono fun e w'' ⟨he, hb⟩ => ⟨he, hcl.out _ _ hb⟩)))
  refine wpQuiet_nil ?_
  intro nx
  have hb2 := (hf nx).out
  clear hf hcl ua_0 ua_1 ua_2 ua_3 ub_0 ub_1 ub_2 ub_3 unone_0 unone_1 unone_2 unone_3
  generalize f nx = w2 at hb2 ⊢
  have s2 : Hid (Kn w2 [(w.heap.size + 1 + 1, (c4 ((⟨0, 0, 0, 0⟩ : Nm)))), (w.heap.size + 1, (c4 (b))), (w.heap.size, (c4 (a)))]) := s1.out.up hb2
  have b2 : Hid (Below w.heap.size w w2) := b1.out.trans (hb2.mono b1.out.size)
  have z2 := b2.out.size
  clear hb2 s1 b1
  have ua_0 : w2.cell? ⟨w.heap.size, 0, none⟩ = some (.int .u64 (a).a) := Kn.get s2.out 2 0 rfl rfl
  have ua_1 : w2.cell? ⟨w.heap.size, 1, none⟩ = some (.int .u64 (a).b) := Kn.get s2.out 2 1 rfl rfl
  have ua_2 : w2.cell? ⟨w.heap.size, 2, none⟩ = some (.int .u64 (a).c) := Kn.get s2.out 2 2 rfl rfl
  have ua_3 : w2.cell? ⟨w.heap.size, 3, none⟩ = some (.int .u64 (a).d) := Kn.get s2.out 2 3 rfl rfl
  go_wp2_with fail
  clear ua_0 ua_1 ua_2 ua_3
  refine (S1 _).mono ?_
  rintro e w3 ⟨rfl, hb3⟩
  have s3 : Hid (Kn w3 [(w.heap.size + 1 + 1, (c4 ((⟨0, 0, 0, 0⟩ : Nm)))), (w.heap.size + 1, (c4 (b))), (w.heap.size, (c4 (a)))]) := s2.out.up hb3
  have b3 : Hid (Below w.heap.size w w3) := b2.out.trans (hb3.mono b2.out.size)
  have z3 := b3.out.size
  clear hb3 s2 b2
  have s4 : Hid (Kn (kal4 w3 (r1)) [(w3.heap.size, (c4 (r1))), (w.heap.size + 1 + 1, (c4 ((⟨0, 0, 0, 0⟩ : Nm)))), (w.heap.size + 1, (c4 (b))), (w.heap.size, (c4 (a)))]) := s3.out.al (c4 (r1)) 24 rfl
  have b4 : Hid (Below w.heap.size w (kal4 w3 (r1))) := b3.out.alloc b3.out.size _
  have z4 := b3.out.size
  clear s3 b3
  have ua_0 : (kal4 w3 (r1)).cell? ⟨w.heap.size, 0, none⟩ = some (.int .u64 (a).a) := Kn.get s4.out 3 0 rfl rfl
  have ua_1 : (kal4 w3 (r1)).cell? ⟨w.heap.size, 1, none⟩ = some (.int .u64 (a).b) := Kn.get s4.out 3 1 rfl rfl
  have ua_2 : (kal4 w3 (r1)).cell? ⟨w.heap.size, 2, none⟩ = some (.int .u64 (a).c) := Kn.get s4.out 3 2 rfl rfl
  have ua_3 : (kal4 w3 (r1)).cell? ⟨w.heap.size, 3, none⟩ = some (.int .u64 (a).d) := Kn.get s4.out 3 3 rfl rfl
  go_wp2_with fail
  clear ua_0 ua_1 ua_2 ua_3
  refine (A1 _).mono ?_
  rintro e w5 ⟨rfl, hb5⟩
  have s5 : Hid (Kn w5 [(w3.heap.size, (c4 (r1))), (w.heap.size + 1 + 1, (c4 ((⟨0, 0, 0, 0⟩ : Nm)))), (w.heap.size + 1, (c4 (b))), (w.heap.size, (c4 (a)))]) := s4.out.up hb5
  have b5 : Hid (Below w.heap.size w w5) := b4.out.trans (hb5.mono b4.out.size)
  have z5 := b5.out.size
  clear hb5 s4 b4
  go_wp2_with fail
  refine (S2 _).mono ?_
  rintro e w6 ⟨rfl, hb6⟩
  have s6 : Hid (Kn w6 [(w3.heap.size, (c4 (r1))), (w.heap.size + 1 + 1, (c4 ((⟨0, 0, 0, 0⟩ : Nm)))), (w.heap.size + 1, (c4 (b))), (w.heap.size, (c4 (a)))]) := s5.out.up hb6
  have b6 : Hid (Below w.heap.size w w6) := b5.out.trans (hb6.mono b5.out.size)
  have z6 := b6.out.size
  clear hb6 s5 b5
  have s7 : Hid (Kn (kal4 w6 (r2)) [(w6.heap.size, (c4 (r2))), (w3.heap.size, (c4 (r1))), (w.heap.size + 1 + 1, (c4 ((⟨0, 0, 0, 0⟩ : Nm)))), (w.heap.size + 1, (c4 (b))), (w.heap.size, (c4 (a)))]) := s6.out.al (c4 (r2)) 24 rfl
  have b7 : Hid (Below w.heap.size w (kal4 w6 (r2))) := b6.out.alloc b6.out.size _
  have z7 := b6.out.size
  clear s6 b6
  have ub_0 : (kal4 w6 (r2)).cell? ⟨w.heap.size + 1, 0, none⟩ = some (.int .u64 (b).a) := Kn.get s7.out 3 0 rfl rfl
  have ub_1 : (kal4 w6 (r2)).cell? ⟨w.heap.size + 1, 1, none⟩ = some (.int .u64 (b).b) := Kn.get s7.out 3 1 rfl rfl
  have ub_2 : (kal4 w6 (r2)).cell? ⟨w.heap.size + 1, 2, none⟩ = some (.int .u64 (b).c) := Kn.get s7.out 3 2 rfl rfl
  have ub_3 : (kal4 w6 (r2)).cell? ⟨w.heap.size + 1, 3, none⟩ = some (.int .u64 (b).d) := Kn.get s7.out 3 3 rfl rfl
  go_wp2_with fail
  clear ub_0 ub_1 ub_2 ub_3
  refine (S3 _).mono ?_
  rintro e w8 ⟨rfl, hb8⟩
  have s8 : Hid (Kn w8 [(w6.heap.size, (c4 (r2))), (w3.heap.size, (c4 (r1))), (w.heap.size + 1 + 1, (c4 ((⟨0, 0, 0, 0⟩ : Nm)))), (w.heap.size + 1, (c4 (b))), (w.heap.size, (c4 (a)))]) := s7.out.up hb8
  have b8 : Hid (Below w.heap.size w w8) := b7.out.trans (hb8.mono b7.out.size)
  have z8 := b8.out.size
  clear hb8 s7 b7
  have s9 : Hid (Kn (kal4 w8 (r3)) [(w8.heap.size, (c4 (r3))), (w6.heap.size, (c4 (r2))), (w3.heap.size, (c4 (r1))), (w.heap.size + 1 + 1, (c4 ((⟨0, 0, 0, 0⟩ : Nm)))), (w.heap.size + 1, (c4 (b))), (w.heap.size, (c4 (a)))]) := s8.out.al (c4 (r3)) 24 rfl
  have b9 : Hid (Below w.heap.size w (kal4 w8 (r3))) := b8.out.alloc b8.out.size _
  have z9 := b8.out.size
  clear s8 b8
  have ua_0 : (kal4 w8 (r3)).cell? ⟨w.heap.size, 0, none⟩ = some (.int .u64 (a).a) := Kn.get s9.out 5 0 rfl rfl
  have ua_1 : (kal4 w8 (r3)).cell? ⟨w.heap.size, 1, none⟩ = some (.int .u64 (a).b) := Kn.get s9.out 5 1 rfl rfl
  have ua_2 : (kal4 w8 (r3)).cell? ⟨w.heap.size, 2, none⟩ = some (.int .u64 (a).c) := Kn.get s9.out 5 2 rfl rfl
  have ua_3 : (kal4 w8 (r3)).cell? ⟨w.heap.size, 3, none⟩ = some (.int .u64 (a).d) := Kn.get s9.out 5 3 rfl rfl
  have ub_0 : (kal4 w8 (r3)).cell? ⟨w.heap.size + 1, 0, none⟩ = some (.int .u64 (b).a) := Kn.get s9.out 4 0 rfl rfl
  have ub_1 : (kal4 w8 (r3)).cell? ⟨w.heap.size + 1, 1, none⟩ = some (.int .u64 (b).b) := Kn.get s9.out 4 1 rfl rfl
  have ub_2 : (kal4 w8 (r3)).cell? ⟨w.heap.size + 1, 2, none⟩ = some (.int .u64 (b).c) := Kn.get s9.out 4 2 rfl rfl
  have ub_3 : (kal4 w8 (r3)).cell? ⟨w.heap.size + 1, 3, none⟩ = some (.int .u64 (b).d) := Kn.get s9.out 4 3 rfl rfl
  go_wp2_with fail
  clear ua_0 ua_1 ua_2 ua_3 ub_0 ub_1 ub_2 ub_3
  refine (M1 _).mono ?_
  rintro e w10 ⟨rfl, hb10⟩
  have s10 : Hid (Kn w10 [(w8.heap.size, (c4 (r3))), (w6.heap.size, (c4 (r2))), (w3.heap.size, (c4 (r1))), (w.heap.size + 1 + 1, (c4 ((⟨0, 0, 0, 0⟩ : Nm)))), (w.heap.size + 1, (c4 (b))), (w.heap.size, (c4 (a)))]) := s9.out.up hb10
  have b10 : Hid (Below w.heap.size w w10) := b9.out.trans (hb10.mono b9.out.size)
  have z10 := b10.out.size
  clear hb10 s9 b9
  go_wp2_with fail
  refine (S4 _).mono ?_
  rintro e w11 ⟨rfl, hb11⟩
  have s11 : Hid (Kn w11 [(w8.heap.size, (c4 (r3))), (w6.heap.size, (c4 (r2))), (w3.heap.size, (c4 (r1))), (w.heap.size + 1 + 1, (c4 ((⟨0, 0, 0, 0⟩ : Nm)))), (w.heap.size + 1, (c4 (b))), (w.heap.size, (c4 (a)))]) := s10.out.up hb11
  have b11 : Hid (Below w.heap.size w w11) := b10.out.trans (hb11.mono b10.out.size)
  have z11 := b11.out.size
  clear hb11 s10 b10
  have s12 : Hid (Kn (kal4 w11 (r4)) [(w11.heap.size, (c4 (r4))), (w8.heap.size, (c4 (r3))), (w6.heap.size, (c4 (r2))), (w3.heap.size, (c4 (r1))), (w.heap.size + 1 + 1, (c4 ((⟨0, 0, 0, 0⟩ : Nm)))), (w.heap.size + 1, (c4 (b))), (w.heap.size, (c4 (a)))]) := s11.out.al (c4 (r4)) 24 rfl
  have b12 : Hid (Below w.heap.size w (kal4 w11 (r4))) := b11.out.alloc b11.out.size _
  have z12 := b11.out.size
  clear s11 b11
  go_wp2_with fail
  go_ret
  exact ⟨rfl, b12.out⟩
set_option maxHeartbeats 2000000 in
theorem fieldEuler_6 (a b la lb s m r1 r2 r3 r4 : Nm) (e0 : ∀ w, (binOp .eql 24 (N la) (N ⟨0, 0, 0, 0⟩)).run Try.prog w = .ok (.bool false) w) (e1 : ∀ w, (binOp .eql 24 (N lb) (N ⟨0, 0, 0, 0⟩)).run Try.prog w = .ok (.bool false) w)
    (L1 : ∀ w, Calls Try.prog 15 #[N a] w fun e w' => e = .returned (N la) ∧ Below w.heap.size w w')
    (L2 : ∀ w, Calls Try.prog 15 #[N b] w fun e w' => e = .returned (N lb) ∧ Below w.heap.size w w')
    (S1 : ∀ w, Calls Try.prog 10 #[N a] w fun e w' => e = .returned (.tuple #[N r1, .bool false]) ∧ Below w.heap.size w w')
    (A1 : ∀ w, Calls Try.prog 17 #[N a, N a] w fun e w' => e = .returned (N s) ∧ Below w.heap.size w w')
    (S2 : ∀ w, Calls Try.prog 10 #[N s] w fun e w' => e = .returned (.tuple #[N r2, .bool true]) ∧ Below w.heap.size w w')
    (S3 : ∀ w, Calls Try.prog 10 #[N b] w fun e w' => e = .returned (.tuple #[N r3, .bool false]) ∧ Below w.heap.size w w')
    (M1 : ∀ w, Calls Try.prog 21 #[N a, N b] w fun e w' => e = .returned (N m) ∧ Below w.heap.size w w')
    (S4 : ∀ w, Calls Try.prog 10 #[N m] w fun e w' => e = .returned (.tuple #[N r4, .bool true]) ∧ Below w.heap.size w w')
    (w : World) :
    Calls Try.prog 8 #[N a, N b] w fun e w' => e = .returned (.bool true) ∧ Below w.heap.size w w' := by
  go_enter Try.func8, Try.ntmps8
  have s0 : Hid (Kn (kal4 (kal4 w (a)) (b)) [(w.heap.size + 1, (c4 (b))), (w.heap.size, (c4 (a)))]) := (((Kn.nil w).al (c4 (a)) 24 rfl).al (c4 (b)) 24 (by simp))
  have b0 : Hid (Below w.heap.size w (kal4 (kal4 w (a)) (b))) := (((Below.refl _ _).alloc (Nat.le_refl _) _).alloc (by simp <;> omega) _)
  go_wp2_with fail
  have s1 : Hid (Kn (kal4 (kal4 (kal4 w (a)) (b)) ((⟨0, 0, 0, 0⟩ : Nm))) [(w.heap.size + 1 + 1, (c4 ((⟨0, 0, 0, 0⟩ : Nm)))), (w.heap.size + 1, (c4 (b))), (w.heap.size, (c4 (a)))]) := s0.out.al (c4 ((⟨0, 0, 0, 0⟩ : Nm))) 24 (by simp)
  have b1 : Hid (Below w.heap.size w (kal4 (kal4 (kal4 w (a)) (b)) ((⟨0, 0, 0, 0⟩ : Nm)))) := b0.out.alloc b0.out.size _
  have z1 := b0.out.size
  clear s0 b0
  go_wp2_with fail
  refine wp_region_up (by kernel_rfl) (by kernel_rfl) (fun U hU f hf hcl => ?_)
  have ua_0 := fun nx => (Kn.get (s1.out.up (hf nx).out) 2 0 rfl rfl : (f nx).cell? ⟨w.heap.size, 0, none⟩ = some (.int .u64 (a).a))
  have ua_1 := fun nx => (Kn.get (s1.out.up (hf nx).out) 2 1 rfl rfl : (f nx).cell? ⟨w.heap.size, 1, none⟩ = some (.int .u64 (a).b))
  have ua_2 := fun nx => (Kn.get (s1.out.up (hf nx).out) 2 2 rfl rfl : (f nx).cell? ⟨w.heap.size, 2, none⟩ = some (.int .u64 (a).c))
  have ua_3 := fun nx => (Kn.get (s1.out.up (hf nx).out) 2 3 rfl rfl : (f nx).cell? ⟨w.heap.size, 3, none⟩ = some (.int .u64 (a).d))
  have ub_0 := fun nx => (Kn.get (s1.out.up (hf nx).out) 1 0 rfl rfl : (f nx).cell? ⟨w.heap.size + 1, 0, none⟩ = some (.int .u64 (b).a))
  have ub_1 := fun nx => (Kn.get (s1.out.up (hf nx).out) 1 1 rfl rfl : (f nx).cell? ⟨w.heap.size + 1, 1, none⟩ = some (.int .u64 (b).b))
  have ub_2 := fun nx => (Kn.get (s1.out.up (hf nx).out) 1 2 rfl rfl : (f nx).cell? ⟨w.heap.size + 1, 2, none⟩ = some (.int .u64 (b).c))
  have ub_3 := fun nx => (Kn.get (s1.out.up (hf nx).out) 1 3 rfl rfl : (f nx).cell? ⟨w.heap.size + 1, 3, none⟩ = some (.int .u64 (b).d))
  have unone_0 := fun nx => (Kn.get (s1.out.up (hf nx).out) 0 0 rfl rfl : (f nx).cell? ⟨w.heap.size + 1 + 1, 0, none⟩ = some (.int .u64 ((⟨0, 0, 0, 0⟩ : Nm)).a))
  have unone_1 := fun nx => (Kn.get (s1.out.up (hf nx).out) 0 1 rfl rfl : (f nx).cell? ⟨w.heap.size + 1 + 1, 1, none⟩ = some (.int .u64 ((⟨0, 0, 0, 0⟩ : Nm)).b))
  have unone_2 := fun nx => (Kn.get (s1.out.up (hf nx).out) 0 2 rfl rfl : (f nx).cell? ⟨w.heap.size + 1 + 1, 2, none⟩ = some (.int .u64 ((⟨0, 0, 0, 0⟩ : Nm)).c))
  have unone_3 := fun nx => (Kn.get (s1.out.up (hf nx).out) 0 3 rfl rfl : (f nx).cell? ⟨w.heap.size + 1 + 1, 3, none⟩ = some (.int .u64 ((⟨0, 0, 0, 0⟩ : Nm)).d))
  try simp only [List.append_eq, List.cons_append, List.nil_append]
  repeat (go_big_quiet_step (first | (go_at_call_of 15 [Value.agg #[Value.int IntKind.u64 a.a, Value.int IntKind.u64 a.b, Value.int IntKind.u64 a.c, Value.int IntKind.u64 a.d]]; exact (L1 _).mono fun e w'' ⟨he, hb⟩ => ⟨he, hcl.out _ _ hb⟩) | (go_at_call_of 15 [Value.agg #[Value.int IntKind.u64 b.a, Value.int IntKind.u64 b.b, Value.int IntKind.u64 b.c, Value.int IntKind.u64 b.d]]; exact (L2 _).mono fun e w'' ⟨he, hb⟩ => ⟨he, hcl.out _ _ hb⟩)))
  refine wpQuiet_nil ?_
  intro nx
  have hb2 := (hf nx).out
  clear hf hcl ua_0 ua_1 ua_2 ua_3 ub_0 ub_1 ub_2 ub_3 unone_0 unone_1 unone_2 unone_3
  generalize f nx = w2 at hb2 ⊢
  have s2 : Hid (Kn w2 [(w.heap.size + 1 + 1, (c4 ((⟨0, 0, 0, 0⟩ : Nm)))), (w.heap.size + 1, (c4 (b))), (w.heap.size, (c4 (a)))]) := s1.out.up hb2
  have b2 : Hid (Below w.heap.size w w2) := b1.out.trans (hb2.mono b1.out.size)
  have z2 := b2.out.size
  clear hb2 s1 b1
  have ua_0 : w2.cell? ⟨w.heap.size, 0, none⟩ = some (.int .u64 (a).a) := Kn.get s2.out 2 0 rfl rfl
  have ua_1 : w2.cell? ⟨w.heap.size, 1, none⟩ = some (.int .u64 (a).b) := Kn.get s2.out 2 1 rfl rfl
  have ua_2 : w2.cell? ⟨w.heap.size, 2, none⟩ = some (.int .u64 (a).c) := Kn.get s2.out 2 2 rfl rfl
  have ua_3 : w2.cell? ⟨w.heap.size, 3, none⟩ = some (.int .u64 (a).d) := Kn.get s2.out 2 3 rfl rfl
  go_wp2_with fail
  clear ua_0 ua_1 ua_2 ua_3
  refine (S1 _).mono ?_
  rintro e w3 ⟨rfl, hb3⟩
  have s3 : Hid (Kn w3 [(w.heap.size + 1 + 1, (c4 ((⟨0, 0, 0, 0⟩ : Nm)))), (w.heap.size + 1, (c4 (b))), (w.heap.size, (c4 (a)))]) := s2.out.up hb3
  have b3 : Hid (Below w.heap.size w w3) := b2.out.trans (hb3.mono b2.out.size)
  have z3 := b3.out.size
  clear hb3 s2 b2
  have s4 : Hid (Kn (kal4 w3 (r1)) [(w3.heap.size, (c4 (r1))), (w.heap.size + 1 + 1, (c4 ((⟨0, 0, 0, 0⟩ : Nm)))), (w.heap.size + 1, (c4 (b))), (w.heap.size, (c4 (a)))]) := s3.out.al (c4 (r1)) 24 rfl
  have b4 : Hid (Below w.heap.size w (kal4 w3 (r1))) := b3.out.alloc b3.out.size _
  have z4 := b3.out.size
  clear s3 b3
  have ua_0 : (kal4 w3 (r1)).cell? ⟨w.heap.size, 0, none⟩ = some (.int .u64 (a).a) := Kn.get s4.out 3 0 rfl rfl
  have ua_1 : (kal4 w3 (r1)).cell? ⟨w.heap.size, 1, none⟩ = some (.int .u64 (a).b) := Kn.get s4.out 3 1 rfl rfl
  have ua_2 : (kal4 w3 (r1)).cell? ⟨w.heap.size, 2, none⟩ = some (.int .u64 (a).c) := Kn.get s4.out 3 2 rfl rfl
  have ua_3 : (kal4 w3 (r1)).cell? ⟨w.heap.size, 3, none⟩ = some (.int .u64 (a).d) := Kn.get s4.out 3 3 rfl rfl
  go_wp2_with fail
  clear ua_0 ua_1 ua_2 ua_3
  refine (A1 _).mono ?_
  rintro e w5 ⟨rfl, hb5⟩
  have s5 : Hid (Kn w5 [(w3.heap.size, (c4 (r1))), (w.heap.size + 1 + 1, (c4 ((⟨0, 0, 0, 0⟩ : Nm)))), (w.heap.size + 1, (c4 (b))), (w.heap.size, (c4 (a)))]) := s4.out.up hb5
  have b5 : Hid (Below w.heap.size w w5) := b4.out.trans (hb5.mono b4.out.size)
  have z5 := b5.out.size
  clear hb5 s4 b4
  go_wp2_with fail
  refine (S2 _).mono ?_
  rintro e w6 ⟨rfl, hb6⟩
  have s6 : Hid (Kn w6 [(w3.heap.size, (c4 (r1))), (w.heap.size + 1 + 1, (c4 ((⟨0, 0, 0, 0⟩ : Nm)))), (w.heap.size + 1, (c4 (b))), (w.heap.size, (c4 (a)))]) := s5.out.up hb6
  have b6 : Hid (Below w.heap.size w w6) := b5.out.trans (hb6.mono b5.out.size)
  have z6 := b6.out.size
  clear hb6 s5 b5
  have s7 : Hid (Kn (kal4 w6 (r2)) [(w6.heap.size, (c4 (r2))), (w3.heap.size, (c4 (r1))), (w.heap.size + 1 + 1, (c4 ((⟨0, 0, 0, 0⟩ : Nm)))), (w.heap.size + 1, (c4 (b))), (w.heap.size, (c4 (a)))]) := s6.out.al (c4 (r2)) 24 rfl
  have b7 : Hid (Below w.heap.size w (kal4 w6 (r2))) := b6.out.alloc b6.out.size _
  have z7 := b6.out.size
  clear s6 b6
  have ub_0 : (kal4 w6 (r2)).cell? ⟨w.heap.size + 1, 0, none⟩ = some (.int .u64 (b).a) := Kn.get s7.out 3 0 rfl rfl
  have ub_1 : (kal4 w6 (r2)).cell? ⟨w.heap.size + 1, 1, none⟩ = some (.int .u64 (b).b) := Kn.get s7.out 3 1 rfl rfl
  have ub_2 : (kal4 w6 (r2)).cell? ⟨w.heap.size + 1, 2, none⟩ = some (.int .u64 (b).c) := Kn.get s7.out 3 2 rfl rfl
  have ub_3 : (kal4 w6 (r2)).cell? ⟨w.heap.size + 1, 3, none⟩ = some (.int .u64 (b).d) := Kn.get s7.out 3 3 rfl rfl
  go_wp2_with fail
  clear ub_0 ub_1 ub_2 ub_3
  refine (S3 _).mono ?_
  rintro e w8 ⟨rfl, hb8⟩
  have s8 : Hid (Kn w8 [(w6.heap.size, (c4 (r2))), (w3.heap.size, (c4 (r1))), (w.heap.size + 1 + 1, (c4 ((⟨0, 0, 0, 0⟩ : Nm)))), (w.heap.size + 1, (c4 (b))), (w.heap.size, (c4 (a)))]) := s7.out.up hb8
  have b8 : Hid (Below w.heap.size w w8) := b7.out.trans (hb8.mono b7.out.size)
  have z8 := b8.out.size
  clear hb8 s7 b7
  have s9 : Hid (Kn (kal4 w8 (r3)) [(w8.heap.size, (c4 (r3))), (w6.heap.size, (c4 (r2))), (w3.heap.size, (c4 (r1))), (w.heap.size + 1 + 1, (c4 ((⟨0, 0, 0, 0⟩ : Nm)))), (w.heap.size + 1, (c4 (b))), (w.heap.size, (c4 (a)))]) := s8.out.al (c4 (r3)) 24 rfl
  have b9 : Hid (Below w.heap.size w (kal4 w8 (r3))) := b8.out.alloc b8.out.size _
  have z9 := b8.out.size
  clear s8 b8
  have ua_0 : (kal4 w8 (r3)).cell? ⟨w.heap.size, 0, none⟩ = some (.int .u64 (a).a) := Kn.get s9.out 5 0 rfl rfl
  have ua_1 : (kal4 w8 (r3)).cell? ⟨w.heap.size, 1, none⟩ = some (.int .u64 (a).b) := Kn.get s9.out 5 1 rfl rfl
  have ua_2 : (kal4 w8 (r3)).cell? ⟨w.heap.size, 2, none⟩ = some (.int .u64 (a).c) := Kn.get s9.out 5 2 rfl rfl
  have ua_3 : (kal4 w8 (r3)).cell? ⟨w.heap.size, 3, none⟩ = some (.int .u64 (a).d) := Kn.get s9.out 5 3 rfl rfl
  have ub_0 : (kal4 w8 (r3)).cell? ⟨w.heap.size + 1, 0, none⟩ = some (.int .u64 (b).a) := Kn.get s9.out 4 0 rfl rfl
  have ub_1 : (kal4 w8 (r3)).cell? ⟨w.heap.size + 1, 1, none⟩ = some (.int .u64 (b).b) := Kn.get s9.out 4 1 rfl rfl
  have ub_2 : (kal4 w8 (r3)).cell? ⟨w.heap.size + 1, 2, none⟩ = some (.int .u64 (b).c) := Kn.get s9.out 4 2 rfl rfl
  have ub_3 : (kal4 w8 (r3)).cell? ⟨w.heap.size + 1, 3, none⟩ = some (.int .u64 (b).d) := Kn.get s9.out 4 3 rfl rfl
  go_wp2_with fail
  clear ua_0 ua_1 ua_2 ua_3 ub_0 ub_1 ub_2 ub_3
  refine (M1 _).mono ?_
  rintro e w10 ⟨rfl, hb10⟩
  have s10 : Hid (Kn w10 [(w8.heap.size, (c4 (r3))), (w6.heap.size, (c4 (r2))), (w3.heap.size, (c4 (r1))), (w.heap.size + 1 + 1, (c4 ((⟨0, 0, 0, 0⟩ : Nm)))), (w.heap.size + 1, (c4 (b))), (w.heap.size, (c4 (a)))]) := s9.out.up hb10
  have b10 : Hid (Below w.heap.size w w10) := b9.out.trans (hb10.mono b9.out.size)
  have z10 := b10.out.size
  clear hb10 s9 b9
  go_wp2_with fail
  refine (S4 _).mono ?_
  rintro e w11 ⟨rfl, hb11⟩
  have s11 : Hid (Kn w11 [(w8.heap.size, (c4 (r3))), (w6.heap.size, (c4 (r2))), (w3.heap.size, (c4 (r1))), (w.heap.size + 1 + 1, (c4 ((⟨0, 0, 0, 0⟩ : Nm)))), (w.heap.size + 1, (c4 (b))), (w.heap.size, (c4 (a)))]) := s10.out.up hb11
  have b11 : Hid (Below w.heap.size w w11) := b10.out.trans (hb11.mono b10.out.size)
  have z11 := b11.out.size
  clear hb11 s10 b10
  have s12 : Hid (Kn (kal4 w11 (r4)) [(w11.heap.size, (c4 (r4))), (w8.heap.size, (c4 (r3))), (w6.heap.size, (c4 (r2))), (w3.heap.size, (c4 (r1))), (w.heap.size + 1 + 1, (c4 ((⟨0, 0, 0, 0⟩ : Nm)))), (w.heap.size + 1, (c4 (b))), (w.heap.size, (c4 (a)))]) := s11.out.al (c4 (r4)) 24 rfl
  have b12 : Hid (Below w.heap.size w (kal4 w11 (r4))) := b11.out.alloc b11.out.size _
  have z12 := b11.out.size
  clear s11 b11
  go_wp2_with fail
  go_ret
  exact ⟨rfl, b12.out⟩
theorem fieldEuler_of (FA : FAddC) (FM : FMulC) (FL : FLowC) (FS : FSqrtC) (a b : Nm) (oa : a.ok) (ob : b.ok) (w : World) :
    Calls Try.prog 8 #[N a, N b] w fun e w' => e = .returned (.bool true) ∧ Below w.heap.size w w' := by
  have L1 := FL a oa
  have L2 := FL b ob
  have M1 := FM a b oa ob
  have S4 := FS (nm (F.mul a.nat b.nat)) (nm_ok _)
  rw [f_nat (F.mul_lt _ _)] at S4
  have ez := eqN ⟨0, 0, 0, 0⟩ ⟨0, 0, 0, 0⟩
  rw [Nm.beq_self] at ez
  by_cases ha : a.nat % F.p = 0
  · rw [ha] at L1
    rw [F.ok_zero (a := F.mul a.nat b.nat) (by rw [(F.mul_zero_iff _ _).2 (.inl ha)]; rfl)] at S4
    exact fieldEuler_1 a b _ _ ez L1 M1 S4 w
  have e0 := eqN (nm (a.nat % F.p)) ⟨0, 0, 0, 0⟩
  rw [Nm.beq_ne fun e => ha ((f_zero (F.mod_lt _)).1 e)] at e0
  by_cases hb : b.nat % F.p = 0
  · rw [hb] at L2
    rw [F.ok_zero (a := F.mul a.nat b.nat) (by rw [(F.mul_zero_iff _ _).2 (.inr hb)]; rfl)] at S4
    exact fieldEuler_2 a b _ _ _ e0 ez L1 L2 M1 S4 w
  have e1 := eqN (nm (b.nat % F.p)) ⟨0, 0, 0, 0⟩
  rw [Nm.beq_ne fun e => hb ((f_zero (F.mod_lt _)).1 e)] at e1
  have S1 := FS a oa
  have A1 := FA a a oa oa
  have S2 := FS (nm (F.add a.nat a.nat)) (nm_ok _)
  rw [f_nat (F.add_lt _ _), F.ok_twice ha] at S2
  have S3 := FS b ob
  rw [F.ok_mul ha hb] at S4
  cases hx : F.ok a.nat <;> cases hz : F.ok b.nat <;> rw [hx] at S1 S2 S4 <;> rw [hz] at S3 S4
  · exact fieldEuler_6 a b _ _ _ _ _ _ _ _ e0 e1 L1 L2 S1 A1 S2 S3 M1 S4 w
  · exact fieldEuler_5 a b _ _ _ _ _ _ _ _ e0 e1 L1 L2 S1 A1 S2 S3 M1 S4 w
  · exact fieldEuler_4 a b _ _ _ _ _ _ _ _ e0 e1 L1 L2 S1 A1 S2 S3 M1 S4 w
  · exact fieldEuler_3 a b _ _ _ _ _ _ _ _ e0 e1 L1 L2 S1 A1 S2 S3 M1 S4 w
end Go.Proofs.Ytmajielbbajdhaa
