/- ScalarLaws, out of what package scalar must keep. -/
import Derived.Test.YtjcnfffmciahiaaScC
import Derived.Test.YtjcnfffmciahiaaCmp
import Derived.Test.YtjcnfffmciahiaaUpV
namespace Go.Proofs.Ytjcnfffmciahiaa
open Go.RowKit
attribute [local go_sem] World.cell?_alloc_some cell_alloc2 cell_alloc3 cell_alloc4 frozen?_alloc_cells frozen_out
set_option linter.unusedSimpArgs false
set_option maxHeartbeats 4000000 in
theorem scLaws_zero (a b c lm ab abc bc mab mabc mbc mac mm ng : Nm) (ne : ∀ x w, (binOp .neq 24 (N x) (N x)).run Try.prog w = .ok (.bool false) w) (eq : ∀ w, (binOp .eql 24 (N ⟨0, 0, 0, 0⟩) (N ⟨0, 0, 0, 0⟩)).run Try.prog w = .ok (.bool true) w)
    (S1 : ∀ w, Calls Try.prog 12 #[N a] w fun e w' => e = .returned (N ⟨0,0,0,0⟩) ∧ Below w.heap.size w w')
    (S2 : ∀ w, Calls Try.prog 10 #[] w fun e w' => e = .returned (N lm) ∧ Below w.heap.size w w')
    (C1 : ∀ w, Calls Try.prog 14 #[N ⟨0,0,0,0⟩, N lm] w fun e w' => e = .returned (.int .i64 (-1)) ∧ Below w.heap.size w w')
    (A1 : ∀ w, Calls Try.prog 15 #[N a, N b] w fun e w' => e = .returned (N ab) ∧ Below w.heap.size w w')
    (A2 : ∀ w, Calls Try.prog 15 #[N b, N a] w fun e w' => e = .returned (N ab) ∧ Below w.heap.size w w')
    (A3 : ∀ w, Calls Try.prog 15 #[N ab, N c] w fun e w' => e = .returned (N abc) ∧ Below w.heap.size w w')
    (A4 : ∀ w, Calls Try.prog 15 #[N b, N c] w fun e w' => e = .returned (N bc) ∧ Below w.heap.size w w')
    (A5 : ∀ w, Calls Try.prog 15 #[N a, N bc] w fun e w' => e = .returned (N abc) ∧ Below w.heap.size w w')
    (M1 : ∀ w, Calls Try.prog 16 #[N a, N b] w fun e w' => e = .returned (N mab) ∧ Below w.heap.size w w')
    (M2 : ∀ w, Calls Try.prog 16 #[N b, N a] w fun e w' => e = .returned (N mab) ∧ Below w.heap.size w w')
    (M3 : ∀ w, Calls Try.prog 16 #[N mab, N c] w fun e w' => e = .returned (N mabc) ∧ Below w.heap.size w w')
    (M4 : ∀ w, Calls Try.prog 16 #[N b, N c] w fun e w' => e = .returned (N mbc) ∧ Below w.heap.size w w')
    (M5 : ∀ w, Calls Try.prog 16 #[N a, N mbc] w fun e w' => e = .returned (N mabc) ∧ Below w.heap.size w w')
    (M6 : ∀ w, Calls Try.prog 16 #[N a, N bc] w fun e w' => e = .returned (N mm) ∧ Below w.heap.size w w')
    (M7 : ∀ w, Calls Try.prog 16 #[N a, N c] w fun e w' => e = .returned (N mac) ∧ Below w.heap.size w w')
    (A6 : ∀ w, Calls Try.prog 15 #[N mab, N mac] w fun e w' => e = .returned (N mm) ∧ Below w.heap.size w w')
    (N1 : ∀ w, Calls Try.prog 17 #[N a] w fun e w' => e = .returned (N ng) ∧ Below w.heap.size w w')
    (A7 : ∀ w, Calls Try.prog 15 #[N a, N ng] w fun e w' => e = .returned (N ⟨0,0,0,0⟩) ∧ Below w.heap.size w w')
    (I1 : ∀ w, Calls Try.prog 18 #[N a] w fun e w' => e = .returned (N ⟨0,0,0,0⟩) ∧ Below w.heap.size w w')
    (w : World) :
    Calls Try.prog 4 #[N a, N b, N c] w fun e w' => e = .returned (.bool true) ∧ Below w.heap.size w w' := by
  obtain ⟨lo, hlo⟩ : ∃ lo : Nm, Hid (lo = ⟨0, 0, 0, 0⟩) := ⟨_, rfl⟩
  rw [← hlo.out] at S1 C1
  have e1 := eq
  have q1 : ∀ w, (binOp .eql 24 (N lo) (N ⟨0, 0, 0, 0⟩)).run Try.prog w = .ok (.bool true) w := by rw [hlo.out]; exact eq
  go_enter Try.func4, Try.ntmps4
  have s0 : Hid (Kn (kal4 (kal4 (kal4 w (a)) (b)) (c)) [(w.heap.size + 1 + 1, (c4 (c))), (w.heap.size + 1, (c4 (b))), (w.heap.size, (c4 (a)))]) := ((((Kn.nil w).al (c4 (a)) 24 rfl).al (c4 (b)) 24 (by simp)).al (c4 (c)) 24 (by simp))
  have b0 : Hid (Below w.heap.size w (kal4 (kal4 (kal4 w (a)) (b)) (c))) := ((((Below.refl _ _).alloc (Nat.le_refl _) _).alloc (by simp <;> omega) _).alloc (by simp <;> omega) _)
  go_wp2_with fail
  refine (S1 _).mono ?_
  rintro e w1 ⟨rfl, hb1⟩
  have s1 : Hid (Kn w1 [(w.heap.size + 1 + 1, (c4 (c))), (w.heap.size + 1, (c4 (b))), (w.heap.size, (c4 (a)))]) := s0.out.up hb1
  have b1 : Hid (Below w.heap.size w w1) := b0.out.trans (hb1.mono b0.out.size)
  have z1 := b1.out.size
  clear hb1 s0 b0
  have s2 : Hid (Kn (kal4 w1 (lo)) [(w1.heap.size, (c4 (lo))), (w.heap.size + 1 + 1, (c4 (c))), (w.heap.size + 1, (c4 (b))), (w.heap.size, (c4 (a)))]) := s1.out.al (c4 (lo)) 24 rfl
  have b2 : Hid (Below w.heap.size w (kal4 w1 (lo))) := b1.out.alloc b1.out.size _
  have z2 := b1.out.size
  clear s1 b1
  have s3 : Hid (Kn (kal4 (kal4 w1 (lo)) ((⟨0,0,0,0⟩:Nm))) [(w1.heap.size + 1, (c4 ((⟨0,0,0,0⟩:Nm)))), (w1.heap.size, (c4 (lo))), (w.heap.size + 1 + 1, (c4 (c))), (w.heap.size + 1, (c4 (b))), (w.heap.size, (c4 (a)))]) := s2.out.al (c4 ((⟨0,0,0,0⟩:Nm))) 24 (by simp)
  have b3 : Hid (Below w.heap.size w (kal4 (kal4 w1 (lo)) ((⟨0,0,0,0⟩:Nm)))) := b2.out.alloc b2.out.size _
  have z3 := b2.out.size
  clear s2 b2
  go_wp2_with fail
  refine wp_region_up (by kernel_rfl) (by kernel_rfl) (fun U hU f hf hcl => ?_)
  have ulow_0 := fun nx => (Kn.get (s3.out.up (hf nx).out) 1 0 rfl rfl : (f nx).cell? ⟨w1.heap.size, 0, none⟩ = some (.int .u64 (lo).a))
  have ulow_1 := fun nx => (Kn.get (s3.out.up (hf nx).out) 1 1 rfl rfl : (f nx).cell? ⟨w1.heap.size, 1, none⟩ = some (.int .u64 (lo).b))
  have ulow_2 := fun nx => (Kn.get (s3.out.up (hf nx).out) 1 2 rfl rfl : (f nx).cell? ⟨w1.heap.size, 2, none⟩ = some (.int .u64 (lo).c))
  have ulow_3 := fun nx => (Kn.get (s3.out.up (hf nx).out) 1 3 rfl rfl : (f nx).cell? ⟨w1.heap.size, 3, none⟩ = some (.int .u64 (lo).d))
  have ua_0 := fun nx => (Kn.get (s3.out.up (hf nx).out) 4 0 rfl rfl : (f nx).cell? ⟨w.heap.size, 0, none⟩ = some (.int .u64 (a).a))
  have ua_1 := fun nx => (Kn.get (s3.out.up (hf nx).out) 4 1 rfl rfl : (f nx).cell? ⟨w.heap.size, 1, none⟩ = some (.int .u64 (a).b))
  have ua_2 := fun nx => (Kn.get (s3.out.up (hf nx).out) 4 2 rfl rfl : (f nx).cell? ⟨w.heap.size, 2, none⟩ = some (.int .u64 (a).c))
  have ua_3 := fun nx => (Kn.get (s3.out.up (hf nx).out) 4 3 rfl rfl : (f nx).cell? ⟨w.heap.size, 3, none⟩ = some (.int .u64 (a).d))
  have ub_0 := fun nx => (Kn.get (s3.out.up (hf nx).out) 3 0 rfl rfl : (f nx).cell? ⟨w.heap.size + 1, 0, none⟩ = some (.int .u64 (b).a))
  have ub_1 := fun nx => (Kn.get (s3.out.up (hf nx).out) 3 1 rfl rfl : (f nx).cell? ⟨w.heap.size + 1, 1, none⟩ = some (.int .u64 (b).b))
  have ub_2 := fun nx => (Kn.get (s3.out.up (hf nx).out) 3 2 rfl rfl : (f nx).cell? ⟨w.heap.size + 1, 2, none⟩ = some (.int .u64 (b).c))
  have ub_3 := fun nx => (Kn.get (s3.out.up (hf nx).out) 3 3 rfl rfl : (f nx).cell? ⟨w.heap.size + 1, 3, none⟩ = some (.int .u64 (b).d))
  have uc_0 := fun nx => (Kn.get (s3.out.up (hf nx).out) 2 0 rfl rfl : (f nx).cell? ⟨w.heap.size + 1 + 1, 0, none⟩ = some (.int .u64 (c).a))
  have uc_1 := fun nx => (Kn.get (s3.out.up (hf nx).out) 2 1 rfl rfl : (f nx).cell? ⟨w.heap.size + 1 + 1, 1, none⟩ = some (.int .u64 (c).b))
  have uc_2 := fun nx => (Kn.get (s3.out.up (hf nx).out) 2 2 rfl rfl : (f nx).cell? ⟨w.heap.size + 1 + 1, 2, none⟩ = some (.int .u64 (c).c))
  have uc_3 := fun nx => (Kn.get (s3.out.up (hf nx).out) 2 3 rfl rfl : (f nx).cell? ⟨w.heap.size + 1 + 1, 3, none⟩ = some (.int .u64 (c).d))
  try simp only [List.append_eq, List.cons_append, List.nil_append]
  repeat (go_big_quiet_step (first | (go_at_call 10; exact (S2 _).mono fun e w'' ⟨he, hb⟩ => ⟨he, hcl.out _ _ hb⟩) | (go_at_call 14; exact (C1 _).mono fun e w'' ⟨he, hb⟩ => ⟨he, hcl.out _ _ hb⟩) | (go_at_call_of 15 [Value.agg #[Value.int IntKind.u64 a.a, Value.int IntKind.u64 a.b, Value.int IntKind.u64 a.c, Value.int IntKind.u64 a.d], Value.agg #[Value.int IntKind.u64 b.a, Value.int IntKind.u64 b.b, Value.int IntKind.u64 b.c, Value.int IntKind.u64 b.d]]; exact (A1 _).mono fun e w'' ⟨he, hb⟩ => ⟨he, hcl.out _ _ hb⟩) | (go_at_call_of 15 [Value.agg #[Value.int IntKind.u64 b.a, Value.int IntKind.u64 b.b, Value.int IntKind.u64 b.c, Value.int IntKind.u64 b.d], Value.agg #[Value.int IntKind.u64 a.a, Value.int IntKind.u64 a.b, Value.int IntKind.u64 a.c, Value.int IntKind.u64 a.d]]; exact (A2 _).mono fun e w'' ⟨he, hb⟩ => ⟨he, hcl.out _ _ hb⟩) | (go_at_call_of 15 [N ab, Value.agg #[Value.int IntKind.u64 c.a, Value.int IntKind.u64 c.b, Value.int IntKind.u64 c.c, Value.int IntKind.u64 c.d]]; exact (A3 _).mono fun e w'' ⟨he, hb⟩ => ⟨he, hcl.out _ _ hb⟩) | (go_at_call_of 15 [Value.agg #[Value.int IntKind.u64 b.a, Value.int IntKind.u64 b.b, Value.int IntKind.u64 b.c, Value.int IntKind.u64 b.d], Value.agg #[Value.int IntKind.u64 c.a, Value.int IntKind.u64 c.b, Value.int IntKind.u64 c.c, Value.int IntKind.u64 c.d]]; exact (A4 _).mono fun e w'' ⟨he, hb⟩ => ⟨he, hcl.out _ _ hb⟩) | (go_at_call_of 15 [Value.agg #[Value.int IntKind.u64 a.a, Value.int IntKind.u64 a.b, Value.int IntKind.u64 a.c, Value.int IntKind.u64 a.d], N bc]; exact (A5 _).mono fun e w'' ⟨he, hb⟩ => ⟨he, hcl.out _ _ hb⟩) | (go_at_call_of 16 [Value.agg #[Value.int IntKind.u64 a.a, Value.int IntKind.u64 a.b, Value.int IntKind.u64 a.c, Value.int IntKind.u64 a.d], Value.agg #[Value.int IntKind.u64 b.a, Value.int IntKind.u64 b.b, Value.int IntKind.u64 b.c, Value.int IntKind.u64 b.d]]; exact (M1 _).mono fun e w'' ⟨he, hb⟩ => ⟨he, hcl.out _ _ hb⟩) | (go_at_call_of 16 [Value.agg #[Value.int IntKind.u64 b.a, Value.int IntKind.u64 b.b, Value.int IntKind.u64 b.c, Value.int IntKind.u64 b.d], Value.agg #[Value.int IntKind.u64 a.a, Value.int IntKind.u64 a.b, Value.int IntKind.u64 a.c, Value.int IntKind.u64 a.d]]; exact (M2 _).mono fun e w'' ⟨he, hb⟩ => ⟨he, hcl.out _ _ hb⟩)))
  refine wpQuiet_nil ?_
  intro nx
  have hb4 := (hf nx).out
  clear hf hcl ulow_0 ulow_1 ulow_2 ulow_3 ua_0 ua_1 ua_2 ua_3 ub_0 ub_1 ub_2 ub_3 uc_0 uc_1 uc_2 uc_3
  generalize f nx = w4 at hb4 ⊢
  have s4 : Hid (Kn w4 [(w1.heap.size + 1, (c4 ((⟨0,0,0,0⟩:Nm)))), (w1.heap.size, (c4 (lo))), (w.heap.size + 1 + 1, (c4 (c))), (w.heap.size + 1, (c4 (b))), (w.heap.size, (c4 (a)))]) := s3.out.up hb4
  have b4 : Hid (Below w.heap.size w w4) := b3.out.trans (hb4.mono b3.out.size)
  have z4 := b4.out.size
  clear hb4 s3 b3
  go_wp2_with fail
  refine wp_region_up (by kernel_rfl) (by kernel_rfl) (fun U hU f hf hcl => ?_)
  have unone_0 := fun nx => (Kn.get (s4.out.up (hf nx).out) 0 0 rfl rfl : (f nx).cell? ⟨w1.heap.size + 1, 0, none⟩ = some (.int .u64 ((⟨0,0,0,0⟩:Nm)).a))
  have unone_1 := fun nx => (Kn.get (s4.out.up (hf nx).out) 0 1 rfl rfl : (f nx).cell? ⟨w1.heap.size + 1, 1, none⟩ = some (.int .u64 ((⟨0,0,0,0⟩:Nm)).b))
  have unone_2 := fun nx => (Kn.get (s4.out.up (hf nx).out) 0 2 rfl rfl : (f nx).cell? ⟨w1.heap.size + 1, 2, none⟩ = some (.int .u64 ((⟨0,0,0,0⟩:Nm)).c))
  have unone_3 := fun nx => (Kn.get (s4.out.up (hf nx).out) 0 3 rfl rfl : (f nx).cell? ⟨w1.heap.size + 1, 3, none⟩ = some (.int .u64 ((⟨0,0,0,0⟩:Nm)).d))
  have ua_0 := fun nx => (Kn.get (s4.out.up (hf nx).out) 4 0 rfl rfl : (f nx).cell? ⟨w.heap.size, 0, none⟩ = some (.int .u64 (a).a))
  have ua_1 := fun nx => (Kn.get (s4.out.up (hf nx).out) 4 1 rfl rfl : (f nx).cell? ⟨w.heap.size, 1, none⟩ = some (.int .u64 (a).b))
  have ua_2 := fun nx => (Kn.get (s4.out.up (hf nx).out) 4 2 rfl rfl : (f nx).cell? ⟨w.heap.size, 2, none⟩ = some (.int .u64 (a).c))
  have ua_3 := fun nx => (Kn.get (s4.out.up (hf nx).out) 4 3 rfl rfl : (f nx).cell? ⟨w.heap.size, 3, none⟩ = some (.int .u64 (a).d))
  have ub_0 := fun nx => (Kn.get (s4.out.up (hf nx).out) 3 0 rfl rfl : (f nx).cell? ⟨w.heap.size + 1, 0, none⟩ = some (.int .u64 (b).a))
  have ub_1 := fun nx => (Kn.get (s4.out.up (hf nx).out) 3 1 rfl rfl : (f nx).cell? ⟨w.heap.size + 1, 1, none⟩ = some (.int .u64 (b).b))
  have ub_2 := fun nx => (Kn.get (s4.out.up (hf nx).out) 3 2 rfl rfl : (f nx).cell? ⟨w.heap.size + 1, 2, none⟩ = some (.int .u64 (b).c))
  have ub_3 := fun nx => (Kn.get (s4.out.up (hf nx).out) 3 3 rfl rfl : (f nx).cell? ⟨w.heap.size + 1, 3, none⟩ = some (.int .u64 (b).d))
  have uc_0 := fun nx => (Kn.get (s4.out.up (hf nx).out) 2 0 rfl rfl : (f nx).cell? ⟨w.heap.size + 1 + 1, 0, none⟩ = some (.int .u64 (c).a))
  have uc_1 := fun nx => (Kn.get (s4.out.up (hf nx).out) 2 1 rfl rfl : (f nx).cell? ⟨w.heap.size + 1 + 1, 1, none⟩ = some (.int .u64 (c).b))
  have uc_2 := fun nx => (Kn.get (s4.out.up (hf nx).out) 2 2 rfl rfl : (f nx).cell? ⟨w.heap.size + 1 + 1, 2, none⟩ = some (.int .u64 (c).c))
  have uc_3 := fun nx => (Kn.get (s4.out.up (hf nx).out) 2 3 rfl rfl : (f nx).cell? ⟨w.heap.size + 1 + 1, 3, none⟩ = some (.int .u64 (c).d))
  try simp only [List.append_eq, List.cons_append, List.nil_append]
  repeat (go_big_quiet_step (first | (go_at_call_of 16 [Value.agg #[Value.int IntKind.u64 a.a, Value.int IntKind.u64 a.b, Value.int IntKind.u64 a.c, Value.int IntKind.u64 a.d], Value.agg #[Value.int IntKind.u64 b.a, Value.int IntKind.u64 b.b, Value.int IntKind.u64 b.c, Value.int IntKind.u64 b.d]]; exact (M1 _).mono fun e w'' ⟨he, hb⟩ => ⟨he, hcl.out _ _ hb⟩) | (go_at_call_of 16 [N mab, Value.agg #[Value.int IntKind.u64 c.a, Value.int IntKind.u64 c.b, Value.int IntKind.u64 c.c, Value.int IntKind.u64 c.d]]; exact (M3 _).mono fun e w'' ⟨he, hb⟩ => ⟨he, hcl.out _ _ hb⟩) | (go_at_call_of 16 [Value.agg #[Value.int IntKind.u64 b.a, Value.int IntKind.u64 b.b, Value.int IntKind.u64 b.c, Value.int IntKind.u64 b.d], Value.agg #[Value.int IntKind.u64 c.a, Value.int IntKind.u64 c.b, Value.int IntKind.u64 c.c, Value.int IntKind.u64 c.d]]; exact (M4 _).mono fun e w'' ⟨he, hb⟩ => ⟨he, hcl.out _ _ hb⟩) | (go_at_call_of 16 [Value.agg #[Value.int IntKind.u64 a.a, Value.int IntKind.u64 a.b, Value.int IntKind.u64 a.c, Value.int IntKind.u64 a.d], N mbc]; exact (M5 _).mono fun e w'' ⟨he, hb⟩ => ⟨he, hcl.out _ _ hb⟩) | (go_at_call_of 15 [Value.agg #[Value.int IntKind.u64 b.a, Value.int IntKind.u64 b.b, Value.int IntKind.u64 b.c, Value.int IntKind.u64 b.d], Value.agg #[Value.int IntKind.u64 c.a, Value.int IntKind.u64 c.b, Value.int IntKind.u64 c.c, Value.int IntKind.u64 c.d]]; exact (A4 _).mono fun e w'' ⟨he, hb⟩ => ⟨he, hcl.out _ _ hb⟩) | (go_at_call_of 16 [Value.agg #[Value.int IntKind.u64 a.a, Value.int IntKind.u64 a.b, Value.int IntKind.u64 a.c, Value.int IntKind.u64 a.d], N bc]; exact (M6 _).mono fun e w'' ⟨he, hb⟩ => ⟨he, hcl.out _ _ hb⟩) | (go_at_call_of 16 [Value.agg #[Value.int IntKind.u64 a.a, Value.int IntKind.u64 a.b, Value.int IntKind.u64 a.c, Value.int IntKind.u64 a.d], Value.agg #[Value.int IntKind.u64 c.a, Value.int IntKind.u64 c.b, Value.int IntKind.u64 c.c, Value.int IntKind.u64 c.d]]; exact (M7 _).mono fun e w'' ⟨he, hb⟩ => ⟨he, hcl.out _ _ hb⟩) | (go_at_call_of 15 [N mab, N mac]; exact (A6 _).mono fun e w'' ⟨he, hb⟩ => ⟨he, hcl.out _ _ hb⟩) | (go_at_call 17; exact (N1 _).mono fun e w'' ⟨he, hb⟩ => ⟨he, hcl.out _ _ hb⟩) | (go_at_call_of 15 [Value.agg #[Value.int IntKind.u64 a.a, Value.int IntKind.u64 a.b, Value.int IntKind.u64 a.c, Value.int IntKind.u64 a.d], N ng]; exact (A7 _).mono fun e w'' ⟨he, hb⟩ => ⟨he, hcl.out _ _ hb⟩)))
  refine wpQuiet_nil ?_
  intro nx
  have hb5 := (hf nx).out
  clear hf hcl unone_0 unone_1 unone_2 unone_3 ua_0 ua_1 ua_2 ua_3 ub_0 ub_1 ub_2 ub_3 uc_0 uc_1 uc_2 uc_3
  generalize f nx = w5 at hb5 ⊢
  have s5 : Hid (Kn w5 [(w1.heap.size + 1, (c4 ((⟨0,0,0,0⟩:Nm)))), (w1.heap.size, (c4 (lo))), (w.heap.size + 1 + 1, (c4 (c))), (w.heap.size + 1, (c4 (b))), (w.heap.size, (c4 (a)))]) := s4.out.up hb5
  have b5 : Hid (Below w.heap.size w w5) := b4.out.trans (hb5.mono b4.out.size)
  have z5 := b5.out.size
  clear hb5 s4 b4
  go_wp2_with fail
  refine wp_region_up (by kernel_rfl) (by kernel_rfl) (fun U hU f hf hcl => ?_)
  have ulow_0 := fun nx => (Kn.get (s5.out.up (hf nx).out) 1 0 rfl rfl : (f nx).cell? ⟨w1.heap.size, 0, none⟩ = some (.int .u64 (lo).a))
  have ulow_1 := fun nx => (Kn.get (s5.out.up (hf nx).out) 1 1 rfl rfl : (f nx).cell? ⟨w1.heap.size, 1, none⟩ = some (.int .u64 (lo).b))
  have ulow_2 := fun nx => (Kn.get (s5.out.up (hf nx).out) 1 2 rfl rfl : (f nx).cell? ⟨w1.heap.size, 2, none⟩ = some (.int .u64 (lo).c))
  have ulow_3 := fun nx => (Kn.get (s5.out.up (hf nx).out) 1 3 rfl rfl : (f nx).cell? ⟨w1.heap.size, 3, none⟩ = some (.int .u64 (lo).d))
  have unone_0 := fun nx => (Kn.get (s5.out.up (hf nx).out) 0 0 rfl rfl : (f nx).cell? ⟨w1.heap.size + 1, 0, none⟩ = some (.int .u64 ((⟨0,0,0,0⟩:Nm)).a))
  have unone_1 := fun nx => (Kn.get (s5.out.up (hf nx).out) 0 1 rfl rfl : (f nx).cell? ⟨w1.heap.size + 1, 1, none⟩ = some (.int .u64 ((⟨0,0,0,0⟩:Nm)).b))
  have unone_2 := fun nx => (Kn.get (s5.out.up (hf nx).out) 0 2 rfl rfl : (f nx).cell? ⟨w1.heap.size + 1, 2, none⟩ = some (.int .u64 ((⟨0,0,0,0⟩:Nm)).c))
  have unone_3 := fun nx => (Kn.get (s5.out.up (hf nx).out) 0 3 rfl rfl : (f nx).cell? ⟨w1.heap.size + 1, 3, none⟩ = some (.int .u64 ((⟨0,0,0,0⟩:Nm)).d))
  have ua_0 := fun nx => (Kn.get (s5.out.up (hf nx).out) 4 0 rfl rfl : (f nx).cell? ⟨w.heap.size, 0, none⟩ = some (.int .u64 (a).a))
  have ua_1 := fun nx => (Kn.get (s5.out.up (hf nx).out) 4 1 rfl rfl : (f nx).cell? ⟨w.heap.size, 1, none⟩ = some (.int .u64 (a).b))
  have ua_2 := fun nx => (Kn.get (s5.out.up (hf nx).out) 4 2 rfl rfl : (f nx).cell? ⟨w.heap.size, 2, none⟩ = some (.int .u64 (a).c))
  have ua_3 := fun nx => (Kn.get (s5.out.up (hf nx).out) 4 3 rfl rfl : (f nx).cell? ⟨w.heap.size, 3, none⟩ = some (.int .u64 (a).d))
  try simp only [List.append_eq, List.cons_append, List.nil_append]
  repeat (go_big_quiet_step (first | (go_at_call 18; exact (I1 _).mono fun e w'' ⟨he, hb⟩ => ⟨he, hcl.out _ _ hb⟩)))
  refine wpQuiet_nil ?_
  intro nx
  have hb6 := (hf nx).out
  clear hf hcl ulow_0 ulow_1 ulow_2 ulow_3 unone_0 unone_1 unone_2 unone_3 ua_0 ua_1 ua_2 ua_3
  generalize f nx = w6 at hb6 ⊢
  have s6 : Hid (Kn w6 [(w1.heap.size + 1, (c4 ((⟨0,0,0,0⟩:Nm)))), (w1.heap.size, (c4 (lo))), (w.heap.size + 1 + 1, (c4 (c))), (w.heap.size + 1, (c4 (b))), (w.heap.size, (c4 (a)))]) := s5.out.up hb6
  have b6 : Hid (Below w.heap.size w w6) := b5.out.trans (hb6.mono b5.out.size)
  have z6 := b6.out.size
  clear hb6 s5 b5
  go_wp2_with fail
  go_ret
  exact ⟨rfl, b6.out⟩
set_option maxHeartbeats 4000000 in
theorem scLaws_not (a b c lo iv lm ab abc bc mab mabc mbc mac mm ng : Nm) (ne : ∀ x w, (binOp .neq 24 (N x) (N x)).run Try.prog w = .ok (.bool false) w) (q1 : ∀ w, (binOp .eql 24 (N lo) (N ⟨0, 0, 0, 0⟩)).run Try.prog w = .ok (.bool false) w) (q2 : ∀ w, (binOp .eql 24 (N ⟨1, 0, 0, 0⟩) (N ⟨1, 0, 0, 0⟩)).run Try.prog w = .ok (.bool true) w)
    (S1 : ∀ w, Calls Try.prog 12 #[N a] w fun e w' => e = .returned (N lo) ∧ Below w.heap.size w w')
    (S2 : ∀ w, Calls Try.prog 10 #[] w fun e w' => e = .returned (N lm) ∧ Below w.heap.size w w')
    (C1 : ∀ w, Calls Try.prog 14 #[N lo, N lm] w fun e w' => e = .returned (.int .i64 (-1)) ∧ Below w.heap.size w w')
    (A1 : ∀ w, Calls Try.prog 15 #[N a, N b] w fun e w' => e = .returned (N ab) ∧ Below w.heap.size w w')
    (A2 : ∀ w, Calls Try.prog 15 #[N b, N a] w fun e w' => e = .returned (N ab) ∧ Below w.heap.size w w')
    (A3 : ∀ w, Calls Try.prog 15 #[N ab, N c] w fun e w' => e = .returned (N abc) ∧ Below w.heap.size w w')
    (A4 : ∀ w, Calls Try.prog 15 #[N b, N c] w fun e w' => e = .returned (N bc) ∧ Below w.heap.size w w')
    (A5 : ∀ w, Calls Try.prog 15 #[N a, N bc] w fun e w' => e = .returned (N abc) ∧ Below w.heap.size w w')
    (M1 : ∀ w, Calls Try.prog 16 #[N a, N b] w fun e w' => e = .returned (N mab) ∧ Below w.heap.size w w')
    (M2 : ∀ w, Calls Try.prog 16 #[N b, N a] w fun e w' => e = .returned (N mab) ∧ Below w.heap.size w w')
    (M3 : ∀ w, Calls Try.prog 16 #[N mab, N c] w fun e w' => e = .returned (N mabc) ∧ Below w.heap.size w w')
    (M4 : ∀ w, Calls Try.prog 16 #[N b, N c] w fun e w' => e = .returned (N mbc) ∧ Below w.heap.size w w')
    (M5 : ∀ w, Calls Try.prog 16 #[N a, N mbc] w fun e w' => e = .returned (N mabc) ∧ Below w.heap.size w w')
    (M6 : ∀ w, Calls Try.prog 16 #[N a, N bc] w fun e w' => e = .returned (N mm) ∧ Below w.heap.size w w')
    (M7 : ∀ w, Calls Try.prog 16 #[N a, N c] w fun e w' => e = .returned (N mac) ∧ Below w.heap.size w w')
    (A6 : ∀ w, Calls Try.prog 15 #[N mab, N mac] w fun e w' => e = .returned (N mm) ∧ Below w.heap.size w w')
    (N1 : ∀ w, Calls Try.prog 17 #[N a] w fun e w' => e = .returned (N ng) ∧ Below w.heap.size w w')
    (A7 : ∀ w, Calls Try.prog 15 #[N a, N ng] w fun e w' => e = .returned (N ⟨0,0,0,0⟩) ∧ Below w.heap.size w w')
    (I1 : ∀ w, Calls Try.prog 18 #[N a] w fun e w' => e = .returned (N iv) ∧ Below w.heap.size w w')
    (M8 : ∀ w, Calls Try.prog 16 #[N a, N iv] w fun e w' => e = .returned (N ⟨1,0,0,0⟩) ∧ Below w.heap.size w w')
    (w : World) :
    Calls Try.prog 4 #[N a, N b, N c] w fun e w' => e = .returned (.bool true) ∧ Below w.heap.size w w' := by
  go_enter Try.func4, Try.ntmps4
  have s0 : Hid (Kn (kal4 (kal4 (kal4 w (a)) (b)) (c)) [(w.heap.size + 1 + 1, (c4 (c))), (w.heap.size + 1, (c4 (b))), (w.heap.size, (c4 (a)))]) := ((((Kn.nil w).al (c4 (a)) 24 rfl).al (c4 (b)) 24 (by simp)).al (c4 (c)) 24 (by simp))
  have b0 : Hid (Below w.heap.size w (kal4 (kal4 (kal4 w (a)) (b)) (c))) := ((((Below.refl _ _).alloc (Nat.le_refl _) _).alloc (by simp <;> omega) _).alloc (by simp <;> omega) _)
  go_wp2_with fail
  refine (S1 _).mono ?_
  rintro e w1 ⟨rfl, hb1⟩
  have s1 : Hid (Kn w1 [(w.heap.size + 1 + 1, (c4 (c))), (w.heap.size + 1, (c4 (b))), (w.heap.size, (c4 (a)))]) := s0.out.up hb1
  have b1 : Hid (Below w.heap.size w w1) := b0.out.trans (hb1.mono b0.out.size)
  have z1 := b1.out.size
  clear hb1 s0 b0
  have s2 : Hid (Kn (kal4 w1 (lo)) [(w1.heap.size, (c4 (lo))), (w.heap.size + 1 + 1, (c4 (c))), (w.heap.size + 1, (c4 (b))), (w.heap.size, (c4 (a)))]) := s1.out.al (c4 (lo)) 24 rfl
  have b2 : Hid (Below w.heap.size w (kal4 w1 (lo))) := b1.out.alloc b1.out.size _
  have z2 := b1.out.size
  clear s1 b1
  have s3 : Hid (Kn (kal4 (kal4 w1 (lo)) ((⟨0,0,0,0⟩:Nm))) [(w1.heap.size + 1, (c4 ((⟨0,0,0,0⟩:Nm)))), (w1.heap.size, (c4 (lo))), (w.heap.size + 1 + 1, (c4 (c))), (w.heap.size + 1, (c4 (b))), (w.heap.size, (c4 (a)))]) := s2.out.al (c4 ((⟨0,0,0,0⟩:Nm))) 24 (by simp)
  have b3 : Hid (Below w.heap.size w (kal4 (kal4 w1 (lo)) ((⟨0,0,0,0⟩:Nm)))) := b2.out.alloc b2.out.size _
  have z3 := b2.out.size
  clear s2 b2
  go_wp2_with fail
  refine wp_region_up (by kernel_rfl) (by kernel_rfl) (fun U hU f hf hcl => ?_)
  have ulow_0 := fun nx => (Kn.get (s3.out.up (hf nx).out) 1 0 rfl rfl : (f nx).cell? ⟨w1.heap.size, 0, none⟩ = some (.int .u64 (lo).a))
  have ulow_1 := fun nx => (Kn.get (s3.out.up (hf nx).out) 1 1 rfl rfl : (f nx).cell? ⟨w1.heap.size, 1, none⟩ = some (.int .u64 (lo).b))
  have ulow_2 := fun nx => (Kn.get (s3.out.up (hf nx).out) 1 2 rfl rfl : (f nx).cell? ⟨w1.heap.size, 2, none⟩ = some (.int .u64 (lo).c))
  have ulow_3 := fun nx => (Kn.get (s3.out.up (hf nx).out) 1 3 rfl rfl : (f nx).cell? ⟨w1.heap.size, 3, none⟩ = some (.int .u64 (lo).d))
  have ua_0 := fun nx => (Kn.get (s3.out.up (hf nx).out) 4 0 rfl rfl : (f nx).cell? ⟨w.heap.size, 0, none⟩ = some (.int .u64 (a).a))
  have ua_1 := fun nx => (Kn.get (s3.out.up (hf nx).out) 4 1 rfl rfl : (f nx).cell? ⟨w.heap.size, 1, none⟩ = some (.int .u64 (a).b))
  have ua_2 := fun nx => (Kn.get (s3.out.up (hf nx).out) 4 2 rfl rfl : (f nx).cell? ⟨w.heap.size, 2, none⟩ = some (.int .u64 (a).c))
  have ua_3 := fun nx => (Kn.get (s3.out.up (hf nx).out) 4 3 rfl rfl : (f nx).cell? ⟨w.heap.size, 3, none⟩ = some (.int .u64 (a).d))
  have ub_0 := fun nx => (Kn.get (s3.out.up (hf nx).out) 3 0 rfl rfl : (f nx).cell? ⟨w.heap.size + 1, 0, none⟩ = some (.int .u64 (b).a))
  have ub_1 := fun nx => (Kn.get (s3.out.up (hf nx).out) 3 1 rfl rfl : (f nx).cell? ⟨w.heap.size + 1, 1, none⟩ = some (.int .u64 (b).b))
  have ub_2 := fun nx => (Kn.get (s3.out.up (hf nx).out) 3 2 rfl rfl : (f nx).cell? ⟨w.heap.size + 1, 2, none⟩ = some (.int .u64 (b).c))
  have ub_3 := fun nx => (Kn.get (s3.out.up (hf nx).out) 3 3 rfl rfl : (f nx).cell? ⟨w.heap.size + 1, 3, none⟩ = some (.int .u64 (b).d))
  have uc_0 := fun nx => (Kn.get (s3.out.up (hf nx).out) 2 0 rfl rfl : (f nx).cell? ⟨w.heap.size + 1 + 1, 0, none⟩ = some (.int .u64 (c).a))
  have uc_1 := fun nx => (Kn.get (s3.out.up (hf nx).out) 2 1 rfl rfl : (f nx).cell? ⟨w.heap.size + 1 + 1, 1, none⟩ = some (.int .u64 (c).b))
  have uc_2 := fun nx => (Kn.get (s3.out.up (hf nx).out) 2 2 rfl rfl : (f nx).cell? ⟨w.heap.size + 1 + 1, 2, none⟩ = some (.int .u64 (c).c))
  have uc_3 := fun nx => (Kn.get (s3.out.up (hf nx).out) 2 3 rfl rfl : (f nx).cell? ⟨w.heap.size + 1 + 1, 3, none⟩ = some (.int .u64 (c).d))
  try simp only [List.append_eq, List.cons_append, List.nil_append]
  repeat (go_big_quiet_step (first | (go_at_call 10; exact (S2 _).mono fun e w'' ⟨he, hb⟩ => ⟨he, hcl.out _ _ hb⟩) | (go_at_call 14; exact (C1 _).mono fun e w'' ⟨he, hb⟩ => ⟨he, hcl.out _ _ hb⟩) | (go_at_call_of 15 [Value.agg #[Value.int IntKind.u64 a.a, Value.int IntKind.u64 a.b, Value.int IntKind.u64 a.c, Value.int IntKind.u64 a.d], Value.agg #[Value.int IntKind.u64 b.a, Value.int IntKind.u64 b.b, Value.int IntKind.u64 b.c, Value.int IntKind.u64 b.d]]; exact (A1 _).mono fun e w'' ⟨he, hb⟩ => ⟨he, hcl.out _ _ hb⟩) | (go_at_call_of 15 [Value.agg #[Value.int IntKind.u64 b.a, Value.int IntKind.u64 b.b, Value.int IntKind.u64 b.c, Value.int IntKind.u64 b.d], Value.agg #[Value.int IntKind.u64 a.a, Value.int IntKind.u64 a.b, Value.int IntKind.u64 a.c, Value.int IntKind.u64 a.d]]; exact (A2 _).mono fun e w'' ⟨he, hb⟩ => ⟨he, hcl.out _ _ hb⟩) | (go_at_call_of 15 [N ab, Value.agg #[Value.int IntKind.u64 c.a, Value.int IntKind.u64 c.b, Value.int IntKind.u64 c.c, Value.int IntKind.u64 c.d]]; exact (A3 _).mono fun e w'' ⟨he, hb⟩ => ⟨he, hcl.out _ _ hb⟩) | (go_at_call_of 15 [Value.agg #[Value.int IntKind.u64 b.a, Value.int IntKind.u64 b.b, Value.int IntKind.u64 b.c, Value.int IntKind.u64 b.d], Value.agg #[Value.int IntKind.u64 c.a, Value.int IntKind.u64 c.b, Value.int IntKind.u64 c.c, Value.int IntKind.u64 c.d]]; exact (A4 _).mono fun e w'' ⟨he, hb⟩ => ⟨he, hcl.out _ _ hb⟩) | (go_at_call_of 15 [Value.agg #[Value.int IntKind.u64 a.a, Value.int IntKind.u64 a.b, Value.int IntKind.u64 a.c, Value.int IntKind.u64 a.d], N bc]; exact (A5 _).mono fun e w'' ⟨he, hb⟩ => ⟨he, hcl.out _ _ hb⟩) | (go_at_call_of 16 [Value.agg #[Value.int IntKind.u64 a.a, Value.int IntKind.u64 a.b, Value.int IntKind.u64 a.c, Value.int IntKind.u64 a.d], Value.agg #[Value.int IntKind.u64 b.a, Value.int IntKind.u64 b.b, Value.int IntKind.u64 b.c, Value.int IntKind.u64 b.d]]; exact (M1 _).mono fun e w'' ⟨he, hb⟩ => ⟨he, hcl.out _ _ hb⟩) | (go_at_call_of 16 [Value.agg #[Value.int IntKind.u64 b.a, Value.int IntKind.u64 b.b, Value.int IntKind.u64 b.c, Value.int IntKind.u64 b.d], Value.agg #[Value.int IntKind.u64 a.a, Value.int IntKind.u64 a.b, Value.int IntKind.u64 a.c, Value.int IntKind.u64 a.d]]; exact (M2 _).mono fun e w'' ⟨he, hb⟩ => ⟨he, hcl.out _ _ hb⟩)))
  refine wpQuiet_nil ?_
  intro nx
  have hb4 := (hf nx).out
  clear hf hcl ulow_0 ulow_1 ulow_2 ulow_3 ua_0 ua_1 ua_2 ua_3 ub_0 ub_1 ub_2 ub_3 uc_0 uc_1 uc_2 uc_3
  generalize f nx = w4 at hb4 ⊢
  have s4 : Hid (Kn w4 [(w1.heap.size + 1, (c4 ((⟨0,0,0,0⟩:Nm)))), (w1.heap.size, (c4 (lo))), (w.heap.size + 1 + 1, (c4 (c))), (w.heap.size + 1, (c4 (b))), (w.heap.size, (c4 (a)))]) := s3.out.up hb4
  have b4 : Hid (Below w.heap.size w w4) := b3.out.trans (hb4.mono b3.out.size)
  have z4 := b4.out.size
  clear hb4 s3 b3
  go_wp2_with fail
  refine wp_region_up (by kernel_rfl) (by kernel_rfl) (fun U hU f hf hcl => ?_)
  have unone_0 := fun nx => (Kn.get (s4.out.up (hf nx).out) 0 0 rfl rfl : (f nx).cell? ⟨w1.heap.size + 1, 0, none⟩ = some (.int .u64 ((⟨0,0,0,0⟩:Nm)).a))
  have unone_1 := fun nx => (Kn.get (s4.out.up (hf nx).out) 0 1 rfl rfl : (f nx).cell? ⟨w1.heap.size + 1, 1, none⟩ = some (.int .u64 ((⟨0,0,0,0⟩:Nm)).b))
  have unone_2 := fun nx => (Kn.get (s4.out.up (hf nx).out) 0 2 rfl rfl : (f nx).cell? ⟨w1.heap.size + 1, 2, none⟩ = some (.int .u64 ((⟨0,0,0,0⟩:Nm)).c))
  have unone_3 := fun nx => (Kn.get (s4.out.up (hf nx).out) 0 3 rfl rfl : (f nx).cell? ⟨w1.heap.size + 1, 3, none⟩ = some (.int .u64 ((⟨0,0,0,0⟩:Nm)).d))
  have ua_0 := fun nx => (Kn.get (s4.out.up (hf nx).out) 4 0 rfl rfl : (f nx).cell? ⟨w.heap.size, 0, none⟩ = some (.int .u64 (a).a))
  have ua_1 := fun nx => (Kn.get (s4.out.up (hf nx).out) 4 1 rfl rfl : (f nx).cell? ⟨w.heap.size, 1, none⟩ = some (.int .u64 (a).b))
  have ua_2 := fun nx => (Kn.get (s4.out.up (hf nx).out) 4 2 rfl rfl : (f nx).cell? ⟨w.heap.size, 2, none⟩ = some (.int .u64 (a).c))
  have ua_3 := fun nx => (Kn.get (s4.out.up (hf nx).out) 4 3 rfl rfl : (f nx).cell? ⟨w.heap.size, 3, none⟩ = some (.int .u64 (a).d))
  have ub_0 := fun nx => (Kn.get (s4.out.up (hf nx).out) 3 0 rfl rfl : (f nx).cell? ⟨w.heap.size + 1, 0, none⟩ = some (.int .u64 (b).a))
  have ub_1 := fun nx => (Kn.get (s4.out.up (hf nx).out) 3 1 rfl rfl : (f nx).cell? ⟨w.heap.size + 1, 1, none⟩ = some (.int .u64 (b).b))
  have ub_2 := fun nx => (Kn.get (s4.out.up (hf nx).out) 3 2 rfl rfl : (f nx).cell? ⟨w.heap.size + 1, 2, none⟩ = some (.int .u64 (b).c))
  have ub_3 := fun nx => (Kn.get (s4.out.up (hf nx).out) 3 3 rfl rfl : (f nx).cell? ⟨w.heap.size + 1, 3, none⟩ = some (.int .u64 (b).d))
  have uc_0 := fun nx => (Kn.get (s4.out.up (hf nx).out) 2 0 rfl rfl : (f nx).cell? ⟨w.heap.size + 1 + 1, 0, none⟩ = some (.int .u64 (c).a))
  have uc_1 := fun nx => (Kn.get (s4.out.up (hf nx).out) 2 1 rfl rfl : (f nx).cell? ⟨w.heap.size + 1 + 1, 1, none⟩ = some (.int .u64 (c).b))
  have uc_2 := fun nx => (Kn.get (s4.out.up (hf nx).out) 2 2 rfl rfl : (f nx).cell? ⟨w.heap.size + 1 + 1, 2, none⟩ = some (.int .u64 (c).c))
  have uc_3 := fun nx => (Kn.get (s4.out.up (hf nx).out) 2 3 rfl rfl : (f nx).cell? ⟨w.heap.size + 1 + 1, 3, none⟩ = some (.int .u64 (c).d))
  try simp only [List.append_eq, List.cons_append, List.nil_append]
  repeat (go_big_quiet_step (first | (go_at_call_of 16 [Value.agg #[Value.int IntKind.u64 a.a, Value.int IntKind.u64 a.b, Value.int IntKind.u64 a.c, Value.int IntKind.u64 a.d], Value.agg #[Value.int IntKind.u64 b.a, Value.int IntKind.u64 b.b, Value.int IntKind.u64 b.c, Value.int IntKind.u64 b.d]]; exact (M1 _).mono fun e w'' ⟨he, hb⟩ => ⟨he, hcl.out _ _ hb⟩) | (go_at_call_of 16 [N mab, Value.agg #[Value.int IntKind.u64 c.a, Value.int IntKind.u64 c.b, Value.int IntKind.u64 c.c, Value.int IntKind.u64 c.d]]; exact (M3 _).mono fun e w'' ⟨he, hb⟩ => ⟨he, hcl.out _ _ hb⟩) | (go_at_call_of 16 [Value.agg #[Value.int IntKind.u64 b.a, Value.int IntKind.u64 b.b, Value.int IntKind.u64 b.c, Value.int IntKind.u64 b.d], Value.agg #[Value.int IntKind.u64 c.a, Value.int IntKind.u64 c.b, Value.int IntKind.u64 c.c, Value.int IntKind.u64 c.d]]; exact (M4 _).mono fun e w'' ⟨he, hb⟩ => ⟨he, hcl.out _ _ hb⟩) | (go_at_call_of 16 [Value.agg #[Value.int IntKind.u64 a.a, Value.int IntKind.u64 a.b, Value.int IntKind.u64 a.c, Value.int IntKind.u64 a.d], N mbc]; exact (M5 _).mono fun e w'' ⟨he, hb⟩ => ⟨he, hcl.out _ _ hb⟩) | (go_at_call_of 15 [Value.agg #[Value.int IntKind.u64 b.a, Value.int IntKind.u64 b.b, Value.int IntKind.u64 b.c, Value.int IntKind.u64 b.d], Value.agg #[Value.int IntKind.u64 c.a, Value.int IntKind.u64 c.b, Value.int IntKind.u64 c.c, Value.int IntKind.u64 c.d]]; exact (A4 _).mono fun e w'' ⟨he, hb⟩ => ⟨he, hcl.out _ _ hb⟩) | (go_at_call_of 16 [Value.agg #[Value.int IntKind.u64 a.a, Value.int IntKind.u64 a.b, Value.int IntKind.u64 a.c, Value.int IntKind.u64 a.d], N bc]; exact (M6 _).mono fun e w'' ⟨he, hb⟩ => ⟨he, hcl.out _ _ hb⟩) | (go_at_call_of 16 [Value.agg #[Value.int IntKind.u64 a.a, Value.int IntKind.u64 a.b, Value.int IntKind.u64 a.c, Value.int IntKind.u64 a.d], Value.agg #[Value.int IntKind.u64 c.a, Value.int IntKind.u64 c.b, Value.int IntKind.u64 c.c, Value.int IntKind.u64 c.d]]; exact (M7 _).mono fun e w'' ⟨he, hb⟩ => ⟨he, hcl.out _ _ hb⟩) | (go_at_call_of 15 [N mab, N mac]; exact (A6 _).mono fun e w'' ⟨he, hb⟩ => ⟨he, hcl.out _ _ hb⟩) | (go_at_call 17; exact (N1 _).mono fun e w'' ⟨he, hb⟩ => ⟨he, hcl.out _ _ hb⟩) | (go_at_call_of 15 [Value.agg #[Value.int IntKind.u64 a.a, Value.int IntKind.u64 a.b, Value.int IntKind.u64 a.c, Value.int IntKind.u64 a.d], N ng]; exact (A7 _).mono fun e w'' ⟨he, hb⟩ => ⟨he, hcl.out _ _ hb⟩)))
  refine wpQuiet_nil ?_
  intro nx
  have hb5 := (hf nx).out
  clear hf hcl unone_0 unone_1 unone_2 unone_3 ua_0 ua_1 ua_2 ua_3 ub_0 ub_1 ub_2 ub_3 uc_0 uc_1 uc_2 uc_3
  generalize f nx = w5 at hb5 ⊢
  have s5 : Hid (Kn w5 [(w1.heap.size + 1, (c4 ((⟨0,0,0,0⟩:Nm)))), (w1.heap.size, (c4 (lo))), (w.heap.size + 1 + 1, (c4 (c))), (w.heap.size + 1, (c4 (b))), (w.heap.size, (c4 (a)))]) := s4.out.up hb5
  have b5 : Hid (Below w.heap.size w w5) := b4.out.trans (hb5.mono b4.out.size)
  have z5 := b5.out.size
  clear hb5 s4 b4
  go_wp2_with fail
  refine wp_region_up (by kernel_rfl) (by kernel_rfl) (fun U hU f hf hcl => ?_)
  have ulow_0 := fun nx => (Kn.get (s5.out.up (hf nx).out) 1 0 rfl rfl : (f nx).cell? ⟨w1.heap.size, 0, none⟩ = some (.int .u64 (lo).a))
  have ulow_1 := fun nx => (Kn.get (s5.out.up (hf nx).out) 1 1 rfl rfl : (f nx).cell? ⟨w1.heap.size, 1, none⟩ = some (.int .u64 (lo).b))
  have ulow_2 := fun nx => (Kn.get (s5.out.up (hf nx).out) 1 2 rfl rfl : (f nx).cell? ⟨w1.heap.size, 2, none⟩ = some (.int .u64 (lo).c))
  have ulow_3 := fun nx => (Kn.get (s5.out.up (hf nx).out) 1 3 rfl rfl : (f nx).cell? ⟨w1.heap.size, 3, none⟩ = some (.int .u64 (lo).d))
  have unone_0 := fun nx => (Kn.get (s5.out.up (hf nx).out) 0 0 rfl rfl : (f nx).cell? ⟨w1.heap.size + 1, 0, none⟩ = some (.int .u64 ((⟨0,0,0,0⟩:Nm)).a))
  have unone_1 := fun nx => (Kn.get (s5.out.up (hf nx).out) 0 1 rfl rfl : (f nx).cell? ⟨w1.heap.size + 1, 1, none⟩ = some (.int .u64 ((⟨0,0,0,0⟩:Nm)).b))
  have unone_2 := fun nx => (Kn.get (s5.out.up (hf nx).out) 0 2 rfl rfl : (f nx).cell? ⟨w1.heap.size + 1, 2, none⟩ = some (.int .u64 ((⟨0,0,0,0⟩:Nm)).c))
  have unone_3 := fun nx => (Kn.get (s5.out.up (hf nx).out) 0 3 rfl rfl : (f nx).cell? ⟨w1.heap.size + 1, 3, none⟩ = some (.int .u64 ((⟨0,0,0,0⟩:Nm)).d))
  have ua_0 := fun nx => (Kn.get (s5.out.up (hf nx).out) 4 0 rfl rfl : (f nx).cell? ⟨w.heap.size, 0, none⟩ = some (.int .u64 (a).a))
  have ua_1 := fun nx => (Kn.get (s5.out.up (hf nx).out) 4 1 rfl rfl : (f nx).cell? ⟨w.heap.size, 1, none⟩ = some (.int .u64 (a).b))
  have ua_2 := fun nx => (Kn.get (s5.out.up (hf nx).out) 4 2 rfl rfl : (f nx).cell? ⟨w.heap.size, 2, none⟩ = some (.int .u64 (a).c))
  have ua_3 := fun nx => (Kn.get (s5.out.up (hf nx).out) 4 3 rfl rfl : (f nx).cell? ⟨w.heap.size, 3, none⟩ = some (.int .u64 (a).d))
  try simp only [List.append_eq, List.cons_append, List.nil_append]
  repeat (go_big_quiet_step (first | (go_at_call 18; exact (I1 _).mono fun e w'' ⟨he, hb⟩ => ⟨he, hcl.out _ _ hb⟩) | (go_at_call_of 16 [Value.agg #[Value.int IntKind.u64 a.a, Value.int IntKind.u64 a.b, Value.int IntKind.u64 a.c, Value.int IntKind.u64 a.d], N iv]; exact (M8 _).mono fun e w'' ⟨he, hb⟩ => ⟨he, hcl.out _ _ hb⟩)))
  refine wpQuiet_nil ?_
  intro nx
  have hb6 := (hf nx).out
  clear hf hcl ulow_0 ulow_1 ulow_2 ulow_3 unone_0 unone_1 unone_2 unone_3 ua_0 ua_1 ua_2 ua_3
  generalize f nx = w6 at hb6 ⊢
  have s6 : Hid (Kn w6 [(w1.heap.size + 1, (c4 ((⟨0,0,0,0⟩:Nm)))), (w1.heap.size, (c4 (lo))), (w.heap.size + 1 + 1, (c4 (c))), (w.heap.size + 1, (c4 (b))), (w.heap.size, (c4 (a)))]) := s5.out.up hb6
  have b6 : Hid (Below w.heap.size w w6) := b5.out.trans (hb6.mono b5.out.size)
  have z6 := b6.out.size
  clear hb6 s5 b5
  go_wp2_with fail
  go_ret
  exact ⟨rfl, b6.out⟩
theorem scalarLaws_of (SL : SLC) (SW : SLowC) (SA : SAddC) (SM : SMulC) (SN : SNegC) (SI : SInvC) (a b c : Nm) (oa : a.ok) (ob : b.ok) (oc : c.ok) (w : World) :
    Calls Try.prog 4 #[N a, N b, N c] w fun e w' => e = .returned (.bool true) ∧ Below w.heap.size w w' := by
  have ne : ∀ (x : Nm) w, (binOp .neq 24 (N x) (N x)).run Try.prog w = .ok (.bool false) w := fun x w => by rw [neN, Nm.beq_self]; rfl
  have eq : ∀ (x : Nm) w, (binOp .eql 24 (N x) (N x)).run Try.prog w = .ok (.bool true) w := fun x w => by rw [eqN, Nm.beq_self]
  have A1 := SA a b oa ob
  have A2 := SA b a ob oa
  rw [Nat.add_comm] at A2
  have A3 := SA (nm ((a.nat + b.nat) % Cv.ord)) c (nm_ok _) oc
  rw [s_nat, Nat.mod_add_mod] at A3
  have A4 := SA b c ob oc
  have A5 := SA a (nm ((b.nat + c.nat) % Cv.ord)) oa (nm_ok _)
  rw [s_nat, Nat.add_mod_mod, ← Nat.add_assoc] at A5
  have M1 := SM a b oa ob
  have M2 := SM b a ob oa
  rw [Nat.mul_comm] at M2
  have M3 := SM (nm (a.nat * b.nat % Cv.ord)) c (nm_ok _) oc
  rw [s_nat, Nat.mod_mul_mod] at M3
  have M4 := SM b c ob oc
  have M5 := SM a (nm (b.nat * c.nat % Cv.ord)) oa (nm_ok _)
  rw [s_nat, Nat.mul_mod_mod, ← Nat.mul_assoc] at M5
  have M6 := SM a (nm ((b.nat + c.nat) % Cv.ord)) oa (nm_ok _)
  rw [s_nat, Nat.mul_mod_mod, Nat.mul_add] at M6
  have M7 := SM a c oa oc
  have A6 := SA (nm (a.nat * b.nat % Cv.ord)) (nm (a.nat * c.nat % Cv.ord)) (nm_ok _) (nm_ok _)
  rw [s_nat, s_nat, Nat.mod_add_mod, Nat.add_mod_mod] at A6
  have N1 := SN a oa
  have A7 := SA a (nm ((Cv.ord - a.nat % Cv.ord) % Cv.ord)) oa (nm_ok _)
  have hl := Nat.mod_lt a.nat ord_pos
  rw [s_nat, Nat.add_mod_mod, ← Nat.mod_add_mod, show a.nat % Cv.ord + (Cv.ord - a.nat % Cv.ord) = Cv.ord by omega, Nat.mod_self] at A7
  have C1 := cmp_fun (nm (a.nat % Cv.ord)) (nm Cv.ord) (nm_ok _) (nm_ok _)
  have ec : cmpV (nm (a.nat % Cv.ord)) (nm Cv.ord) = -1 := by
    unfold cmpV
    rw [if_pos]
    rw [← Nm.nat_cast (nm_ok _), ← Nm.nat_cast (nm_ok _), s_nat, nm_nat ord_lt]
    exact Int.ofNat_lt.2 hl
  rw [ec] at C1
  have S1 := SW a oa
  have I1 := SI a oa
  by_cases h : a.nat % Cv.ord = 0
  · rw [h] at S1 C1
    have hi : a.nat ^ (Cv.ord - 2) % Cv.ord = 0 := by
      rw [Nat.pow_mod, h, Nat.zero_pow (by decide), Nat.zero_mod]
    rw [hi] at I1
    exact scLaws_zero a b c _ _ _ _ _ _ _ _ _ _ ne (eq _) S1 SL C1 A1 A2 A3 A4 A5 M1 M2 M3 M4 M5 M6 M7 A6 N1 A7 I1 w
  · have q1 := eqN (nm (a.nat % Cv.ord)) ⟨0, 0, 0, 0⟩
    rw [Nm.beq_ne (fun e => h (by
      have := congrArg Nm.nat e
      rw [s_nat] at this
      exact this))] at q1
    have M8 := SM a (nm (a.nat ^ (Cv.ord - 2) % Cv.ord)) oa (nm_ok _)
    have hf := P.fermat Cv.ord_pr (fun hd => h ((Nat.dvd_iff_mod_eq_zero ..).1 hd))
    have e8 : a.nat * (a.nat ^ (Cv.ord - 2)) % Cv.ord = 1 := by
      rw [Nat.mul_comm, ← Nat.pow_succ, show (Cv.ord - 2).succ = Cv.ord - 1 by decide]
      exact hf
    rw [s_nat, Nat.mul_mod_mod, e8] at M8
    exact scLaws_not a b c _ _ _ _ _ _ _ _ _ _ _ _ ne q1 (eq _) S1 SL C1 A1 A2 A3 A4 A5 M1 M2 M3 M4 M5 M6 M7 A6 N1 A7 I1 M8 w
end Go.Proofs.Ytjcnfffmciahiaa
