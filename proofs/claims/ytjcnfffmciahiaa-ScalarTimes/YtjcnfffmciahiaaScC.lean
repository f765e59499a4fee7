/- What package scalar must keep: its calls' contracts, each as one premise; CurveOrder and ScalarTimes out of them. -/
import Derived.Test.YtjcnfffmciahiaaCrvGroup
import Derived.Test.YtjcnfffmciahiaaFldC
import Derived.Test.YtjcnfffmciahiaaScD
namespace Go.Proofs.Ytjcnfffmciahiaa
open Go.RowKit
attribute [local go_sem] World.cell?_alloc_some cell_alloc2 cell_alloc3 cell_alloc4 frozen?_alloc_cells frozen_out
set_option linter.unusedSimpArgs false
set_option maxHeartbeats 2000000 in
theorem order_no (n px py bx by_ lm lo zx zy tx ty : Nm) (c : Bool) (e1 : ∀ w, (binOp .neq 26 (Wv zx zy) (Wv zx zy)).run Try.prog w = .ok (.bool false) w) (e2 : ∀ w, (binOp .neq 26 (Wv tx ty) (Wv tx ty)).run Try.prog w = .ok (.bool false) w)
    (e3 : ∀ w, (binOp .eql 26 (Wv tx ty) (Wv zx zy)).run Try.prog w = .ok (.bool c) w) (e4 : ∀ w, (binOp .eql 24 (N lo) (N ⟨0, 0, 0, 0⟩)).run Try.prog w = .ok (.bool c) w) (e5 : ∀ w, (binOp .neq 4 (.bool c) (.bool c)).run Try.prog w = .ok (.bool false) w)
    (CV : ∀ w, Calls Try.prog 7 #[] w fun e w' => e = .returned (.bool true) ∧ Below w.heap.size w w')
    (B1 : ∀ w, Calls Try.prog 8 #[] w fun e w' => e = .returned (Wv bx by_) ∧ Below w.heap.size w w')
    (S1 : ∀ w, Calls Try.prog 10 #[] w fun e w' => e = .returned (N lm) ∧ Below w.heap.size w w')
    (T1 : ∀ w, Calls Try.prog 9 #[N lm, Wv bx by_] w fun e w' => e = .returned (Wv zx zy) ∧ Below w.heap.size w w')
    (Z1 : ∀ w, Calls Try.prog 11 #[] w fun e w' => e = .returned (Wv zx zy) ∧ Below w.heap.size w w')
    (T2 : ∀ w, Calls Try.prog 9 #[N n, Wv bx by_] w fun e w' => e = .returned (Wv tx ty) ∧ Below w.heap.size w w')
    (S2 : ∀ w, Calls Try.prog 12 #[N n] w fun e w' => e = .returned (N lo) ∧ Below w.heap.size w w')
    (T3 : ∀ w, Calls Try.prog 9 #[N lo, Wv bx by_] w fun e w' => e = .returned (Wv tx ty) ∧ Below w.heap.size w w')
    (O1 : ∀ w, Calls Try.prog 13 #[Wv px py] w fun e w' => e = .returned (.bool false) ∧ Below w.heap.size w w')
    (w : World) :
    Calls Try.prog 3 #[N n, Wv px py] w fun e w' => e = .returned (.bool true) ∧ Below w.heap.size w w' := by
  go_enter Try.func3, Try.ntmps3
  have s0 : Hid (Kn (kalP (kal4 w (n)) (px) (py)) [(w.heap.size + 1, (c8 (px) (py))), (w.heap.size, (c4 (n)))]) := (((Kn.nil w).al (c4 (n)) 24 rfl).al (c8 (px) (py)) 26 (by simp))
  have b0 : Hid (Below w.heap.size w (kalP (kal4 w (n)) (px) (py))) := (((Below.refl _ _).alloc (Nat.le_refl _) _).alloc (by simp <;> omega) _)
  go_wp2_with fail
  refine (CV _).mono ?_
  rintro e w1 ⟨rfl, hb1⟩
  have s1 : Hid (Kn w1 [(w.heap.size + 1, (c8 (px) (py))), (w.heap.size, (c4 (n)))]) := s0.out.up hb1
  have b1 : Hid (Below w.heap.size w w1) := b0.out.trans (hb1.mono b0.out.size)
  have z1 := b1.out.size
  clear hb1 s0 b0
  go_wp2_with fail
  refine (B1 _).mono ?_
  rintro e w2 ⟨rfl, hb2⟩
  have s2 : Hid (Kn w2 [(w.heap.size + 1, (c8 (px) (py))), (w.heap.size, (c4 (n)))]) := s1.out.up hb2
  have b2 : Hid (Below w.heap.size w w2) := b1.out.trans (hb2.mono b1.out.size)
  have z2 := b2.out.size
  clear hb2 s1 b1
  have s3 : Hid (Kn (kalP w2 (bx) (by_)) [(w2.heap.size, (c8 (bx) (by_))), (w.heap.size + 1, (c8 (px) (py))), (w.heap.size, (c4 (n)))]) := s2.out.al (c8 (bx) (by_)) 26 rfl
  have b3 : Hid (Below w.heap.size w (kalP w2 (bx) (by_))) := b2.out.alloc b2.out.size _
  have z3 := b2.out.size
  clear s2 b2
  go_wp2_with fail
  refine wp_region_up (by kernel_rfl) (by kernel_rfl) (fun U hU f hf hcl => ?_)
  have un_0 := fun nx => (Kn.get (s3.out.up (hf nx).out) 2 0 rfl rfl : (f nx).cell? ⟨w.heap.size, 0, none⟩ = some (.int .u64 (n).a))
  have un_1 := fun nx => (Kn.get (s3.out.up (hf nx).out) 2 1 rfl rfl : (f nx).cell? ⟨w.heap.size, 1, none⟩ = some (.int .u64 (n).b))
  have un_2 := fun nx => (Kn.get (s3.out.up (hf nx).out) 2 2 rfl rfl : (f nx).cell? ⟨w.heap.size, 2, none⟩ = some (.int .u64 (n).c))
  have un_3 := fun nx => (Kn.get (s3.out.up (hf nx).out) 2 3 rfl rfl : (f nx).cell? ⟨w.heap.size, 3, none⟩ = some (.int .u64 (n).d))
  have ub_0 := fun nx => (Kn.get (s3.out.up (hf nx).out) 0 0 rfl rfl : (f nx).cell? ⟨w2.heap.size, 0, none⟩ = some (.int .u64 (bx).a))
  have ub_1 := fun nx => (Kn.get (s3.out.up (hf nx).out) 0 1 rfl rfl : (f nx).cell? ⟨w2.heap.size, 1, none⟩ = some (.int .u64 (bx).b))
  have ub_2 := fun nx => (Kn.get (s3.out.up (hf nx).out) 0 2 rfl rfl : (f nx).cell? ⟨w2.heap.size, 2, none⟩ = some (.int .u64 (bx).c))
  have ub_3 := fun nx => (Kn.get (s3.out.up (hf nx).out) 0 3 rfl rfl : (f nx).cell? ⟨w2.heap.size, 3, none⟩ = some (.int .u64 (bx).d))
  have ub_4 := fun nx => (Kn.get (s3.out.up (hf nx).out) 0 4 rfl rfl : (f nx).cell? ⟨w2.heap.size, 4, none⟩ = some (.int .u64 (by_).a))
  have ub_5 := fun nx => (Kn.get (s3.out.up (hf nx).out) 0 5 rfl rfl : (f nx).cell? ⟨w2.heap.size, 5, none⟩ = some (.int .u64 (by_).b))
  have ub_6 := fun nx => (Kn.get (s3.out.up (hf nx).out) 0 6 rfl rfl : (f nx).cell? ⟨w2.heap.size, 6, none⟩ = some (.int .u64 (by_).c))
  have ub_7 := fun nx => (Kn.get (s3.out.up (hf nx).out) 0 7 rfl rfl : (f nx).cell? ⟨w2.heap.size, 7, none⟩ = some (.int .u64 (by_).d))
  try simp only [List.append_eq, List.cons_append, List.nil_append]
  repeat (go_big_quiet_step (first | (go_at_call 10; exact (S1 _).mono fun e w'' ⟨he, hb⟩ => ⟨he, hcl.out _ _ hb⟩) | (go_at_call_of 9 [N lm, Value.agg #[Value.int IntKind.u64 bx.a, Value.int IntKind.u64 bx.b, Value.int IntKind.u64 bx.c, Value.int IntKind.u64 bx.d, Value.int IntKind.u64 by_.a, Value.int IntKind.u64 by_.b, Value.int IntKind.u64 by_.c, Value.int IntKind.u64 by_.d]]; exact (T1 _).mono fun e w'' ⟨he, hb⟩ => ⟨he, hcl.out _ _ hb⟩) | (go_at_call 11; exact (Z1 _).mono fun e w'' ⟨he, hb⟩ => ⟨he, hcl.out _ _ hb⟩) | (go_at_call_of 9 [Value.agg #[Value.int IntKind.u64 n.a, Value.int IntKind.u64 n.b, Value.int IntKind.u64 n.c, Value.int IntKind.u64 n.d], Value.agg #[Value.int IntKind.u64 bx.a, Value.int IntKind.u64 bx.b, Value.int IntKind.u64 bx.c, Value.int IntKind.u64 bx.d, Value.int IntKind.u64 by_.a, Value.int IntKind.u64 by_.b, Value.int IntKind.u64 by_.c, Value.int IntKind.u64 by_.d]]; exact (T2 _).mono fun e w'' ⟨he, hb⟩ => ⟨he, hcl.out _ _ hb⟩) | (go_at_call 12; exact (S2 _).mono fun e w'' ⟨he, hb⟩ => ⟨he, hcl.out _ _ hb⟩) | (go_at_call_of 9 [N lo, Value.agg #[Value.int IntKind.u64 bx.a, Value.int IntKind.u64 bx.b, Value.int IntKind.u64 bx.c, Value.int IntKind.u64 bx.d, Value.int IntKind.u64 by_.a, Value.int IntKind.u64 by_.b, Value.int IntKind.u64 by_.c, Value.int IntKind.u64 by_.d]]; exact (T3 _).mono fun e w'' ⟨he, hb⟩ => ⟨he, hcl.out _ _ hb⟩)))
  refine wpQuiet_nil ?_
  intro nx
  have hb4 := (hf nx).out
  clear hf hcl un_0 un_1 un_2 un_3 ub_0 ub_1 ub_2 ub_3 ub_4 ub_5 ub_6 ub_7
  generalize f nx = w4 at hb4 ⊢
  have s4 : Hid (Kn w4 [(w2.heap.size, (c8 (bx) (by_))), (w.heap.size + 1, (c8 (px) (py))), (w.heap.size, (c4 (n)))]) := s3.out.up hb4
  have b4 : Hid (Below w.heap.size w w4) := b3.out.trans (hb4.mono b3.out.size)
  have z4 := b4.out.size
  clear hb4 s3 b3
  go_wp2_with fail
  refine wp_region_up (by kernel_rfl) (by kernel_rfl) (fun U hU f hf hcl => ?_)
  have up_0 := fun nx => (Kn.get (s4.out.up (hf nx).out) 1 0 rfl rfl : (f nx).cell? ⟨w.heap.size + 1, 0, none⟩ = some (.int .u64 (px).a))
  have up_1 := fun nx => (Kn.get (s4.out.up (hf nx).out) 1 1 rfl rfl : (f nx).cell? ⟨w.heap.size + 1, 1, none⟩ = some (.int .u64 (px).b))
  have up_2 := fun nx => (Kn.get (s4.out.up (hf nx).out) 1 2 rfl rfl : (f nx).cell? ⟨w.heap.size + 1, 2, none⟩ = some (.int .u64 (px).c))
  have up_3 := fun nx => (Kn.get (s4.out.up (hf nx).out) 1 3 rfl rfl : (f nx).cell? ⟨w.heap.size + 1, 3, none⟩ = some (.int .u64 (px).d))
  have up_4 := fun nx => (Kn.get (s4.out.up (hf nx).out) 1 4 rfl rfl : (f nx).cell? ⟨w.heap.size + 1, 4, none⟩ = some (.int .u64 (py).a))
  have up_5 := fun nx => (Kn.get (s4.out.up (hf nx).out) 1 5 rfl rfl : (f nx).cell? ⟨w.heap.size + 1, 5, none⟩ = some (.int .u64 (py).b))
  have up_6 := fun nx => (Kn.get (s4.out.up (hf nx).out) 1 6 rfl rfl : (f nx).cell? ⟨w.heap.size + 1, 6, none⟩ = some (.int .u64 (py).c))
  have up_7 := fun nx => (Kn.get (s4.out.up (hf nx).out) 1 7 rfl rfl : (f nx).cell? ⟨w.heap.size + 1, 7, none⟩ = some (.int .u64 (py).d))
  try simp only [List.append_eq, List.cons_append, List.nil_append]
  repeat (go_big_quiet_step (first | (go_at_call 13; exact (O1 _).mono fun e w'' ⟨he, hb⟩ => ⟨he, hcl.out _ _ hb⟩)))
  refine wpQuiet_nil ?_
  intro nx
  have hb5 := (hf nx).out
  clear hf hcl up_0 up_1 up_2 up_3 up_4 up_5 up_6 up_7
  generalize f nx = w5 at hb5 ⊢
  have s5 : Hid (Kn w5 [(w2.heap.size, (c8 (bx) (by_))), (w.heap.size + 1, (c8 (px) (py))), (w.heap.size, (c4 (n)))]) := s4.out.up hb5
  have b5 : Hid (Below w.heap.size w w5) := b4.out.trans (hb5.mono b4.out.size)
  have z5 := b5.out.size
  clear hb5 s4 b4
  go_wp2_with fail
  go_ret
  exact ⟨rfl, b5.out⟩
set_option maxHeartbeats 2000000 in
theorem order_yes (n px py bx by_ lm lo zx zy tx ty ux uy : Nm) (c : Bool) (e1 : ∀ w, (binOp .neq 26 (Wv zx zy) (Wv zx zy)).run Try.prog w = .ok (.bool false) w) (e2 : ∀ w, (binOp .neq 26 (Wv tx ty) (Wv tx ty)).run Try.prog w = .ok (.bool false) w)
    (e3 : ∀ w, (binOp .eql 26 (Wv tx ty) (Wv zx zy)).run Try.prog w = .ok (.bool c) w) (e4 : ∀ w, (binOp .eql 24 (N lo) (N ⟨0, 0, 0, 0⟩)).run Try.prog w = .ok (.bool c) w) (e5 : ∀ w, (binOp .neq 4 (.bool c) (.bool c)).run Try.prog w = .ok (.bool false) w) (e6 : ∀ w, (binOp .eql 26 (Wv zx zy) (Wv zx zy)).run Try.prog w = .ok (.bool true) w)
    (CV : ∀ w, Calls Try.prog 7 #[] w fun e w' => e = .returned (.bool true) ∧ Below w.heap.size w w')
    (B1 : ∀ w, Calls Try.prog 8 #[] w fun e w' => e = .returned (Wv bx by_) ∧ Below w.heap.size w w')
    (S1 : ∀ w, Calls Try.prog 10 #[] w fun e w' => e = .returned (N lm) ∧ Below w.heap.size w w')
    (T1 : ∀ w, Calls Try.prog 9 #[N lm, Wv bx by_] w fun e w' => e = .returned (Wv zx zy) ∧ Below w.heap.size w w')
    (Z1 : ∀ w, Calls Try.prog 11 #[] w fun e w' => e = .returned (Wv zx zy) ∧ Below w.heap.size w w')
    (T2 : ∀ w, Calls Try.prog 9 #[N n, Wv bx by_] w fun e w' => e = .returned (Wv tx ty) ∧ Below w.heap.size w w')
    (S2 : ∀ w, Calls Try.prog 12 #[N n] w fun e w' => e = .returned (N lo) ∧ Below w.heap.size w w')
    (T3 : ∀ w, Calls Try.prog 9 #[N lo, Wv bx by_] w fun e w' => e = .returned (Wv tx ty) ∧ Below w.heap.size w w')
    (O1 : ∀ w, Calls Try.prog 13 #[Wv px py] w fun e w' => e = .returned (.bool true) ∧ Below w.heap.size w w')
    (T4 : ∀ w, Calls Try.prog 9 #[N ⟨8,0,0,0⟩, Wv px py] w fun e w' => e = .returned (Wv ux uy) ∧ Below w.heap.size w w')
    (T5 : ∀ w, Calls Try.prog 9 #[N lm, Wv ux uy] w fun e w' => e = .returned (Wv zx zy) ∧ Below w.heap.size w w')
    (w : World) :
    Calls Try.prog 3 #[N n, Wv px py] w fun e w' => e = .returned (.bool true) ∧ Below w.heap.size w w' := by
  go_enter Try.func3, Try.ntmps3
  have s0 : Hid (Kn (kalP (kal4 w (n)) (px) (py)) [(w.heap.size + 1, (c8 (px) (py))), (w.heap.size, (c4 (n)))]) := (((Kn.nil w).al (c4 (n)) 24 rfl).al (c8 (px) (py)) 26 (by simp))
  have b0 : Hid (Below w.heap.size w (kalP (kal4 w (n)) (px) (py))) := (((Below.refl _ _).alloc (Nat.le_refl _) _).alloc (by simp <;> omega) _)
  go_wp2_with fail
  refine (CV _).mono ?_
  rintro e w1 ⟨rfl, hb1⟩
  have s1 : Hid (Kn w1 [(w.heap.size + 1, (c8 (px) (py))), (w.heap.size, (c4 (n)))]) := s0.out.up hb1
  have b1 : Hid (Below w.heap.size w w1) := b0.out.trans (hb1.mono b0.out.size)
  have z1 := b1.out.size
  clear hb1 s0 b0
  go_wp2_with fail
  refine (B1 _).mono ?_
  rintro e w2 ⟨rfl, hb2⟩
  have s2 : Hid (Kn w2 [(w.heap.size + 1, (c8 (px) (py))), (w.heap.size, (c4 (n)))]) := s1.out.up hb2
  have b2 : Hid (Below w.heap.size w w2) := b1.out.trans (hb2.mono b1.out.size)
  have z2 := b2.out.size
  clear hb2 s1 b1
  have s3 : Hid (Kn (kalP w2 (bx) (by_)) [(w2.heap.size, (c8 (bx) (by_))), (w.heap.size + 1, (c8 (px) (py))), (w.heap.size, (c4 (n)))]) := s2.out.al (c8 (bx) (by_)) 26 rfl
  have b3 : Hid (Below w.heap.size w (kalP w2 (bx) (by_))) := b2.out.alloc b2.out.size _
  have z3 := b2.out.size
  clear s2 b2
  go_wp2_with fail
  refine wp_region_up (by kernel_rfl) (by kernel_rfl) (fun U hU f hf hcl => ?_)
  have un_0 := fun nx => (Kn.get (s3.out.up (hf nx).out) 2 0 rfl rfl : (f nx).cell? ⟨w.heap.size, 0, none⟩ = some (.int .u64 (n).a))
  have un_1 := fun nx => (Kn.get (s3.out.up (hf nx).out) 2 1 rfl rfl : (f nx).cell? ⟨w.heap.size, 1, none⟩ = some (.int .u64 (n).b))
  have un_2 := fun nx => (Kn.get (s3.out.up (hf nx).out) 2 2 rfl rfl : (f nx).cell? ⟨w.heap.size, 2, none⟩ = some (.int .u64 (n).c))
  have un_3 := fun nx => (Kn.get (s3.out.up (hf nx).out) 2 3 rfl rfl : (f nx).cell? ⟨w.heap.size, 3, none⟩ = some (.int .u64 (n).d))
  have ub_0 := fun nx => (Kn.get (s3.out.up (hf nx).out) 0 0 rfl rfl : (f nx).cell? ⟨w2.heap.size, 0, none⟩ = some (.int .u64 (bx).a))
  have ub_1 := fun nx => (Kn.get (s3.out.up (hf nx).out) 0 1 rfl rfl : (f nx).cell? ⟨w2.heap.size, 1, none⟩ = some (.int .u64 (bx).b))
  have ub_2 := fun nx => (Kn.get (s3.out.up (hf nx).out) 0 2 rfl rfl : (f nx).cell? ⟨w2.heap.size, 2, none⟩ = some (.int .u64 (bx).c))
  have ub_3 := fun nx => (Kn.get (s3.out.up (hf nx).out) 0 3 rfl rfl : (f nx).cell? ⟨w2.heap.size, 3, none⟩ = some (.int .u64 (bx).d))
  have ub_4 := fun nx => (Kn.get (s3.out.up (hf nx).out) 0 4 rfl rfl : (f nx).cell? ⟨w2.heap.size, 4, none⟩ = some (.int .u64 (by_).a))
  have ub_5 := fun nx => (Kn.get (s3.out.up (hf nx).out) 0 5 rfl rfl : (f nx).cell? ⟨w2.heap.size, 5, none⟩ = some (.int .u64 (by_).b))
  have ub_6 := fun nx => (Kn.get (s3.out.up (hf nx).out) 0 6 rfl rfl : (f nx).cell? ⟨w2.heap.size, 6, none⟩ = some (.int .u64 (by_).c))
  have ub_7 := fun nx => (Kn.get (s3.out.up (hf nx).out) 0 7 rfl rfl : (f nx).cell? ⟨w2.heap.size, 7, none⟩ = some (.int .u64 (by_).d))
  try simp only [List.append_eq, List.cons_append, List.nil_append]
  repeat (go_big_quiet_step (first | (go_at_call 10; exact (S1 _).mono fun e w'' ⟨he, hb⟩ => ⟨he, hcl.out _ _ hb⟩) | (go_at_call_of 9 [N lm, Value.agg #[Value.int IntKind.u64 bx.a, Value.int IntKind.u64 bx.b, Value.int IntKind.u64 bx.c, Value.int IntKind.u64 bx.d, Value.int IntKind.u64 by_.a, Value.int IntKind.u64 by_.b, Value.int IntKind.u64 by_.c, Value.int IntKind.u64 by_.d]]; exact (T1 _).mono fun e w'' ⟨he, hb⟩ => ⟨he, hcl.out _ _ hb⟩) | (go_at_call 11; exact (Z1 _).mono fun e w'' ⟨he, hb⟩ => ⟨he, hcl.out _ _ hb⟩) | (go_at_call_of 9 [Value.agg #[Value.int IntKind.u64 n.a, Value.int IntKind.u64 n.b, Value.int IntKind.u64 n.c, Value.int IntKind.u64 n.d], Value.agg #[Value.int IntKind.u64 bx.a, Value.int IntKind.u64 bx.b, Value.int IntKind.u64 bx.c, Value.int IntKind.u64 bx.d, Value.int IntKind.u64 by_.a, Value.int IntKind.u64 by_.b, Value.int IntKind.u64 by_.c, Value.int IntKind.u64 by_.d]]; exact (T2 _).mono fun e w'' ⟨he, hb⟩ => ⟨he, hcl.out _ _ hb⟩) | (go_at_call 12; exact (S2 _).mono fun e w'' ⟨he, hb⟩ => ⟨he, hcl.out _ _ hb⟩) | (go_at_call_of 9 [N lo, Value.agg #[Value.int IntKind.u64 bx.a, Value.int IntKind.u64 bx.b, Value.int IntKind.u64 bx.c, Value.int IntKind.u64 bx.d, Value.int IntKind.u64 by_.a, Value.int IntKind.u64 by_.b, Value.int IntKind.u64 by_.c, Value.int IntKind.u64 by_.d]]; exact (T3 _).mono fun e w'' ⟨he, hb⟩ => ⟨he, hcl.out _ _ hb⟩)))
  refine wpQuiet_nil ?_
  intro nx
  have hb4 := (hf nx).out
  clear hf hcl un_0 un_1 un_2 un_3 ub_0 ub_1 ub_2 ub_3 ub_4 ub_5 ub_6 ub_7
  generalize f nx = w4 at hb4 ⊢
  have s4 : Hid (Kn w4 [(w2.heap.size, (c8 (bx) (by_))), (w.heap.size + 1, (c8 (px) (py))), (w.heap.size, (c4 (n)))]) := s3.out.up hb4
  have b4 : Hid (Below w.heap.size w w4) := b3.out.trans (hb4.mono b3.out.size)
  have z4 := b4.out.size
  clear hb4 s3 b3
  go_wp2_with fail
  refine wp_region_up (by kernel_rfl) (by kernel_rfl) (fun U hU f hf hcl => ?_)
  have up_0 := fun nx => (Kn.get (s4.out.up (hf nx).out) 1 0 rfl rfl : (f nx).cell? ⟨w.heap.size + 1, 0, none⟩ = some (.int .u64 (px).a))
  have up_1 := fun nx => (Kn.get (s4.out.up (hf nx).out) 1 1 rfl rfl : (f nx).cell? ⟨w.heap.size + 1, 1, none⟩ = some (.int .u64 (px).b))
  have up_2 := fun nx => (Kn.get (s4.out.up (hf nx).out) 1 2 rfl rfl : (f nx).cell? ⟨w.heap.size + 1, 2, none⟩ = some (.int .u64 (px).c))
  have up_3 := fun nx => (Kn.get (s4.out.up (hf nx).out) 1 3 rfl rfl : (f nx).cell? ⟨w.heap.size + 1, 3, none⟩ = some (.int .u64 (px).d))
  have up_4 := fun nx => (Kn.get (s4.out.up (hf nx).out) 1 4 rfl rfl : (f nx).cell? ⟨w.heap.size + 1, 4, none⟩ = some (.int .u64 (py).a))
  have up_5 := fun nx => (Kn.get (s4.out.up (hf nx).out) 1 5 rfl rfl : (f nx).cell? ⟨w.heap.size + 1, 5, none⟩ = some (.int .u64 (py).b))
  have up_6 := fun nx => (Kn.get (s4.out.up (hf nx).out) 1 6 rfl rfl : (f nx).cell? ⟨w.heap.size + 1, 6, none⟩ = some (.int .u64 (py).c))
  have up_7 := fun nx => (Kn.get (s4.out.up (hf nx).out) 1 7 rfl rfl : (f nx).cell? ⟨w.heap.size + 1, 7, none⟩ = some (.int .u64 (py).d))
  try simp only [List.append_eq, List.cons_append, List.nil_append]
  repeat (go_big_quiet_step (first | (go_at_call 13; exact (O1 _).mono fun e w'' ⟨he, hb⟩ => ⟨he, hcl.out _ _ hb⟩) | (go_at_call 10; exact (S1 _).mono fun e w'' ⟨he, hb⟩ => ⟨he, hcl.out _ _ hb⟩) | (go_at_call_of 9 [Value.agg #[Value.int IntKind.u64 8, Value.int IntKind.u64 0, Value.int IntKind.u64 0, Value.int IntKind.u64 0], Value.agg #[Value.int IntKind.u64 px.a, Value.int IntKind.u64 px.b, Value.int IntKind.u64 px.c, Value.int IntKind.u64 px.d, Value.int IntKind.u64 py.a, Value.int IntKind.u64 py.b, Value.int IntKind.u64 py.c, Value.int IntKind.u64 py.d]]; exact (T4 _).mono fun e w'' ⟨he, hb⟩ => ⟨he, hcl.out _ _ hb⟩) | (go_at_call_of 9 [N lm, Wv ux uy]; exact (T5 _).mono fun e w'' ⟨he, hb⟩ => ⟨he, hcl.out _ _ hb⟩) | (go_at_call 11; exact (Z1 _).mono fun e w'' ⟨he, hb⟩ => ⟨he, hcl.out _ _ hb⟩)))
  refine wpQuiet_nil ?_
  intro nx
  have hb5 := (hf nx).out
  clear hf hcl up_0 up_1 up_2 up_3 up_4 up_5 up_6 up_7
  generalize f nx = w5 at hb5 ⊢
  have s5 : Hid (Kn w5 [(w2.heap.size, (c8 (bx) (by_))), (w.heap.size + 1, (c8 (px) (py))), (w.heap.size, (c4 (n)))]) := s4.out.up hb5
  have b5 : Hid (Below w.heap.size w w5) := b4.out.trans (hb5.mono b4.out.size)
  have z5 := b5.out.size
  clear hb5 s4 b4
  go_wp2_with fail
  go_ret
  exact ⟨rfl, b5.out⟩
theorem neBool_self (c : Bool) (w : World) : (binOp .neq 4 (.bool c) (.bool c)).run Try.prog w = .ok (.bool false) w := by
  cases c <;> simp [go_sem]
theorem nePt_self (x y : Nm) (w : World) : (binOp .neq 26 (Wv x y) (Wv x y)).run Try.prog w = .ok (.bool false) w := by rw [neP, Nm.beq_self, Nm.beq_self]; rfl
theorem pv_eq {P Q : Cv.Pt} (hP : Cv.On P) (hQ : Cv.On Q) (w : World) : (binOp .eql 26 (pv P) (pv Q)).run Try.prog w = .ok (.bool (decide (P = Q))) w := by
  rw [eqP]
  congr 2
  by_cases h : P = Q
  · rw [decide_eq_true h, h, Nm.beq_self, Nm.beq_self]
    rfl
  · rw [decide_eq_false h]
    refine Bool.eq_false_iff.2 fun e => h ?_
    rw [Bool.and_eq_true] at e
    have l : ∀ {n : Nat}, n < F.p → n < 2 ^ 256 := fun h => Nat.lt_trans h F.p_lt
    have e1 := congrArg Nm.nat (Nm.beq_iff.1 e.1)
    have e2 := congrArg Nm.nat (Nm.beq_iff.1 e.2)
    rw [nm_nat (l hP.1), nm_nat (l hQ.1)] at e1
    rw [nm_nat (l hP.2.1), nm_nat (l hQ.2.1)] at e2
    exact Prod.ext e1 e2
theorem curveOrder_of (SL : SLC) (SW : SLowC) (CO : COnC) (CZ : CZeroC) (CB : CBaseC) (CT : CTimesC) (n px py : Nm) (on : n.ok) (a1 : px.ok) (a2 : py.ok) (w : World) :
    Calls Try.prog 3 #[N n, Wv px py] w fun e w' => e = .returned (.bool true) ∧ Below w.heap.size w w' := by
  have CV := curves_fun CB CO
  have T1 := times_fun CT (nm Cv.ord) (nm_ok _) _ Cv.base_on
  rw [nm_nat ord_lt, Cv.base_ord] at T1
  have T2 := times_fun CT n on _ Cv.base_on
  have T3 := times_fun CT (nm (n.nat % Cv.ord)) (nm_ok _) _ Cv.base_on
  rw [s_nat, Cv.base_mod] at T3
  have e3 := pv_eq (Cv.times_on Cv.base_on n.nat) Cv.zero_on
  have e4 := eqN (nm (n.nat % Cv.ord)) ⟨0, 0, 0, 0⟩
  have ec : Nm.beq (nm (n.nat % Cv.ord)) ⟨0, 0, 0, 0⟩ = decide (Cv.times n.nat Cv.base = Cv.zero) := by
    by_cases h : n.nat % Cv.ord = 0
    · rw [h, decide_eq_true ((Cv.base_iff _).2 h)]
      exact Nm.beq_self _
    · rw [decide_eq_false (fun e => h ((Cv.base_iff _).1 e))]
      refine Nm.beq_ne fun e => h ?_
      have := congrArg Nm.nat e
      rw [s_nat] at this
      exact this
  rw [ec] at e4
  by_cases hP : Cv.On (px.nat, py.nat)
  · have O1 := CO.1 _ hP
    have T4 := times_fun CT ⟨8, 0, 0, 0⟩ (by constructor <;> (constructor <;> decide)) _ hP
    have T5 := times_fun CT (nm Cv.ord) (nm_ok _) _ (Cv.times_on hP 8)
    rw [nm_nat ord_lt, ← Cv.times_mul hP, Cv.eight_ord hP] at T5
    rw [← pv_of a1 a2] at O1 T4
    exact order_yes n px py _ _ _ _ _ _ _ _ _ _ _ (nePt_self _ _) (nePt_self _ _) e3 e4 (neBool_self _) (eqP_self _ _) CV CB SL T1 CZ T2 (SW n on) T3 O1 T4 T5 w
  · exact order_no n px py _ _ _ _ _ _ _ _ _ (nePt_self _ _) (nePt_self _ _) e3 e4 (neBool_self _) CV CB SL T1 CZ T2 (SW n on) T3 (CO.2 px py a1 a2 hP) w
set_option maxHeartbeats 1000000 in
theorem scalars_walk (e1 : ∀ w, (binOp .eql 24 (N ⟨3, 0, 0, 0⟩) (N ⟨3, 0, 0, 0⟩)).run Try.prog w = .ok (.bool true) w)
    (A1 : ∀ w, Calls Try.prog 15 #[N ⟨1,0,0,0⟩, N ⟨2,0,0,0⟩] w fun e w' => e = .returned (N ⟨3,0,0,0⟩) ∧ Below w.heap.size w w')
    (w : World) : Calls Try.prog 19 #[] w fun e w' => e = .returned (.bool true) ∧ Below w.heap.size w w' := by
  go_enter Try.func19, Try.ntmps19
  have s0 : Hid (Kn w []) := (Kn.nil w)
  have b0 : Hid (Below w.heap.size w w) := (Below.refl _ _)
  go_wp2_with fail
  refine (A1 _).mono ?_
  rintro e w1 ⟨rfl, hb1⟩
  have s1 : Hid (Kn w1 []) := s0.out.up hb1
  have b1 : Hid (Below w.heap.size w w1) := b0.out.trans (hb1.mono b0.out.size)
  have z1 := b1.out.size
  clear hb1 s0 b0
  go_wp2_with fail
  go_ret
  exact ⟨rfl, b1.out⟩
theorem scalars_fun (SA : SAddC) (w : World) : Calls Try.prog 19 #[] w fun e w' => e = .returned (.bool true) ∧ Below w.heap.size w w' := by
  have e1 := eqN ⟨3, 0, 0, 0⟩ ⟨3, 0, 0, 0⟩
  rw [Nm.beq_self] at e1
  have h := SA ⟨1, 0, 0, 0⟩ ⟨2, 0, 0, 0⟩ fo_ok fw_ok
  have e : nm (((⟨1, 0, 0, 0⟩ : Nm).nat + (⟨2, 0, 0, 0⟩ : Nm).nat) % Cv.ord) = ⟨3, 0, 0, 0⟩ := by
    rw [show (⟨1, 0, 0, 0⟩ : Nm).nat = 1 from rfl, show (⟨2, 0, 0, 0⟩ : Nm).nat = 2 from rfl]
    rfl
  rw [e] at h
  exact scalars_walk e1 h w
set_option maxHeartbeats 2000000 in
theorem scTimes_walk (m n bx by_ mn sm_ ng zx zy t1x t1y t2x t2y t3x t3y t4x t4y t5x t5y : Nm) (e1 : ∀ w, (binOp .eql 26 (Wv t1x t1y) (Wv t1x t1y)).run Try.prog w = .ok (.bool true) w) (e2 : ∀ w, (binOp .eql 26 (Wv t4x t4y) (Wv t4x t4y)).run Try.prog w = .ok (.bool true) w) (e3 : ∀ w, (binOp .eql 26 (Wv zx zy) (Wv zx zy)).run Try.prog w = .ok (.bool true) w)
    (SC : ∀ w, Calls Try.prog 19 #[] w fun e w' => e = .returned (.bool true) ∧ Below w.heap.size w w')
    (B1 : ∀ w, Calls Try.prog 8 #[] w fun e w' => e = .returned (Wv bx by_) ∧ Below w.heap.size w w')
    (M1 : ∀ w, Calls Try.prog 16 #[N m, N n] w fun e w' => e = .returned (N mn) ∧ Below w.heap.size w w')
    (T1 : ∀ w, Calls Try.prog 9 #[N mn, Wv bx by_] w fun e w' => e = .returned (Wv t1x t1y) ∧ Below w.heap.size w w')
    (T2 : ∀ w, Calls Try.prog 9 #[N n, Wv bx by_] w fun e w' => e = .returned (Wv t2x t2y) ∧ Below w.heap.size w w')
    (T3 : ∀ w, Calls Try.prog 9 #[N m, Wv t2x t2y] w fun e w' => e = .returned (Wv t1x t1y) ∧ Below w.heap.size w w')
    (A1 : ∀ w, Calls Try.prog 15 #[N m, N n] w fun e w' => e = .returned (N sm_) ∧ Below w.heap.size w w')
    (T4 : ∀ w, Calls Try.prog 9 #[N sm_, Wv bx by_] w fun e w' => e = .returned (Wv t4x t4y) ∧ Below w.heap.size w w')
    (T5 : ∀ w, Calls Try.prog 9 #[N m, Wv bx by_] w fun e w' => e = .returned (Wv t3x t3y) ∧ Below w.heap.size w w')
    (U1 : ∀ w, Calls Try.prog 20 #[Wv t3x t3y, Wv t2x t2y] w fun e w' => e = .returned (Wv t4x t4y) ∧ Below w.heap.size w w')
    (N1 : ∀ w, Calls Try.prog 17 #[N m] w fun e w' => e = .returned (N ng) ∧ Below w.heap.size w w')
    (T6 : ∀ w, Calls Try.prog 9 #[N ng, Wv bx by_] w fun e w' => e = .returned (Wv t5x t5y) ∧ Below w.heap.size w w')
    (U2 : ∀ w, Calls Try.prog 20 #[Wv t5x t5y, Wv t3x t3y] w fun e w' => e = .returned (Wv zx zy) ∧ Below w.heap.size w w')
    (Z1 : ∀ w, Calls Try.prog 11 #[] w fun e w' => e = .returned (Wv zx zy) ∧ Below w.heap.size w w')
    (w : World) :
    Calls Try.prog 5 #[N m, N n] w fun e w' => e = .returned (.bool true) ∧ Below w.heap.size w w' := by
  go_enter Try.func5, Try.ntmps5
  have s0 : Hid (Kn (kal4 (kal4 w (m)) (n)) [(w.heap.size + 1, (c4 (n))), (w.heap.size, (c4 (m)))]) := (((Kn.nil w).al (c4 (m)) 24 rfl).al (c4 (n)) 24 (by simp))
  have b0 : Hid (Below w.heap.size w (kal4 (kal4 w (m)) (n))) := (((Below.refl _ _).alloc (Nat.le_refl _) _).alloc (by simp <;> omega) _)
  go_wp2_with fail
  refine (SC _).mono ?_
  rintro e w1 ⟨rfl, hb1⟩
  have s1 : Hid (Kn w1 [(w.heap.size + 1, (c4 (n))), (w.heap.size, (c4 (m)))]) := s0.out.up hb1
  have b1 : Hid (Below w.heap.size w w1) := b0.out.trans (hb1.mono b0.out.size)
  have z1 := b1.out.size
  clear hb1 s0 b0
  go_wp2_with fail
  refine (B1 _).mono ?_
  rintro e w2 ⟨rfl, hb2⟩
  have s2 : Hid (Kn w2 [(w.heap.size + 1, (c4 (n))), (w.heap.size, (c4 (m)))]) := s1.out.up hb2
  have b2 : Hid (Below w.heap.size w w2) := b1.out.trans (hb2.mono b1.out.size)
  have z2 := b2.out.size
  clear hb2 s1 b1
  have s3 : Hid (Kn (kalP w2 (bx) (by_)) [(w2.heap.size, (c8 (bx) (by_))), (w.heap.size + 1, (c4 (n))), (w.heap.size, (c4 (m)))]) := s2.out.al (c8 (bx) (by_)) 26 rfl
  have b3 : Hid (Below w.heap.size w (kalP w2 (bx) (by_))) := b2.out.alloc b2.out.size _
  have z3 := b2.out.size
  clear s2 b2
  go_wp2_with fail
  refine wp_region_up (by kernel_rfl) (by kernel_rfl) (fun U hU f hf hcl => ?_)
  have um_0 := fun nx => (Kn.get (s3.out.up (hf nx).out) 2 0 rfl rfl : (f nx).cell? ⟨w.heap.size, 0, none⟩ = some (.int .u64 (m).a))
  have um_1 := fun nx => (Kn.get (s3.out.up (hf nx).out) 2 1 rfl rfl : (f nx).cell? ⟨w.heap.size, 1, none⟩ = some (.int .u64 (m).b))
  have um_2 := fun nx => (Kn.get (s3.out.up (hf nx).out) 2 2 rfl rfl : (f nx).cell? ⟨w.heap.size, 2, none⟩ = some (.int .u64 (m).c))
  have um_3 := fun nx => (Kn.get (s3.out.up (hf nx).out) 2 3 rfl rfl : (f nx).cell? ⟨w.heap.size, 3, none⟩ = some (.int .u64 (m).d))
  have un_0 := fun nx => (Kn.get (s3.out.up (hf nx).out) 1 0 rfl rfl : (f nx).cell? ⟨w.heap.size + 1, 0, none⟩ = some (.int .u64 (n).a))
  have un_1 := fun nx => (Kn.get (s3.out.up (hf nx).out) 1 1 rfl rfl : (f nx).cell? ⟨w.heap.size + 1, 1, none⟩ = some (.int .u64 (n).b))
  have un_2 := fun nx => (Kn.get (s3.out.up (hf nx).out) 1 2 rfl rfl : (f nx).cell? ⟨w.heap.size + 1, 2, none⟩ = some (.int .u64 (n).c))
  have un_3 := fun nx => (Kn.get (s3.out.up (hf nx).out) 1 3 rfl rfl : (f nx).cell? ⟨w.heap.size + 1, 3, none⟩ = some (.int .u64 (n).d))
  have ub_0 := fun nx => (Kn.get (s3.out.up (hf nx).out) 0 0 rfl rfl : (f nx).cell? ⟨w2.heap.size, 0, none⟩ = some (.int .u64 (bx).a))
  have ub_1 := fun nx => (Kn.get (s3.out.up (hf nx).out) 0 1 rfl rfl : (f nx).cell? ⟨w2.heap.size, 1, none⟩ = some (.int .u64 (bx).b))
  have ub_2 := fun nx => (Kn.get (s3.out.up (hf nx).out) 0 2 rfl rfl : (f nx).cell? ⟨w2.heap.size, 2, none⟩ = some (.int .u64 (bx).c))
  have ub_3 := fun nx => (Kn.get (s3.out.up (hf nx).out) 0 3 rfl rfl : (f nx).cell? ⟨w2.heap.size, 3, none⟩ = some (.int .u64 (bx).d))
  have ub_4 := fun nx => (Kn.get (s3.out.up (hf nx).out) 0 4 rfl rfl : (f nx).cell? ⟨w2.heap.size, 4, none⟩ = some (.int .u64 (by_).a))
  have ub_5 := fun nx => (Kn.get (s3.out.up (hf nx).out) 0 5 rfl rfl : (f nx).cell? ⟨w2.heap.size, 5, none⟩ = some (.int .u64 (by_).b))
  have ub_6 := fun nx => (Kn.get (s3.out.up (hf nx).out) 0 6 rfl rfl : (f nx).cell? ⟨w2.heap.size, 6, none⟩ = some (.int .u64 (by_).c))
  have ub_7 := fun nx => (Kn.get (s3.out.up (hf nx).out) 0 7 rfl rfl : (f nx).cell? ⟨w2.heap.size, 7, none⟩ = some (.int .u64 (by_).d))
  try simp only [List.append_eq, List.cons_append, List.nil_append]
  repeat (go_big_quiet_step (first | (go_at_call 16; exact (M1 _).mono fun e w'' ⟨he, hb⟩ => ⟨he, hcl.out _ _ hb⟩) | (go_at_call_of 9 [N mn, Value.agg #[Value.int IntKind.u64 bx.a, Value.int IntKind.u64 bx.b, Value.int IntKind.u64 bx.c, Value.int IntKind.u64 bx.d, Value.int IntKind.u64 by_.a, Value.int IntKind.u64 by_.b, Value.int IntKind.u64 by_.c, Value.int IntKind.u64 by_.d]]; exact (T1 _).mono fun e w'' ⟨he, hb⟩ => ⟨he, hcl.out _ _ hb⟩) | (go_at_call_of 9 [Value.agg #[Value.int IntKind.u64 n.a, Value.int IntKind.u64 n.b, Value.int IntKind.u64 n.c, Value.int IntKind.u64 n.d], Value.agg #[Value.int IntKind.u64 bx.a, Value.int IntKind.u64 bx.b, Value.int IntKind.u64 bx.c, Value.int IntKind.u64 bx.d, Value.int IntKind.u64 by_.a, Value.int IntKind.u64 by_.b, Value.int IntKind.u64 by_.c, Value.int IntKind.u64 by_.d]]; exact (T2 _).mono fun e w'' ⟨he, hb⟩ => ⟨he, hcl.out _ _ hb⟩) | (go_at_call_of 9 [Value.agg #[Value.int IntKind.u64 m.a, Value.int IntKind.u64 m.b, Value.int IntKind.u64 m.c, Value.int IntKind.u64 m.d], Wv t2x t2y]; exact (T3 _).mono fun e w'' ⟨he, hb⟩ => ⟨he, hcl.out _ _ hb⟩) | (go_at_call 15; exact (A1 _).mono fun e w'' ⟨he, hb⟩ => ⟨he, hcl.out _ _ hb⟩) | (go_at_call_of 9 [N sm_, Value.agg #[Value.int IntKind.u64 bx.a, Value.int IntKind.u64 bx.b, Value.int IntKind.u64 bx.c, Value.int IntKind.u64 bx.d, Value.int IntKind.u64 by_.a, Value.int IntKind.u64 by_.b, Value.int IntKind.u64 by_.c, Value.int IntKind.u64 by_.d]]; exact (T4 _).mono fun e w'' ⟨he, hb⟩ => ⟨he, hcl.out _ _ hb⟩) | (go_at_call_of 9 [Value.agg #[Value.int IntKind.u64 m.a, Value.int IntKind.u64 m.b, Value.int IntKind.u64 m.c, Value.int IntKind.u64 m.d], Value.agg #[Value.int IntKind.u64 bx.a, Value.int IntKind.u64 bx.b, Value.int IntKind.u64 bx.c, Value.int IntKind.u64 bx.d, Value.int IntKind.u64 by_.a, Value.int IntKind.u64 by_.b, Value.int IntKind.u64 by_.c, Value.int IntKind.u64 by_.d]]; exact (T5 _).mono fun e w'' ⟨he, hb⟩ => ⟨he, hcl.out _ _ hb⟩) | (go_at_call_of 20 [Wv t3x t3y, Wv t2x t2y]; exact (U1 _).mono fun e w'' ⟨he, hb⟩ => ⟨he, hcl.out _ _ hb⟩) | (go_at_call 17; exact (N1 _).mono fun e w'' ⟨he, hb⟩ => ⟨he, hcl.out _ _ hb⟩) | (go_at_call_of 9 [N ng, Value.agg #[Value.int IntKind.u64 bx.a, Value.int IntKind.u64 bx.b, Value.int IntKind.u64 bx.c, Value.int IntKind.u64 bx.d, Value.int IntKind.u64 by_.a, Value.int IntKind.u64 by_.b, Value.int IntKind.u64 by_.c, Value.int IntKind.u64 by_.d]]; exact (T6 _).mono fun e w'' ⟨he, hb⟩ => ⟨he, hcl.out _ _ hb⟩) | (go_at_call_of 20 [Wv t5x t5y, Wv t3x t3y]; exact (U2 _).mono fun e w'' ⟨he, hb⟩ => ⟨he, hcl.out _ _ hb⟩) | (go_at_call 11; exact (Z1 _).mono fun e w'' ⟨he, hb⟩ => ⟨he, hcl.out _ _ hb⟩)))
  refine wpQuiet_nil ?_
  intro nx
  have hb4 := (hf nx).out
  clear hf hcl um_0 um_1 um_2 um_3 un_0 un_1 un_2 un_3 ub_0 ub_1 ub_2 ub_3 ub_4 ub_5 ub_6 ub_7
  generalize f nx = w4 at hb4 ⊢
  have s4 : Hid (Kn w4 [(w2.heap.size, (c8 (bx) (by_))), (w.heap.size + 1, (c4 (n))), (w.heap.size, (c4 (m)))]) := s3.out.up hb4
  have b4 : Hid (Below w.heap.size w w4) := b3.out.trans (hb4.mono b3.out.size)
  have z4 := b4.out.size
  clear hb4 s3 b3
  go_wp2_with fail
  go_ret
  exact ⟨rfl, b4.out⟩
theorem scalarTimes_of (SA : SAddC) (SM : SMulC) (SN : SNegC) (CZ : CZeroC) (CB : CBaseC) (CA : CAddC) (CT : CTimesC) (m n : Nm) (om : m.ok) (on : n.ok) (w : World) :
    Calls Try.prog 5 #[N m, N n] w fun e w' => e = .returned (.bool true) ∧ Below w.heap.size w w' := by
  have hb := Cv.base_on
  have T1 := times_fun CT (nm (m.nat * n.nat % Cv.ord)) (nm_ok _) _ hb
  rw [s_nat, Cv.base_mod, Cv.times_mul hb] at T1
  have T2 := times_fun CT n on _ hb
  have T3 := times_fun CT m om _ (Cv.times_on hb n.nat)
  have T4 := times_fun CT (nm ((m.nat + n.nat) % Cv.ord)) (nm_ok _) _ hb
  rw [s_nat, Cv.base_mod, Cv.times_add hb] at T4
  have T5 := times_fun CT m om _ hb
  have T6 := times_fun CT (nm ((Cv.ord - m.nat % Cv.ord) % Cv.ord)) (nm_ok _) _ hb
  rw [s_nat, Cv.base_mod] at T6
  have U1 := sum_fun CA _ _ (Cv.times_on hb m.nat) (Cv.times_on hb n.nat)
  have U2 := sum_fun CA _ _ (Cv.times_on hb (Cv.ord - m.nat % Cv.ord)) (Cv.times_on hb m.nat)
  have ez : Cv.add (Cv.times (Cv.ord - m.nat % Cv.ord) Cv.base) (Cv.times m.nat Cv.base) = Cv.zero := by
    rw [← Cv.times_add hb, Cv.base_iff]
    have hl := Nat.mod_lt m.nat ord_pos
    rw [← Nat.add_mod_mod, show Cv.ord - m.nat % Cv.ord + m.nat % Cv.ord = Cv.ord by omega, Nat.mod_self]
  rw [ez] at U2
  exact scTimes_walk m n _ _ _ _ _ _ _ _ _ _ _ _ _ _ _ _ _ (eqP_self _ _) (eqP_self _ _) (eqP_self _ _) (scalars_fun SA) CB (SM m n om on) T1 T2 T3 (SA m n om on) T4 T5 U1 (SN m om) T6 U2 CZ w
end Go.Proofs.Ytjcnfffmciahiaa
