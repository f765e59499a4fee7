/- LadderTells, out of what package ladder must keep, and the document's side. -/
import Derived.Test.YtjdamgfichlgpaaGrp24
import Derived.Test.YtjdamgfichlgpaaRLd
import Derived.Test.YtjdamgfichlgpaaROn
import Derived.Test.YtjdamgfichlgpaaGrp53
namespace Go.Proofs.Ytjdamgfichlgpaa
open Go.RowKit
attribute [local go_sem] World.cell?_alloc_some cell_alloc2 cell_alloc3 cell_alloc4 frozen?_alloc_cells frozen_out
set_option linter.unusedSimpArgs false
set_option maxHeartbeats 2000000 in
theorem ladTells_no (k u px py la : Nm) (ne : ∀ w, (binOp .neq 24 (N la) (N la)).run Try.prog w = .ok (.bool false) w) (ez : ∀ w, (binOp .eql 24 (N ⟨0, 0, 0, 0⟩) (N ⟨0, 0, 0, 0⟩)).run Try.prog w = .ok (.bool true) w)
    (LA : ∀ w, Calls Try.prog 9 #[N k, N u] w fun e w' => e = .returned (N la) ∧ Below w.heap.size w w')
    (RL : ∀ w, Calls Try.prog 10 #[N k, N u] w fun e w' => e = .returned (N la) ∧ Below w.heap.size w w')
    (OF : ∀ w, Calls Try.prog 8 #[Wv px py] w fun e w' => e = .returned (.tuple #[N ⟨0, 0, 0, 0⟩, .int .i64 1]) ∧ Below w.heap.size w w')
    (ON : ∀ w, Calls Try.prog 11 #[Wv px py] w fun e w' => e = .returned (.bool false) ∧ Below w.heap.size w w')
    (w : World) :
    Calls Try.prog 3 #[N k, N u, Wv px py] w fun e w' => e = .returned (.bool true) ∧ Below w.heap.size w w' := by
  obtain ⟨n, hn⟩ : ∃ n : Nm, Hid (n = ⟨0, 0, 0, 0⟩) := ⟨_, rfl⟩
  rw [← hn.out] at OF
  have eq0 : ∀ w, (binOp .eql 24 (N n) (N ⟨0, 0, 0, 0⟩)).run Try.prog w = .ok (.bool true) w := by rw [hn.out]; exact ez
  go_enter Try.func3, Try.ntmps3
  have s0 : Hid (Kn (kalP (kal4 (kal4 w (k)) (u)) (px) (py)) [(w.heap.size + 1 + 1, (c8 (px) (py))), (w.heap.size + 1, (c4 (u))), (w.heap.size, (c4 (k)))]) := ((((Kn.nil w).al (c4 (k)) 24 rfl).al (c4 (u)) 24 (by simp)).al (c8 (px) (py)) 26 (by simp))
  have b0 : Hid (Below w.heap.size w (kalP (kal4 (kal4 w (k)) (u)) (px) (py))) := ((((Below.refl _ _).alloc (Nat.le_refl _) _).alloc (by simp <;> omega) _).alloc (by simp <;> omega) _)
  go_wp2_with fail
  refine (OF _).mono ?_
  rintro e w1 ⟨rfl, hb1⟩
  have s1 : Hid (Kn w1 [(w.heap.size + 1 + 1, (c8 (px) (py))), (w.heap.size + 1, (c4 (u))), (w.heap.size, (c4 (k)))]) := s0.out.up hb1
  have b1 : Hid (Below w.heap.size w w1) := b0.out.trans (hb1.mono b0.out.size)
  have z1 := b1.out.size
  clear hb1 s0 b0
  have s2 : Hid (Kn (kal4 w1 (n)) [(w1.heap.size, (c4 (n))), (w.heap.size + 1 + 1, (c8 (px) (py))), (w.heap.size + 1, (c4 (u))), (w.heap.size, (c4 (k)))]) := s1.out.al (c4 (n)) 24 rfl
  have b2 : Hid (Below w.heap.size w (kal4 w1 (n))) := b1.out.alloc b1.out.size _
  have z2 := b1.out.size
  clear s1 b1
  go_wp2_with fail
  refine wp_region_up (by kernel_rfl) (by kernel_rfl) (fun U hU f hf hcl => ?_)
  have uk_0 := fun nx => (Kn.get (s2.out.up (hf nx).out) 3 0 rfl rfl : (f nx).cell? ⟨w.heap.size, 0, none⟩ = some (.int .u64 (k).a))
  have uk_1 := fun nx => (Kn.get (s2.out.up (hf nx).out) 3 1 rfl rfl : (f nx).cell? ⟨w.heap.size, 1, none⟩ = some (.int .u64 (k).b))
  have uk_2 := fun nx => (Kn.get (s2.out.up (hf nx).out) 3 2 rfl rfl : (f nx).cell? ⟨w.heap.size, 2, none⟩ = some (.int .u64 (k).c))
  have uk_3 := fun nx => (Kn.get (s2.out.up (hf nx).out) 3 3 rfl rfl : (f nx).cell? ⟨w.heap.size, 3, none⟩ = some (.int .u64 (k).d))
  have uu_0 := fun nx => (Kn.get (s2.out.up (hf nx).out) 2 0 rfl rfl : (f nx).cell? ⟨w.heap.size + 1, 0, none⟩ = some (.int .u64 (u).a))
  have uu_1 := fun nx => (Kn.get (s2.out.up (hf nx).out) 2 1 rfl rfl : (f nx).cell? ⟨w.heap.size + 1, 1, none⟩ = some (.int .u64 (u).b))
  have uu_2 := fun nx => (Kn.get (s2.out.up (hf nx).out) 2 2 rfl rfl : (f nx).cell? ⟨w.heap.size + 1, 2, none⟩ = some (.int .u64 (u).c))
  have uu_3 := fun nx => (Kn.get (s2.out.up (hf nx).out) 2 3 rfl rfl : (f nx).cell? ⟨w.heap.size + 1, 3, none⟩ = some (.int .u64 (u).d))
  try simp only [List.append_eq, List.cons_append, List.nil_append]
  repeat (go_big_quiet_step (first | (go_at_call 9; exact (LA _).mono fun e w'' ⟨he, hb⟩ => ⟨he, hcl.out _ _ hb⟩) | (go_at_call 10; exact (RL _).mono fun e w'' ⟨he, hb⟩ => ⟨he, hcl.out _ _ hb⟩)))
  refine wpQuiet_nil ?_
  intro nx
  have hb3 := (hf nx).out
  clear hf hcl uk_0 uk_1 uk_2 uk_3 uu_0 uu_1 uu_2 uu_3
  generalize f nx = w3 at hb3 ⊢
  have s3 : Hid (Kn w3 [(w1.heap.size, (c4 (n))), (w.heap.size + 1 + 1, (c8 (px) (py))), (w.heap.size + 1, (c4 (u))), (w.heap.size, (c4 (k)))]) := s2.out.up hb3
  have b3 : Hid (Below w.heap.size w w3) := b2.out.trans (hb3.mono b2.out.size)
  have z3 := b3.out.size
  clear hb3 s2 b2
  have up_0 : w3.cell? ⟨w.heap.size + 1 + 1, 0, none⟩ = some (.int .u64 (px).a) := Kn.get s3.out 1 0 rfl rfl
  have up_1 : w3.cell? ⟨w.heap.size + 1 + 1, 1, none⟩ = some (.int .u64 (px).b) := Kn.get s3.out 1 1 rfl rfl
  have up_2 : w3.cell? ⟨w.heap.size + 1 + 1, 2, none⟩ = some (.int .u64 (px).c) := Kn.get s3.out 1 2 rfl rfl
  have up_3 : w3.cell? ⟨w.heap.size + 1 + 1, 3, none⟩ = some (.int .u64 (px).d) := Kn.get s3.out 1 3 rfl rfl
  have up_4 : w3.cell? ⟨w.heap.size + 1 + 1, 4, none⟩ = some (.int .u64 (py).a) := Kn.get s3.out 1 4 rfl rfl
  have up_5 : w3.cell? ⟨w.heap.size + 1 + 1, 5, none⟩ = some (.int .u64 (py).b) := Kn.get s3.out 1 5 rfl rfl
  have up_6 : w3.cell? ⟨w.heap.size + 1 + 1, 6, none⟩ = some (.int .u64 (py).c) := Kn.get s3.out 1 6 rfl rfl
  have up_7 : w3.cell? ⟨w.heap.size + 1 + 1, 7, none⟩ = some (.int .u64 (py).d) := Kn.get s3.out 1 7 rfl rfl
  go_wp2_with fail
  clear up_0 up_1 up_2 up_3 up_4 up_5 up_6 up_7
  refine (ON _).mono ?_
  rintro e w4 ⟨rfl, hb4⟩
  have s4 : Hid (Kn w4 [(w1.heap.size, (c4 (n))), (w.heap.size + 1 + 1, (c8 (px) (py))), (w.heap.size + 1, (c4 (u))), (w.heap.size, (c4 (k)))]) := s3.out.up hb4
  have b4 : Hid (Below w.heap.size w w4) := b3.out.trans (hb4.mono b3.out.size)
  have z4 := b4.out.size
  clear hb4 s3 b3
  have un_0 : w4.cell? ⟨w1.heap.size, 0, none⟩ = some (.int .u64 (n).a) := Kn.get s4.out 0 0 rfl rfl
  have un_1 : w4.cell? ⟨w1.heap.size, 1, none⟩ = some (.int .u64 (n).b) := Kn.get s4.out 0 1 rfl rfl
  have un_2 : w4.cell? ⟨w1.heap.size, 2, none⟩ = some (.int .u64 (n).c) := Kn.get s4.out 0 2 rfl rfl
  have un_3 : w4.cell? ⟨w1.heap.size, 3, none⟩ = some (.int .u64 (n).d) := Kn.get s4.out 0 3 rfl rfl
  go_wp2_with fail
  clear un_0 un_1 un_2 un_3
  go_ret
  exact ⟨rfl, b4.out⟩
set_option maxHeartbeats 2000000 in
theorem ladTells_yes (k u px py la n : Nm) (y o pl le ov m : Nat) (ne : ∀ w, (binOp .neq 24 (N la) (N la)).run Try.prog w = .ok (.bool false) w) (en : ∀ w, (binOp .eql 24 (N n) (N n)).run Try.prog w = .ok (.bool true) w)
    (LA : ∀ w, Calls Try.prog 9 #[N k, N u] w fun e w' => e = .returned (N la) ∧ Below w.heap.size w w')
    (RL : ∀ w, Calls Try.prog 10 #[N k, N u] w fun e w' => e = .returned (N la) ∧ Below w.heap.size w w')
    (OF : ∀ w, Calls Try.prog 8 #[Wv px py] w fun e w' => e = .returned (.tuple #[N n, .int .i64 0]) ∧ Below w.heap.size w w')
    (ON : ∀ w, Calls Try.prog 11 #[Wv px py] w fun e w' => e = .returned (.bool true) ∧ Below w.heap.size w w')
    (F1 : ∀ w, Calls Try.prog 12 #[N py] w fun e w' => e = .returned (.agg (fR (y)).toArray) ∧ Below w.heap.size w w')
    (F2 : ∀ w, Calls Try.prog 12 #[N ⟨1,0,0,0⟩] w fun e w' => e = .returned (.agg (fR (o)).toArray) ∧ Below w.heap.size w w')
    (PL : ∀ w, Calls Try.prog 13 #[.agg (fR (o)).toArray, .agg (fR (y)).toArray] w fun e w' => e = .returned (.agg (fR (pl)).toArray) ∧ Below w.heap.size w w')
    (LE : ∀ w, Calls Try.prog 15 #[.agg (fR (o)).toArray, .agg (fR (y)).toArray] w fun e w' => e = .returned (.agg (fR (le)).toArray) ∧ Below w.heap.size w w')
    (OV : ∀ w, Calls Try.prog 16 #[.agg (fR (le)).toArray] w fun e w' => e = .returned (.agg (fR (ov)).toArray) ∧ Below w.heap.size w w')
    (BY : ∀ w, Calls Try.prog 14 #[.agg (fR (pl)).toArray, .agg (fR (ov)).toArray] w fun e w' => e = .returned (.agg (fR (m)).toArray) ∧ Below w.heap.size w w')
    (NU : ∀ w, Calls Try.prog 17 #[.agg (fR (m)).toArray] w fun e w' => e = .returned (N n) ∧ Below w.heap.size w w')
    (w : World) :
    Calls Try.prog 3 #[N k, N u, Wv px py] w fun e w' => e = .returned (.bool true) ∧ Below w.heap.size w w' := by
  go_enter Try.func3, Try.ntmps3
  have s0 : Hid (Kn (kalP (kal4 (kal4 w (k)) (u)) (px) (py)) [(w.heap.size + 1 + 1, (c8 (px) (py))), (w.heap.size + 1, (c4 (u))), (w.heap.size, (c4 (k)))]) := ((((Kn.nil w).al (c4 (k)) 24 rfl).al (c4 (u)) 24 (by simp)).al (c8 (px) (py)) 26 (by simp))
  have b0 : Hid (Below w.heap.size w (kalP (kal4 (kal4 w (k)) (u)) (px) (py))) := ((((Below.refl _ _).alloc (Nat.le_refl _) _).alloc (by simp <;> omega) _).alloc (by simp <;> omega) _)
  go_wp2_with fail
  refine (OF _).mono ?_
  rintro e w1 ⟨rfl, hb1⟩
  have s1 : Hid (Kn w1 [(w.heap.size + 1 + 1, (c8 (px) (py))), (w.heap.size + 1, (c4 (u))), (w.heap.size, (c4 (k)))]) := s0.out.up hb1
  have b1 : Hid (Below w.heap.size w w1) := b0.out.trans (hb1.mono b0.out.size)
  have z1 := b1.out.size
  clear hb1 s0 b0
  have s2 : Hid (Kn (kal4 w1 (n)) [(w1.heap.size, (c4 (n))), (w.heap.size + 1 + 1, (c8 (px) (py))), (w.heap.size + 1, (c4 (u))), (w.heap.size, (c4 (k)))]) := s1.out.al (c4 (n)) 24 rfl
  have b2 : Hid (Below w.heap.size w (kal4 w1 (n))) := b1.out.alloc b1.out.size _
  have z2 := b1.out.size
  clear s1 b1
  go_wp2_with fail
  refine wp_region_up (by kernel_rfl) (by kernel_rfl) (fun U hU f hf hcl => ?_)
  have uk_0 := fun nx => (Kn.get (s2.out.up (hf nx).out) 3 0 rfl rfl : (f nx).cell? ⟨w.heap.size, 0, none⟩ = some (.int .u64 (k).a))
  have uk_1 := fun nx => (Kn.get (s2.out.up (hf nx).out) 3 1 rfl rfl : (f nx).cell? ⟨w.heap.size, 1, none⟩ = some (.int .u64 (k).b))
  have uk_2 := fun nx => (Kn.get (s2.out.up (hf nx).out) 3 2 rfl rfl : (f nx).cell? ⟨w.heap.size, 2, none⟩ = some (.int .u64 (k).c))
  have uk_3 := fun nx => (Kn.get (s2.out.up (hf nx).out) 3 3 rfl rfl : (f nx).cell? ⟨w.heap.size, 3, none⟩ = some (.int .u64 (k).d))
  have uu_0 := fun nx => (Kn.get (s2.out.up (hf nx).out) 2 0 rfl rfl : (f nx).cell? ⟨w.heap.size + 1, 0, none⟩ = some (.int .u64 (u).a))
  have uu_1 := fun nx => (Kn.get (s2.out.up (hf nx).out) 2 1 rfl rfl : (f nx).cell? ⟨w.heap.size + 1, 1, none⟩ = some (.int .u64 (u).b))
  have uu_2 := fun nx => (Kn.get (s2.out.up (hf nx).out) 2 2 rfl rfl : (f nx).cell? ⟨w.heap.size + 1, 2, none⟩ = some (.int .u64 (u).c))
  have uu_3 := fun nx => (Kn.get (s2.out.up (hf nx).out) 2 3 rfl rfl : (f nx).cell? ⟨w.heap.size + 1, 3, none⟩ = some (.int .u64 (u).d))
  try simp only [List.append_eq, List.cons_append, List.nil_append]
  repeat (go_big_quiet_step (first | (go_at_call 9; exact (LA _).mono fun e w'' ⟨he, hb⟩ => ⟨he, hcl.out _ _ hb⟩) | (go_at_call 10; exact (RL _).mono fun e w'' ⟨he, hb⟩ => ⟨he, hcl.out _ _ hb⟩)))
  refine wpQuiet_nil ?_
  intro nx
  have hb3 := (hf nx).out
  clear hf hcl uk_0 uk_1 uk_2 uk_3 uu_0 uu_1 uu_2 uu_3
  generalize f nx = w3 at hb3 ⊢
  have s3 : Hid (Kn w3 [(w1.heap.size, (c4 (n))), (w.heap.size + 1 + 1, (c8 (px) (py))), (w.heap.size + 1, (c4 (u))), (w.heap.size, (c4 (k)))]) := s2.out.up hb3
  have b3 : Hid (Below w.heap.size w w3) := b2.out.trans (hb3.mono b2.out.size)
  have z3 := b3.out.size
  clear hb3 s2 b2
  have up_0 : w3.cell? ⟨w.heap.size + 1 + 1, 0, none⟩ = some (.int .u64 (px).a) := Kn.get s3.out 1 0 rfl rfl
  have up_1 : w3.cell? ⟨w.heap.size + 1 + 1, 1, none⟩ = some (.int .u64 (px).b) := Kn.get s3.out 1 1 rfl rfl
  have up_2 : w3.cell? ⟨w.heap.size + 1 + 1, 2, none⟩ = some (.int .u64 (px).c) := Kn.get s3.out 1 2 rfl rfl
  have up_3 : w3.cell? ⟨w.heap.size + 1 + 1, 3, none⟩ = some (.int .u64 (px).d) := Kn.get s3.out 1 3 rfl rfl
  have up_4 : w3.cell? ⟨w.heap.size + 1 + 1, 4, none⟩ = some (.int .u64 (py).a) := Kn.get s3.out 1 4 rfl rfl
  have up_5 : w3.cell? ⟨w.heap.size + 1 + 1, 5, none⟩ = some (.int .u64 (py).b) := Kn.get s3.out 1 5 rfl rfl
  have up_6 : w3.cell? ⟨w.heap.size + 1 + 1, 6, none⟩ = some (.int .u64 (py).c) := Kn.get s3.out 1 6 rfl rfl
  have up_7 : w3.cell? ⟨w.heap.size + 1 + 1, 7, none⟩ = some (.int .u64 (py).d) := Kn.get s3.out 1 7 rfl rfl
  go_wp2_with fail
  clear up_0 up_1 up_2 up_3 up_4 up_5 up_6 up_7
  refine (ON _).mono ?_
  rintro e w4 ⟨rfl, hb4⟩
  have s4 : Hid (Kn w4 [(w1.heap.size, (c4 (n))), (w.heap.size + 1 + 1, (c8 (px) (py))), (w.heap.size + 1, (c4 (u))), (w.heap.size, (c4 (k)))]) := s3.out.up hb4
  have b4 : Hid (Below w.heap.size w w4) := b3.out.trans (hb4.mono b3.out.size)
  have z4 := b4.out.size
  clear hb4 s3 b3
  have up_0 : w4.cell? ⟨w.heap.size + 1 + 1, 0, none⟩ = some (.int .u64 (px).a) := Kn.get s4.out 1 0 rfl rfl
  have up_1 : w4.cell? ⟨w.heap.size + 1 + 1, 1, none⟩ = some (.int .u64 (px).b) := Kn.get s4.out 1 1 rfl rfl
  have up_2 : w4.cell? ⟨w.heap.size + 1 + 1, 2, none⟩ = some (.int .u64 (px).c) := Kn.get s4.out 1 2 rfl rfl
  have up_3 : w4.cell? ⟨w.heap.size + 1 + 1, 3, none⟩ = some (.int .u64 (px).d) := Kn.get s4.out 1 3 rfl rfl
  have up_4 : w4.cell? ⟨w.heap.size + 1 + 1, 4, none⟩ = some (.int .u64 (py).a) := Kn.get s4.out 1 4 rfl rfl
  have up_5 : w4.cell? ⟨w.heap.size + 1 + 1, 5, none⟩ = some (.int .u64 (py).b) := Kn.get s4.out 1 5 rfl rfl
  have up_6 : w4.cell? ⟨w.heap.size + 1 + 1, 6, none⟩ = some (.int .u64 (py).c) := Kn.get s4.out 1 6 rfl rfl
  have up_7 : w4.cell? ⟨w.heap.size + 1 + 1, 7, none⟩ = some (.int .u64 (py).d) := Kn.get s4.out 1 7 rfl rfl
  go_wp2_with fail
  clear up_0 up_1 up_2 up_3 up_4 up_5 up_6 up_7
  refine (F1 _).mono ?_
  rintro e w5 ⟨rfl, hb5⟩
  have s5 : Hid (Kn w5 [(w1.heap.size, (c4 (n))), (w.heap.size + 1 + 1, (c8 (px) (py))), (w.heap.size + 1, (c4 (u))), (w.heap.size, (c4 (k)))]) := s4.out.up hb5
  have b5 : Hid (Below w.heap.size w w5) := b4.out.trans (hb5.mono b4.out.size)
  have z5 := b5.out.size
  clear hb5 s4 b4
  go_wp2_with fail
  refine (F2 _).mono ?_
  rintro e w6 ⟨rfl, hb6⟩
  have s6 : Hid (Kn w6 [(w1.heap.size, (c4 (n))), (w.heap.size + 1 + 1, (c8 (px) (py))), (w.heap.size + 1, (c4 (u))), (w.heap.size, (c4 (k)))]) := s5.out.up hb6
  have b6 : Hid (Below w.heap.size w w6) := b5.out.trans (hb6.mono b5.out.size)
  have z6 := b6.out.size
  clear hb6 s5 b5
  have s7 : Hid (Kn (w6.alloc (.cells #[Value.int IntKind.i64 0, Value.int IntKind.i64 0, Value.int IntKind.i64 0, Value.int IntKind.i64 0, Value.int IntKind.i64 0, Value.int IntKind.i64 0, Value.int IntKind.i64 0, Value.int IntKind.i64 0, Value.int IntKind.i64 0, Value.int IntKind.i64 0, Value.int IntKind.i64 0, Value.int IntKind.i64 0, Value.int IntKind.i64 0, Value.int IntKind.i64 0, Value.int IntKind.i64 0, Value.int IntKind.i64 0] 33)) [(w6.heap.size, fZ), (w1.heap.size, (c4 (n))), (w.heap.size + 1 + 1, (c8 (px) (py))), (w.heap.size + 1, (c4 (u))), (w.heap.size, (c4 (k)))]) := s6.out.al fZ 33 rfl
  have b7 : Hid (Below w.heap.size w (w6.alloc (.cells #[Value.int IntKind.i64 0, Value.int IntKind.i64 0, Value.int IntKind.i64 0, Value.int IntKind.i64 0, Value.int IntKind.i64 0, Value.int IntKind.i64 0, Value.int IntKind.i64 0, Value.int IntKind.i64 0, Value.int IntKind.i64 0, Value.int IntKind.i64 0, Value.int IntKind.i64 0, Value.int IntKind.i64 0, Value.int IntKind.i64 0, Value.int IntKind.i64 0, Value.int IntKind.i64 0, Value.int IntKind.i64 0] 33))) := b6.out.alloc b6.out.size _
  have z7 := b6.out.size
  clear s6 b6
  have s8 : Hid (Kn ((w6.alloc (.cells #[Value.int IntKind.i64 0, Value.int IntKind.i64 0, Value.int IntKind.i64 0, Value.int IntKind.i64 0, Value.int IntKind.i64 0, Value.int IntKind.i64 0, Value.int IntKind.i64 0, Value.int IntKind.i64 0, Value.int IntKind.i64 0, Value.int IntKind.i64 0, Value.int IntKind.i64 0, Value.int IntKind.i64 0, Value.int IntKind.i64 0, Value.int IntKind.i64 0, Value.int IntKind.i64 0, Value.int IntKind.i64 0] 33)).alloc (.cells #[Value.int IntKind.i64 0, Value.int IntKind.i64 0, Value.int IntKind.i64 0, Value.int IntKind.i64 0, Value.int IntKind.i64 0, Value.int IntKind.i64 0, Value.int IntKind.i64 0, Value.int IntKind.i64 0, Value.int IntKind.i64 0, Value.int IntKind.i64 0, Value.int IntKind.i64 0, Value.int IntKind.i64 0, Value.int IntKind.i64 0, Value.int IntKind.i64 0, Value.int IntKind.i64 0, Value.int IntKind.i64 0] 33)) [(w6.heap.size + 1, fZ), (w6.heap.size, fZ), (w1.heap.size, (c4 (n))), (w.heap.size + 1 + 1, (c8 (px) (py))), (w.heap.size + 1, (c4 (u))), (w.heap.size, (c4 (k)))]) := s7.out.al fZ 33 (by simp)
  have b8 : Hid (Below w.heap.size w ((w6.alloc (.cells #[Value.int IntKind.i64 0, Value.int IntKind.i64 0, Value.int IntKind.i64 0, Value.int IntKind.i64 0, Value.int IntKind.i64 0, Value.int IntKind.i64 0, Value.int IntKind.i64 0, Value.int IntKind.i64 0, Value.int IntKind.i64 0, Value.int IntKind.i64 0, Value.int IntKind.i64 0, Value.int IntKind.i64 0, Value.int IntKind.i64 0, Value.int IntKind.i64 0, Value.int IntKind.i64 0, Value.int IntKind.i64 0] 33)).alloc (.cells #[Value.int IntKind.i64 0, Value.int IntKind.i64 0, Value.int IntKind.i64 0, Value.int IntKind.i64 0, Value.int IntKind.i64 0, Value.int IntKind.i64 0, Value.int IntKind.i64 0, Value.int IntKind.i64 0, Value.int IntKind.i64 0, Value.int IntKind.i64 0, Value.int IntKind.i64 0, Value.int IntKind.i64 0, Value.int IntKind.i64 0, Value.int IntKind.i64 0, Value.int IntKind.i64 0, Value.int IntKind.i64 0] 33))) := b7.out.alloc b7.out.size _
  have z8 := b7.out.size
  clear s7 b7
  have s9x : Hid (Kn ((w6.alloc (.cells #[Value.int IntKind.i64 0, Value.int IntKind.i64 0, Value.int IntKind.i64 0, Value.int IntKind.i64 0, Value.int IntKind.i64 0, Value.int IntKind.i64 0, Value.int IntKind.i64 0, Value.int IntKind.i64 0, Value.int IntKind.i64 0, Value.int IntKind.i64 0, Value.int IntKind.i64 0, Value.int IntKind.i64 0, Value.int IntKind.i64 0, Value.int IntKind.i64 0, Value.int IntKind.i64 0, Value.int IntKind.i64 0] 33)).alloc (.cells #[Value.int IntKind.i64 0, Value.int IntKind.i64 0, Value.int IntKind.i64 0, Value.int IntKind.i64 0, Value.int IntKind.i64 0, Value.int IntKind.i64 0, Value.int IntKind.i64 0, Value.int IntKind.i64 0, Value.int IntKind.i64 0, Value.int IntKind.i64 0, Value.int IntKind.i64 0, Value.int IntKind.i64 0, Value.int IntKind.i64 0, Value.int IntKind.i64 0, Value.int IntKind.i64 0, Value.int IntKind.i64 0] 33)) [(w6.heap.size, fZ), (w6.heap.size + 1, fZ), (w1.heap.size, (c4 (n))), (w.heap.size + 1 + 1, (c8 (px) (py))), (w.heap.size + 1, (c4 (u))), (w.heap.size, (c4 (k)))]) := s8.out.front 1 rfl
  have b9x : Hid (Below w.heap.size w ((w6.alloc (.cells #[Value.int IntKind.i64 0, Value.int IntKind.i64 0, Value.int IntKind.i64 0, Value.int IntKind.i64 0, Value.int IntKind.i64 0, Value.int IntKind.i64 0, Value.int IntKind.i64 0, Value.int IntKind.i64 0, Value.int IntKind.i64 0, Value.int IntKind.i64 0, Value.int IntKind.i64 0, Value.int IntKind.i64 0, Value.int IntKind.i64 0, Value.int IntKind.i64 0, Value.int IntKind.i64 0, Value.int IntKind.i64 0] 33)).alloc (.cells #[Value.int IntKind.i64 0, Value.int IntKind.i64 0, Value.int IntKind.i64 0, Value.int IntKind.i64 0, Value.int IntKind.i64 0, Value.int IntKind.i64 0, Value.int IntKind.i64 0, Value.int IntKind.i64 0, Value.int IntKind.i64 0, Value.int IntKind.i64 0, Value.int IntKind.i64 0, Value.int IntKind.i64 0, Value.int IntKind.i64 0, Value.int IntKind.i64 0, Value.int IntKind.i64 0, Value.int IntKind.i64 0] 33))) := b8.out
  have TT9 : Hid (((w6.alloc (.cells #[Value.int IntKind.i64 0, Value.int IntKind.i64 0, Value.int IntKind.i64 0, Value.int IntKind.i64 0, Value.int IntKind.i64 0, Value.int IntKind.i64 0, Value.int IntKind.i64 0, Value.int IntKind.i64 0, Value.int IntKind.i64 0, Value.int IntKind.i64 0, Value.int IntKind.i64 0, Value.int IntKind.i64 0, Value.int IntKind.i64 0, Value.int IntKind.i64 0, Value.int IntKind.i64 0, Value.int IntKind.i64 0] 33)).alloc (.cells #[Value.int IntKind.i64 0, Value.int IntKind.i64 0, Value.int IntKind.i64 0, Value.int IntKind.i64 0, Value.int IntKind.i64 0, Value.int IntKind.i64 0, Value.int IntKind.i64 0, Value.int IntKind.i64 0, Value.int IntKind.i64 0, Value.int IntKind.i64 0, Value.int IntKind.i64 0, Value.int IntKind.i64 0, Value.int IntKind.i64 0, Value.int IntKind.i64 0, Value.int IntKind.i64 0, Value.int IntKind.i64 0] 33)).there (w6.heap.size) 0 (fR (y)).length) := Kn.there s9x.out 0 rfl (by rw [(fR_length (y)), fZ_length])
  go_wp2_with (first | simp only [I.zero_fe] | refine I.wp_store_eq rfl 33 _ _ rfl (w6.heap.size) 0 (fR (y)) rfl rfl TT9.out (info_fR (y)) (I.one_dI _) ?_)
  intro w9 hw9
  try simp only [Act.put, List.setIfInBounds_toArray, List.set_cons_succ, List.set_cons_zero]
  have s9 : Hid (Kn w9 [(w6.heap.size, (fR (y))), (w6.heap.size + 1, fZ), (w1.heap.size, (c4 (n))), (w.heap.size + 1 + 1, (c8 (px) (py))), (w.heap.size + 1, (c4 (u))), (w.heap.size, (c4 (k)))]) := by rw [hw9.out]; exact Kn.put s9x.out (by rw [(fR_length (y)), fZ_length])
  have b9 : Hid (Below w.heap.size w w9) := by rw [hw9.out]; exact I.below_setCells _ _ _ b9x.out (by first | assumption | omega)
  have z9 := b9.out.size
  clear hw9 s9x b9x TT9 s8 b8
  have s10x : Hid (Kn w9 [(w6.heap.size + 1, fZ), (w6.heap.size, (fR (y))), (w1.heap.size, (c4 (n))), (w.heap.size + 1 + 1, (c8 (px) (py))), (w.heap.size + 1, (c4 (u))), (w.heap.size, (c4 (k)))]) := s9.out.front 1 rfl
  have b10x : Hid (Below w.heap.size w w9) := b9.out
  have TT10 : Hid (w9.there (w6.heap.size + 1) 0 (fR (o)).length) := Kn.there s10x.out 0 rfl (by rw [(fR_length (o)), fZ_length])
  go_wp2_with (first | refine I.wp_store_eq rfl 33 _ _ rfl (w6.heap.size + 1) 0 (fR (o)) rfl rfl TT10.out (info_fR (o)) (I.one_dI _) ?_)
  intro w10 hw10
  try simp only [Act.put, List.setIfInBounds_toArray, List.set_cons_succ, List.set_cons_zero]
  have s10 : Hid (Kn w10 [(w6.heap.size + 1, (fR (o))), (w6.heap.size, (fR (y))), (w1.heap.size, (c4 (n))), (w.heap.size + 1 + 1, (c8 (px) (py))), (w.heap.size + 1, (c4 (u))), (w.heap.size, (c4 (k)))]) := by rw [hw10.out]; exact Kn.put s10x.out (by rw [(fR_length (o)), fZ_length])
  have b10 : Hid (Below w.heap.size w w10) := by rw [hw10.out]; exact I.below_setCells _ _ _ b10x.out (by first | assumption | omega)
  have z10 := b10.out.size
  clear hw10 s10x b10x TT10 s9 b9
  go_wp2_with fail
  refine wp_region_up (by kernel_rfl) (by kernel_rfl) (fun U hU f hf hcl => ?_)
  have un_0 := fun nx => (Kn.get (s10.out.up (hf nx).out) 2 0 rfl rfl : (f nx).cell? ⟨w1.heap.size, 0, none⟩ = some (.int .u64 (n).a))
  have un_1 := fun nx => (Kn.get (s10.out.up (hf nx).out) 2 1 rfl rfl : (f nx).cell? ⟨w1.heap.size, 1, none⟩ = some (.int .u64 (n).b))
  have un_2 := fun nx => (Kn.get (s10.out.up (hf nx).out) 2 2 rfl rfl : (f nx).cell? ⟨w1.heap.size, 2, none⟩ = some (.int .u64 (n).c))
  have un_3 := fun nx => (Kn.get (s10.out.up (hf nx).out) 2 3 rfl rfl : (f nx).cell? ⟨w1.heap.size, 3, none⟩ = some (.int .u64 (n).d))
  have ra_yv_0 := fun nx => (Kn.rng (s10.out.up (hf nx).out) 1 rfl : (f nx).rangeAt (w6.heap.size) 0 (fR (y)))
  have ra_one_0 := fun nx => (Kn.rng (s10.out.up (hf nx).out) 0 rfl : (f nx).rangeAt (w6.heap.size + 1) 0 (fR (o)))
  try simp only [List.append_eq, List.cons_append, List.nil_append]
  repeat (first | (refine I.quiet_load rfl 33 _ rfl (w6.heap.size) 0 rfl (fR (y)) _ (fun W hW => by obtain ⟨nx, rfl⟩ := hW; exact ra_yv_0 nx) Try.underlying33 rfl (info_fR (y)) ?_; simp only [Act.put, List.setIfInBounds_toArray, List.set_cons_succ, List.set_cons_zero]) | (refine I.quiet_load rfl 33 _ rfl (w6.heap.size + 1) 0 rfl (fR (o)) _ (fun W hW => by obtain ⟨nx, rfl⟩ := hW; exact ra_one_0 nx) Try.underlying33 rfl (info_fR (o)) ?_; simp only [Act.put, List.setIfInBounds_toArray, List.set_cons_succ, List.set_cons_zero]) | go_big_quiet_step (first | (go_at_call 13; exact (PL _).mono fun e w'' ⟨he, hb⟩ => ⟨he, hcl.out _ _ hb⟩) | (go_at_call 15; exact (LE _).mono fun e w'' ⟨he, hb⟩ => ⟨he, hcl.out _ _ hb⟩) | (go_at_call 16; exact (OV _).mono fun e w'' ⟨he, hb⟩ => ⟨he, hcl.out _ _ hb⟩) | (go_at_call 14; exact (BY _).mono fun e w'' ⟨he, hb⟩ => ⟨he, hcl.out _ _ hb⟩) | (go_at_call 17; exact (NU _).mono fun e w'' ⟨he, hb⟩ => ⟨he, hcl.out _ _ hb⟩)))
  refine wpQuiet_nil ?_
  intro nx
  have hb11 := (hf nx).out
  clear hf hcl un_0 un_1 un_2 un_3
  generalize f nx = w11 at hb11 ⊢
  have s11 : Hid (Kn w11 [(w6.heap.size + 1, (fR (o))), (w6.heap.size, (fR (y))), (w1.heap.size, (c4 (n))), (w.heap.size + 1 + 1, (c8 (px) (py))), (w.heap.size + 1, (c4 (u))), (w.heap.size, (c4 (k)))]) := s10.out.up hb11
  have b11 : Hid (Below w.heap.size w w11) := b10.out.trans (hb11.mono b10.out.size)
  have z11 := b11.out.size
  clear hb11 s10 b10
  go_wp2_with fail
  go_ret
  exact ⟨rfl, b11.out⟩
theorem ladTells_of (LC : LLadC) (LO : LOfC) (LN : LOfN) (k u px py : Nm) (ok : k.ok) (ou : u.ok) (a1 : px.ok) (a2 : py.ok) (w : World) :
    Calls Try.prog 3 #[N k, N u, Wv px py] w fun e w' => e = .returned (.bool true) ∧ Below w.heap.size w w' := by
  have ne : ∀ (x : Nm) w, (binOp .neq 24 (N x) (N x)).run Try.prog w = .ok (.bool false) w := fun x w => by rw [neN, Nm.beq_self]; rfl
  have eq : ∀ (x : Nm) w, (binOp .eql 24 (N x) (N x)).run Try.prog w = .ok (.bool true) w := fun x w => by rw [eqN, Nm.beq_self]
  have hr := rOn_fun px py a1 a2
  by_cases hP : Cv.On (px.nat, py.nat)
  · have O1 := LO _ hP
    rw [← pv_of a1 a2] at O1
    have hy : py.nat < F.p := hP.2.1
    have F1 := I.field_fe py a2
    rw [Nat.mod_eq_of_lt hy] at F1
    have F2 := I.field_fe ⟨1, 0, 0, 0⟩ fo_ok
    rw [show (⟨1, 0, 0, 0⟩ : Nm).nat % F.p = 1 by decide] at F2
    have h1 : (1 : Nat) < F.p := by decide
    exact ladTells_yes k u px py _ _ py.nat 1 _ _ _ _ (ne _) (eq _) (LC k u ok ou) (rLad_fun k u ok ou) O1 (hr.1 hP) F1 F2 (I.plus_fe _ _ h1 hy) (I.less_fe _ _ h1 hy) (I.over_fe _ (F.sub_lt _ _)) (I.by_fe _ _ (F.add_lt _ _) (F.inv_lt _)) (I.num_fe _ (F.mul_lt _ _)) w
  · exact ladTells_no k u px py _ (ne _) (eq _) (LC k u ok ou) (rLad_fun k u ok ou) (LN px py a1 a2 hP) (hr.2 hP) w
end Go.Proofs.Ytjdamgfichlgpaa
