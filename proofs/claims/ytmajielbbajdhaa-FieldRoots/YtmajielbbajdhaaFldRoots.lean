/- FieldRoots, out of what package field must keep. -/
import Derived.Test.YtmajielbbajdhaaFldC
import Derived.Test.YtmajielbbajdhaaAl
import Derived.Test.YtmajielbbajdhaaUpA
namespace Go.Proofs.Ytmajielbbajdhaa
open Go.RowKit
attribute [local go_sem] World.cell?_alloc_some cell_alloc2 cell_alloc3 cell_alloc4 frozen?_alloc_cells frozen_out
set_option linter.unusedSimpArgs false
set_option maxHeartbeats 4000000 in
theorem fieldRoots_1 (a aa r mi lo s mo im : Nm) (r0 : 0 ≤ r.a) (r2 : r.a % 2 = 0) (s0 : 0 ≤ s.a) (s2 : s.a % 2 = 0)
    (e1 : ∀ w, (binOp .neq 24 (N r) (N lo)).run Try.prog w = .ok (.bool false) w)
    (e3 : ∀ w, (binOp .neq 24 (N lo) (N lo)).run Try.prog w = .ok (.bool false) w) (e4 : ∀ w, (binOp .eql 24 (N mo) (N mo)).run Try.prog w = .ok (.bool true) w)
    (M1 : ∀ w, Calls Try.prog 21 #[N a, N a] w fun e w' => e = .returned (N aa) ∧ Below w.heap.size w w')
    (S1 : ∀ w, Calls Try.prog 10 #[N aa] w fun e w' => e = .returned (.tuple #[N r, .bool true]) ∧ Below w.heap.size w w')
    (B1 : ∀ w, Calls Try.prog 19 #[N ⟨0, 0, 0, 0⟩, N a] w fun e w' => e = .returned (N mi) ∧ Below w.heap.size w w')
    (L1 : ∀ w, Calls Try.prog 15 #[N a] w fun e w' => e = .returned (N lo) ∧ Below w.heap.size w w')
    (S2 : ∀ w, Calls Try.prog 10 #[N a] w fun e w' => e = .returned (.tuple #[N s, .bool true]) ∧ Below w.heap.size w w')
    (M2 : ∀ w, Calls Try.prog 21 #[N s, N s] w fun e w' => e = .returned (N lo) ∧ Below w.heap.size w w')
    (B2 : ∀ w, Calls Try.prog 19 #[N ⟨0, 0, 0, 0⟩, N ⟨1, 0, 0, 0⟩] w fun e w' => e = .returned (N mo) ∧ Below w.heap.size w w')
    (S3 : ∀ w, Calls Try.prog 10 #[N mo] w fun e w' => e = .returned (.tuple #[N im, .bool true]) ∧ Below w.heap.size w w')
    (M3 : ∀ w, Calls Try.prog 21 #[N im, N im] w fun e w' => e = .returned (N mo) ∧ Below w.heap.size w w')
    (w : World) :
    Calls Try.prog 7 #[N a] w fun e w' => e = .returned (.bool true) ∧ Below w.heap.size w w' := by
  have q1 : r.a.tmod 2 = 0 := by rw [Int.tmod_eq_emod_of_nonneg r0]; exact r2
  have q2 : s.a.tmod 2 = 0 := by rw [Int.tmod_eq_emod_of_nonneg s0]; exact s2
  go_enter Try.func7, Try.ntmps7
  have s0 : Hid (Kn (kal4 w (a)) [(w.heap.size, (c4 (a)))]) := ((Kn.nil w).al (c4 (a)) 24 rfl)
  have b0 : Hid (Below w.heap.size w (kal4 w (a))) := ((Below.refl _ _).alloc (Nat.le_refl _) _)
  have ua_0 : (kal4 w (a)).cell? ⟨w.heap.size, 0, none⟩ = some (.int .u64 (a).a) := Kn.get s0.out 0 0 rfl rfl
  have ua_1 : (kal4 w (a)).cell? ⟨w.heap.size, 1, none⟩ = some (.int .u64 (a).b) := Kn.get s0.out 0 1 rfl rfl
  have ua_2 : (kal4 w (a)).cell? ⟨w.heap.size, 2, none⟩ = some (.int .u64 (a).c) := Kn.get s0.out 0 2 rfl rfl
  have ua_3 : (kal4 w (a)).cell? ⟨w.heap.size, 3, none⟩ = some (.int .u64 (a).d) := Kn.get s0.out 0 3 rfl rfl
  go_wp2_with fail
  clear ua_0 ua_1 ua_2 ua_3
  refine (M1 _).mono ?_
  rintro e w1 ⟨rfl, hb1⟩
  have s1 : Hid (Kn w1 [(w.heap.size, (c4 (a)))]) := s0.out.up hb1
  have b1 : Hid (Below w.heap.size w w1) := b0.out.trans (hb1.mono b0.out.size)
  have z1 := b1.out.size
  clear hb1 s0 b0
  go_wp2_with fail
  refine (S1 _).mono ?_
  rintro e w2 ⟨rfl, hb2⟩
  have s2 : Hid (Kn w2 [(w.heap.size, (c4 (a)))]) := s1.out.up hb2
  have b2 : Hid (Below w.heap.size w w2) := b1.out.trans (hb2.mono b1.out.size)
  have z2 := b2.out.size
  clear hb2 s1 b1
  have s3 : Hid (Kn (kal4 w2 (r)) [(w2.heap.size, (c4 (r))), (w.heap.size, (c4 (a)))]) := s2.out.al (c4 (r)) 24 rfl
  have b3 : Hid (Below w.heap.size w (kal4 w2 (r))) := b2.out.alloc b2.out.size _
  have z3 := b2.out.size
  clear s2 b2
  have ua_0 : (kal4 w2 (r)).cell? ⟨w.heap.size, 0, none⟩ = some (.int .u64 (a).a) := Kn.get s3.out 1 0 rfl rfl
  have ua_1 : (kal4 w2 (r)).cell? ⟨w.heap.size, 1, none⟩ = some (.int .u64 (a).b) := Kn.get s3.out 1 1 rfl rfl
  have ua_2 : (kal4 w2 (r)).cell? ⟨w.heap.size, 2, none⟩ = some (.int .u64 (a).c) := Kn.get s3.out 1 2 rfl rfl
  have ua_3 : (kal4 w2 (r)).cell? ⟨w.heap.size, 3, none⟩ = some (.int .u64 (a).d) := Kn.get s3.out 1 3 rfl rfl
  go_wp2_with fail
  clear ua_0 ua_1 ua_2 ua_3
  refine (B1 _).mono ?_
  rintro e w4 ⟨rfl, hb4⟩
  have s4 : Hid (Kn w4 [(w2.heap.size, (c4 (r))), (w.heap.size, (c4 (a)))]) := s3.out.up hb4
  have b4 : Hid (Below w.heap.size w w4) := b3.out.trans (hb4.mono b3.out.size)
  have z4 := b4.out.size
  clear hb4 s3 b3
  have s5 : Hid (Kn (kal4 w4 (mi)) [(w4.heap.size, (c4 (mi))), (w2.heap.size, (c4 (r))), (w.heap.size, (c4 (a)))]) := s4.out.al (c4 (mi)) 24 rfl
  have b5 : Hid (Below w.heap.size w (kal4 w4 (mi))) := b4.out.alloc b4.out.size _
  have z5 := b4.out.size
  clear s4 b4
  go_wp2_with fail
  refine wp_region_up (by kernel_rfl) (by kernel_rfl) (fun U hU f hf hcl => ?_)
  have ua_0 := fun nx => (Kn.get (s5.out.up (hf nx).out) 2 0 rfl rfl : (f nx).cell? ⟨w.heap.size, 0, none⟩ = some (.int .u64 (a).a))
  have ua_1 := fun nx => (Kn.get (s5.out.up (hf nx).out) 2 1 rfl rfl : (f nx).cell? ⟨w.heap.size, 1, none⟩ = some (.int .u64 (a).b))
  have ua_2 := fun nx => (Kn.get (s5.out.up (hf nx).out) 2 2 rfl rfl : (f nx).cell? ⟨w.heap.size, 2, none⟩ = some (.int .u64 (a).c))
  have ua_3 := fun nx => (Kn.get (s5.out.up (hf nx).out) 2 3 rfl rfl : (f nx).cell? ⟨w.heap.size, 3, none⟩ = some (.int .u64 (a).d))
  have ur_0 := fun nx => (Kn.get (s5.out.up (hf nx).out) 1 0 rfl rfl : (f nx).cell? ⟨w2.heap.size, 0, none⟩ = some (.int .u64 (r).a))
  have ur_1 := fun nx => (Kn.get (s5.out.up (hf nx).out) 1 1 rfl rfl : (f nx).cell? ⟨w2.heap.size, 1, none⟩ = some (.int .u64 (r).b))
  have ur_2 := fun nx => (Kn.get (s5.out.up (hf nx).out) 1 2 rfl rfl : (f nx).cell? ⟨w2.heap.size, 2, none⟩ = some (.int .u64 (r).c))
  have ur_3 := fun nx => (Kn.get (s5.out.up (hf nx).out) 1 3 rfl rfl : (f nx).cell? ⟨w2.heap.size, 3, none⟩ = some (.int .u64 (r).d))
  have umi_0 := fun nx => (Kn.get (s5.out.up (hf nx).out) 0 0 rfl rfl : (f nx).cell? ⟨w4.heap.size, 0, none⟩ = some (.int .u64 (mi).a))
  have umi_1 := fun nx => (Kn.get (s5.out.up (hf nx).out) 0 1 rfl rfl : (f nx).cell? ⟨w4.heap.size, 1, none⟩ = some (.int .u64 (mi).b))
  have umi_2 := fun nx => (Kn.get (s5.out.up (hf nx).out) 0 2 rfl rfl : (f nx).cell? ⟨w4.heap.size, 2, none⟩ = some (.int .u64 (mi).c))
  have umi_3 := fun nx => (Kn.get (s5.out.up (hf nx).out) 0 3 rfl rfl : (f nx).cell? ⟨w4.heap.size, 3, none⟩ = some (.int .u64 (mi).d))
  try simp only [List.append_eq, List.cons_append, List.nil_append]
  repeat (go_big_quiet_step (first | (go_at_call 15; exact (L1 _).mono fun e w'' ⟨he, hb⟩ => ⟨he, hcl.out _ _ hb⟩)))
  refine wpQuiet_nil ?_
  intro nx
  have hb6 := (hf nx).out
  clear hf hcl ua_0 ua_1 ua_2 ua_3 ur_0 ur_1 ur_2 ur_3 umi_0 umi_1 umi_2 umi_3
  generalize f nx = w6 at hb6 ⊢
  have s6 : Hid (Kn w6 [(w4.heap.size, (c4 (mi))), (w2.heap.size, (c4 (r))), (w.heap.size, (c4 (a)))]) := s5.out.up hb6
  have b6 : Hid (Below w.heap.size w w6) := b5.out.trans (hb6.mono b5.out.size)
  have z6 := b6.out.size
  clear hb6 s5 b5
  have ua_0 : w6.cell? ⟨w.heap.size, 0, none⟩ = some (.int .u64 (a).a) := Kn.get s6.out 2 0 rfl rfl
  have ua_1 : w6.cell? ⟨w.heap.size, 1, none⟩ = some (.int .u64 (a).b) := Kn.get s6.out 2 1 rfl rfl
  have ua_2 : w6.cell? ⟨w.heap.size, 2, none⟩ = some (.int .u64 (a).c) := Kn.get s6.out 2 2 rfl rfl
  have ua_3 : w6.cell? ⟨w.heap.size, 3, none⟩ = some (.int .u64 (a).d) := Kn.get s6.out 2 3 rfl rfl
  go_wp2_with fail
  clear ua_0 ua_1 ua_2 ua_3
  refine (S2 _).mono ?_
  rintro e w7 ⟨rfl, hb7⟩
  have s7 : Hid (Kn w7 [(w4.heap.size, (c4 (mi))), (w2.heap.size, (c4 (r))), (w.heap.size, (c4 (a)))]) := s6.out.up hb7
  have b7 : Hid (Below w.heap.size w w7) := b6.out.trans (hb7.mono b6.out.size)
  have z7 := b7.out.size
  clear hb7 s6 b6
  have s8 : Hid (Kn (kal4 w7 (s)) [(w7.heap.size, (c4 (s))), (w4.heap.size, (c4 (mi))), (w2.heap.size, (c4 (r))), (w.heap.size, (c4 (a)))]) := s7.out.al (c4 (s)) 24 rfl
  have b8 : Hid (Below w.heap.size w (kal4 w7 (s))) := b7.out.alloc b7.out.size _
  have z8 := b7.out.size
  clear s7 b7
  go_wp2_with fail
  refine wp_region_up (by kernel_rfl) (by kernel_rfl) (fun U hU f hf hcl => ?_)
  have ua_0 := fun nx => (Kn.get (s8.out.up (hf nx).out) 3 0 rfl rfl : (f nx).cell? ⟨w.heap.size, 0, none⟩ = some (.int .u64 (a).a))
  have ua_1 := fun nx => (Kn.get (s8.out.up (hf nx).out) 3 1 rfl rfl : (f nx).cell? ⟨w.heap.size, 1, none⟩ = some (.int .u64 (a).b))
  have ua_2 := fun nx => (Kn.get (s8.out.up (hf nx).out) 3 2 rfl rfl : (f nx).cell? ⟨w.heap.size, 2, none⟩ = some (.int .u64 (a).c))
  have ua_3 := fun nx => (Kn.get (s8.out.up (hf nx).out) 3 3 rfl rfl : (f nx).cell? ⟨w.heap.size, 3, none⟩ = some (.int .u64 (a).d))
  have us_0 := fun nx => (Kn.get (s8.out.up (hf nx).out) 0 0 rfl rfl : (f nx).cell? ⟨w7.heap.size, 0, none⟩ = some (.int .u64 (s).a))
  have us_1 := fun nx => (Kn.get (s8.out.up (hf nx).out) 0 1 rfl rfl : (f nx).cell? ⟨w7.heap.size, 1, none⟩ = some (.int .u64 (s).b))
  have us_2 := fun nx => (Kn.get (s8.out.up (hf nx).out) 0 2 rfl rfl : (f nx).cell? ⟨w7.heap.size, 2, none⟩ = some (.int .u64 (s).c))
  have us_3 := fun nx => (Kn.get (s8.out.up (hf nx).out) 0 3 rfl rfl : (f nx).cell? ⟨w7.heap.size, 3, none⟩ = some (.int .u64 (s).d))
  try simp only [List.append_eq, List.cons_append, List.nil_append]
  repeat (go_big_quiet_step (first | (go_at_call 15; exact (L1 _).mono fun e w'' ⟨he, hb⟩ => ⟨he, hcl.out _ _ hb⟩) | (go_at_call 21; exact (M2 _).mono fun e w'' ⟨he, hb⟩ => ⟨he, hcl.out _ _ hb⟩)))
  refine wpQuiet_nil ?_
  intro nx
  have hb9 := (hf nx).out
  clear hf hcl ua_0 ua_1 ua_2 ua_3 us_0 us_1 us_2 us_3
  generalize f nx = w9 at hb9 ⊢
  have s9 : Hid (Kn w9 [(w7.heap.size, (c4 (s))), (w4.heap.size, (c4 (mi))), (w2.heap.size, (c4 (r))), (w.heap.size, (c4 (a)))]) := s8.out.up hb9
  have b9 : Hid (Below w.heap.size w w9) := b8.out.trans (hb9.mono b8.out.size)
  have z9 := b9.out.size
  clear hb9 s8 b8
  go_wp2_with fail
  refine (B2 _).mono ?_
  rintro e w10 ⟨rfl, hb10⟩
  have s10 : Hid (Kn w10 [(w7.heap.size, (c4 (s))), (w4.heap.size, (c4 (mi))), (w2.heap.size, (c4 (r))), (w.heap.size, (c4 (a)))]) := s9.out.up hb10
  have b10 : Hid (Below w.heap.size w w10) := b9.out.trans (hb10.mono b9.out.size)
  have z10 := b10.out.size
  clear hb10 s9 b9
  go_wp2_with fail
  refine (S3 _).mono ?_
  rintro e w11 ⟨rfl, hb11⟩
  have s11 : Hid (Kn w11 [(w7.heap.size, (c4 (s))), (w4.heap.size, (c4 (mi))), (w2.heap.size, (c4 (r))), (w.heap.size, (c4 (a)))]) := s10.out.up hb11
  have b11 : Hid (Below w.heap.size w w11) := b10.out.trans (hb11.mono b10.out.size)
  have z11 := b11.out.size
  clear hb11 s10 b10
  have s12 : Hid (Kn (kal4 w11 (im)) [(w11.heap.size, (c4 (im))), (w7.heap.size, (c4 (s))), (w4.heap.size, (c4 (mi))), (w2.heap.size, (c4 (r))), (w.heap.size, (c4 (a)))]) := s11.out.al (c4 (im)) 24 rfl
  have b12 : Hid (Below w.heap.size w (kal4 w11 (im))) := b11.out.alloc b11.out.size _
  have z12 := b11.out.size
  clear s11 b11
  have uim_0 : (kal4 w11 (im)).cell? ⟨w11.heap.size, 0, none⟩ = some (.int .u64 (im).a) := Kn.get s12.out 0 0 rfl rfl
  have uim_1 : (kal4 w11 (im)).cell? ⟨w11.heap.size, 1, none⟩ = some (.int .u64 (im).b) := Kn.get s12.out 0 1 rfl rfl
  have uim_2 : (kal4 w11 (im)).cell? ⟨w11.heap.size, 2, none⟩ = some (.int .u64 (im).c) := Kn.get s12.out 0 2 rfl rfl
  have uim_3 : (kal4 w11 (im)).cell? ⟨w11.heap.size, 3, none⟩ = some (.int .u64 (im).d) := Kn.get s12.out 0 3 rfl rfl
  go_wp2_with fail
  clear uim_0 uim_1 uim_2 uim_3
  refine (M3 _).mono ?_
  rintro e w13 ⟨rfl, hb13⟩
  have s13 : Hid (Kn w13 [(w11.heap.size, (c4 (im))), (w7.heap.size, (c4 (s))), (w4.heap.size, (c4 (mi))), (w2.heap.size, (c4 (r))), (w.heap.size, (c4 (a)))]) := s12.out.up hb13
  have b13 : Hid (Below w.heap.size w w13) := b12.out.trans (hb13.mono b12.out.size)
  have z13 := b13.out.size
  clear hb13 s12 b12
  go_wp2_with fail
  refine (B2 _).mono ?_
  rintro e w14 ⟨rfl, hb14⟩
  have s14 : Hid (Kn w14 [(w11.heap.size, (c4 (im))), (w7.heap.size, (c4 (s))), (w4.heap.size, (c4 (mi))), (w2.heap.size, (c4 (r))), (w.heap.size, (c4 (a)))]) := s13.out.up hb14
  have b14 : Hid (Below w.heap.size w w14) := b13.out.trans (hb14.mono b13.out.size)
  have z14 := b14.out.size
  clear hb14 s13 b13
  go_wp2_with fail
  go_ret
  exact ⟨rfl, b14.out⟩
set_option maxHeartbeats 4000000 in
theorem fieldRoots_2 (a aa r mi lo s mo im : Nm) (r0 : 0 ≤ r.a) (r2 : r.a % 2 = 0) (s0 : 0 ≤ s.a) (s2 : s.a % 2 = 0)
    (e1 : ∀ w, (binOp .neq 24 (N r) (N lo)).run Try.prog w = .ok (.bool true) w) (e2 : ∀ w, (binOp .neq 24 (N r) (N mi)).run Try.prog w = .ok (.bool false) w)
    (e3 : ∀ w, (binOp .neq 24 (N lo) (N lo)).run Try.prog w = .ok (.bool false) w) (e4 : ∀ w, (binOp .eql 24 (N mo) (N mo)).run Try.prog w = .ok (.bool true) w)
    (M1 : ∀ w, Calls Try.prog 21 #[N a, N a] w fun e w' => e = .returned (N aa) ∧ Below w.heap.size w w')
    (S1 : ∀ w, Calls Try.prog 10 #[N aa] w fun e w' => e = .returned (.tuple #[N r, .bool true]) ∧ Below w.heap.size w w')
    (B1 : ∀ w, Calls Try.prog 19 #[N ⟨0, 0, 0, 0⟩, N a] w fun e w' => e = .returned (N mi) ∧ Below w.heap.size w w')
    (L1 : ∀ w, Calls Try.prog 15 #[N a] w fun e w' => e = .returned (N lo) ∧ Below w.heap.size w w')
    (S2 : ∀ w, Calls Try.prog 10 #[N a] w fun e w' => e = .returned (.tuple #[N s, .bool true]) ∧ Below w.heap.size w w')
    (M2 : ∀ w, Calls Try.prog 21 #[N s, N s] w fun e w' => e = .returned (N lo) ∧ Below w.heap.size w w')
    (B2 : ∀ w, Calls Try.prog 19 #[N ⟨0, 0, 0, 0⟩, N ⟨1, 0, 0, 0⟩] w fun e w' => e = .returned (N mo) ∧ Below w.heap.size w w')
    (S3 : ∀ w, Calls Try.prog 10 #[N mo] w fun e w' => e = .returned (.tuple #[N im, .bool true]) ∧ Below w.heap.size w w')
    (M3 : ∀ w, Calls Try.prog 21 #[N im, N im] w fun e w' => e = .returned (N mo) ∧ Below w.heap.size w w')
    (w : World) :
    Calls Try.prog 7 #[N a] w fun e w' => e = .returned (.bool true) ∧ Below w.heap.size w w' := by
  have q1 : r.a.tmod 2 = 0 := by rw [Int.tmod_eq_emod_of_nonneg r0]; exact r2
  have q2 : s.a.tmod 2 = 0 := by rw [Int.tmod_eq_emod_of_nonneg s0]; exact s2
  go_enter Try.func7, Try.ntmps7
  have s0 : Hid (Kn (kal4 w (a)) [(w.heap.size, (c4 (a)))]) := ((Kn.nil w).al (c4 (a)) 24 rfl)
  have b0 : Hid (Below w.heap.size w (kal4 w (a))) := ((Below.refl _ _).alloc (Nat.le_refl _) _)
  have ua_0 : (kal4 w (a)).cell? ⟨w.heap.size, 0, none⟩ = some (.int .u64 (a).a) := Kn.get s0.out 0 0 rfl rfl
  have ua_1 : (kal4 w (a)).cell? ⟨w.heap.size, 1, none⟩ = some (.int .u64 (a).b) := Kn.get s0.out 0 1 rfl rfl
  have ua_2 : (kal4 w (a)).cell? ⟨w.heap.size, 2, none⟩ = some (.int .u64 (a).c) := Kn.get s0.out 0 2 rfl rfl
  have ua_3 : (kal4 w (a)).cell? ⟨w.heap.size, 3, none⟩ = some (.int .u64 (a).d) := Kn.get s0.out 0 3 rfl rfl
  go_wp2_with fail
  clear ua_0 ua_1 ua_2 ua_3
  refine (M1 _).mono ?_
  rintro e w1 ⟨rfl, hb1⟩
  have s1 : Hid (Kn w1 [(w.heap.size, (c4 (a)))]) := s0.out.up hb1
  have b1 : Hid (Below w.heap.size w w1) := b0.out.trans (hb1.mono b0.out.size)
  have z1 := b1.out.size
  clear hb1 s0 b0
  go_wp2_with fail
  refine (S1 _).mono ?_
  rintro e w2 ⟨rfl, hb2⟩
  have s2 : Hid (Kn w2 [(w.heap.size, (c4 (a)))]) := s1.out.up hb2
  have b2 : Hid (Below w.heap.size w w2) := b1.out.trans (hb2.mono b1.out.size)
  have z2 := b2.out.size
  clear hb2 s1 b1
  have s3 : Hid (Kn (kal4 w2 (r)) [(w2.heap.size, (c4 (r))), (w.heap.size, (c4 (a)))]) := s2.out.al (c4 (r)) 24 rfl
  have b3 : Hid (Below w.heap.size w (kal4 w2 (r))) := b2.out.alloc b2.out.size _
  have z3 := b2.out.size
  clear s2 b2
  have ua_0 : (kal4 w2 (r)).cell? ⟨w.heap.size, 0, none⟩ = some (.int .u64 (a).a) := Kn.get s3.out 1 0 rfl rfl
  have ua_1 : (kal4 w2 (r)).cell? ⟨w.heap.size, 1, none⟩ = some (.int .u64 (a).b) := Kn.get s3.out 1 1 rfl rfl
  have ua_2 : (kal4 w2 (r)).cell? ⟨w.heap.size, 2, none⟩ = some (.int .u64 (a).c) := Kn.get s3.out 1 2 rfl rfl
  have ua_3 : (kal4 w2 (r)).cell? ⟨w.heap.size, 3, none⟩ = some (.int .u64 (a).d) := Kn.get s3.out 1 3 rfl rfl
  go_wp2_with fail
  clear ua_0 ua_1 ua_2 ua_3
  refine (B1 _).mono ?_
  rintro e w4 ⟨rfl, hb4⟩
  have s4 : Hid (Kn w4 [(w2.heap.size, (c4 (r))), (w.heap.size, (c4 (a)))]) := s3.out.up hb4
  have b4 : Hid (Below w.heap.size w w4) := b3.out.trans (hb4.mono b3.out.size)
  have z4 := b4.out.size
  clear hb4 s3 b3
  have s5 : Hid (Kn (kal4 w4 (mi)) [(w4.heap.size, (c4 (mi))), (w2.heap.size, (c4 (r))), (w.heap.size, (c4 (a)))]) := s4.out.al (c4 (mi)) 24 rfl
  have b5 : Hid (Below w.heap.size w (kal4 w4 (mi))) := b4.out.alloc b4.out.size _
  have z5 := b4.out.size
  clear s4 b4
  go_wp2_with fail
  refine wp_region_up (by kernel_rfl) (by kernel_rfl) (fun U hU f hf hcl => ?_)
  have ua_0 := fun nx => (Kn.get (s5.out.up (hf nx).out) 2 0 rfl rfl : (f nx).cell? ⟨w.heap.size, 0, none⟩ = some (.int .u64 (a).a))
  have ua_1 := fun nx => (Kn.get (s5.out.up (hf nx).out) 2 1 rfl rfl : (f nx).cell? ⟨w.heap.size, 1, none⟩ = some (.int .u64 (a).b))
  have ua_2 := fun nx => (Kn.get (s5.out.up (hf nx).out) 2 2 rfl rfl : (f nx).cell? ⟨w.heap.size, 2, none⟩ = some (.int .u64 (a).c))
  have ua_3 := fun nx => (Kn.get (s5.out.up (hf nx).out) 2 3 rfl rfl : (f nx).cell? ⟨w.heap.size, 3, none⟩ = some (.int .u64 (a).d))
  have ur_0 := fun nx => (Kn.get (s5.out.up (hf nx).out) 1 0 rfl rfl : (f nx).cell? ⟨w2.heap.size, 0, none⟩ = some (.int .u64 (r).a))
  have ur_1 := fun nx => (Kn.get (s5.out.up (hf nx).out) 1 1 rfl rfl : (f nx).cell? ⟨w2.heap.size, 1, none⟩ = some (.int .u64 (r).b))
  have ur_2 := fun nx => (Kn.get (s5.out.up (hf nx).out) 1 2 rfl rfl : (f nx).cell? ⟨w2.heap.size, 2, none⟩ = some (.int .u64 (r).c))
  have ur_3 := fun nx => (Kn.get (s5.out.up (hf nx).out) 1 3 rfl rfl : (f nx).cell? ⟨w2.heap.size, 3, none⟩ = some (.int .u64 (r).d))
  have umi_0 := fun nx => (Kn.get (s5.out.up (hf nx).out) 0 0 rfl rfl : (f nx).cell? ⟨w4.heap.size, 0, none⟩ = some (.int .u64 (mi).a))
  have umi_1 := fun nx => (Kn.get (s5.out.up (hf nx).out) 0 1 rfl rfl : (f nx).cell? ⟨w4.heap.size, 1, none⟩ = some (.int .u64 (mi).b))
  have umi_2 := fun nx => (Kn.get (s5.out.up (hf nx).out) 0 2 rfl rfl : (f nx).cell? ⟨w4.heap.size, 2, none⟩ = some (.int .u64 (mi).c))
  have umi_3 := fun nx => (Kn.get (s5.out.up (hf nx).out) 0 3 rfl rfl : (f nx).cell? ⟨w4.heap.size, 3, none⟩ = some (.int .u64 (mi).d))
  try simp only [List.append_eq, List.cons_append, List.nil_append]
  repeat (go_big_quiet_step (first | (go_at_call 15; exact (L1 _).mono fun e w'' ⟨he, hb⟩ => ⟨he, hcl.out _ _ hb⟩)))
  refine wpQuiet_nil ?_
  intro nx
  have hb6 := (hf nx).out
  clear hf hcl ua_0 ua_1 ua_2 ua_3 ur_0 ur_1 ur_2 ur_3 umi_0 umi_1 umi_2 umi_3
  generalize f nx = w6 at hb6 ⊢
  have s6 : Hid (Kn w6 [(w4.heap.size, (c4 (mi))), (w2.heap.size, (c4 (r))), (w.heap.size, (c4 (a)))]) := s5.out.up hb6
  have b6 : Hid (Below w.heap.size w w6) := b5.out.trans (hb6.mono b5.out.size)
  have z6 := b6.out.size
  clear hb6 s5 b5
  have ua_0 : w6.cell? ⟨w.heap.size, 0, none⟩ = some (.int .u64 (a).a) := Kn.get s6.out 2 0 rfl rfl
  have ua_1 : w6.cell? ⟨w.heap.size, 1, none⟩ = some (.int .u64 (a).b) := Kn.get s6.out 2 1 rfl rfl
  have ua_2 : w6.cell? ⟨w.heap.size, 2, none⟩ = some (.int .u64 (a).c) := Kn.get s6.out 2 2 rfl rfl
  have ua_3 : w6.cell? ⟨w.heap.size, 3, none⟩ = some (.int .u64 (a).d) := Kn.get s6.out 2 3 rfl rfl
  go_wp2_with fail
  clear ua_0 ua_1 ua_2 ua_3
  refine (S2 _).mono ?_
  rintro e w7 ⟨rfl, hb7⟩
  have s7 : Hid (Kn w7 [(w4.heap.size, (c4 (mi))), (w2.heap.size, (c4 (r))), (w.heap.size, (c4 (a)))]) := s6.out.up hb7
  have b7 : Hid (Below w.heap.size w w7) := b6.out.trans (hb7.mono b6.out.size)
  have z7 := b7.out.size
  clear hb7 s6 b6
  have s8 : Hid (Kn (kal4 w7 (s)) [(w7.heap.size, (c4 (s))), (w4.heap.size, (c4 (mi))), (w2.heap.size, (c4 (r))), (w.heap.size, (c4 (a)))]) := s7.out.al (c4 (s)) 24 rfl
  have b8 : Hid (Below w.heap.size w (kal4 w7 (s))) := b7.out.alloc b7.out.size _
  have z8 := b7.out.size
  clear s7 b7
  go_wp2_with fail
  refine wp_region_up (by kernel_rfl) (by kernel_rfl) (fun U hU f hf hcl => ?_)
  have ua_0 := fun nx => (Kn.get (s8.out.up (hf nx).out) 3 0 rfl rfl : (f nx).cell? ⟨w.heap.size, 0, none⟩ = some (.int .u64 (a).a))
  have ua_1 := fun nx => (Kn.get (s8.out.up (hf nx).out) 3 1 rfl rfl : (f nx).cell? ⟨w.heap.size, 1, none⟩ = some (.int .u64 (a).b))
  have ua_2 := fun nx => (Kn.get (s8.out.up (hf nx).out) 3 2 rfl rfl : (f nx).cell? ⟨w.heap.size, 2, none⟩ = some (.int .u64 (a).c))
  have ua_3 := fun nx => (Kn.get (s8.out.up (hf nx).out) 3 3 rfl rfl : (f nx).cell? ⟨w.heap.size, 3, none⟩ = some (.int .u64 (a).d))
  have us_0 := fun nx => (Kn.get (s8.out.up (hf nx).out) 0 0 rfl rfl : (f nx).cell? ⟨w7.heap.size, 0, none⟩ = some (.int .u64 (s).a))
  have us_1 := fun nx => (Kn.get (s8.out.up (hf nx).out) 0 1 rfl rfl : (f nx).cell? ⟨w7.heap.size, 1, none⟩ = some (.int .u64 (s).b))
  have us_2 := fun nx => (Kn.get (s8.out.up (hf nx).out) 0 2 rfl rfl : (f nx).cell? ⟨w7.heap.size, 2, none⟩ = some (.int .u64 (s).c))
  have us_3 := fun nx => (Kn.get (s8.out.up (hf nx).out) 0 3 rfl rfl : (f nx).cell? ⟨w7.heap.size, 3, none⟩ = some (.int .u64 (s).d))
  try simp only [List.append_eq, List.cons_append, List.nil_append]
  repeat (go_big_quiet_step (first | (go_at_call 15; exact (L1 _).mono fun e w'' ⟨he, hb⟩ => ⟨he, hcl.out _ _ hb⟩) | (go_at_call 21; exact (M2 _).mono fun e w'' ⟨he, hb⟩ => ⟨he, hcl.out _ _ hb⟩)))
  refine wpQuiet_nil ?_
  intro nx
  have hb9 := (hf nx).out
  clear hf hcl ua_0 ua_1 ua_2 ua_3 us_0 us_1 us_2 us_3
  generalize f nx = w9 at hb9 ⊢
  have s9 : Hid (Kn w9 [(w7.heap.size, (c4 (s))), (w4.heap.size, (c4 (mi))), (w2.heap.size, (c4 (r))), (w.heap.size, (c4 (a)))]) := s8.out.up hb9
  have b9 : Hid (Below w.heap.size w w9) := b8.out.trans (hb9.mono b8.out.size)
  have z9 := b9.out.size
  clear hb9 s8 b8
  go_wp2_with fail
  refine (B2 _).mono ?_
  rintro e w10 ⟨rfl, hb10⟩
  have s10 : Hid (Kn w10 [(w7.heap.size, (c4 (s))), (w4.heap.size, (c4 (mi))), (w2.heap.size, (c4 (r))), (w.heap.size, (c4 (a)))]) := s9.out.up hb10
  have b10 : Hid (Below w.heap.size w w10) := b9.out.trans (hb10.mono b9.out.size)
  have z10 := b10.out.size
  clear hb10 s9 b9
  go_wp2_with fail
  refine (S3 _).mono ?_
  rintro e w11 ⟨rfl, hb11⟩
  have s11 : Hid (Kn w11 [(w7.heap.size, (c4 (s))), (w4.heap.size, (c4 (mi))), (w2.heap.size, (c4 (r))), (w.heap.size, (c4 (a)))]) := s10.out.up hb11
  have b11 : Hid (Below w.heap.size w w11) := b10.out.trans (hb11.mono b10.out.size)
  have z11 := b11.out.size
  clear hb11 s10 b10
  have s12 : Hid (Kn (kal4 w11 (im)) [(w11.heap.size, (c4 (im))), (w7.heap.size, (c4 (s))), (w4.heap.size, (c4 (mi))), (w2.heap.size, (c4 (r))), (w.heap.size, (c4 (a)))]) := s11.out.al (c4 (im)) 24 rfl
  have b12 : Hid (Below w.heap.size w (kal4 w11 (im))) := b11.out.alloc b11.out.size _
  have z12 := b11.out.size
  clear s11 b11
  have uim_0 : (kal4 w11 (im)).cell? ⟨w11.heap.size, 0, none⟩ = some (.int .u64 (im).a) := Kn.get s12.out 0 0 rfl rfl
  have uim_1 : (kal4 w11 (im)).cell? ⟨w11.heap.size, 1, none⟩ = some (.int .u64 (im).b) := Kn.get s12.out 0 1 rfl rfl
  have uim_2 : (kal4 w11 (im)).cell? ⟨w11.heap.size, 2, none⟩ = some (.int .u64 (im).c) := Kn.get s12.out 0 2 rfl rfl
  have uim_3 : (kal4 w11 (im)).cell? ⟨w11.heap.size, 3, none⟩ = some (.int .u64 (im).d) := Kn.get s12.out 0 3 rfl rfl
  go_wp2_with fail
  clear uim_0 uim_1 uim_2 uim_3
  refine (M3 _).mono ?_
  rintro e w13 ⟨rfl, hb13⟩
  have s13 : Hid (Kn w13 [(w11.heap.size, (c4 (im))), (w7.heap.size, (c4 (s))), (w4.heap.size, (c4 (mi))), (w2.heap.size, (c4 (r))), (w.heap.size, (c4 (a)))]) := s12.out.up hb13
  have b13 : Hid (Below w.heap.size w w13) := b12.out.trans (hb13.mono b12.out.size)
  have z13 := b13.out.size
  clear hb13 s12 b12
  go_wp2_with fail
  refine (B2 _).mono ?_
  rintro e w14 ⟨rfl, hb14⟩
  have s14 : Hid (Kn w14 [(w11.heap.size, (c4 (im))), (w7.heap.size, (c4 (s))), (w4.heap.size, (c4 (mi))), (w2.heap.size, (c4 (r))), (w.heap.size, (c4 (a)))]) := s13.out.up hb14
  have b14 : Hid (Below w.heap.size w w14) := b13.out.trans (hb14.mono b13.out.size)
  have z14 := b14.out.size
  clear hb14 s13 b13
  go_wp2_with fail
  go_ret
  exact ⟨rfl, b14.out⟩
set_option maxHeartbeats 4000000 in
theorem fieldRoots_3 (a aa r mi lo mo im : Nm) (r0 : 0 ≤ r.a) (r2 : r.a % 2 = 0)
    (e1 : ∀ w, (binOp .neq 24 (N r) (N lo)).run Try.prog w = .ok (.bool false) w)
    (e3 : ∀ w, (binOp .neq 24 (N ⟨0, 0, 0, 0⟩) (N ⟨0, 0, 0, 0⟩)).run Try.prog w = .ok (.bool false) w) (e4 : ∀ w, (binOp .eql 24 (N mo) (N mo)).run Try.prog w = .ok (.bool true) w)
    (M1 : ∀ w, Calls Try.prog 21 #[N a, N a] w fun e w' => e = .returned (N aa) ∧ Below w.heap.size w w')
    (S1 : ∀ w, Calls Try.prog 10 #[N aa] w fun e w' => e = .returned (.tuple #[N r, .bool true]) ∧ Below w.heap.size w w')
    (B1 : ∀ w, Calls Try.prog 19 #[N ⟨0, 0, 0, 0⟩, N a] w fun e w' => e = .returned (N mi) ∧ Below w.heap.size w w')
    (L1 : ∀ w, Calls Try.prog 15 #[N a] w fun e w' => e = .returned (N lo) ∧ Below w.heap.size w w')
    (S2 : ∀ w, Calls Try.prog 10 #[N a] w fun e w' => e = .returned (.tuple #[N ⟨0, 0, 0, 0⟩, .bool false]) ∧ Below w.heap.size w w')
    (B2 : ∀ w, Calls Try.prog 19 #[N ⟨0, 0, 0, 0⟩, N ⟨1, 0, 0, 0⟩] w fun e w' => e = .returned (N mo) ∧ Below w.heap.size w w')
    (S3 : ∀ w, Calls Try.prog 10 #[N mo] w fun e w' => e = .returned (.tuple #[N im, .bool true]) ∧ Below w.heap.size w w')
    (M3 : ∀ w, Calls Try.prog 21 #[N im, N im] w fun e w' => e = .returned (N mo) ∧ Below w.heap.size w w')
    (w : World) :
    Calls Try.prog 7 #[N a] w fun e w' => e = .returned (.bool true) ∧ Below w.heap.size w w' := by
  have q1 : r.a.tmod 2 = 0 := by rw [Int.tmod_eq_emod_of_nonneg r0]; exact r2
  go_enter Try.func7, Try.ntmps7
  have s0 : Hid (Kn (kal4 w (a)) [(w.heap.size, (c4 (a)))]) := ((Kn.nil w).al (c4 (a)) 24 rfl)
  have b0 : Hid (Below w.heap.size w (kal4 w (a))) := ((Below.refl _ _).alloc (Nat.le_refl _) _)
  have ua_0 : (kal4 w (a)).cell? ⟨w.heap.size, 0, none⟩ = some (.int .u64 (a).a) := Kn.get s0.out 0 0 rfl rfl
  have ua_1 : (kal4 w (a)).cell? ⟨w.heap.size, 1, none⟩ = some (.int .u64 (a).b) := Kn.get s0.out 0 1 rfl rfl
  have ua_2 : (kal4 w (a)).cell? ⟨w.heap.size, 2, none⟩ = some (.int .u64 (a).c) := Kn.get s0.out 0 2 rfl rfl
  have ua_3 : (kal4 w (a)).cell? ⟨w.heap.size, 3, none⟩ = some (.int .u64 (a).d) := Kn.get s0.out 0 3 rfl rfl
  go_wp2_with fail
  clear ua_0 ua_1 ua_2 ua_3
  refine (M1 _).mono ?_
  rintro e w1 ⟨rfl, hb1⟩
  have s1 : Hid (Kn w1 [(w.heap.size, (c4 (a)))]) := s0.out.up hb1
  have b1 : Hid (Below w.heap.size w w1) := b0.out.trans (hb1.mono b0.out.size)
  have z1 := b1.out.size
  clear hb1 s0 b0
  go_wp2_with fail
  refine (S1 _).mono ?_
  rintro e w2 ⟨rfl, hb2⟩
  have s2 : Hid (Kn w2 [(w.heap.size, (c4 (a)))]) := s1.out.up hb2
  have b2 : Hid (Below w.heap.size w w2) := b1.out.trans (hb2.mono b1.out.size)
  have z2 := b2.out.size
  clear hb2 s1 b1
  have s3 : Hid (Kn (kal4 w2 (r)) [(w2.heap.size, (c4 (r))), (w.heap.size, (c4 (a)))]) := s2.out.al (c4 (r)) 24 rfl
  have b3 : Hid (Below w.heap.size w (kal4 w2 (r))) := b2.out.alloc b2.out.size _
  have z3 := b2.out.size
  clear s2 b2
  have ua_0 : (kal4 w2 (r)).cell? ⟨w.heap.size, 0, none⟩ = some (.int .u64 (a).a) := Kn.get s3.out 1 0 rfl rfl
  have ua_1 : (kal4 w2 (r)).cell? ⟨w.heap.size, 1, none⟩ = some (.int .u64 (a).b) := Kn.get s3.out 1 1 rfl rfl
  have ua_2 : (kal4 w2 (r)).cell? ⟨w.heap.size, 2, none⟩ = some (.int .u64 (a).c) := Kn.get s3.out 1 2 rfl rfl
  have ua_3 : (kal4 w2 (r)).cell? ⟨w.heap.size, 3, none⟩ = some (.int .u64 (a).d) := Kn.get s3.out 1 3 rfl rfl
  go_wp2_with fail
  clear ua_0 ua_1 ua_2 ua_3
  refine (B1 _).mono ?_
  rintro e w4 ⟨rfl, hb4⟩
  have s4 : Hid (Kn w4 [(w2.heap.size, (c4 (r))), (w.heap.size, (c4 (a)))]) := s3.out.up hb4
  have b4 : Hid (Below w.heap.size w w4) := b3.out.trans (hb4.mono b3.out.size)
  have z4 := b4.out.size
  clear hb4 s3 b3
  have s5 : Hid (Kn (kal4 w4 (mi)) [(w4.heap.size, (c4 (mi))), (w2.heap.size, (c4 (r))), (w.heap.size, (c4 (a)))]) := s4.out.al (c4 (mi)) 24 rfl
  have b5 : Hid (Below w.heap.size w (kal4 w4 (mi))) := b4.out.alloc b4.out.size _
  have z5 := b4.out.size
  clear s4 b4
  go_wp2_with fail
  refine wp_region_up (by kernel_rfl) (by kernel_rfl) (fun U hU f hf hcl => ?_)
  have ua_0 := fun nx => (Kn.get (s5.out.up (hf nx).out) 2 0 rfl rfl : (f nx).cell? ⟨w.heap.size, 0, none⟩ = some (.int .u64 (a).a))
  have ua_1 := fun nx => (Kn.get (s5.out.up (hf nx).out) 2 1 rfl rfl : (f nx).cell? ⟨w.heap.size, 1, none⟩ = some (.int .u64 (a).b))
  have ua_2 := fun nx => (Kn.get (s5.out.up (hf nx).out) 2 2 rfl rfl : (f nx).cell? ⟨w.heap.size, 2, none⟩ = some (.int .u64 (a).c))
  have ua_3 := fun nx => (Kn.get (s5.out.up (hf nx).out) 2 3 rfl rfl : (f nx).cell? ⟨w.heap.size, 3, none⟩ = some (.int .u64 (a).d))
  have ur_0 := fun nx => (Kn.get (s5.out.up (hf nx).out) 1 0 rfl rfl : (f nx).cell? ⟨w2.heap.size, 0, none⟩ = some (.int .u64 (r).a))
  have ur_1 := fun nx => (Kn.get (s5.out.up (hf nx).out) 1 1 rfl rfl : (f nx).cell? ⟨w2.heap.size, 1, none⟩ = some (.int .u64 (r).b))
  have ur_2 := fun nx => (Kn.get (s5.out.up (hf nx).out) 1 2 rfl rfl : (f nx).cell? ⟨w2.heap.size, 2, none⟩ = some (.int .u64 (r).c))
  have ur_3 := fun nx => (Kn.get (s5.out.up (hf nx).out) 1 3 rfl rfl : (f nx).cell? ⟨w2.heap.size, 3, none⟩ = some (.int .u64 (r).d))
  have umi_0 := fun nx => (Kn.get (s5.out.up (hf nx).out) 0 0 rfl rfl : (f nx).cell? ⟨w4.heap.size, 0, none⟩ = some (.int .u64 (mi).a))
  have umi_1 := fun nx => (Kn.get (s5.out.up (hf nx).out) 0 1 rfl rfl : (f nx).cell? ⟨w4.heap.size, 1, none⟩ = some (.int .u64 (mi).b))
  have umi_2 := fun nx => (Kn.get (s5.out.up (hf nx).out) 0 2 rfl rfl : (f nx).cell? ⟨w4.heap.size, 2, none⟩ = some (.int .u64 (mi).c))
  have umi_3 := fun nx => (Kn.get (s5.out.up (hf nx).out) 0 3 rfl rfl : (f nx).cell? ⟨w4.heap.size, 3, none⟩ = some (.int .u64 (mi).d))
  try simp only [List.append_eq, List.cons_append, List.nil_append]
  repeat (go_big_quiet_step (first | (go_at_call 15; exact (L1 _).mono fun e w'' ⟨he, hb⟩ => ⟨he, hcl.out _ _ hb⟩)))
  refine wpQuiet_nil ?_
  intro nx
  have hb6 := (hf nx).out
  clear hf hcl ua_0 ua_1 ua_2 ua_3 ur_0 ur_1 ur_2 ur_3 umi_0 umi_1 umi_2 umi_3
  generalize f nx = w6 at hb6 ⊢
  have s6 : Hid (Kn w6 [(w4.heap.size, (c4 (mi))), (w2.heap.size, (c4 (r))), (w.heap.size, (c4 (a)))]) := s5.out.up hb6
  have b6 : Hid (Below w.heap.size w w6) := b5.out.trans (hb6.mono b5.out.size)
  have z6 := b6.out.size
  clear hb6 s5 b5
  have ua_0 : w6.cell? ⟨w.heap.size, 0, none⟩ = some (.int .u64 (a).a) := Kn.get s6.out 2 0 rfl rfl
  have ua_1 : w6.cell? ⟨w.heap.size, 1, none⟩ = some (.int .u64 (a).b) := Kn.get s6.out 2 1 rfl rfl
  have ua_2 : w6.cell? ⟨w.heap.size, 2, none⟩ = some (.int .u64 (a).c) := Kn.get s6.out 2 2 rfl rfl
  have ua_3 : w6.cell? ⟨w.heap.size, 3, none⟩ = some (.int .u64 (a).d) := Kn.get s6.out 2 3 rfl rfl
  go_wp2_with fail
  clear ua_0 ua_1 ua_2 ua_3
  refine (S2 _).mono ?_
  rintro e w7 ⟨rfl, hb7⟩
  have s7 : Hid (Kn w7 [(w4.heap.size, (c4 (mi))), (w2.heap.size, (c4 (r))), (w.heap.size, (c4 (a)))]) := s6.out.up hb7
  have b7 : Hid (Below w.heap.size w w7) := b6.out.trans (hb7.mono b6.out.size)
  have z7 := b7.out.size
  clear hb7 s6 b6
  have s8 : Hid (Kn (kal4 w7 ((⟨0, 0, 0, 0⟩ : Nm))) [(w7.heap.size, (c4 ((⟨0, 0, 0, 0⟩ : Nm)))), (w4.heap.size, (c4 (mi))), (w2.heap.size, (c4 (r))), (w.heap.size, (c4 (a)))]) := s7.out.al (c4 ((⟨0, 0, 0, 0⟩ : Nm))) 24 rfl
  have b8 : Hid (Below w.heap.size w (kal4 w7 ((⟨0, 0, 0, 0⟩ : Nm)))) := b7.out.alloc b7.out.size _
  have z8 := b7.out.size
  clear s7 b7
  go_wp2_with fail
  refine wp_region_up (by kernel_rfl) (by kernel_rfl) (fun U hU f hf hcl => ?_)
  have ua_0 := fun nx => (Kn.get (s8.out.up (hf nx).out) 3 0 rfl rfl : (f nx).cell? ⟨w.heap.size, 0, none⟩ = some (.int .u64 (a).a))
  have ua_1 := fun nx => (Kn.get (s8.out.up (hf nx).out) 3 1 rfl rfl : (f nx).cell? ⟨w.heap.size, 1, none⟩ = some (.int .u64 (a).b))
  have ua_2 := fun nx => (Kn.get (s8.out.up (hf nx).out) 3 2 rfl rfl : (f nx).cell? ⟨w.heap.size, 2, none⟩ = some (.int .u64 (a).c))
  have ua_3 := fun nx => (Kn.get (s8.out.up (hf nx).out) 3 3 rfl rfl : (f nx).cell? ⟨w.heap.size, 3, none⟩ = some (.int .u64 (a).d))
  have us_0 := fun nx => (Kn.get (s8.out.up (hf nx).out) 0 0 rfl rfl : (f nx).cell? ⟨w7.heap.size, 0, none⟩ = some (.int .u64 ((⟨0, 0, 0, 0⟩ : Nm)).a))
  have us_1 := fun nx => (Kn.get (s8.out.up (hf nx).out) 0 1 rfl rfl : (f nx).cell? ⟨w7.heap.size, 1, none⟩ = some (.int .u64 ((⟨0, 0, 0, 0⟩ : Nm)).b))
  have us_2 := fun nx => (Kn.get (s8.out.up (hf nx).out) 0 2 rfl rfl : (f nx).cell? ⟨w7.heap.size, 2, none⟩ = some (.int .u64 ((⟨0, 0, 0, 0⟩ : Nm)).c))
  have us_3 := fun nx => (Kn.get (s8.out.up (hf nx).out) 0 3 rfl rfl : (f nx).cell? ⟨w7.heap.size, 3, none⟩ = some (.int .u64 ((⟨0, 0, 0, 0⟩ : Nm)).d))
  try simp only [List.append_eq, List.cons_append, List.nil_append]
  repeat (go_big_quiet_step (first | fail))
  refine wpQuiet_nil ?_
  intro nx
  have hb9 := (hf nx).out
  clear hf hcl ua_0 ua_1 ua_2 ua_3 us_0 us_1 us_2 us_3
  generalize f nx = w9 at hb9 ⊢
  have s9 : Hid (Kn w9 [(w7.heap.size, (c4 ((⟨0, 0, 0, 0⟩ : Nm)))), (w4.heap.size, (c4 (mi))), (w2.heap.size, (c4 (r))), (w.heap.size, (c4 (a)))]) := s8.out.up hb9
  have b9 : Hid (Below w.heap.size w w9) := b8.out.trans (hb9.mono b8.out.size)
  have z9 := b9.out.size
  clear hb9 s8 b8
  go_wp2_with fail
  refine (B2 _).mono ?_
  rintro e w10 ⟨rfl, hb10⟩
  have s10 : Hid (Kn w10 [(w7.heap.size, (c4 ((⟨0, 0, 0, 0⟩ : Nm)))), (w4.heap.size, (c4 (mi))), (w2.heap.size, (c4 (r))), (w.heap.size, (c4 (a)))]) := s9.out.up hb10
  have b10 : Hid (Below w.heap.size w w10) := b9.out.trans (hb10.mono b9.out.size)
  have z10 := b10.out.size
  clear hb10 s9 b9
  go_wp2_with fail
  refine (S3 _).mono ?_
  rintro e w11 ⟨rfl, hb11⟩
  have s11 : Hid (Kn w11 [(w7.heap.size, (c4 ((⟨0, 0, 0, 0⟩ : Nm)))), (w4.heap.size, (c4 (mi))), (w2.heap.size, (c4 (r))), (w.heap.size, (c4 (a)))]) := s10.out.up hb11
  have b11 : Hid (Below w.heap.size w w11) := b10.out.trans (hb11.mono b10.out.size)
  have z11 := b11.out.size
  clear hb11 s10 b10
  have s12 : Hid (Kn (kal4 w11 (im)) [(w11.heap.size, (c4 (im))), (w7.heap.size, (c4 ((⟨0, 0, 0, 0⟩ : Nm)))), (w4.heap.size, (c4 (mi))), (w2.heap.size, (c4 (r))), (w.heap.size, (c4 (a)))]) := s11.out.al (c4 (im)) 24 rfl
  have b12 : Hid (Below w.heap.size w (kal4 w11 (im))) := b11.out.alloc b11.out.size _
  have z12 := b11.out.size
  clear s11 b11
  have uim_0 : (kal4 w11 (im)).cell? ⟨w11.heap.size, 0, none⟩ = some (.int .u64 (im).a) := Kn.get s12.out 0 0 rfl rfl
  have uim_1 : (kal4 w11 (im)).cell? ⟨w11.heap.size, 1, none⟩ = some (.int .u64 (im).b) := Kn.get s12.out 0 1 rfl rfl
  have uim_2 : (kal4 w11 (im)).cell? ⟨w11.heap.size, 2, none⟩ = some (.int .u64 (im).c) := Kn.get s12.out 0 2 rfl rfl
  have uim_3 : (kal4 w11 (im)).cell? ⟨w11.heap.size, 3, none⟩ = some (.int .u64 (im).d) := Kn.get s12.out 0 3 rfl rfl
  go_wp2_with fail
  clear uim_0 uim_1 uim_2 uim_3
  refine (M3 _).mono ?_
  rintro e w13 ⟨rfl, hb13⟩
  have s13 : Hid (Kn w13 [(w11.heap.size, (c4 (im))), (w7.heap.size, (c4 ((⟨0, 0, 0, 0⟩ : Nm)))), (w4.heap.size, (c4 (mi))), (w2.heap.size, (c4 (r))), (w.heap.size, (c4 (a)))]) := s12.out.up hb13
  have b13 : Hid (Below w.heap.size w w13) := b12.out.trans (hb13.mono b12.out.size)
  have z13 := b13.out.size
  clear hb13 s12 b12
  go_wp2_with fail
  refine (B2 _).mono ?_
  rintro e w14 ⟨rfl, hb14⟩
  have s14 : Hid (Kn w14 [(w11.heap.size, (c4 (im))), (w7.heap.size, (c4 ((⟨0, 0, 0, 0⟩ : Nm)))), (w4.heap.size, (c4 (mi))), (w2.heap.size, (c4 (r))), (w.heap.size, (c4 (a)))]) := s13.out.up hb14
  have b14 : Hid (Below w.heap.size w w14) := b13.out.trans (hb14.mono b13.out.size)
  have z14 := b14.out.size
  clear hb14 s13 b13
  go_wp2_with fail
  go_ret
  exact ⟨rfl, b14.out⟩
set_option maxHeartbeats 4000000 in
theorem fieldRoots_4 (a aa r mi lo mo im : Nm) (r0 : 0 ≤ r.a) (r2 : r.a % 2 = 0)
    (e1 : ∀ w, (binOp .neq 24 (N r) (N lo)).run Try.prog w = .ok (.bool true) w) (e2 : ∀ w, (binOp .neq 24 (N r) (N mi)).run Try.prog w = .ok (.bool false) w)
    (e3 : ∀ w, (binOp .neq 24 (N ⟨0, 0, 0, 0⟩) (N ⟨0, 0, 0, 0⟩)).run Try.prog w = .ok (.bool false) w) (e4 : ∀ w, (binOp .eql 24 (N mo) (N mo)).run Try.prog w = .ok (.bool true) w)
    (M1 : ∀ w, Calls Try.prog 21 #[N a, N a] w fun e w' => e = .returned (N aa) ∧ Below w.heap.size w w')
    (S1 : ∀ w, Calls Try.prog 10 #[N aa] w fun e w' => e = .returned (.tuple #[N r, .bool true]) ∧ Below w.heap.size w w')
    (B1 : ∀ w, Calls Try.prog 19 #[N ⟨0, 0, 0, 0⟩, N a] w fun e w' => e = .returned (N mi) ∧ Below w.heap.size w w')
    (L1 : ∀ w, Calls Try.prog 15 #[N a] w fun e w' => e = .returned (N lo) ∧ Below w.heap.size w w')
    (S2 : ∀ w, Calls Try.prog 10 #[N a] w fun e w' => e = .returned (.tuple #[N ⟨0, 0, 0, 0⟩, .bool false]) ∧ Below w.heap.size w w')
    (B2 : ∀ w, Calls Try.prog 19 #[N ⟨0, 0, 0, 0⟩, N ⟨1, 0, 0, 0⟩] w fun e w' => e = .returned (N mo) ∧ Below w.heap.size w w')
    (S3 : ∀ w, Calls Try.prog 10 #[N mo] w fun e w' => e = .returned (.tuple #[N im, .bool true]) ∧ Below w.heap.size w w')
    (M3 : ∀ w, Calls Try.prog 21 #[N im, N im] w fun e w' => e = .returned (N mo) ∧ Below w.heap.size w w')
    (w : World) :
    Calls Try.prog 7 #[N a] w fun e w' => e = .returned (.bool true) ∧ Below w.heap.size w w' := by
  have q1 : r.a.tmod 2 = 0 := by rw [Int.tmod_eq_emod_of_nonneg r0]; exact r2
  go_enter Try.func7, Try.ntmps7
  have s0 : Hid (Kn (kal4 w (a)) [(w.heap.size, (c4 (a)))]) := ((Kn.nil w).al (c4 (a)) 24 rfl)
  have b0 : Hid (Below w.heap.size w (kal4 w (a))) := ((Below.refl _ _).alloc (Nat.le_refl _) _)
  have ua_0 : (kal4 w (a)).cell? ⟨w.heap.size, 0, none⟩ = some (.int .u64 (a).a) := Kn.get s0.out 0 0 rfl rfl
  have ua_1 : (kal4 w (a)).cell? ⟨w.heap.size, 1, none⟩ = some (.int .u64 (a).b) := Kn.get s0.out 0 1 rfl rfl
  have ua_2 : (kal4 w (a)).cell? ⟨w.heap.size, 2, none⟩ = some (.int .u64 (a).c) := Kn.get s0.out 0 2 rfl rfl
  have ua_3 : (kal4 w (a)).cell? ⟨w.heap.size, 3, none⟩ = some (.int .u64 (a).d) := Kn.get s0.out 0 3 rfl rfl
  go_wp2_with fail
  clear ua_0 ua_1 ua_2 ua_3
  refine (M1 _).mono ?_
  rintro e w1 ⟨rfl, hb1⟩
  have s1 : Hid (Kn w1 [(w.heap.size, (c4 (a)))]) := s0.out.up hb1
  have b1 : Hid (Below w.heap.size w w1) := b0.out.trans (hb1.mono b0.out.size)
  have z1 := b1.out.size
  clear hb1 s0 b0
  go_wp2_with fail
  refine (S1 _).mono ?_
  rintro e w2 ⟨rfl, hb2⟩
  have s2 : Hid (Kn w2 [(w.heap.size, (c4 (a)))]) := s1.out.up hb2
  have b2 : Hid (Below w.heap.size w w2) := b1.out.trans (hb2.mono b1.out.size)
  have z2 := b2.out.size
  clear hb2 s1 b1
  have s3 : Hid (Kn (kal4 w2 (r)) [(w2.heap.size, (c4 (r))), (w.heap.size, (c4 (a)))]) := s2.out.al (c4 (r)) 24 rfl
  have b3 : Hid (Below w.heap.size w (kal4 w2 (r))) := b2.out.alloc b2.out.size _
  have z3 := b2.out.size
  clear s2 b2
  have ua_0 : (kal4 w2 (r)).cell? ⟨w.heap.size, 0, none⟩ = some (.int .u64 (a).a) := Kn.get s3.out 1 0 rfl rfl
  have ua_1 : (kal4 w2 (r)).cell? ⟨w.heap.size, 1, none⟩ = some (.int .u64 (a).b) := Kn.get s3.out 1 1 rfl rfl
  have ua_2 : (kal4 w2 (r)).cell? ⟨w.heap.size, 2, none⟩ = some (.int .u64 (a).c) := Kn.get s3.out 1 2 rfl rfl
  have ua_3 : (kal4 w2 (r)).cell? ⟨w.heap.size, 3, none⟩ = some (.int .u64 (a).d) := Kn.get s3.out 1 3 rfl rfl
  go_wp2_with fail
  clear ua_0 ua_1 ua_2 ua_3
  refine (B1 _).mono ?_
  rintro e w4 ⟨rfl, hb4⟩
  have s4 : Hid (Kn w4 [(w2.heap.size, (c4 (r))), (w.heap.size, (c4 (a)))]) := s3.out.up hb4
  have b4 : Hid (Below w.heap.size w w4) := b3.out.trans (hb4.mono b3.out.size)
  have z4 := b4.out.size
  clear hb4 s3 b3
  have s5 : Hid (Kn (kal4 w4 (mi)) [(w4.heap.size, (c4 (mi))), (w2.heap.size, (c4 (r))), (w.heap.size, (c4 (a)))]) := s4.out.al (c4 (mi)) 24 rfl
  have b5 : Hid (Below w.heap.size w (kal4 w4 (mi))) := b4.out.alloc b4.out.size _
  have z5 := b4.out.size
  clear s4 b4
  go_wp2_with fail
  refine wp_region_up (by kernel_rfl) (by kernel_rfl) (fun U hU f hf hcl => ?_)
  have ua_0 := fun nx => (Kn.get (s5.out.up (hf nx).out) 2 0 rfl rfl : (f nx).cell? ⟨w.heap.size, 0, none⟩ = some (.int .u64 (a).a))
  have ua_1 := fun nx => (Kn.get (s5.out.up (hf nx).out) 2 1 rfl rfl : (f nx).cell? ⟨w.heap.size, 1, none⟩ = some (.int .u64 (a).b))
  have ua_2 := fun nx => (Kn.get (s5.out.up (hf nx).out) 2 2 rfl rfl : (f nx).cell? ⟨w.heap.size, 2, none⟩ = some (.int .u64 (a).c))
  have ua_3 := fun nx => (Kn.get (s5.out.up (hf nx).out) 2 3 rfl rfl : (f nx).cell? ⟨w.heap.size, 3, none⟩ = some (.int .u64 (a).d))
  have ur_0 := fun nx => (Kn.get (s5.out.up (hf nx).out) 1 0 rfl rfl : (f nx).cell? ⟨w2.heap.size, 0, none⟩ = some (.int .u64 (r).a))
  have ur_1 := fun nx => (Kn.get (s5.out.up (hf nx).out) 1 1 rfl rfl : (f nx).cell? ⟨w2.heap.size, 1, none⟩ = some (.int .u64 (r).b))
  have ur_2 := fun nx => (Kn.get (s5.out.up (hf nx).out) 1 2 rfl rfl : (f nx).cell? ⟨w2.heap.size, 2, none⟩ = some (.int .u64 (r).c))
  have ur_3 := fun nx => (Kn.get (s5.out.up (hf nx).out) 1 3 rfl rfl : (f nx).cell? ⟨w2.heap.size, 3, none⟩ = some (.int .u64 (r).d))
  have umi_0 := fun nx => (Kn.get (s5.out.up (hf nx).out) 0 0 rfl rfl : (f nx).cell? ⟨w4.heap.size, 0, none⟩ = some (.int .u64 (mi).a))
  have umi_1 := fun nx => (Kn.get (s5.out.up (hf nx).out) 0 1 rfl rfl : (f nx).cell? ⟨w4.heap.size, 1, none⟩ = some (.int .u64 (mi).b))
  have umi_2 := fun nx => (Kn.get (s5.out.up (hf nx).out) 0 2 rfl rfl : (f nx).cell? ⟨w4.heap.size, 2, none⟩ = some (.int .u64 (mi).c))
  have umi_3 := fun nx => (Kn.get (s5.out.up (hf nx).out) 0 3 rfl rfl : (f nx).cell? ⟨w4.heap.size, 3, none⟩ = some (.int .u64 (mi).d))
  try simp only [List.append_eq, List.cons_append, List.nil_append]
  repeat (go_big_quiet_step (first | (go_at_call 15; exact (L1 _).mono fun e w'' ⟨he, hb⟩ => ⟨he, hcl.out _ _ hb⟩)))
  refine wpQuiet_nil ?_
  intro nx
  have hb6 := (hf nx).out
  clear hf hcl ua_0 ua_1 ua_2 ua_3 ur_0 ur_1 ur_2 ur_3 umi_0 umi_1 umi_2 umi_3
  generalize f nx = w6 at hb6 ⊢
  have s6 : Hid (Kn w6 [(w4.heap.size, (c4 (mi))), (w2.heap.size, (c4 (r))), (w.heap.size, (c4 (a)))]) := s5.out.up hb6
  have b6 : Hid (Below w.heap.size w w6) := b5.out.trans (hb6.mono b5.out.size)
  have z6 := b6.out.size
  clear hb6 s5 b5
  have ua_0 : w6.cell? ⟨w.heap.size, 0, none⟩ = some (.int .u64 (a).a) := Kn.get s6.out 2 0 rfl rfl
  have ua_1 : w6.cell? ⟨w.heap.size, 1, none⟩ = some (.int .u64 (a).b) := Kn.get s6.out 2 1 rfl rfl
  have ua_2 : w6.cell? ⟨w.heap.size, 2, none⟩ = some (.int .u64 (a).c) := Kn.get s6.out 2 2 rfl rfl
  have ua_3 : w6.cell? ⟨w.heap.size, 3, none⟩ = some (.int .u64 (a).d) := Kn.get s6.out 2 3 rfl rfl
  go_wp2_with fail
  clear ua_0 ua_1 ua_2 ua_3
  refine (S2 _).mono ?_
  rintro e w7 ⟨rfl, hb7⟩
  have s7 : Hid (Kn w7 [(w4.heap.size, (c4 (mi))), (w2.heap.size, (c4 (r))), (w.heap.size, (c4 (a)))]) := s6.out.up hb7
  have b7 : Hid (Below w.heap.size w w7) := b6.out.trans (hb7.mono b6.out.size)
  have z7 := b7.out.size
  clear hb7 s6 b6
  have s8 : Hid (Kn (kal4 w7 ((⟨0, 0, 0, 0⟩ : Nm))) [(w7.heap.size, (c4 ((⟨0, 0, 0, 0⟩ : Nm)))), (w4.heap.size, (c4 (mi))), (w2.heap.size, (c4 (r))), (w.heap.size, (c4 (a)))]) := s7.out.al (c4 ((⟨0, 0, 0, 0⟩ : Nm))) 24 rfl
  have b8 : Hid (Below w.heap.size w (kal4 w7 ((⟨0, 0, 0, 0⟩ : Nm)))) := b7.out.alloc b7.out.size _
  have z8 := b7.out.size
  clear s7 b7
  go_wp2_with fail
  refine wp_region_up (by kernel_rfl) (by kernel_rfl) (fun U hU f hf hcl => ?_)
  have ua_0 := fun nx => (Kn.get (s8.out.up (hf nx).out) 3 0 rfl rfl : (f nx).cell? ⟨w.heap.size, 0, none⟩ = some (.int .u64 (a).a))
  have ua_1 := fun nx => (Kn.get (s8.out.up (hf nx).out) 3 1 rfl rfl : (f nx).cell? ⟨w.heap.size, 1, none⟩ = some (.int .u64 (a).b))
  have ua_2 := fun nx => (Kn.get (s8.out.up (hf nx).out) 3 2 rfl rfl : (f nx).cell? ⟨w.heap.size, 2, none⟩ = some (.int .u64 (a).c))
  have ua_3 := fun nx => (Kn.get (s8.out.up (hf nx).out) 3 3 rfl rfl : (f nx).cell? ⟨w.heap.size, 3, none⟩ = some (.int .u64 (a).d))
  have us_0 := fun nx => (Kn.get (s8.out.up (hf nx).out) 0 0 rfl rfl : (f nx).cell? ⟨w7.heap.size, 0, none⟩ = some (.int .u64 ((⟨0, 0, 0, 0⟩ : Nm)).a))
  have us_1 := fun nx => (Kn.get (s8.out.up (hf nx).out) 0 1 rfl rfl : (f nx).cell? ⟨w7.heap.size, 1, none⟩ = some (.int .u64 ((⟨0, 0, 0, 0⟩ : Nm)).b))
  have us_2 := fun nx => (Kn.get (s8.out.up (hf nx).out) 0 2 rfl rfl : (f nx).cell? ⟨w7.heap.size, 2, none⟩ = some (.int .u64 ((⟨0, 0, 0, 0⟩ : Nm)).c))
  have us_3 := fun nx => (Kn.get (s8.out.up (hf nx).out) 0 3 rfl rfl : (f nx).cell? ⟨w7.heap.size, 3, none⟩ = some (.int .u64 ((⟨0, 0, 0, 0⟩ : Nm)).d))
  try simp only [List.append_eq, List.cons_append, List.nil_append]
  repeat (go_big_quiet_step (first | fail))
  refine wpQuiet_nil ?_
  intro nx
  have hb9 := (hf nx).out
  clear hf hcl ua_0 ua_1 ua_2 ua_3 us_0 us_1 us_2 us_3
  generalize f nx = w9 at hb9 ⊢
  have s9 : Hid (Kn w9 [(w7.heap.size, (c4 ((⟨0, 0, 0, 0⟩ : Nm)))), (w4.heap.size, (c4 (mi))), (w2.heap.size, (c4 (r))), (w.heap.size, (c4 (a)))]) := s8.out.up hb9
  have b9 : Hid (Below w.heap.size w w9) := b8.out.trans (hb9.mono b8.out.size)
  have z9 := b9.out.size
  clear hb9 s8 b8
  go_wp2_with fail
  refine (B2 _).mono ?_
  rintro e w10 ⟨rfl, hb10⟩
  have s10 : Hid (Kn w10 [(w7.heap.size, (c4 ((⟨0, 0, 0, 0⟩ : Nm)))), (w4.heap.size, (c4 (mi))), (w2.heap.size, (c4 (r))), (w.heap.size, (c4 (a)))]) := s9.out.up hb10
  have b10 : Hid (Below w.heap.size w w10) := b9.out.trans (hb10.mono b9.out.size)
  have z10 := b10.out.size
  clear hb10 s9 b9
  go_wp2_with fail
  refine (S3 _).mono ?_
  rintro e w11 ⟨rfl, hb11⟩
  have s11 : Hid (Kn w11 [(w7.heap.size, (c4 ((⟨0, 0, 0, 0⟩ : Nm)))), (w4.heap.size, (c4 (mi))), (w2.heap.size, (c4 (r))), (w.heap.size, (c4 (a)))]) := s10.out.up hb11
  have b11 : Hid (Below w.heap.size w w11) := b10.out.trans (hb11.mono b10.out.size)
  have z11 := b11.out.size
  clear hb11 s10 b10
  have s12 : Hid (Kn (kal4 w11 (im)) [(w11.heap.size, (c4 (im))), (w7.heap.size, (c4 ((⟨0, 0, 0, 0⟩ : Nm)))), (w4.heap.size, (c4 (mi))), (w2.heap.size, (c4 (r))), (w.heap.size, (c4 (a)))]) := s11.out.al (c4 (im)) 24 rfl
  have b12 : Hid (Below w.heap.size w (kal4 w11 (im))) := b11.out.alloc b11.out.size _
  have z12 := b11.out.size
  clear s11 b11
  have uim_0 : (kal4 w11 (im)).cell? ⟨w11.heap.size, 0, none⟩ = some (.int .u64 (im).a) := Kn.get s12.out 0 0 rfl rfl
  have uim_1 : (kal4 w11 (im)).cell? ⟨w11.heap.size, 1, none⟩ = some (.int .u64 (im).b) := Kn.get s12.out 0 1 rfl rfl
  have uim_2 : (kal4 w11 (im)).cell? ⟨w11.heap.size, 2, none⟩ = some (.int .u64 (im).c) := Kn.get s12.out 0 2 rfl rfl
  have uim_3 : (kal4 w11 (im)).cell? ⟨w11.heap.size, 3, none⟩ = some (.int .u64 (im).d) := Kn.get s12.out 0 3 rfl rfl
  go_wp2_with fail
  clear uim_0 uim_1 uim_2 uim_3
  refine (M3 _).mono ?_
  rintro e w13 ⟨rfl, hb13⟩
  have s13 : Hid (Kn w13 [(w11.heap.size, (c4 (im))), (w7.heap.size, (c4 ((⟨0, 0, 0, 0⟩ : Nm)))), (w4.heap.size, (c4 (mi))), (w2.heap.size, (c4 (r))), (w.heap.size, (c4 (a)))]) := s12.out.up hb13
  have b13 : Hid (Below w.heap.size w w13) := b12.out.trans (hb13.mono b12.out.size)
  have z13 := b13.out.size
  clear hb13 s12 b12
  go_wp2_with fail
  refine (B2 _).mono ?_
  rintro e w14 ⟨rfl, hb14⟩
  have s14 : Hid (Kn w14 [(w11.heap.size, (c4 (im))), (w7.heap.size, (c4 ((⟨0, 0, 0, 0⟩ : Nm)))), (w4.heap.size, (c4 (mi))), (w2.heap.size, (c4 (r))), (w.heap.size, (c4 (a)))]) := s13.out.up hb14
  have b14 : Hid (Below w.heap.size w w14) := b13.out.trans (hb14.mono b13.out.size)
  have z14 := b14.out.size
  clear hb14 s13 b13
  go_wp2_with fail
  go_ret
  exact ⟨rfl, b14.out⟩
theorem nm_even {n : Nat} (h : n % 2 = 0) : 0 ≤ (nm n).a ∧ (nm n).a % 2 = 0 := by
  show 0 ≤ ((n : Nat) : Int) % 18446744073709551616 ∧ ((n : Nat) : Int) % 18446744073709551616 % 2 = 0
  omega
theorem F.minus_one : F.ok (F.sub 0 1) = true := (F.ok_iff _).2 ⟨F.im, by rw [F.im_sq]; decide +kernel⟩
theorem fieldRoots_of (FM : FMulC) (FL : FLowC) (FB : FSubC) (FS : FSqrtC) (a : Nm) (oa : a.ok) (w : World) :
    Calls Try.prog 7 #[N a] w fun e w' => e = .returned (.bool true) ∧ Below w.heap.size w w' := by
  have M1 := FM a a oa oa
  have S1 := FS (nm (F.mul a.nat a.nat)) (nm_ok _)
  rw [f_nat (F.mul_lt _ _), F.ok_sq] at S1
  have B1 := FB ⟨0, 0, 0, 0⟩ a fz_ok oa
  rw [show (⟨0, 0, 0, 0⟩ : Nm).nat = 0 from rfl] at B1
  have L1 := FL a oa
  have S2 := FS a oa
  have B2 := FB ⟨0, 0, 0, 0⟩ ⟨1, 0, 0, 0⟩ fz_ok fo_ok
  rw [show (⟨0, 0, 0, 0⟩ : Nm).nat = 0 from rfl, show (⟨1, 0, 0, 0⟩ : Nm).nat = 1 from rfl] at B2
  have S3 := FS (nm (F.sub 0 1)) (nm_ok _)
  rw [f_nat (F.sub_lt _ _), F.minus_one] at S3
  have M3 := FM (nm (F.root (F.sub 0 1))) (nm (F.root (F.sub 0 1))) (nm_ok _) (nm_ok _)
  rw [f_nat (F.root_lt _), F.root_sq F.minus_one, Nat.mod_eq_of_lt (F.sub_lt _ _)] at M3
  have e4 := eqN (nm (F.sub 0 1)) (nm (F.sub 0 1))
  rw [Nm.beq_self] at e4
  have hr : F.root (F.mul a.nat a.nat) = a.nat % F.p ∨ F.root (F.mul a.nat a.nat) = F.sub 0 a.nat := by
    have := F.sq_eq (F.root_lt (F.mul a.nat a.nat)) (F.mod_lt a.nat) (by rw [F.root_sq (F.ok_sq _), Nat.mod_eq_of_lt (F.mul_lt _ _), F.mul_modl, F.mul_modr])
    rwa [F.sub_modr] at this
  have ev := nm_even (F.root_even (F.mul a.nat a.nat))
  have hl := F.root_lt (F.mul a.nat a.nat)
  have e3 := neN (nm (a.nat % F.p)) (nm (a.nat % F.p))
  rw [Nm.beq_self] at e3
  have ez := neN ⟨0, 0, 0, 0⟩ ⟨0, 0, 0, 0⟩
  rw [Nm.beq_self] at ez
  have es := nm_even (F.root_even a.nat)
  by_cases h1 : F.root (F.mul a.nat a.nat) = a.nat % F.p
  · cases hk : F.ok a.nat
    · rw [hk, F.root_none hk] at S2
      have e1' : ∀ w, (binOp .neq 24 (N (nm (F.root (F.mul a.nat a.nat)))) (N (nm (a.nat % F.p)))).run Try.prog w = .ok (.bool false) w := fun w => by rw [neN, h1, Nm.beq_self]; rfl
      exact fieldRoots_3 a _ _ _ _ _ _ ev.1 ev.2 e1' ez e4 M1 S1 B1 L1 S2 B2 S3 M3 w
    · rw [hk] at S2
      have M2 := FM (nm (F.root a.nat)) (nm (F.root a.nat)) (nm_ok _) (nm_ok _)
      rw [f_nat (F.root_lt _), F.root_sq hk] at M2
      have e1' : ∀ w, (binOp .neq 24 (N (nm (F.root (F.mul a.nat a.nat)))) (N (nm (a.nat % F.p)))).run Try.prog w = .ok (.bool false) w := fun w => by rw [neN, h1, Nm.beq_self]; rfl
      exact fieldRoots_1 a _ _ _ _ _ _ _ ev.1 ev.2 es.1 es.2 e1' e3 e4 M1 S1 B1 L1 S2 M2 B2 S3 M3 w
  · have h2 := hr.resolve_left h1
    have e1' : ∀ w, (binOp .neq 24 (N (nm (F.root (F.mul a.nat a.nat)))) (N (nm (a.nat % F.p)))).run Try.prog w = .ok (.bool true) w := fun w => by rw [neN, Nm.beq_ne fun e => h1 ((f_inj hl (F.mod_lt _)).1 e)]; rfl
    have e2' : ∀ w, (binOp .neq 24 (N (nm (F.root (F.mul a.nat a.nat)))) (N (nm (F.sub 0 a.nat)))).run Try.prog w = .ok (.bool false) w := fun w => by rw [neN, h2, Nm.beq_self]; rfl
    cases hk : F.ok a.nat
    · rw [hk, F.root_none hk] at S2
      exact fieldRoots_4 a _ _ _ _ _ _ ev.1 ev.2 e1' e2' ez e4 M1 S1 B1 L1 S2 B2 S3 M3 w
    · rw [hk] at S2
      have M2 := FM (nm (F.root a.nat)) (nm (F.root a.nat)) (nm_ok _) (nm_ok _)
      rw [f_nat (F.root_lt _), F.root_sq hk] at M2
      exact fieldRoots_2 a _ _ _ _ _ _ _ ev.1 ev.2 es.1 es.2 e1' e2' e3 e4 M1 S1 B1 L1 S2 M2 B2 S3 M3 w
end Go.Proofs.Ytmajielbbajdhaa
