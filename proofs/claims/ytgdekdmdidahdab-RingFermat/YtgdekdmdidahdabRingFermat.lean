/- RingFermat returns true for every a. No condition. -/
import Derived.Test.YtgdekdmdidahdabRingN
import Derived.Test.YtgdekdmdidahdabRingP
import Derived.Test.YtgdekdmdidahdabPrime
import Derived.Test.YtgdekdmdidahdabShift
import Derived.Test.YtgdekdmdidahdabAl
import Derived.Test.YtgdekdmdidahdabArr
import Derived.Test.YtgdekdmdidahdabOwn
namespace Go.Proofs.Ytgdekdmdidahdab
open Go.RowKit
open Go.ChangeShapes Go.WideShapes Go.ChangeAt
attribute [local go_sem] World.cell?_alloc_some cell_alloc2 cell_alloc3 cell_alloc4 frozen?_alloc_cells frozen_out
set_option maxHeartbeats 1000000 in
theorem ringFermat_zero (m iv on tw a t le : Nm) (c d : Int)
    (S1 : ∀ w, Calls Try.prog 22 #[N ⟨1, 0, 0, 0⟩, .int .i64 255] w fun e w' => e = .returned (N t) ∧ Below w.heap.size w w')
    (S2 : ∀ w, Calls Try.prog 21 #[N t, N ⟨19, 0, 0, 0⟩] w fun e w' => e = .returned (.tuple #[N m, .int .u64 c]) ∧ Below w.heap.size w w')
    (SN : ∀ w, Calls Try.prog 7 #[N m] w fun e w' => (∃ k, w.heap.size ≤ k ∧ e = .returned (.tuple #[rp k, .int .i64 0]) ∧ Blk w' k (c16 m iv on tw)) ∧ Below w.heap.size w w')
    (S3 : ∀ w, Calls Try.prog 21 #[N m, N ⟨1, 0, 0, 0⟩] w fun e w' => e = .returned (.tuple #[N le, .int .u64 d]) ∧ Below w.heap.size w w')
    (A1 : ∀ k w, RingAt w k m iv on tw → Calls Try.prog 13 #[rp k, N a, N ⟨0, 0, 0, 0⟩] w fun e w' => e = .returned (N ⟨0, 0, 0, 0⟩) ∧ Below w.heap.size w w')
    (P1 : ∀ k w, RingAt w k m iv on tw → Calls Try.prog 17 #[rp k, N a, N le] w fun e w' => e = .returned (N ⟨0, 0, 0, 0⟩) ∧ Below w.heap.size w w')
    (w : World) :
    Calls Try.prog 6 #[N a] w fun e w' => e = .returned (.bool true) ∧ Below w.heap.size w w' := by
  have e1 := eqN ⟨0, 0, 0, 0⟩ ⟨0, 0, 0, 0⟩
  rw [Nm.beq_self] at e1
  go_enter Try.func6, Try.ntmps6
  have s0 : Hid (Kn (kal4 w (a)) [(w.heap.size, (c4 (a)))]) := ((Kn.nil w).al (c4 (a)) 24 rfl)
  have b0 : Hid (Below w.heap.size w (kal4 w (a))) := ((Below.refl _ _).alloc (Nat.le_refl _) _)
  go_wp2_with fail
  refine (S1 _).mono ?_
  rintro e w1 ⟨rfl, hb1⟩
  have s1 : Hid (Kn w1 [(w.heap.size, (c4 (a)))]) := s0.out.up hb1
  have b1 : Hid (Below w.heap.size w w1) := b0.out.trans (hb1.mono b0.out.size)
  have z1 := b1.out.size
  clear hb1 s0 b0
  go_wp2_with fail
  refine (S2 _).mono ?_
  rintro e w2 ⟨rfl, hb2⟩
  have s2 : Hid (Kn w2 [(w.heap.size, (c4 (a)))]) := s1.out.up hb2
  have b2 : Hid (Below w.heap.size w w2) := b1.out.trans (hb2.mono b1.out.size)
  have z2 := b2.out.size
  clear hb2 s1 b1
  have s3 : Hid (Kn (kal4 w2 (m)) [(w2.heap.size, (c4 (m))), (w.heap.size, (c4 (a)))]) := s2.out.al (c4 (m)) 24 rfl
  have b3 : Hid (Below w.heap.size w (kal4 w2 (m))) := b2.out.alloc b2.out.size _
  have z3 := b2.out.size
  clear s2 b2
  go_wp2_with fail
  refine (SN _).mono ?_
  rintro e w4 ⟨⟨kr, hkr, rfl, hBr⟩, hb4⟩
  have s4 : Hid (Kn w4 [(kr, (c16 m iv on tw)), (w2.heap.size, (c4 (m))), (w.heap.size, (c4 (a)))]) := s3.out.fresh_of hb4 hkr hBr
  have b4 : Hid (Below w.heap.size w w4) := b3.out.trans (hb4.mono b3.out.size)
  have z4 := b4.out.size
  clear hb4 s3 b3 hBr hkr
  have up_0 : w4.cell? ⟨w2.heap.size, 0, none⟩ = some (.int .u64 (m).a) := Kn.get s4.out 1 0 rfl rfl
  have up_1 : w4.cell? ⟨w2.heap.size, 1, none⟩ = some (.int .u64 (m).b) := Kn.get s4.out 1 1 rfl rfl
  have up_2 : w4.cell? ⟨w2.heap.size, 2, none⟩ = some (.int .u64 (m).c) := Kn.get s4.out 1 2 rfl rfl
  have up_3 : w4.cell? ⟨w2.heap.size, 3, none⟩ = some (.int .u64 (m).d) := Kn.get s4.out 1 3 rfl rfl
  go_wp2_with fail
  clear up_0 up_1 up_2 up_3
  refine (S3 _).mono ?_
  rintro e w5 ⟨rfl, hb5⟩
  have s5 : Hid (Kn w5 [(kr, (c16 m iv on tw)), (w2.heap.size, (c4 (m))), (w.heap.size, (c4 (a)))]) := s4.out.up hb5
  have b5 : Hid (Below w.heap.size w w5) := b4.out.trans (hb5.mono b4.out.size)
  have z5 := b5.out.size
  clear hb5 s4 b4
  have s6 : Hid (Kn (kal4 w5 (le)) [(w5.heap.size, (c4 (le))), (kr, (c16 m iv on tw)), (w2.heap.size, (c4 (m))), (w.heap.size, (c4 (a)))]) := s5.out.al (c4 (le)) 24 rfl
  have b6 : Hid (Below w.heap.size w (kal4 w5 (le))) := b5.out.alloc b5.out.size _
  have z6 := b5.out.size
  clear s5 b5
  have ua_0 : (kal4 w5 (le)).cell? ⟨w.heap.size, 0, none⟩ = some (.int .u64 (a).a) := Kn.get s6.out 3 0 rfl rfl
  have ua_1 : (kal4 w5 (le)).cell? ⟨w.heap.size, 1, none⟩ = some (.int .u64 (a).b) := Kn.get s6.out 3 1 rfl rfl
  have ua_2 : (kal4 w5 (le)).cell? ⟨w.heap.size, 2, none⟩ = some (.int .u64 (a).c) := Kn.get s6.out 3 2 rfl rfl
  have ua_3 : (kal4 w5 (le)).cell? ⟨w.heap.size, 3, none⟩ = some (.int .u64 (a).d) := Kn.get s6.out 3 3 rfl rfl
  go_wp2_with fail
  clear ua_0 ua_1 ua_2 ua_3
  have RK : RingAt (kal4 w5 (le)) kr m iv on tw := RingAt.ofKn s6.out 1 rfl
  refine (A1 _ _ RK).mono ?_
  rintro e w7 ⟨rfl, hb7⟩
  clear RK
  have s7 : Hid (Kn w7 [(w5.heap.size, (c4 (le))), (kr, (c16 m iv on tw)), (w2.heap.size, (c4 (m))), (w.heap.size, (c4 (a)))]) := s6.out.up hb7
  have b7 : Hid (Below w.heap.size w w7) := b6.out.trans (hb7.mono b6.out.size)
  have z7 := b7.out.size
  clear hb7 s6 b6
  have ua_0 : w7.cell? ⟨w.heap.size, 0, none⟩ = some (.int .u64 (a).a) := Kn.get s7.out 3 0 rfl rfl
  have ua_1 : w7.cell? ⟨w.heap.size, 1, none⟩ = some (.int .u64 (a).b) := Kn.get s7.out 3 1 rfl rfl
  have ua_2 : w7.cell? ⟨w.heap.size, 2, none⟩ = some (.int .u64 (a).c) := Kn.get s7.out 3 2 rfl rfl
  have ua_3 : w7.cell? ⟨w.heap.size, 3, none⟩ = some (.int .u64 (a).d) := Kn.get s7.out 3 3 rfl rfl
  have ule_0 : w7.cell? ⟨w5.heap.size, 0, none⟩ = some (.int .u64 (le).a) := Kn.get s7.out 0 0 rfl rfl
  have ule_1 : w7.cell? ⟨w5.heap.size, 1, none⟩ = some (.int .u64 (le).b) := Kn.get s7.out 0 1 rfl rfl
  have ule_2 : w7.cell? ⟨w5.heap.size, 2, none⟩ = some (.int .u64 (le).c) := Kn.get s7.out 0 2 rfl rfl
  have ule_3 : w7.cell? ⟨w5.heap.size, 3, none⟩ = some (.int .u64 (le).d) := Kn.get s7.out 0 3 rfl rfl
  go_wp2_with fail
  clear ua_0 ua_1 ua_2 ua_3 ule_0 ule_1 ule_2 ule_3
  have RK : RingAt w7 kr m iv on tw := RingAt.ofKn s7.out 1 rfl
  refine (P1 _ _ RK).mono ?_
  rintro e w8 ⟨rfl, hb8⟩
  clear RK
  have s8 : Hid (Kn w8 [(w5.heap.size, (c4 (le))), (kr, (c16 m iv on tw)), (w2.heap.size, (c4 (m))), (w.heap.size, (c4 (a)))]) := s7.out.up hb8
  have b8 : Hid (Below w.heap.size w w8) := b7.out.trans (hb8.mono b7.out.size)
  have z8 := b8.out.size
  clear hb8 s7 b7
  go_wp2_with fail
  go_ret
  exact ⟨rfl, b8.out⟩
set_option maxHeartbeats 1000000 in
theorem ringFermat_good (m iv on tw a t le lo : Nm) (c d : Int) (nz : lo ≠ ⟨0, 0, 0, 0⟩)
    (S1 : ∀ w, Calls Try.prog 22 #[N ⟨1, 0, 0, 0⟩, .int .i64 255] w fun e w' => e = .returned (N t) ∧ Below w.heap.size w w')
    (S2 : ∀ w, Calls Try.prog 21 #[N t, N ⟨19, 0, 0, 0⟩] w fun e w' => e = .returned (.tuple #[N m, .int .u64 c]) ∧ Below w.heap.size w w')
    (SN : ∀ w, Calls Try.prog 7 #[N m] w fun e w' => (∃ k, w.heap.size ≤ k ∧ e = .returned (.tuple #[rp k, .int .i64 0]) ∧ Blk w' k (c16 m iv on tw)) ∧ Below w.heap.size w w')
    (S3 : ∀ w, Calls Try.prog 21 #[N m, N ⟨1, 0, 0, 0⟩] w fun e w' => e = .returned (.tuple #[N le, .int .u64 d]) ∧ Below w.heap.size w w')
    (A1 : ∀ k w, RingAt w k m iv on tw → Calls Try.prog 13 #[rp k, N a, N ⟨0, 0, 0, 0⟩] w fun e w' => e = .returned (N lo) ∧ Below w.heap.size w w')
    (P1 : ∀ k w, RingAt w k m iv on tw → Calls Try.prog 17 #[rp k, N a, N le] w fun e w' => e = .returned (N ⟨1, 0, 0, 0⟩) ∧ Below w.heap.size w w')
    (P2 : ∀ k w, RingAt w k m iv on tw → Calls Try.prog 17 #[rp k, N a, N m] w fun e w' => e = .returned (N lo) ∧ Below w.heap.size w w')
    (w : World) :
    Calls Try.prog 6 #[N a] w fun e w' => e = .returned (.bool true) ∧ Below w.heap.size w w' := by
  have e1 := eqN lo ⟨0, 0, 0, 0⟩
  rw [Nm.beq_ne nz] at e1
  have e2 := eqN lo lo
  rw [Nm.beq_self] at e2
  have e3 := eqN ⟨1, 0, 0, 0⟩ ⟨1, 0, 0, 0⟩
  rw [Nm.beq_self] at e3
  go_enter Try.func6, Try.ntmps6
  have s0 : Hid (Kn (kal4 w (a)) [(w.heap.size, (c4 (a)))]) := ((Kn.nil w).al (c4 (a)) 24 rfl)
  have b0 : Hid (Below w.heap.size w (kal4 w (a))) := ((Below.refl _ _).alloc (Nat.le_refl _) _)
  go_wp2_with fail
  refine (S1 _).mono ?_
  rintro e w1 ⟨rfl, hb1⟩
  have s1 : Hid (Kn w1 [(w.heap.size, (c4 (a)))]) := s0.out.up hb1
  have b1 : Hid (Below w.heap.size w w1) := b0.out.trans (hb1.mono b0.out.size)
  have z1 := b1.out.size
  clear hb1 s0 b0
  go_wp2_with fail
  refine (S2 _).mono ?_
  rintro e w2 ⟨rfl, hb2⟩
  have s2 : Hid (Kn w2 [(w.heap.size, (c4 (a)))]) := s1.out.up hb2
  have b2 : Hid (Below w.heap.size w w2) := b1.out.trans (hb2.mono b1.out.size)
  have z2 := b2.out.size
  clear hb2 s1 b1
  have s3 : Hid (Kn (kal4 w2 (m)) [(w2.heap.size, (c4 (m))), (w.heap.size, (c4 (a)))]) := s2.out.al (c4 (m)) 24 rfl
  have b3 : Hid (Below w.heap.size w (kal4 w2 (m))) := b2.out.alloc b2.out.size _
  have z3 := b2.out.size
  clear s2 b2
  go_wp2_with fail
  refine (SN _).mono ?_
  rintro e w4 ⟨⟨kr, hkr, rfl, hBr⟩, hb4⟩
  have s4 : Hid (Kn w4 [(kr, (c16 m iv on tw)), (w2.heap.size, (c4 (m))), (w.heap.size, (c4 (a)))]) := s3.out.fresh_of hb4 hkr hBr
  have b4 : Hid (Below w.heap.size w w4) := b3.out.trans (hb4.mono b3.out.size)
  have z4 := b4.out.size
  clear hb4 s3 b3 hBr hkr
  have up_0 : w4.cell? ⟨w2.heap.size, 0, none⟩ = some (.int .u64 (m).a) := Kn.get s4.out 1 0 rfl rfl
  have up_1 : w4.cell? ⟨w2.heap.size, 1, none⟩ = some (.int .u64 (m).b) := Kn.get s4.out 1 1 rfl rfl
  have up_2 : w4.cell? ⟨w2.heap.size, 2, none⟩ = some (.int .u64 (m).c) := Kn.get s4.out 1 2 rfl rfl
  have up_3 : w4.cell? ⟨w2.heap.size, 3, none⟩ = some (.int .u64 (m).d) := Kn.get s4.out 1 3 rfl rfl
  go_wp2_with fail
  clear up_0 up_1 up_2 up_3
  refine (S3 _).mono ?_
  rintro e w5 ⟨rfl, hb5⟩
  have s5 : Hid (Kn w5 [(kr, (c16 m iv on tw)), (w2.heap.size, (c4 (m))), (w.heap.size, (c4 (a)))]) := s4.out.up hb5
  have b5 : Hid (Below w.heap.size w w5) := b4.out.trans (hb5.mono b4.out.size)
  have z5 := b5.out.size
  clear hb5 s4 b4
  have s6 : Hid (Kn (kal4 w5 (le)) [(w5.heap.size, (c4 (le))), (kr, (c16 m iv on tw)), (w2.heap.size, (c4 (m))), (w.heap.size, (c4 (a)))]) := s5.out.al (c4 (le)) 24 rfl
  have b6 : Hid (Below w.heap.size w (kal4 w5 (le))) := b5.out.alloc b5.out.size _
  have z6 := b5.out.size
  clear s5 b5
  have ua_0 : (kal4 w5 (le)).cell? ⟨w.heap.size, 0, none⟩ = some (.int .u64 (a).a) := Kn.get s6.out 3 0 rfl rfl
  have ua_1 : (kal4 w5 (le)).cell? ⟨w.heap.size, 1, none⟩ = some (.int .u64 (a).b) := Kn.get s6.out 3 1 rfl rfl
  have ua_2 : (kal4 w5 (le)).cell? ⟨w.heap.size, 2, none⟩ = some (.int .u64 (a).c) := Kn.get s6.out 3 2 rfl rfl
  have ua_3 : (kal4 w5 (le)).cell? ⟨w.heap.size, 3, none⟩ = some (.int .u64 (a).d) := Kn.get s6.out 3 3 rfl rfl
  go_wp2_with fail
  clear ua_0 ua_1 ua_2 ua_3
  have RK : RingAt (kal4 w5 (le)) kr m iv on tw := RingAt.ofKn s6.out 1 rfl
  refine (A1 _ _ RK).mono ?_
  rintro e w7 ⟨rfl, hb7⟩
  clear RK
  have s7 : Hid (Kn w7 [(w5.heap.size, (c4 (le))), (kr, (c16 m iv on tw)), (w2.heap.size, (c4 (m))), (w.heap.size, (c4 (a)))]) := s6.out.up hb7
  have b7 : Hid (Below w.heap.size w w7) := b6.out.trans (hb7.mono b6.out.size)
  have z7 := b7.out.size
  clear hb7 s6 b6
  go_wp2_with fail
  refine wp_region_up (by kernel_rfl) (by kernel_rfl) (fun U hU f hf hcl => ?_)
  have ua_0 := fun nx => (Kn.get (s7.out.up (hf nx).out) 3 0 rfl rfl : (f nx).cell? ⟨w.heap.size, 0, none⟩ = some (.int .u64 (a).a))
  have ua_1 := fun nx => (Kn.get (s7.out.up (hf nx).out) 3 1 rfl rfl : (f nx).cell? ⟨w.heap.size, 1, none⟩ = some (.int .u64 (a).b))
  have ua_2 := fun nx => (Kn.get (s7.out.up (hf nx).out) 3 2 rfl rfl : (f nx).cell? ⟨w.heap.size, 2, none⟩ = some (.int .u64 (a).c))
  have ua_3 := fun nx => (Kn.get (s7.out.up (hf nx).out) 3 3 rfl rfl : (f nx).cell? ⟨w.heap.size, 3, none⟩ = some (.int .u64 (a).d))
  have ule_0 := fun nx => (Kn.get (s7.out.up (hf nx).out) 0 0 rfl rfl : (f nx).cell? ⟨w5.heap.size, 0, none⟩ = some (.int .u64 (le).a))
  have ule_1 := fun nx => (Kn.get (s7.out.up (hf nx).out) 0 1 rfl rfl : (f nx).cell? ⟨w5.heap.size, 1, none⟩ = some (.int .u64 (le).b))
  have ule_2 := fun nx => (Kn.get (s7.out.up (hf nx).out) 0 2 rfl rfl : (f nx).cell? ⟨w5.heap.size, 2, none⟩ = some (.int .u64 (le).c))
  have ule_3 := fun nx => (Kn.get (s7.out.up (hf nx).out) 0 3 rfl rfl : (f nx).cell? ⟨w5.heap.size, 3, none⟩ = some (.int .u64 (le).d))
  have up_0 := fun nx => (Kn.get (s7.out.up (hf nx).out) 2 0 rfl rfl : (f nx).cell? ⟨w2.heap.size, 0, none⟩ = some (.int .u64 (m).a))
  have up_1 := fun nx => (Kn.get (s7.out.up (hf nx).out) 2 1 rfl rfl : (f nx).cell? ⟨w2.heap.size, 1, none⟩ = some (.int .u64 (m).b))
  have up_2 := fun nx => (Kn.get (s7.out.up (hf nx).out) 2 2 rfl rfl : (f nx).cell? ⟨w2.heap.size, 2, none⟩ = some (.int .u64 (m).c))
  have up_3 := fun nx => (Kn.get (s7.out.up (hf nx).out) 2 3 rfl rfl : (f nx).cell? ⟨w2.heap.size, 3, none⟩ = some (.int .u64 (m).d))
  have RR := fun nx => (RingAt.ofKn (s7.out.up (hf nx).out) 1 rfl : RingAt (f nx) kr m iv on tw)
  skip
  repeat (go_big_quiet_step (first | (go_at_call_of 17 le.a; exact (P1 _ _ (RR _)).mono fun e w'' ⟨he, hb⟩ => ⟨he, hcl.out _ _ hb⟩) | (go_at_call_of 17 m.a; exact (P2 _ _ (RR _)).mono fun e w'' ⟨he, hb⟩ => ⟨he, hcl.out _ _ hb⟩) | (go_at_call 13; exact (A1 _ _ (RR _)).mono fun e w'' ⟨he, hb⟩ => ⟨he, hcl.out _ _ hb⟩)))
  refine wpQuiet_nil ?_
  intro nx
  have hb8 := (hf nx).out
  clear hf hcl ua_0 ua_1 ua_2 ua_3 ule_0 ule_1 ule_2 ule_3 up_0 up_1 up_2 up_3 RR
  generalize f nx = w8 at hb8 ⊢
  have s8 : Hid (Kn w8 [(w5.heap.size, (c4 (le))), (kr, (c16 m iv on tw)), (w2.heap.size, (c4 (m))), (w.heap.size, (c4 (a)))]) := s7.out.up hb8
  have b8 : Hid (Below w.heap.size w w8) := b7.out.trans (hb8.mono b7.out.size)
  have z8 := b8.out.size
  clear hb8 s7 b7
  go_wp2_with fail
  go_ret
  exact ⟨rfl, b8.out⟩
/-- 2^255 - 19. -/
def p25519 : Nm := ⟨18446744073709551597, 18446744073709551615, 18446744073709551615, 9223372036854775807⟩
theorem p_ok : p25519.ok := ⟨⟨by decide, by decide⟩, ⟨by decide, by decide⟩, ⟨by decide, by decide⟩, ⟨by decide, by decide⟩⟩
theorem p_nat : p25519.nat = 57896044618658097711785492504343953926634992332820282019728792003956564819949 := by decide
def p_less : Nm := ⟨18446744073709551596, 18446744073709551615, 18446744073709551615, 9223372036854775807⟩
theorem less_ok : p_less.ok := ⟨⟨by decide, by decide⟩, ⟨by decide, by decide⟩, ⟨by decide, by decide⟩, ⟨by decide, by decide⟩⟩
theorem less_nat : p_less.nat = p25519.nat - 1 := by decide
theorem nineteen_ok : (⟨19, 0, 0, 0⟩ : Nm).ok := ⟨⟨by decide, by decide⟩, ⟨by decide, by decide⟩, ⟨by decide, by decide⟩, ⟨by decide, by decide⟩⟩
theorem ringFermat_law (a : Nm) (oa : a.ok) (w : World) :
    Calls Try.prog 6 #[N a] w fun e w' => e = .returned (.bool true) ∧ Below w.heap.size w w' := by
  have S1 := shift_pos ⟨1, 0, 0, 0⟩ one_ok' 255 (by decide)
  have S2 := sub_fun (Nm.of ((⟨1, 0, 0, 0⟩ : Nm).val * 2 ^ 255 % M)) ⟨19, 0, 0, 0⟩ (Nm.of_ok _) nineteen_ok
  rw [show subS (Nm.of ((⟨1, 0, 0, 0⟩ : Nm).val * 2 ^ 255 % M)) ⟨19, 0, 0, 0⟩ = p25519 by kernel_rfl] at S2
  have S3 := sub_fun p25519 ⟨1, 0, 0, 0⟩ p_ok one_ok'
  rw [show subS p25519 ⟨1, 0, 0, 0⟩ = p_less by kernel_rfl] at S3
  have odd : p25519.nat % 2 = 1 := by decide
  have big : 1 < p25519.nat := by decide
  have pr : P.Pr p25519.nat := by rw [p_nat]; exact P.pr_25519
  have R := new_ok p25519 p_ok odd big
  have A1 := fun k w hR => ringAdd_fun (k := k) R a ⟨0, 0, 0, 0⟩ oa zero_ok' w hR
  rw [show (⟨0, 0, 0, 0⟩ : Nm).nat = 0 from rfl, Nat.add_zero] at A1
  have P1 := fun k w hR => ringPow_fun (k := k) R a p_less oa less_ok w hR
  rw [less_nat] at P1
  have P2 := fun k w hR => ringPow_fun (k := k) R a p25519 oa p_ok w hR
  have SN := new_good p25519 p_ok odd big
  have hm : 0 < p25519.nat := by omega
  generalize p25519 = m at *
  by_cases hz : m.nat ∣ a.nat
  · have z := (Nat.dvd_iff_mod_eq_zero ..).1 hz
    have z2 : a.nat ^ (m.nat - 1) % m.nat = 0 := by
      rw [Nat.pow_mod, z, Nat.zero_pow (by omega)]
      exact Nat.zero_mod _
    rw [z] at A1
    rw [z2] at P1
    exact ringFermat_zero m (xk m 7) _ _ a _ _ _ _ S1 S2 SN S3 A1 P1 w
  · rw [P.fermat pr hz] at P1
    rw [P.fermat0 pr] at P2
    refine ringFermat_good m (xk m 7) _ _ a _ _ (nm (a.nat % m.nat)) _ _ (fun e => hz ?_) S1 S2 SN S3 A1 P1 P2 w
    have h1 : (nm (a.nat % m.nat)).nat = 0 := by rw [e]; rfl
    rw [nm_nat (mod_ok R.om hm _)] at h1
    exact (Nat.dvd_iff_mod_eq_zero ..).2 h1

set_option maxRecDepth 100000 in
theorem ringFermat_lifted (os : Os) (started : os.Started) (H : Type) (enc : TypeId × Value → H) :
    ReturnsInHanded {} Try.checked os 6 .any (Rows.ringFermatSpec.pre6 enc Try.prog Try.f6 Rows.ringFermatRow.domain false) (Rows.ringFermatSpec.post enc Try.prog Try.f6 false true false false) := by
  refine returnsInHanded_of_change (C := Try.checked) Try.own started (by kernel_rfl) Try.func6
    (ChangeSpec.witness6 (enc := enc) (C := Try.checked) false ⟨#[], #[.agg #[.int .u64 0, .int .u64 0, .int .u64 0, .int .u64 0]], []⟩ 8 (by kernel_rfl) (by kernel_rfl) (by kernel_rfl) (by kernel_rfl)) ?_
  intro W base args ds gs before hval0 hW hcnd _
  have hval : ∀ (j : Nat) t v, Try.f6.params[j]? = some t → args[j]? = some v → Value.okWide Try.prog W .any base t v := hval0
  have hW' := hW
  obtain ⟨p, q, hA0, hV, rfl, hfz, hnd⟩ := hW
  have hA : DataW.TrodAll enc Try.prog W 0 (fun _ => true) true Try.f6.params.toList args.toList ds p := hA0
  rw [Try.params6] at hA hval
  obtain ⟨v0, d0, rfl, rfl, h0⟩ := trodAll_one hA
  obtain ⟨rfl, rfl⟩ := trodVars_none hV
  obtain ⟨xs0, l0, rfl, rfl, rfl, w0⟩ := open_arr Try.underlying24 Try.underlying22 Try.cellsU64 Try.cellsNum (hval 0 24 v0 rfl rfl) h0
  clear hA0 hval0 hval hA h0
  obtain ⟨a0, b0, c0, d0, rfl⟩ := list4 xs0 l0
  have ok0 : (⟨a0, b0, c0, d0⟩ : Nm).ok := ⟨word_of_wf (w0 _ (by simp)), word_of_wf (w0 _ (by simp)), word_of_wf (w0 _ (by simp)), word_of_wf (w0 _ (by simp))⟩
  simp only [List.append_nil] at hW'
  refine (ringFermat_law ⟨a0, b0, c0, d0⟩ ok0 W).mono fun e W' ⟨he, hg⟩ => ?_
  subst he
  exact ⟨_, rfl, _, _, _, [], [], [], hW', trodAll_mk1 (shut_bool Try.underlying4 _), trodAll_mk1 (shut_arr Try.underlying24 Try.underlying22 Try.cellsU64 Try.cellsNum l0 w0), rfl, hg.frame _, fun h => by cases h⟩

theorem ringFermat_holds : Rows.RingFermatSaid :=
  OpenClaim.holds_of_wide 6 Try.f6 rfl rfl rfl rfl rfl rfl rfl ⟨rfl, rfl, rfl, rfl, rfl⟩ rfl rfl rfl rfl rfl (by kernel_rfl) Try.func6 (by kernel_rfl)
    (of_decide_eq_true (by kernel_rfl)) (by unfold Func.isWrapper; first | (rw [if_pos (by decide +kernel)]; kernel_rfl) | (rw [if_neg (by decide +kernel)]; exact ⟨rfl, rfl⟩))
    (fun os started H enc _ => ringFermat_lifted os started H enc)
#print axioms ringFermat_holds
end Go.Proofs.Ytgdekdmdidahdab
