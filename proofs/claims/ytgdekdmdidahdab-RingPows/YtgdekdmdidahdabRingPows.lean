/- RingPows returns true for every m, a, b, i and j. No condition. -/
import Derived.Test.YtgdekdmdidahdabRingN
import Derived.Test.YtgdekdmdidahdabRingP
import Derived.Test.YtgdekdmdidahdabAl
import Derived.Test.YtgdekdmdidahdabArr
import Derived.Test.YtgdekdmdidahdabOwn
namespace Go.Proofs.Ytgdekdmdidahdab
open Go.RowKit
open Go.ChangeShapes Go.WideShapes Go.ChangeAt
attribute [local go_sem] World.cell?_alloc_some cell_alloc2 cell_alloc3 cell_alloc4 frozen?_alloc_cells frozen_out
set_option maxHeartbeats 2000000 in
theorem ringPows_bad (m a b i j : Nm) (om : m.ok) (hm : m.a % 2 = 0 ∨ m = ⟨1, 0, 0, 0⟩)
    (SN : ∀ w, Calls Try.prog 7 #[N m] w fun e w' => e = .returned (.tuple #[.pointer none, .int .i64 1]) ∧ Below w.heap.size w w')
    (w : World) :
    Calls Try.prog 4 #[N m, N a, N b, N i, N j] w fun e w' => e = .returned (.bool true) ∧ Below w.heap.size w w' := by
  have m0 := om.a.1
  have m1 := om.a.2
  rcases hm with hm | hm
  · have q : m.a.tmod 2 = 0 := by rw [Int.tmod_eq_emod_of_nonneg m0]; exact hm
    go_enter Try.func4, Try.ntmps4
    have s0 : Hid (Kn (kal4 (kal4 (kal4 (kal4 (kal4 w (m)) (a)) (b)) (i)) (j)) [(w.heap.size + 1 + 1 + 1 + 1, (c4 (j))), (w.heap.size + 1 + 1 + 1, (c4 (i))), (w.heap.size + 1 + 1, (c4 (b))), (w.heap.size + 1, (c4 (a))), (w.heap.size, (c4 (m)))]) := ((((((Kn.nil w).al (c4 (m)) 24 rfl).al (c4 (a)) 24 (by simp)).al (c4 (b)) 24 (by simp)).al (c4 (i)) 24 (by simp)).al (c4 (j)) 24 (by simp))
    have b0 : Hid (Below w.heap.size w (kal4 (kal4 (kal4 (kal4 (kal4 w (m)) (a)) (b)) (i)) (j))) := ((((((Below.refl _ _).alloc (Nat.le_refl _) _).alloc (by simp <;> omega) _).alloc (by simp <;> omega) _).alloc (by simp <;> omega) _).alloc (by simp <;> omega) _)
    go_wp2_with fail
    refine (SN _).mono ?_
    rintro e w1 ⟨rfl, hb1⟩
    have s1 : Hid (Kn w1 [(w.heap.size + 1 + 1 + 1 + 1, (c4 (j))), (w.heap.size + 1 + 1 + 1, (c4 (i))), (w.heap.size + 1 + 1, (c4 (b))), (w.heap.size + 1, (c4 (a))), (w.heap.size, (c4 (m)))]) := s0.out.up hb1
    have b1 : Hid (Below w.heap.size w w1) := b0.out.trans (hb1.mono b0.out.size)
    have z1 := b1.out.size
    clear hb1 s0 b0
    have um_0 : w1.cell? ⟨w.heap.size, 0, none⟩ = some (.int .u64 (m).a) := Kn.get s1.out 4 0 rfl rfl
    have um_1 : w1.cell? ⟨w.heap.size, 1, none⟩ = some (.int .u64 (m).b) := Kn.get s1.out 4 1 rfl rfl
    have um_2 : w1.cell? ⟨w.heap.size, 2, none⟩ = some (.int .u64 (m).c) := Kn.get s1.out 4 2 rfl rfl
    have um_3 : w1.cell? ⟨w.heap.size, 3, none⟩ = some (.int .u64 (m).d) := Kn.get s1.out 4 3 rfl rfl
    go_wp2_with fail
    clear um_0 um_1 um_2 um_3
    go_ret
    exact ⟨rfl, b1.out⟩
  · subst hm
    have e1 := eqN ⟨1, 0, 0, 0⟩ ⟨1, 0, 0, 0⟩
    rw [Nm.beq_self] at e1
    go_enter Try.func4, Try.ntmps4
    have s0 : Hid (Kn (kal4 (kal4 (kal4 (kal4 (kal4 w ((⟨1, 0, 0, 0⟩ : Nm))) (a)) (b)) (i)) (j)) [(w.heap.size + 1 + 1 + 1 + 1, (c4 (j))), (w.heap.size + 1 + 1 + 1, (c4 (i))), (w.heap.size + 1 + 1, (c4 (b))), (w.heap.size + 1, (c4 (a))), (w.heap.size, (c4 ((⟨1, 0, 0, 0⟩ : Nm))))]) := ((((((Kn.nil w).al (c4 ((⟨1, 0, 0, 0⟩ : Nm))) 24 rfl).al (c4 (a)) 24 (by simp)).al (c4 (b)) 24 (by simp)).al (c4 (i)) 24 (by simp)).al (c4 (j)) 24 (by simp))
    have b0 : Hid (Below w.heap.size w (kal4 (kal4 (kal4 (kal4 (kal4 w ((⟨1, 0, 0, 0⟩ : Nm))) (a)) (b)) (i)) (j))) := ((((((Below.refl _ _).alloc (Nat.le_refl _) _).alloc (by simp <;> omega) _).alloc (by simp <;> omega) _).alloc (by simp <;> omega) _).alloc (by simp <;> omega) _)
    go_wp2_with fail
    refine (SN _).mono ?_
    rintro e w1 ⟨rfl, hb1⟩
    have s1 : Hid (Kn w1 [(w.heap.size + 1 + 1 + 1 + 1, (c4 (j))), (w.heap.size + 1 + 1 + 1, (c4 (i))), (w.heap.size + 1 + 1, (c4 (b))), (w.heap.size + 1, (c4 (a))), (w.heap.size, (c4 ((⟨1, 0, 0, 0⟩ : Nm))))]) := s0.out.up hb1
    have b1 : Hid (Below w.heap.size w w1) := b0.out.trans (hb1.mono b0.out.size)
    have z1 := b1.out.size
    clear hb1 s0 b0
    have um_0 : w1.cell? ⟨w.heap.size, 0, none⟩ = some (.int .u64 ((⟨1, 0, 0, 0⟩ : Nm)).a) := Kn.get s1.out 4 0 rfl rfl
    have um_1 : w1.cell? ⟨w.heap.size, 1, none⟩ = some (.int .u64 ((⟨1, 0, 0, 0⟩ : Nm)).b) := Kn.get s1.out 4 1 rfl rfl
    have um_2 : w1.cell? ⟨w.heap.size, 2, none⟩ = some (.int .u64 ((⟨1, 0, 0, 0⟩ : Nm)).c) := Kn.get s1.out 4 2 rfl rfl
    have um_3 : w1.cell? ⟨w.heap.size, 3, none⟩ = some (.int .u64 ((⟨1, 0, 0, 0⟩ : Nm)).d) := Kn.get s1.out 4 3 rfl rfl
    go_wp2_with fail
    clear um_0 um_1 um_2 um_3
    go_ret
    exact ⟨rfl, b1.out⟩
set_option maxHeartbeats 4000000 in
theorem ringPows_good (m iv on tw a b i j s lo ab q ai bi u aj : Nm) (c : Int)
    (SN : ∀ w, Calls Try.prog 7 #[N m] w fun e w' => (∃ k, w.heap.size ≤ k ∧ e = .returned (.tuple #[rp k, .int .i64 0]) ∧ Blk w' k (c16 m iv on tw)) ∧ Below w.heap.size w w')
    (SA : ∀ w, Calls Try.prog 16 #[N i, N j] w fun e w' => e = .returned (.tuple #[N s, .int .u64 c]) ∧ Below w.heap.size w w')
    (P0 : ∀ k w, RingAt w k m iv on tw → Calls Try.prog 17 #[rp k, N a, N ⟨0, 0, 0, 0⟩] w fun e w' => e = .returned (N ⟨1, 0, 0, 0⟩) ∧ Below w.heap.size w w')
    (P1 : ∀ k w, RingAt w k m iv on tw → Calls Try.prog 17 #[rp k, N a, N ⟨1, 0, 0, 0⟩] w fun e w' => e = .returned (N lo) ∧ Below w.heap.size w w')
    (A1 : ∀ k w, RingAt w k m iv on tw → Calls Try.prog 13 #[rp k, N a, N ⟨0, 0, 0, 0⟩] w fun e w' => e = .returned (N lo) ∧ Below w.heap.size w w')
    (T1 : ∀ k w, RingAt w k m iv on tw → Calls Try.prog 15 #[rp k, N a, N b] w fun e w' => e = .returned (N ab) ∧ Below w.heap.size w w')
    (P2 : ∀ k w, RingAt w k m iv on tw → Calls Try.prog 17 #[rp k, N ab, N i] w fun e w' => e = .returned (N q) ∧ Below w.heap.size w w')
    (P3 : ∀ k w, RingAt w k m iv on tw → Calls Try.prog 17 #[rp k, N a, N i] w fun e w' => e = .returned (N ai) ∧ Below w.heap.size w w')
    (P4 : ∀ k w, RingAt w k m iv on tw → Calls Try.prog 17 #[rp k, N b, N i] w fun e w' => e = .returned (N bi) ∧ Below w.heap.size w w')
    (T2 : ∀ k w, RingAt w k m iv on tw → Calls Try.prog 15 #[rp k, N ai, N bi] w fun e w' => e = .returned (N q) ∧ Below w.heap.size w w')
    (P6 : ∀ k w, RingAt w k m iv on tw → Calls Try.prog 17 #[rp k, N a, N j] w fun e w' => e = .returned (N aj) ∧ Below w.heap.size w w')
    (T3 : ∀ k w, RingAt w k m iv on tw → Calls Try.prog 15 #[rp k, N ai, N aj] w fun e w' => e = .returned (N u) ∧ Below w.heap.size w w')
    (P5 : c = 1 ∨ c ≠ 1 ∧ ∀ k w, RingAt w k m iv on tw → Calls Try.prog 17 #[rp k, N a, N s] w fun e w' => e = .returned (N u) ∧ Below w.heap.size w w')
    (w : World) :
    Calls Try.prog 4 #[N m, N a, N b, N i, N j] w fun e w' => e = .returned (.bool true) ∧ Below w.heap.size w w' := by
  have n1 := neN ⟨1, 0, 0, 0⟩ ⟨1, 0, 0, 0⟩
  rw [Nm.beq_self] at n1
  have n2 := neN lo lo
  rw [Nm.beq_self] at n2
  have n3 := neN q q
  rw [Nm.beq_self] at n3
  have e1 := eqN u u
  rw [Nm.beq_self] at e1
  have P5' : Hid _ := P5
  clear P5
  go_enter Try.func4, Try.ntmps4
  have s0 : Hid (Kn (kal4 (kal4 (kal4 (kal4 (kal4 w (m)) (a)) (b)) (i)) (j)) [(w.heap.size + 1 + 1 + 1 + 1, (c4 (j))), (w.heap.size + 1 + 1 + 1, (c4 (i))), (w.heap.size + 1 + 1, (c4 (b))), (w.heap.size + 1, (c4 (a))), (w.heap.size, (c4 (m)))]) := ((((((Kn.nil w).al (c4 (m)) 24 rfl).al (c4 (a)) 24 (by simp)).al (c4 (b)) 24 (by simp)).al (c4 (i)) 24 (by simp)).al (c4 (j)) 24 (by simp))
  have b0 : Hid (Below w.heap.size w (kal4 (kal4 (kal4 (kal4 (kal4 w (m)) (a)) (b)) (i)) (j))) := ((((((Below.refl _ _).alloc (Nat.le_refl _) _).alloc (by simp <;> omega) _).alloc (by simp <;> omega) _).alloc (by simp <;> omega) _).alloc (by simp <;> omega) _)
  go_wp2_with fail
  refine (SN _).mono ?_
  rintro e w1 ⟨⟨kr, hkr, rfl, hBr⟩, hb1⟩
  have s1 : Hid (Kn w1 [(kr, (c16 m iv on tw)), (w.heap.size + 1 + 1 + 1 + 1, (c4 (j))), (w.heap.size + 1 + 1 + 1, (c4 (i))), (w.heap.size + 1 + 1, (c4 (b))), (w.heap.size + 1, (c4 (a))), (w.heap.size, (c4 (m)))]) := s0.out.fresh_of hb1 hkr hBr
  have b1 : Hid (Below w.heap.size w w1) := b0.out.trans (hb1.mono b0.out.size)
  have z1 := b1.out.size
  clear hb1 s0 b0 hBr hkr
  have ui_0 : w1.cell? ⟨w.heap.size + 1 + 1 + 1, 0, none⟩ = some (.int .u64 (i).a) := Kn.get s1.out 2 0 rfl rfl
  have ui_1 : w1.cell? ⟨w.heap.size + 1 + 1 + 1, 1, none⟩ = some (.int .u64 (i).b) := Kn.get s1.out 2 1 rfl rfl
  have ui_2 : w1.cell? ⟨w.heap.size + 1 + 1 + 1, 2, none⟩ = some (.int .u64 (i).c) := Kn.get s1.out 2 2 rfl rfl
  have ui_3 : w1.cell? ⟨w.heap.size + 1 + 1 + 1, 3, none⟩ = some (.int .u64 (i).d) := Kn.get s1.out 2 3 rfl rfl
  have uj_0 : w1.cell? ⟨w.heap.size + 1 + 1 + 1 + 1, 0, none⟩ = some (.int .u64 (j).a) := Kn.get s1.out 1 0 rfl rfl
  have uj_1 : w1.cell? ⟨w.heap.size + 1 + 1 + 1 + 1, 1, none⟩ = some (.int .u64 (j).b) := Kn.get s1.out 1 1 rfl rfl
  have uj_2 : w1.cell? ⟨w.heap.size + 1 + 1 + 1 + 1, 2, none⟩ = some (.int .u64 (j).c) := Kn.get s1.out 1 2 rfl rfl
  have uj_3 : w1.cell? ⟨w.heap.size + 1 + 1 + 1 + 1, 3, none⟩ = some (.int .u64 (j).d) := Kn.get s1.out 1 3 rfl rfl
  go_wp2_with fail
  clear ui_0 ui_1 ui_2 ui_3 uj_0 uj_1 uj_2 uj_3
  refine (SA _).mono ?_
  rintro e w2 ⟨rfl, hb2⟩
  have s2 : Hid (Kn w2 [(kr, (c16 m iv on tw)), (w.heap.size + 1 + 1 + 1 + 1, (c4 (j))), (w.heap.size + 1 + 1 + 1, (c4 (i))), (w.heap.size + 1 + 1, (c4 (b))), (w.heap.size + 1, (c4 (a))), (w.heap.size, (c4 (m)))]) := s1.out.up hb2
  have b2 : Hid (Below w.heap.size w w2) := b1.out.trans (hb2.mono b1.out.size)
  have z2 := b2.out.size
  clear hb2 s1 b1
  have s3 : Hid (Kn (kal4 w2 (s)) [(w2.heap.size, (c4 (s))), (kr, (c16 m iv on tw)), (w.heap.size + 1 + 1 + 1 + 1, (c4 (j))), (w.heap.size + 1 + 1 + 1, (c4 (i))), (w.heap.size + 1 + 1, (c4 (b))), (w.heap.size + 1, (c4 (a))), (w.heap.size, (c4 (m)))]) := s2.out.al (c4 (s)) 24 rfl
  have b3 : Hid (Below w.heap.size w (kal4 w2 (s))) := b2.out.alloc b2.out.size _
  have z3 := b2.out.size
  clear s2 b2
  have s4 : Hid (Kn (kal4 (kal4 w2 (s)) ((⟨1, 0, 0, 0⟩ : Nm))) [(w2.heap.size + 1, (c4 ((⟨1, 0, 0, 0⟩ : Nm)))), (w2.heap.size, (c4 (s))), (kr, (c16 m iv on tw)), (w.heap.size + 1 + 1 + 1 + 1, (c4 (j))), (w.heap.size + 1 + 1 + 1, (c4 (i))), (w.heap.size + 1 + 1, (c4 (b))), (w.heap.size + 1, (c4 (a))), (w.heap.size, (c4 (m)))]) := s3.out.al (c4 ((⟨1, 0, 0, 0⟩ : Nm))) 24 (by simp)
  have b4 : Hid (Below w.heap.size w (kal4 (kal4 w2 (s)) ((⟨1, 0, 0, 0⟩ : Nm)))) := b3.out.alloc b3.out.size _
  have z4 := b3.out.size
  clear s3 b3
  go_wp2_with fail
  refine wp_region_up (by kernel_rfl) (by kernel_rfl) (fun U hU f hf hcl => ?_)
  have uone_0 := fun nx => (Kn.get (s4.out.up (hf nx).out) 0 0 rfl rfl : (f nx).cell? ⟨w2.heap.size + 1, 0, none⟩ = some (.int .u64 ((⟨1, 0, 0, 0⟩ : Nm)).a))
  have uone_1 := fun nx => (Kn.get (s4.out.up (hf nx).out) 0 1 rfl rfl : (f nx).cell? ⟨w2.heap.size + 1, 1, none⟩ = some (.int .u64 ((⟨1, 0, 0, 0⟩ : Nm)).b))
  have uone_2 := fun nx => (Kn.get (s4.out.up (hf nx).out) 0 2 rfl rfl : (f nx).cell? ⟨w2.heap.size + 1, 2, none⟩ = some (.int .u64 ((⟨1, 0, 0, 0⟩ : Nm)).c))
  have uone_3 := fun nx => (Kn.get (s4.out.up (hf nx).out) 0 3 rfl rfl : (f nx).cell? ⟨w2.heap.size + 1, 3, none⟩ = some (.int .u64 ((⟨1, 0, 0, 0⟩ : Nm)).d))
  have ua_0 := fun nx => (Kn.get (s4.out.up (hf nx).out) 6 0 rfl rfl : (f nx).cell? ⟨w.heap.size + 1, 0, none⟩ = some (.int .u64 (a).a))
  have ua_1 := fun nx => (Kn.get (s4.out.up (hf nx).out) 6 1 rfl rfl : (f nx).cell? ⟨w.heap.size + 1, 1, none⟩ = some (.int .u64 (a).b))
  have ua_2 := fun nx => (Kn.get (s4.out.up (hf nx).out) 6 2 rfl rfl : (f nx).cell? ⟨w.heap.size + 1, 2, none⟩ = some (.int .u64 (a).c))
  have ua_3 := fun nx => (Kn.get (s4.out.up (hf nx).out) 6 3 rfl rfl : (f nx).cell? ⟨w.heap.size + 1, 3, none⟩ = some (.int .u64 (a).d))
  have ub_0 := fun nx => (Kn.get (s4.out.up (hf nx).out) 5 0 rfl rfl : (f nx).cell? ⟨w.heap.size + 1 + 1, 0, none⟩ = some (.int .u64 (b).a))
  have ub_1 := fun nx => (Kn.get (s4.out.up (hf nx).out) 5 1 rfl rfl : (f nx).cell? ⟨w.heap.size + 1 + 1, 1, none⟩ = some (.int .u64 (b).b))
  have ub_2 := fun nx => (Kn.get (s4.out.up (hf nx).out) 5 2 rfl rfl : (f nx).cell? ⟨w.heap.size + 1 + 1, 2, none⟩ = some (.int .u64 (b).c))
  have ub_3 := fun nx => (Kn.get (s4.out.up (hf nx).out) 5 3 rfl rfl : (f nx).cell? ⟨w.heap.size + 1 + 1, 3, none⟩ = some (.int .u64 (b).d))
  have ui_0 := fun nx => (Kn.get (s4.out.up (hf nx).out) 4 0 rfl rfl : (f nx).cell? ⟨w.heap.size + 1 + 1 + 1, 0, none⟩ = some (.int .u64 (i).a))
  have ui_1 := fun nx => (Kn.get (s4.out.up (hf nx).out) 4 1 rfl rfl : (f nx).cell? ⟨w.heap.size + 1 + 1 + 1, 1, none⟩ = some (.int .u64 (i).b))
  have ui_2 := fun nx => (Kn.get (s4.out.up (hf nx).out) 4 2 rfl rfl : (f nx).cell? ⟨w.heap.size + 1 + 1 + 1, 2, none⟩ = some (.int .u64 (i).c))
  have ui_3 := fun nx => (Kn.get (s4.out.up (hf nx).out) 4 3 rfl rfl : (f nx).cell? ⟨w.heap.size + 1 + 1 + 1, 3, none⟩ = some (.int .u64 (i).d))
  have RR := fun nx => (RingAt.ofKn (s4.out.up (hf nx).out) 2 rfl : RingAt (f nx) kr m iv on tw)
  skip
  repeat (go_big_quiet_step (first | (go_at_call 13; exact (A1 _ _ (RR _)).mono fun e w'' ⟨he, hb⟩ => ⟨he, hcl.out _ _ hb⟩) | (go_at_call_of 17 (N ab); exact (P2 _ _ (RR _)).mono fun e w'' ⟨he, hb⟩ => ⟨he, hcl.out _ _ hb⟩) | (go_at_call_of 17 b.a; exact (P4 _ _ (RR _)).mono fun e w'' ⟨he, hb⟩ => ⟨he, hcl.out _ _ hb⟩) | (go_at_call_of 17 i.a; exact (P3 _ _ (RR _)).mono fun e w'' ⟨he, hb⟩ => ⟨he, hcl.out _ _ hb⟩) | (go_at_call_of 17 (Value.int IntKind.u64 1); exact (P1 _ _ (RR _)).mono fun e w'' ⟨he, hb⟩ => ⟨he, hcl.out _ _ hb⟩) | (go_at_call 17; exact (P0 _ _ (RR _)).mono fun e w'' ⟨he, hb⟩ => ⟨he, hcl.out _ _ hb⟩) | (go_at_call_of 15 b.a; exact (T1 _ _ (RR _)).mono fun e w'' ⟨he, hb⟩ => ⟨he, hcl.out _ _ hb⟩) | (go_at_call_of 15 (N bi); exact (T2 _ _ (RR _)).mono fun e w'' ⟨he, hb⟩ => ⟨he, hcl.out _ _ hb⟩)))
  refine wpQuiet_nil ?_
  intro nx
  have hb5 := (hf nx).out
  clear hf hcl uone_0 uone_1 uone_2 uone_3 ua_0 ua_1 ua_2 ua_3 ub_0 ub_1 ub_2 ub_3 ui_0 ui_1 ui_2 ui_3 RR
  generalize f nx = w5 at hb5 ⊢
  have s5 : Hid (Kn w5 [(w2.heap.size + 1, (c4 ((⟨1, 0, 0, 0⟩ : Nm)))), (w2.heap.size, (c4 (s))), (kr, (c16 m iv on tw)), (w.heap.size + 1 + 1 + 1 + 1, (c4 (j))), (w.heap.size + 1 + 1 + 1, (c4 (i))), (w.heap.size + 1 + 1, (c4 (b))), (w.heap.size + 1, (c4 (a))), (w.heap.size, (c4 (m)))]) := s4.out.up hb5
  have b5 : Hid (Below w.heap.size w w5) := b4.out.trans (hb5.mono b4.out.size)
  have z5 := b5.out.size
  clear hb5 s4 b4
  go_wp2_with fail
  rcases P5'.out with hc | ⟨hc, P5⟩
  · subst hc
    refine wp_region_up (by kernel_rfl) (by kernel_rfl) (fun U hU f hf hcl => ?_)
    have RR := fun nx => (RingAt.ofKn (s5.out.up (hf nx).out) 2 rfl : RingAt (f nx) kr m iv on tw)
    skip
    repeat (go_big_quiet_step (first | fail))
    refine wpQuiet_nil ?_
    intro nx
    have hb6 := (hf nx).out
    clear hf hcl
    generalize f nx = w6 at hb6 ⊢
    have s6 : Hid (Kn w6 [(w2.heap.size + 1, (c4 ((⟨1, 0, 0, 0⟩ : Nm)))), (w2.heap.size, (c4 (s))), (kr, (c16 m iv on tw)), (w.heap.size + 1 + 1 + 1 + 1, (c4 (j))), (w.heap.size + 1 + 1 + 1, (c4 (i))), (w.heap.size + 1 + 1, (c4 (b))), (w.heap.size + 1, (c4 (a))), (w.heap.size, (c4 (m)))]) := s5.out.up hb6
    have b6 : Hid (Below w.heap.size w w6) := b5.out.trans (hb6.mono b5.out.size)
    have z6 := b6.out.size
    clear hb6 s5 b5
    go_wp2_with fail
    go_ret
    exact ⟨rfl, b6.out⟩
  · have hc' : (c == 1) = false := beq_eq_false_iff_ne.2 hc
    refine wp_region_up (by kernel_rfl) (by kernel_rfl) (fun U hU f hf hcl => ?_)
    have us_0 := fun nx => (Kn.get (s5.out.up (hf nx).out) 1 0 rfl rfl : (f nx).cell? ⟨w2.heap.size, 0, none⟩ = some (.int .u64 (s).a))
    have us_1 := fun nx => (Kn.get (s5.out.up (hf nx).out) 1 1 rfl rfl : (f nx).cell? ⟨w2.heap.size, 1, none⟩ = some (.int .u64 (s).b))
    have us_2 := fun nx => (Kn.get (s5.out.up (hf nx).out) 1 2 rfl rfl : (f nx).cell? ⟨w2.heap.size, 2, none⟩ = some (.int .u64 (s).c))
    have us_3 := fun nx => (Kn.get (s5.out.up (hf nx).out) 1 3 rfl rfl : (f nx).cell? ⟨w2.heap.size, 3, none⟩ = some (.int .u64 (s).d))
    have ua_0 := fun nx => (Kn.get (s5.out.up (hf nx).out) 6 0 rfl rfl : (f nx).cell? ⟨w.heap.size + 1, 0, none⟩ = some (.int .u64 (a).a))
    have ua_1 := fun nx => (Kn.get (s5.out.up (hf nx).out) 6 1 rfl rfl : (f nx).cell? ⟨w.heap.size + 1, 1, none⟩ = some (.int .u64 (a).b))
    have ua_2 := fun nx => (Kn.get (s5.out.up (hf nx).out) 6 2 rfl rfl : (f nx).cell? ⟨w.heap.size + 1, 2, none⟩ = some (.int .u64 (a).c))
    have ua_3 := fun nx => (Kn.get (s5.out.up (hf nx).out) 6 3 rfl rfl : (f nx).cell? ⟨w.heap.size + 1, 3, none⟩ = some (.int .u64 (a).d))
    have ui_0 := fun nx => (Kn.get (s5.out.up (hf nx).out) 4 0 rfl rfl : (f nx).cell? ⟨w.heap.size + 1 + 1 + 1, 0, none⟩ = some (.int .u64 (i).a))
    have ui_1 := fun nx => (Kn.get (s5.out.up (hf nx).out) 4 1 rfl rfl : (f nx).cell? ⟨w.heap.size + 1 + 1 + 1, 1, none⟩ = some (.int .u64 (i).b))
    have ui_2 := fun nx => (Kn.get (s5.out.up (hf nx).out) 4 2 rfl rfl : (f nx).cell? ⟨w.heap.size + 1 + 1 + 1, 2, none⟩ = some (.int .u64 (i).c))
    have ui_3 := fun nx => (Kn.get (s5.out.up (hf nx).out) 4 3 rfl rfl : (f nx).cell? ⟨w.heap.size + 1 + 1 + 1, 3, none⟩ = some (.int .u64 (i).d))
    have uj_0 := fun nx => (Kn.get (s5.out.up (hf nx).out) 3 0 rfl rfl : (f nx).cell? ⟨w.heap.size + 1 + 1 + 1 + 1, 0, none⟩ = some (.int .u64 (j).a))
    have uj_1 := fun nx => (Kn.get (s5.out.up (hf nx).out) 3 1 rfl rfl : (f nx).cell? ⟨w.heap.size + 1 + 1 + 1 + 1, 1, none⟩ = some (.int .u64 (j).b))
    have uj_2 := fun nx => (Kn.get (s5.out.up (hf nx).out) 3 2 rfl rfl : (f nx).cell? ⟨w.heap.size + 1 + 1 + 1 + 1, 2, none⟩ = some (.int .u64 (j).c))
    have uj_3 := fun nx => (Kn.get (s5.out.up (hf nx).out) 3 3 rfl rfl : (f nx).cell? ⟨w.heap.size + 1 + 1 + 1 + 1, 3, none⟩ = some (.int .u64 (j).d))
    have RR := fun nx => (RingAt.ofKn (s5.out.up (hf nx).out) 2 rfl : RingAt (f nx) kr m iv on tw)
    skip
    repeat (go_big_quiet_step (first | (go_at_call_of 17 s.a; exact (P5 _ _ (RR _)).mono fun e w'' ⟨he, hb⟩ => ⟨he, hcl.out _ _ hb⟩) | (go_at_call_of 17 i.a; exact (P3 _ _ (RR _)).mono fun e w'' ⟨he, hb⟩ => ⟨he, hcl.out _ _ hb⟩) | (go_at_call_of 17 j.a; exact (P6 _ _ (RR _)).mono fun e w'' ⟨he, hb⟩ => ⟨he, hcl.out _ _ hb⟩) | (go_at_call 15; exact (T3 _ _ (RR _)).mono fun e w'' ⟨he, hb⟩ => ⟨he, hcl.out _ _ hb⟩)))
    refine wpQuiet_nil ?_
    intro nx
    have hb6 := (hf nx).out
    clear hf hcl us_0 us_1 us_2 us_3 ua_0 ua_1 ua_2 ua_3 ui_0 ui_1 ui_2 ui_3 uj_0 uj_1 uj_2 uj_3 RR
    generalize f nx = w6 at hb6 ⊢
    have s6 : Hid (Kn w6 [(w2.heap.size + 1, (c4 ((⟨1, 0, 0, 0⟩ : Nm)))), (w2.heap.size, (c4 (s))), (kr, (c16 m iv on tw)), (w.heap.size + 1 + 1 + 1 + 1, (c4 (j))), (w.heap.size + 1 + 1 + 1, (c4 (i))), (w.heap.size + 1 + 1, (c4 (b))), (w.heap.size + 1, (c4 (a))), (w.heap.size, (c4 (m)))]) := s5.out.up hb6
    have b6 : Hid (Below w.heap.size w w6) := b5.out.trans (hb6.mono b5.out.size)
    have z6 := b6.out.size
    clear hb6 s5 b5
    go_wp2_with fail
    go_ret
    exact ⟨rfl, b6.out⟩
theorem ringPows_law (m a b i j : Nm) (om : m.ok) (oa : a.ok) (ob : b.ok) (oi : i.ok) (oj : j.ok) (w : World) :
    Calls Try.prog 4 #[N m, N a, N b, N i, N j] w fun e w' => e = .returned (.bool true) ∧ Below w.heap.size w w' := by
  rcases odd_cases m om with hb | ⟨odd, big⟩
  · refine ringPows_bad m a b i j om ?_ (new_bad m om hb) w
    rcases hb with h | h
    · exact .inl (by have := Nm.nat_cast om; unfold Nm.val at this; omega)
    · exact .inr h
  have R := new_ok m om odd big
  have hm : 0 < m.nat := by omega
  have ia : ∀ x, (nm (x % m.nat)).nat = x % m.nat := fun x => nm_nat (mod_ok om hm _)
  have P0 := fun k w hR => ringPow_fun (k := k) R a ⟨0, 0, 0, 0⟩ oa zero_ok' w hR
  rw [show (⟨0, 0, 0, 0⟩ : Nm).nat = 0 from rfl, Nat.pow_zero, Nat.mod_eq_of_lt big, show nm 1 = ⟨1, 0, 0, 0⟩ from rfl] at P0
  have P1 := fun k w hR => ringPow_fun (k := k) R a ⟨1, 0, 0, 0⟩ oa one_ok' w hR
  rw [show (⟨1, 0, 0, 0⟩ : Nm).nat = 1 from rfl, Nat.pow_one] at P1
  have A1 := fun k w hR => ringAdd_fun (k := k) R a ⟨0, 0, 0, 0⟩ oa zero_ok' w hR
  rw [show (⟨0, 0, 0, 0⟩ : Nm).nat = 0 from rfl, Nat.add_zero] at A1
  have P2 := fun k w hR => ringPow_fun (k := k) R (nm (a.nat * b.nat % m.nat)) i (nm_ok _) oi w hR
  rw [ia, ← Nat.pow_mod] at P2
  have T2 := fun k w hR => ringMul_fun (k := k) R (nm (a.nat ^ i.nat % m.nat)) (nm (b.nat ^ i.nat % m.nat)) (nm_ok _) (nm_ok _) w hR
  rw [ia, ia, ← Nat.mul_mod, ← Nat.mul_pow] at T2
  have T3 := fun k w hR => ringMul_fun (k := k) R (nm (a.nat ^ i.nat % m.nat)) (nm (a.nat ^ j.nat % m.nat)) (nm_ok _) (nm_ok _) w hR
  rw [ia, ia, ← Nat.mul_mod, ← Nat.pow_add] at T3
  refine ringPows_good m (xk m 7) _ _ a b i j _ _ _ _ _ _ _ _ _ (new_good m om odd big) (add_fun i j oi oj) P0 P1 A1 (fun k w hR => ringMul_fun R a b oa ob w hR) P2 (fun k w hR => ringPow_fun R a i oa oi w hR) (fun k w hR => ringPow_fun R b i ob oi w hR) T2 (fun k w hR => ringPow_fun R a j oa oj w hR) T3 ?_ w
  by_cases hc : addC i j = 1
  · exact .inl hc
  · refine .inr ⟨hc, fun k w hR => ?_⟩
    have e := add_val' (x := i) (y := j)
    have c01 := addC_01 oi oj
    have c0 : addC i j = 0 := by omega
    rw [c0, Int.mul_zero, Int.add_zero] at e
    have en : (addS i j).nat = i.nat + j.nat := by
      have h1 := Nm.nat_cast (addS_ok i j); have h2 := Nm.nat_cast oi; have h3 := Nm.nat_cast oj
      omega
    have := ringPow_fun (k := k) R a (addS i j) oa (addS_ok i j) w hR
    rw [en] at this
    exact this

set_option maxRecDepth 100000 in
theorem ringPows_lifted (os : Os) (started : os.Started) (H : Type) (enc : TypeId × Value → H) :
    ReturnsInHanded {} Try.checked os 4 .any (Rows.ringPowsSpec.pre6 enc Try.prog Try.f4 Rows.ringPowsRow.domain false) (Rows.ringPowsSpec.post enc Try.prog Try.f4 false true false false) := by
  refine returnsInHanded_of_change (C := Try.checked) Try.own started (by kernel_rfl) Try.func4
    (ChangeSpec.witness6 (enc := enc) (C := Try.checked) false ⟨#[], #[.agg #[.int .u64 0, .int .u64 0, .int .u64 0, .int .u64 0], .agg #[.int .u64 0, .int .u64 0, .int .u64 0, .int .u64 0], .agg #[.int .u64 0, .int .u64 0, .int .u64 0, .int .u64 0], .agg #[.int .u64 0, .int .u64 0, .int .u64 0, .int .u64 0], .agg #[.int .u64 0, .int .u64 0, .int .u64 0, .int .u64 0]], []⟩ 8 (by kernel_rfl) (by kernel_rfl) (by kernel_rfl) (by kernel_rfl)) ?_
  intro W base args ds gs before hval0 hW hcnd _
  have hval : ∀ (j : Nat) t v, Try.f4.params[j]? = some t → args[j]? = some v → Value.okWide Try.prog W .any base t v := hval0
  have hW' := hW
  obtain ⟨p, q, hA0, hV, rfl, hfz, hnd⟩ := hW
  have hA : DataW.TrodAll enc Try.prog W 0 (fun _ => true) true Try.f4.params.toList args.toList ds p := hA0
  rw [Try.params4] at hA hval
  obtain ⟨v0, vs0, d0, ds0, p0, q0, hargs, rfl, rfl, h0, r0⟩ := trodAll_cons hA
  obtain ⟨v1, vs1, d1, ds1, p1, q1, rfl, rfl, rfl, h1, r1⟩ := trodAll_cons r0
  obtain ⟨v2, vs2, d2, ds2, p2, q2, rfl, rfl, rfl, h2, r2⟩ := trodAll_cons r1
  obtain ⟨v3, vs3, d3, ds3, p3, q3, rfl, rfl, rfl, h3, r3⟩ := trodAll_cons r2
  obtain ⟨v4, vs4, d4, ds4, p4, q4, rfl, rfl, rfl, h4, r4⟩ := trodAll_cons r3
  obtain ⟨rfl, rfl, rfl⟩ := trodAll_nil r4
  obtain ⟨rfl, rfl⟩ := trodVars_none hV
  have eargs : args = #[v0, v1, v2, v3, v4] := by
    obtain ⟨l⟩ := args
    simp at hargs
    simp [hargs]
  subst eargs
  obtain ⟨xs0, l0, rfl, rfl, rfl, w0⟩ := open_arr Try.underlying24 Try.underlying22 Try.cellsU64 Try.cellsNum (hval 0 24 v0 rfl rfl) h0
  obtain ⟨xs1, l1, rfl, rfl, rfl, w1⟩ := open_arr Try.underlying24 Try.underlying22 Try.cellsU64 Try.cellsNum (hval 1 24 v1 rfl rfl) h1
  obtain ⟨xs2, l2, rfl, rfl, rfl, w2⟩ := open_arr Try.underlying24 Try.underlying22 Try.cellsU64 Try.cellsNum (hval 2 24 v2 rfl rfl) h2
  obtain ⟨xs3, l3, rfl, rfl, rfl, w3⟩ := open_arr Try.underlying24 Try.underlying22 Try.cellsU64 Try.cellsNum (hval 3 24 v3 rfl rfl) h3
  obtain ⟨xs4, l4, rfl, rfl, rfl, w4⟩ := open_arr Try.underlying24 Try.underlying22 Try.cellsU64 Try.cellsNum (hval 4 24 v4 rfl rfl) h4
  clear hA0 hval0 hval hA h0 h1 h2 h3 h4 hargs r0 r1 r2 r3
  obtain ⟨a0, b0, c0, d0, rfl⟩ := list4 xs0 l0
  have ok0 : (⟨a0, b0, c0, d0⟩ : Nm).ok := ⟨word_of_wf (w0 _ (by simp)), word_of_wf (w0 _ (by simp)), word_of_wf (w0 _ (by simp)), word_of_wf (w0 _ (by simp))⟩
  obtain ⟨a1, b1, c1, d1, rfl⟩ := list4 xs1 l1
  have ok1 : (⟨a1, b1, c1, d1⟩ : Nm).ok := ⟨word_of_wf (w1 _ (by simp)), word_of_wf (w1 _ (by simp)), word_of_wf (w1 _ (by simp)), word_of_wf (w1 _ (by simp))⟩
  obtain ⟨a2, b2, c2, d2, rfl⟩ := list4 xs2 l2
  have ok2 : (⟨a2, b2, c2, d2⟩ : Nm).ok := ⟨word_of_wf (w2 _ (by simp)), word_of_wf (w2 _ (by simp)), word_of_wf (w2 _ (by simp)), word_of_wf (w2 _ (by simp))⟩
  obtain ⟨a3, b3, c3, d3, rfl⟩ := list4 xs3 l3
  have ok3 : (⟨a3, b3, c3, d3⟩ : Nm).ok := ⟨word_of_wf (w3 _ (by simp)), word_of_wf (w3 _ (by simp)), word_of_wf (w3 _ (by simp)), word_of_wf (w3 _ (by simp))⟩
  obtain ⟨a4, b4, c4, d4, rfl⟩ := list4 xs4 l4
  have ok4 : (⟨a4, b4, c4, d4⟩ : Nm).ok := ⟨word_of_wf (w4 _ (by simp)), word_of_wf (w4 _ (by simp)), word_of_wf (w4 _ (by simp)), word_of_wf (w4 _ (by simp))⟩
  simp only [List.append_nil] at hW'
  refine (ringPows_law ⟨a0, b0, c0, d0⟩ ⟨a1, b1, c1, d1⟩ ⟨a2, b2, c2, d2⟩ ⟨a3, b3, c3, d3⟩ ⟨a4, b4, c4, d4⟩ ok0 ok1 ok2 ok3 ok4 W).mono fun e W' ⟨he, hg⟩ => ?_
  subst he
  exact ⟨_, rfl, _, _, _, [], [], [], hW', trodAll_mk1 (shut_bool Try.underlying4 _), trodAll_cons_mk (shut_arr Try.underlying24 Try.underlying22 Try.cellsU64 Try.cellsNum l0 w0) (trodAll_cons_mk (shut_arr Try.underlying24 Try.underlying22 Try.cellsU64 Try.cellsNum l1 w1) (trodAll_cons_mk (shut_arr Try.underlying24 Try.underlying22 Try.cellsU64 Try.cellsNum l2 w2) (trodAll_cons_mk (shut_arr Try.underlying24 Try.underlying22 Try.cellsU64 Try.cellsNum l3 w3) (trodAll_cons_mk (shut_arr Try.underlying24 Try.underlying22 Try.cellsU64 Try.cellsNum l4 w4) (trodAll_mk0))))), rfl, hg.frame _, fun h => by cases h⟩

theorem ringPows_holds : Rows.RingPowsSaid :=
  OpenClaim.holds_of_wide 4 Try.f4 rfl rfl rfl rfl rfl rfl rfl ⟨rfl, rfl, rfl, rfl, rfl⟩ rfl rfl rfl rfl rfl (by kernel_rfl) Try.func4 (by kernel_rfl)
    (of_decide_eq_true (by kernel_rfl)) (by unfold Func.isWrapper; first | (rw [if_pos (by decide +kernel)]; kernel_rfl) | (rw [if_neg (by decide +kernel)]; exact ⟨rfl, rfl⟩))
    (fun os started H enc _ => ringPows_lifted os started H enc)
#print axioms ringPows_holds
end Go.Proofs.Ytgdekdmdidahdab
