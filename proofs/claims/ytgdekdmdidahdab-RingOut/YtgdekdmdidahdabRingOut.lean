/- RingOut returns true for every m, a, b and t. No condition. -/
import Derived.Test.YtgdekdmdidahdabRingN
import Derived.Test.YtgdekdmdidahdabWideF
import Derived.Test.YtgdekdmdidahdabAl
import Derived.Test.YtgdekdmdidahdabArr
import Derived.Test.YtgdekdmdidahdabOwn
import Derived.Test.YtgdekdmdidahdabUpV
namespace Go.Proofs.Ytgdekdmdidahdab
open Go.RowKit
open Go.ChangeShapes Go.WideShapes Go.ChangeAt
attribute [local go_sem] World.cell?_alloc_some cell_alloc2 cell_alloc3 cell_alloc4 frozen?_alloc_cells frozen_out
set_option maxHeartbeats 2000000 in
theorem ringOut_bad (m a b l h : Nm) (om : m.ok) (hm : m.a % 2 = 0 ∨ m = ⟨1, 0, 0, 0⟩)
    (SN : ∀ w, Calls Try.prog 7 #[N m] w fun e w' => e = .returned (.tuple #[.pointer none, .int .i64 1]) ∧ Below w.heap.size w w')
    (w : World) :
    Calls Try.prog 3 #[N m, N a, N b, Wv l h] w fun e w' => e = .returned (.bool true) ∧ Below w.heap.size w w' := by
  have m0 := om.a.1
  have m1 := om.a.2
  rcases hm with hm | hm
  · have q : m.a.tmod 2 = 0 := by rw [Int.tmod_eq_emod_of_nonneg m0]; exact hm
    go_enter Try.func3, Try.ntmps3
    have s0 : Hid (Kn (kal8 (kal4 (kal4 (kal4 w (m)) (a)) (b)) (l) (h)) [(w.heap.size + 1 + 1 + 1, (c8 (l) (h))), (w.heap.size + 1 + 1, (c4 (b))), (w.heap.size + 1, (c4 (a))), (w.heap.size, (c4 (m)))]) := (((((Kn.nil w).al (c4 (m)) 24 rfl).al (c4 (a)) 24 (by simp)).al (c4 (b)) 24 (by simp)).al (c8 (l) (h)) 26 (by simp))
    have b0 : Hid (Below w.heap.size w (kal8 (kal4 (kal4 (kal4 w (m)) (a)) (b)) (l) (h))) := (((((Below.refl _ _).alloc (Nat.le_refl _) _).alloc (by simp <;> omega) _).alloc (by simp <;> omega) _).alloc (by simp <;> omega) _)
    go_wp2_with fail
    refine (SN _).mono ?_
    rintro e w1 ⟨rfl, hb1⟩
    have s1 : Hid (Kn w1 [(w.heap.size + 1 + 1 + 1, (c8 (l) (h))), (w.heap.size + 1 + 1, (c4 (b))), (w.heap.size + 1, (c4 (a))), (w.heap.size, (c4 (m)))]) := s0.out.up hb1
    have b1 : Hid (Below w.heap.size w w1) := b0.out.trans (hb1.mono b0.out.size)
    have z1 := b1.out.size
    clear hb1 s0 b0
    have um_0 : w1.cell? ⟨w.heap.size, 0, none⟩ = some (.int .u64 (m).a) := Kn.get s1.out 3 0 rfl rfl
    have um_1 : w1.cell? ⟨w.heap.size, 1, none⟩ = some (.int .u64 (m).b) := Kn.get s1.out 3 1 rfl rfl
    have um_2 : w1.cell? ⟨w.heap.size, 2, none⟩ = some (.int .u64 (m).c) := Kn.get s1.out 3 2 rfl rfl
    have um_3 : w1.cell? ⟨w.heap.size, 3, none⟩ = some (.int .u64 (m).d) := Kn.get s1.out 3 3 rfl rfl
    go_wp2_with fail
    clear um_0 um_1 um_2 um_3
    go_ret
    exact ⟨rfl, b1.out⟩
  · subst hm
    have e1 := eqN ⟨1, 0, 0, 0⟩ ⟨1, 0, 0, 0⟩
    rw [Nm.beq_self] at e1
    go_enter Try.func3, Try.ntmps3
    have s0 : Hid (Kn (kal8 (kal4 (kal4 (kal4 w ((⟨1, 0, 0, 0⟩ : Nm))) (a)) (b)) (l) (h)) [(w.heap.size + 1 + 1 + 1, (c8 (l) (h))), (w.heap.size + 1 + 1, (c4 (b))), (w.heap.size + 1, (c4 (a))), (w.heap.size, (c4 ((⟨1, 0, 0, 0⟩ : Nm))))]) := (((((Kn.nil w).al (c4 ((⟨1, 0, 0, 0⟩ : Nm))) 24 rfl).al (c4 (a)) 24 (by simp)).al (c4 (b)) 24 (by simp)).al (c8 (l) (h)) 26 (by simp))
    have b0 : Hid (Below w.heap.size w (kal8 (kal4 (kal4 (kal4 w ((⟨1, 0, 0, 0⟩ : Nm))) (a)) (b)) (l) (h))) := (((((Below.refl _ _).alloc (Nat.le_refl _) _).alloc (by simp <;> omega) _).alloc (by simp <;> omega) _).alloc (by simp <;> omega) _)
    go_wp2_with fail
    refine (SN _).mono ?_
    rintro e w1 ⟨rfl, hb1⟩
    have s1 : Hid (Kn w1 [(w.heap.size + 1 + 1 + 1, (c8 (l) (h))), (w.heap.size + 1 + 1, (c4 (b))), (w.heap.size + 1, (c4 (a))), (w.heap.size, (c4 ((⟨1, 0, 0, 0⟩ : Nm))))]) := s0.out.up hb1
    have b1 : Hid (Below w.heap.size w w1) := b0.out.trans (hb1.mono b0.out.size)
    have z1 := b1.out.size
    clear hb1 s0 b0
    have um_0 : w1.cell? ⟨w.heap.size, 0, none⟩ = some (.int .u64 ((⟨1, 0, 0, 0⟩ : Nm)).a) := Kn.get s1.out 3 0 rfl rfl
    have um_1 : w1.cell? ⟨w.heap.size, 1, none⟩ = some (.int .u64 ((⟨1, 0, 0, 0⟩ : Nm)).b) := Kn.get s1.out 3 1 rfl rfl
    have um_2 : w1.cell? ⟨w.heap.size, 2, none⟩ = some (.int .u64 ((⟨1, 0, 0, 0⟩ : Nm)).c) := Kn.get s1.out 3 2 rfl rfl
    have um_3 : w1.cell? ⟨w.heap.size, 3, none⟩ = some (.int .u64 ((⟨1, 0, 0, 0⟩ : Nm)).d) := Kn.get s1.out 3 3 rfl rfl
    go_wp2_with fail
    clear um_0 um_1 um_2 um_3
    go_ret
    exact ⟨rfl, b1.out⟩
set_option maxHeartbeats 2000000 in
theorem ringOut_good (m iv on tw a b l h x y o back lo q ab pl ph : Nm) (c d : Int)
    (SN : ∀ w, Calls Try.prog 7 #[N m] w fun e w' => (∃ k, w.heap.size ≤ k ∧ e = .returned (.tuple #[rp k, .int .i64 0]) ∧ Blk w' k (c16 m iv on tw)) ∧ Below w.heap.size w w')
    (SX : ∀ k w, RingAt w k m iv on tw → Calls Try.prog 8 #[rp k, N a] w fun e w' => e = .returned (N x) ∧ Below w.heap.size w w')
    (SY : ∀ k w, RingAt w k m iv on tw → Calls Try.prog 8 #[rp k, N b] w fun e w' => e = .returned (N y) ∧ Below w.heap.size w w')
    (SO : ∀ k w, RingAt w k m iv on tw → Calls Try.prog 11 #[rp k, Wv l h] w fun e w' => e = .returned (N o) ∧ Below w.heap.size w w')
    (M1 : ∀ w, Calls Try.prog 9 #[Wv ⟨0, 0, 0, 0⟩ o, N m] w fun e w' => e = .returned (.tuple #[N back, .int .i64 c]) ∧ Below w.heap.size w w')
    (M2 : ∀ w, Calls Try.prog 9 #[Wv l h, N m] w fun e w' => e = .returned (.tuple #[N back, .int .i64 d]) ∧ Below w.heap.size w w')
    (O1 : ∀ k w, RingAt w k m iv on tw → Calls Try.prog 11 #[rp k, Wv x ⟨0, 0, 0, 0⟩] w fun e w' => e = .returned (N lo) ∧ Below w.heap.size w w')
    (A1 : ∀ k w, RingAt w k m iv on tw → Calls Try.prog 13 #[rp k, N a, N ⟨0, 0, 0, 0⟩] w fun e w' => e = .returned (N lo) ∧ Below w.heap.size w w')
    (P1 : ∀ w, Calls Try.prog 14 #[N x, N y] w fun e w' => e = .returned (Wv pl ph) ∧ Below w.heap.size w w')
    (O2 : ∀ k w, RingAt w k m iv on tw → Calls Try.prog 11 #[rp k, Wv pl ph] w fun e w' => e = .returned (N q) ∧ Below w.heap.size w w')
    (T1 : ∀ k w, RingAt w k m iv on tw → Calls Try.prog 15 #[rp k, N a, N b] w fun e w' => e = .returned (N ab) ∧ Below w.heap.size w w')
    (I2 : ∀ k w, RingAt w k m iv on tw → Calls Try.prog 8 #[rp k, N ab] w fun e w' => e = .returned (N q) ∧ Below w.heap.size w w')
    (O3 : ∀ k w, RingAt w k m iv on tw → Calls Try.prog 11 #[rp k, Wv ⟨0, 0, 0, 0⟩ a] w fun e w' => e = .returned (N lo) ∧ Below w.heap.size w w')
    (w : World) :
    Calls Try.prog 3 #[N m, N a, N b, Wv l h] w fun e w' => e = .returned (.bool true) ∧ Below w.heap.size w w' := by
  have e1 := eqN back back
  rw [Nm.beq_self] at e1
  have e2 := eqN lo lo
  rw [Nm.beq_self] at e2
  have e3 := eqN q q
  rw [Nm.beq_self] at e3
  go_enter Try.func3, Try.ntmps3
  have s0 : Hid (Kn (kal8 (kal4 (kal4 (kal4 w (m)) (a)) (b)) (l) (h)) [(w.heap.size + 1 + 1 + 1, (c8 (l) (h))), (w.heap.size + 1 + 1, (c4 (b))), (w.heap.size + 1, (c4 (a))), (w.heap.size, (c4 (m)))]) := (((((Kn.nil w).al (c4 (m)) 24 rfl).al (c4 (a)) 24 (by simp)).al (c4 (b)) 24 (by simp)).al (c8 (l) (h)) 26 (by simp))
  have b0 : Hid (Below w.heap.size w (kal8 (kal4 (kal4 (kal4 w (m)) (a)) (b)) (l) (h))) := (((((Below.refl _ _).alloc (Nat.le_refl _) _).alloc (by simp <;> omega) _).alloc (by simp <;> omega) _).alloc (by simp <;> omega) _)
  go_wp2_with fail
  refine (SN _).mono ?_
  rintro e w1 ⟨⟨kr, hkr, rfl, hBr⟩, hb1⟩
  have s1 : Hid (Kn w1 [(kr, (c16 m iv on tw)), (w.heap.size + 1 + 1 + 1, (c8 (l) (h))), (w.heap.size + 1 + 1, (c4 (b))), (w.heap.size + 1, (c4 (a))), (w.heap.size, (c4 (m)))]) := s0.out.fresh_of hb1 hkr hBr
  have b1 : Hid (Below w.heap.size w w1) := b0.out.trans (hb1.mono b0.out.size)
  have z1 := b1.out.size
  clear hb1 s0 b0 hBr hkr
  go_wp2_with fail
  refine wp_region_vars2 6 (.cells #[.int .u64 0, .int .u64 0, .int .u64 0, .int .u64 0] 24) (.cells #[.int .u64 0, .int .u64 0, .int .u64 0, .int .u64 0] 24) (.cells #[.int .u64 (x).a, .int .u64 (x).b, .int .u64 (x).c, .int .u64 (x).d] 24) (.cells #[.int .u64 (y).a, .int .u64 (y).b, .int .u64 (y).c, .int .u64 (y).d] 24) (by kernel_rfl) (by kernel_rfl) (by kernel_rfl) (by kernel_rfl) rfl rfl rfl rfl (by decide) rfl rfl (fun _ _ => by kernel_rfl) (fun _ _ => by kernel_rfl) ?_
  apply Exists.intro
  refine ⟨fun U hU f hf hcl => ?_, fun k j W hc => ?_, fun k j W hc => ?_, fun k2 j2 w2 hb2 hk2 hj2 hn2 hc2 hd2 => ?_⟩
  · skip
    have ua_0 := fun nx => (Kn.get (s1.out.up (hf nx).out) 3 0 rfl rfl : (f nx).cell? ⟨w.heap.size + 1, 0, none⟩ = some (.int .u64 (a).a))
    have ua_1 := fun nx => (Kn.get (s1.out.up (hf nx).out) 3 1 rfl rfl : (f nx).cell? ⟨w.heap.size + 1, 1, none⟩ = some (.int .u64 (a).b))
    have ua_2 := fun nx => (Kn.get (s1.out.up (hf nx).out) 3 2 rfl rfl : (f nx).cell? ⟨w.heap.size + 1, 2, none⟩ = some (.int .u64 (a).c))
    have ua_3 := fun nx => (Kn.get (s1.out.up (hf nx).out) 3 3 rfl rfl : (f nx).cell? ⟨w.heap.size + 1, 3, none⟩ = some (.int .u64 (a).d))
    have ub_0 := fun nx => (Kn.get (s1.out.up (hf nx).out) 2 0 rfl rfl : (f nx).cell? ⟨w.heap.size + 1 + 1, 0, none⟩ = some (.int .u64 (b).a))
    have ub_1 := fun nx => (Kn.get (s1.out.up (hf nx).out) 2 1 rfl rfl : (f nx).cell? ⟨w.heap.size + 1 + 1, 1, none⟩ = some (.int .u64 (b).b))
    have ub_2 := fun nx => (Kn.get (s1.out.up (hf nx).out) 2 2 rfl rfl : (f nx).cell? ⟨w.heap.size + 1 + 1, 2, none⟩ = some (.int .u64 (b).c))
    have ub_3 := fun nx => (Kn.get (s1.out.up (hf nx).out) 2 3 rfl rfl : (f nx).cell? ⟨w.heap.size + 1 + 1, 3, none⟩ = some (.int .u64 (b).d))
    have RR := fun nx => (RingAt.ofKn (s1.out.up (hf nx).out) 0 rfl : RingAt (f nx) kr m iv on tw)
    clear hf
    simp only [List.take_succ_cons, List.take_zero]
    repeat (go_big_quiet_step (first | (go_at_call_of 8 a.a; exact (SX _ _ (RR _)).mono fun e w'' ⟨he, hb⟩ => ⟨he, hcl.out _ _ hb⟩) | (go_at_call_of 8 b.a; exact (SY _ _ (RR _)).mono fun e w'' ⟨he, hb⟩ => ⟨he, hcl.out _ _ hb⟩)))
    exact wpQuiet_nil rfl
  · obtain ⟨c0, c1, c2, c3, cz⟩ := cells4 hc.out
    exact ⟨(st4 W k (x)), by simp [execOp, go_sem, c0, c1, c2, c3, cz], by first | exact heap_st4 hc.out _ | exact heap_st8 hc.out _ _, fun hk => by first | exact below_st4 (Below.refl _ _) hk | exact below_st8 (Below.refl _ _) hk, fun b hb => by first | exact heap_st4_ne hb | exact heap_st8_ne hb⟩
  · obtain ⟨c0, c1, c2, c3, cz⟩ := cells4 hc.out
    exact ⟨(st4 W j (y)), by simp [execOp, go_sem, c0, c1, c2, c3, cz], by first | exact heap_st4 hc.out _ | exact heap_st8 hc.out _ _, fun hk => by first | exact below_st4 (Below.refl _ _) hk | exact below_st8 (Below.refl _ _) hk, fun b hb => by first | exact heap_st4_ne hb | exact heap_st8_ne hb⟩
  simp only [Act.put, List.setIfInBounds_toArray, List.set_cons_succ, List.set_cons_zero]
  have z2 := b1.out.size
  have g2 : w.heap.size ≤ k2 := Nat.le_trans b1.out.size hk2
  have gj2 : w.heap.size ≤ j2 := Nat.le_trans b1.out.size hj2
  have s2 : Hid (Kn w2 [(k2, (c4 (x))), (j2, (c4 (y))), (kr, (c16 m iv on tw)), (w.heap.size + 1 + 1 + 1, (c8 (l) (h))), (w.heap.size + 1 + 1, (c4 (b))), (w.heap.size + 1, (c4 (a))), (w.heap.size, (c4 (m)))]) := s1.out.two hb2.out hk2 hj2 hn2.out hc2.out hd2.out
  have b2 : Hid (Below w.heap.size w w2) := b1.out.trans (hb2.out.mono b1.out.size)
  clear s1 b1 hb2 hc2 hd2 hk2 hj2
  go_wp2_with fail
  refine wp_region_alloc1 10 (.cells #[.int .u64 0, .int .u64 0, .int .u64 0, .int .u64 0] 24) (by kernel_rfl) (by kernel_rfl) (by kernel_rfl) (by kernel_rfl) (by decide) (fun _ _ d _ _ h => by cases d <;> exact h) rfl rfl (fun _ _ => by kernel_rfl) ?_
  apply Exists.intro
  refine ⟨fun U hU f hf hcl => ?_, fun k3 w3 hb3 hk3 hc3 => ?_⟩
  · skip
    have ut_0 := fun nx => (Kn.get (s2.out.up (hf nx).out) 3 0 rfl rfl : (f nx).cell? ⟨w.heap.size + 1 + 1 + 1, 0, none⟩ = some (.int .u64 (l).a))
    have ut_1 := fun nx => (Kn.get (s2.out.up (hf nx).out) 3 1 rfl rfl : (f nx).cell? ⟨w.heap.size + 1 + 1 + 1, 1, none⟩ = some (.int .u64 (l).b))
    have ut_2 := fun nx => (Kn.get (s2.out.up (hf nx).out) 3 2 rfl rfl : (f nx).cell? ⟨w.heap.size + 1 + 1 + 1, 2, none⟩ = some (.int .u64 (l).c))
    have ut_3 := fun nx => (Kn.get (s2.out.up (hf nx).out) 3 3 rfl rfl : (f nx).cell? ⟨w.heap.size + 1 + 1 + 1, 3, none⟩ = some (.int .u64 (l).d))
    have ut_4 := fun nx => (Kn.get (s2.out.up (hf nx).out) 3 4 rfl rfl : (f nx).cell? ⟨w.heap.size + 1 + 1 + 1, 4, none⟩ = some (.int .u64 (h).a))
    have ut_5 := fun nx => (Kn.get (s2.out.up (hf nx).out) 3 5 rfl rfl : (f nx).cell? ⟨w.heap.size + 1 + 1 + 1, 5, none⟩ = some (.int .u64 (h).b))
    have ut_6 := fun nx => (Kn.get (s2.out.up (hf nx).out) 3 6 rfl rfl : (f nx).cell? ⟨w.heap.size + 1 + 1 + 1, 6, none⟩ = some (.int .u64 (h).c))
    have ut_7 := fun nx => (Kn.get (s2.out.up (hf nx).out) 3 7 rfl rfl : (f nx).cell? ⟨w.heap.size + 1 + 1 + 1, 7, none⟩ = some (.int .u64 (h).d))
    have um_0 := fun nx => (Kn.get (s2.out.up (hf nx).out) 6 0 rfl rfl : (f nx).cell? ⟨w.heap.size, 0, none⟩ = some (.int .u64 (m).a))
    have um_1 := fun nx => (Kn.get (s2.out.up (hf nx).out) 6 1 rfl rfl : (f nx).cell? ⟨w.heap.size, 1, none⟩ = some (.int .u64 (m).b))
    have um_2 := fun nx => (Kn.get (s2.out.up (hf nx).out) 6 2 rfl rfl : (f nx).cell? ⟨w.heap.size, 2, none⟩ = some (.int .u64 (m).c))
    have um_3 := fun nx => (Kn.get (s2.out.up (hf nx).out) 6 3 rfl rfl : (f nx).cell? ⟨w.heap.size, 3, none⟩ = some (.int .u64 (m).d))
    have RR := fun nx => (RingAt.ofKn (s2.out.up (hf nx).out) 2 rfl : RingAt (f nx) kr m iv on tw)
    clear hf
    simp only [List.take_succ_cons, List.take_zero]
    repeat (go_big_quiet_step (first | (go_at_call 11; exact (SO _ _ (RR _)).mono fun e w'' ⟨he, hb⟩ => ⟨he, hcl.out _ _ hb⟩) | (go_at_call 10; exact (wideOf_fun ⟨0, 0, 0, 0⟩ o _).mono fun e w'' ⟨he, hb⟩ => ⟨he, hcl.out _ _ hb⟩) | (go_at_call 9; exact (M1 _).mono fun e w'' ⟨he, hb⟩ => ⟨he, hcl.out _ _ hb⟩)))
    exact wpQuiet_nil rfl
  simp only [List.drop_succ_cons, List.drop_zero]
  have z3 := b2.out.size
  have s3x : Hid (Kn w3 [(k3, zz4), (k2, (c4 (x))), (j2, (c4 (y))), (kr, (c16 m iv on tw)), (w.heap.size + 1 + 1 + 1, (c8 (l) (h))), (w.heap.size + 1 + 1, (c4 (b))), (w.heap.size + 1, (c4 (a))), (w.heap.size, (c4 (m)))]) := s2.out.fresh hb3.out hk3 hc3.out
  have g3 : w.heap.size ≤ k3 := Nat.le_trans b2.out.size hk3
  have cz3_0 : w3.cell? ⟨k3, 0, none⟩ = some (.int .u64 0) := Kn.get s3x.out 0 0 rfl rfl
  have cz3_1 : w3.cell? ⟨k3, 1, none⟩ = some (.int .u64 0) := Kn.get s3x.out 0 1 rfl rfl
  have cz3_2 : w3.cell? ⟨k3, 2, none⟩ = some (.int .u64 0) := Kn.get s3x.out 0 2 rfl rfl
  have cz3_3 : w3.cell? ⟨k3, 3, none⟩ = some (.int .u64 0) := Kn.get s3x.out 0 3 rfl rfl
  have cz3 : ∀ j, w3.frozen? ⟨k3, j, none⟩ = false := Kn.fz s3x.out 0 rfl
  have s3 : Hid (Kn (st4 w3 k3 (back)) [(k3, (c4 (back))), (k2, (c4 (x))), (j2, (c4 (y))), (kr, (c16 m iv on tw)), (w.heap.size + 1 + 1 + 1, (c8 (l) (h))), (w.heap.size + 1 + 1, (c4 (b))), (w.heap.size + 1, (c4 (a))), (w.heap.size, (c4 (m)))]) := s3x.out.st4 (back)
  have b3 : Hid (Below w.heap.size w (st4 w3 k3 (back))) := below_st4 (b2.out.trans (hb3.out.mono b2.out.size)) g3
  clear s3x s2 b2 hb3 hc3 hk3
  have ut_0 : (st4 w3 k3 (back)).cell? ⟨w.heap.size + 1 + 1 + 1, 0, none⟩ = some (.int .u64 (l).a) := Kn.get s3.out 4 0 rfl rfl
  have ut_1 : (st4 w3 k3 (back)).cell? ⟨w.heap.size + 1 + 1 + 1, 1, none⟩ = some (.int .u64 (l).b) := Kn.get s3.out 4 1 rfl rfl
  have ut_2 : (st4 w3 k3 (back)).cell? ⟨w.heap.size + 1 + 1 + 1, 2, none⟩ = some (.int .u64 (l).c) := Kn.get s3.out 4 2 rfl rfl
  have ut_3 : (st4 w3 k3 (back)).cell? ⟨w.heap.size + 1 + 1 + 1, 3, none⟩ = some (.int .u64 (l).d) := Kn.get s3.out 4 3 rfl rfl
  have ut_4 : (st4 w3 k3 (back)).cell? ⟨w.heap.size + 1 + 1 + 1, 4, none⟩ = some (.int .u64 (h).a) := Kn.get s3.out 4 4 rfl rfl
  have ut_5 : (st4 w3 k3 (back)).cell? ⟨w.heap.size + 1 + 1 + 1, 5, none⟩ = some (.int .u64 (h).b) := Kn.get s3.out 4 5 rfl rfl
  have ut_6 : (st4 w3 k3 (back)).cell? ⟨w.heap.size + 1 + 1 + 1, 6, none⟩ = some (.int .u64 (h).c) := Kn.get s3.out 4 6 rfl rfl
  have ut_7 : (st4 w3 k3 (back)).cell? ⟨w.heap.size + 1 + 1 + 1, 7, none⟩ = some (.int .u64 (h).d) := Kn.get s3.out 4 7 rfl rfl
  have um_0 : (st4 w3 k3 (back)).cell? ⟨w.heap.size, 0, none⟩ = some (.int .u64 (m).a) := Kn.get s3.out 7 0 rfl rfl
  have um_1 : (st4 w3 k3 (back)).cell? ⟨w.heap.size, 1, none⟩ = some (.int .u64 (m).b) := Kn.get s3.out 7 1 rfl rfl
  have um_2 : (st4 w3 k3 (back)).cell? ⟨w.heap.size, 2, none⟩ = some (.int .u64 (m).c) := Kn.get s3.out 7 2 rfl rfl
  have um_3 : (st4 w3 k3 (back)).cell? ⟨w.heap.size, 3, none⟩ = some (.int .u64 (m).d) := Kn.get s3.out 7 3 rfl rfl
  go_wp2_with fail
  clear cz3_0 cz3_1 cz3_2 cz3_3 cz3 ut_0 ut_1 ut_2 ut_3 ut_4 ut_5 ut_6 ut_7 um_0 um_1 um_2 um_3
  refine (M2 _).mono ?_
  rintro e w4 ⟨rfl, hb4⟩
  have s4 : Hid (Kn w4 [(k3, (c4 (back))), (k2, (c4 (x))), (j2, (c4 (y))), (kr, (c16 m iv on tw)), (w.heap.size + 1 + 1 + 1, (c8 (l) (h))), (w.heap.size + 1 + 1, (c4 (b))), (w.heap.size + 1, (c4 (a))), (w.heap.size, (c4 (m)))]) := s3.out.up hb4
  have b4 : Hid (Below w.heap.size w w4) := b3.out.trans (hb4.mono b3.out.size)
  have z4 := b4.out.size
  clear hb4 s3 b3
  have s5 : Hid (Kn (kal4 w4 (back)) [(w4.heap.size, (c4 (back))), (k3, (c4 (back))), (k2, (c4 (x))), (j2, (c4 (y))), (kr, (c16 m iv on tw)), (w.heap.size + 1 + 1 + 1, (c8 (l) (h))), (w.heap.size + 1 + 1, (c4 (b))), (w.heap.size + 1, (c4 (a))), (w.heap.size, (c4 (m)))]) := s4.out.al (c4 (back)) 24 rfl
  have b5 : Hid (Below w.heap.size w (kal4 w4 (back))) := b4.out.alloc b4.out.size _
  have z5 := b4.out.size
  clear s4 b4
  go_wp2_with fail
  refine wp_region_up (by kernel_rfl) (by kernel_rfl) (fun U hU f hf hcl => ?_)
  have uback_0 := fun nx => (Kn.get (s5.out.up (hf nx).out) 1 0 rfl rfl : (f nx).cell? ⟨k3, 0, none⟩ = some (.int .u64 (back).a))
  have uback_1 := fun nx => (Kn.get (s5.out.up (hf nx).out) 1 1 rfl rfl : (f nx).cell? ⟨k3, 1, none⟩ = some (.int .u64 (back).b))
  have uback_2 := fun nx => (Kn.get (s5.out.up (hf nx).out) 1 2 rfl rfl : (f nx).cell? ⟨k3, 2, none⟩ = some (.int .u64 (back).c))
  have uback_3 := fun nx => (Kn.get (s5.out.up (hf nx).out) 1 3 rfl rfl : (f nx).cell? ⟨k3, 3, none⟩ = some (.int .u64 (back).d))
  have uwant_0 := fun nx => (Kn.get (s5.out.up (hf nx).out) 0 0 rfl rfl : (f nx).cell? ⟨w4.heap.size, 0, none⟩ = some (.int .u64 (back).a))
  have uwant_1 := fun nx => (Kn.get (s5.out.up (hf nx).out) 0 1 rfl rfl : (f nx).cell? ⟨w4.heap.size, 1, none⟩ = some (.int .u64 (back).b))
  have uwant_2 := fun nx => (Kn.get (s5.out.up (hf nx).out) 0 2 rfl rfl : (f nx).cell? ⟨w4.heap.size, 2, none⟩ = some (.int .u64 (back).c))
  have uwant_3 := fun nx => (Kn.get (s5.out.up (hf nx).out) 0 3 rfl rfl : (f nx).cell? ⟨w4.heap.size, 3, none⟩ = some (.int .u64 (back).d))
  have ux_0 := fun nx => (Kn.get (s5.out.up (hf nx).out) 2 0 rfl rfl : (f nx).cell? ⟨k2, 0, none⟩ = some (.int .u64 (x).a))
  have ux_1 := fun nx => (Kn.get (s5.out.up (hf nx).out) 2 1 rfl rfl : (f nx).cell? ⟨k2, 1, none⟩ = some (.int .u64 (x).b))
  have ux_2 := fun nx => (Kn.get (s5.out.up (hf nx).out) 2 2 rfl rfl : (f nx).cell? ⟨k2, 2, none⟩ = some (.int .u64 (x).c))
  have ux_3 := fun nx => (Kn.get (s5.out.up (hf nx).out) 2 3 rfl rfl : (f nx).cell? ⟨k2, 3, none⟩ = some (.int .u64 (x).d))
  have uy_0 := fun nx => (Kn.get (s5.out.up (hf nx).out) 3 0 rfl rfl : (f nx).cell? ⟨j2, 0, none⟩ = some (.int .u64 (y).a))
  have uy_1 := fun nx => (Kn.get (s5.out.up (hf nx).out) 3 1 rfl rfl : (f nx).cell? ⟨j2, 1, none⟩ = some (.int .u64 (y).b))
  have uy_2 := fun nx => (Kn.get (s5.out.up (hf nx).out) 3 2 rfl rfl : (f nx).cell? ⟨j2, 2, none⟩ = some (.int .u64 (y).c))
  have uy_3 := fun nx => (Kn.get (s5.out.up (hf nx).out) 3 3 rfl rfl : (f nx).cell? ⟨j2, 3, none⟩ = some (.int .u64 (y).d))
  have ua_0 := fun nx => (Kn.get (s5.out.up (hf nx).out) 7 0 rfl rfl : (f nx).cell? ⟨w.heap.size + 1, 0, none⟩ = some (.int .u64 (a).a))
  have ua_1 := fun nx => (Kn.get (s5.out.up (hf nx).out) 7 1 rfl rfl : (f nx).cell? ⟨w.heap.size + 1, 1, none⟩ = some (.int .u64 (a).b))
  have ua_2 := fun nx => (Kn.get (s5.out.up (hf nx).out) 7 2 rfl rfl : (f nx).cell? ⟨w.heap.size + 1, 2, none⟩ = some (.int .u64 (a).c))
  have ua_3 := fun nx => (Kn.get (s5.out.up (hf nx).out) 7 3 rfl rfl : (f nx).cell? ⟨w.heap.size + 1, 3, none⟩ = some (.int .u64 (a).d))
  have ub_0 := fun nx => (Kn.get (s5.out.up (hf nx).out) 6 0 rfl rfl : (f nx).cell? ⟨w.heap.size + 1 + 1, 0, none⟩ = some (.int .u64 (b).a))
  have ub_1 := fun nx => (Kn.get (s5.out.up (hf nx).out) 6 1 rfl rfl : (f nx).cell? ⟨w.heap.size + 1 + 1, 1, none⟩ = some (.int .u64 (b).b))
  have ub_2 := fun nx => (Kn.get (s5.out.up (hf nx).out) 6 2 rfl rfl : (f nx).cell? ⟨w.heap.size + 1 + 1, 2, none⟩ = some (.int .u64 (b).c))
  have ub_3 := fun nx => (Kn.get (s5.out.up (hf nx).out) 6 3 rfl rfl : (f nx).cell? ⟨w.heap.size + 1 + 1, 3, none⟩ = some (.int .u64 (b).d))
  have RR := fun nx => (RingAt.ofKn (s5.out.up (hf nx).out) 4 rfl : RingAt (f nx) kr m iv on tw)
  skip
  repeat (go_big_quiet_step (first | (go_at_call 12; exact (wide_fun x _).mono fun e w'' ⟨he, hb⟩ => ⟨he, hcl.out _ _ hb⟩) | (go_at_call_of 11 (Wv x ⟨0, 0, 0, 0⟩); exact (O1 _ _ (RR _)).mono fun e w'' ⟨he, hb⟩ => ⟨he, hcl.out _ _ hb⟩) | (go_at_call 13; exact (A1 _ _ (RR _)).mono fun e w'' ⟨he, hb⟩ => ⟨he, hcl.out _ _ hb⟩) | (go_at_call 14; exact (P1 _).mono fun e w'' ⟨he, hb⟩ => ⟨he, hcl.out _ _ hb⟩) | (go_at_call_of 11 (Wv pl ph); exact (O2 _ _ (RR _)).mono fun e w'' ⟨he, hb⟩ => ⟨he, hcl.out _ _ hb⟩) | (go_at_call 15; exact (T1 _ _ (RR _)).mono fun e w'' ⟨he, hb⟩ => ⟨he, hcl.out _ _ hb⟩) | (go_at_call 8; exact (I2 _ _ (RR _)).mono fun e w'' ⟨he, hb⟩ => ⟨he, hcl.out _ _ hb⟩) | (go_at_call 10; exact (wideOf_fun ⟨0, 0, 0, 0⟩ a _).mono fun e w'' ⟨he, hb⟩ => ⟨he, hcl.out _ _ hb⟩) | (go_at_call_of 11 (Wv ⟨0, 0, 0, 0⟩ a); exact (O3 _ _ (RR _)).mono fun e w'' ⟨he, hb⟩ => ⟨he, hcl.out _ _ hb⟩)))
  refine wpQuiet_nil ?_
  intro nx
  have hb6 := (hf nx).out
  clear hf hcl uback_0 uback_1 uback_2 uback_3 uwant_0 uwant_1 uwant_2 uwant_3 ux_0 ux_1 ux_2 ux_3 uy_0 uy_1 uy_2 uy_3 ua_0 ua_1 ua_2 ua_3 ub_0 ub_1 ub_2 ub_3 RR
  generalize f nx = w6 at hb6 ⊢
  have s6 : Hid (Kn w6 [(w4.heap.size, (c4 (back))), (k3, (c4 (back))), (k2, (c4 (x))), (j2, (c4 (y))), (kr, (c16 m iv on tw)), (w.heap.size + 1 + 1 + 1, (c8 (l) (h))), (w.heap.size + 1 + 1, (c4 (b))), (w.heap.size + 1, (c4 (a))), (w.heap.size, (c4 (m)))]) := s5.out.up hb6
  have b6 : Hid (Below w.heap.size w w6) := b5.out.trans (hb6.mono b5.out.size)
  have z6 := b6.out.size
  clear hb6 s5 b5
  go_wp2_with fail
  go_ret
  exact ⟨rfl, b6.out⟩
theorem ringOut_law (m a b l h : Nm) (om : m.ok) (oa : a.ok) (ob : b.ok) (ol : l.ok) (oh : h.ok) (w : World) :
    Calls Try.prog 3 #[N m, N a, N b, Wv l h] w fun e w' => e = .returned (.bool true) ∧ Below w.heap.size w w' := by
  rcases odd_cases m om with hb | ⟨odd, big⟩
  · refine ringOut_bad m a b l h om ?_ (new_bad m om hb) w
    rcases hb with h | h
    · exact .inl (by have := Nm.nat_cast om; unfold Nm.val at this; omega)
    · exact .inr h
  have R := new_ok m om odd big
  have hm : 0 < m.nat := by omega
  have nz : m ≠ ⟨0, 0, 0, 0⟩ := fun e => by rw [e] at hm; exact absurd hm (by decide)
  have ia : ∀ x, (nm (x % m.nat)).nat = x % m.nat := fun x => nm_nat (mod_ok om hm _)
  have io : ∀ x, (nm (P.out m.nat x)).nat = P.out m.nat x := fun x => nm_nat (mod_ok om hm _)
  have v0 : V ⟨0, 0, 0, 0⟩ (nm (P.out m.nat (V l h))) % m.val.toNat = V l h % m.val.toNat := by
    rw [V_nat zero_ok' (nm_ok _), io, show (⟨0, 0, 0, 0⟩ : Nm).nat = 0 from rfl, Nat.zero_add, Nat.mul_comm]
    exact P.out_back odd _
  have M1 := mod_fun ⟨0, 0, 0, 0⟩ (nm (P.out m.nat (V l h))) m zero_ok' (nm_ok _) om nz
  rw [v0] at M1
  have O1 := fun k w hR => ringOut_fun (k := k) R (nm (a.nat * 2 ^ 256 % m.nat)) ⟨0, 0, 0, 0⟩ (nm_ok _) zero_ok' w hR
  rw [V_wide, ia, P.out_mod, P.out_in odd] at O1
  have A1 := fun k w hR => ringAdd_fun (k := k) R a ⟨0, 0, 0, 0⟩ oa zero_ok' w hR
  rw [show (⟨0, 0, 0, 0⟩ : Nm).nat = 0 from rfl, Nat.add_zero] at A1
  have O2 := fun k w hR => ringOut_fun (k := k) R (WL ((nm (a.nat * 2 ^ 256 % m.nat)).nat * (nm (b.nat * 2 ^ 256 % m.nat)).nat)) (WH ((nm (a.nat * 2 ^ 256 % m.nat)).nat * (nm (b.nat * 2 ^ 256 % m.nat)).nat)) (WL_ok _) (WH_ok _) w hR
  have eq2 : P.out m.nat (V (WL ((nm (a.nat * 2 ^ 256 % m.nat)).nat * (nm (b.nat * 2 ^ 256 % m.nat)).nat)) (WH ((nm (a.nat * 2 ^ 256 % m.nat)).nat * (nm (b.nat * 2 ^ 256 % m.nat)).nat))) = a.nat * b.nat * 2 ^ 256 % m.nat := by
    rw [V_of (mul_lt512 (nm_ok _) (nm_ok _)), ia, ia, P.out_mul odd, Nat.mul_mod, Nat.mod_mod, ← Nat.mul_mod, Nat.mul_assoc]
  rw [eq2] at O2
  have I2 := fun k w hR => in_fun (k := k) R (nm (a.nat * b.nat % m.nat)) (nm_ok _) w hR
  have eq3 : (nm (a.nat * b.nat % m.nat)).nat * 2 ^ 256 % m.nat = a.nat * b.nat * 2 ^ 256 % m.nat := by
    rw [ia, Nat.mul_mod, Nat.mod_mod, ← Nat.mul_mod]
  rw [eq3] at I2
  have O3 := fun k w hR => ringOut_fun (k := k) R ⟨0, 0, 0, 0⟩ a zero_ok' oa w hR
  rw [V_nat zero_ok' oa, show (⟨0, 0, 0, 0⟩ : Nm).nat = 0 from rfl, Nat.zero_add, Nat.mul_comm, P.out_in odd] at O3
  exact ringOut_good m (xk m 7) _ _ a b l h _ _ _ _ _ _ _ _ _ _ _ (new_good m om odd big) (fun k w hR => in_fun R a oa w hR) (fun k w hR => in_fun R b ob w hR) (fun k w hR => ringOut_fun R l h ol oh w hR) M1 (mod_fun l h m ol oh om nz) O1 A1 (mul_V _ _ (nm_ok _) (nm_ok _)) O2 (fun k w hR => ringMul_fun R a b oa ob w hR) I2 O3 w

set_option maxRecDepth 100000 in
theorem ringOut_lifted (os : Os) (started : os.Started) (H : Type) (enc : TypeId × Value → H) :
    ReturnsInHanded {} Try.checked os 3 .any (Rows.ringOutSpec.pre6 enc Try.prog Try.f3 Rows.ringOutRow.domain false) (Rows.ringOutSpec.post enc Try.prog Try.f3 false true false false) := by
  refine returnsInHanded_of_change (C := Try.checked) Try.own started (by kernel_rfl) Try.func3
    (ChangeSpec.witness6 (enc := enc) (C := Try.checked) false ⟨#[], #[.agg #[.int .u64 0, .int .u64 0, .int .u64 0, .int .u64 0], .agg #[.int .u64 0, .int .u64 0, .int .u64 0, .int .u64 0], .agg #[.int .u64 0, .int .u64 0, .int .u64 0, .int .u64 0], .agg #[.int .u64 0, .int .u64 0, .int .u64 0, .int .u64 0, .int .u64 0, .int .u64 0, .int .u64 0, .int .u64 0]], []⟩ 8 (by kernel_rfl) (by kernel_rfl) (by kernel_rfl) (by kernel_rfl)) ?_
  intro W base args ds gs before hval0 hW hcnd _
  have hval : ∀ (j : Nat) t v, Try.f3.params[j]? = some t → args[j]? = some v → Value.okWide Try.prog W .any base t v := hval0
  have hW' := hW
  obtain ⟨p, q, hA0, hV, rfl, hfz, hnd⟩ := hW
  have hA : DataW.TrodAll enc Try.prog W 0 (fun _ => true) true Try.f3.params.toList args.toList ds p := hA0
  rw [Try.params3] at hA hval
  obtain ⟨v0, v1, v2, v3, d0, d1, d2, d3, p0, p1, p2, p3, rfl, rfl, rfl, h0, h1, h2, h3⟩ := trodAll_four hA
  obtain ⟨rfl, rfl⟩ := trodVars_none hV
  obtain ⟨xs0, l0, rfl, rfl, rfl, w0⟩ := open_arr Try.underlying24 Try.underlying22 Try.cellsU64 Try.cellsNum (hval 0 24 v0 rfl rfl) h0
  obtain ⟨xs1, l1, rfl, rfl, rfl, w1⟩ := open_arr Try.underlying24 Try.underlying22 Try.cellsU64 Try.cellsNum (hval 1 24 v1 rfl rfl) h1
  obtain ⟨xs2, l2, rfl, rfl, rfl, w2⟩ := open_arr Try.underlying24 Try.underlying22 Try.cellsU64 Try.cellsNum (hval 2 24 v2 rfl rfl) h2
  obtain ⟨xs3, l3, rfl, rfl, rfl, w3⟩ := open_arr Try.underlying26 Try.underlying22 Try.cellsU64 Try.cellsWide (hval 3 26 v3 rfl rfl) h3
  clear hA0 hval0 hval hA h0 h1 h2 h3
  obtain ⟨a0, b0, c0, d0, rfl⟩ := list4 xs0 l0
  have ok0 : (⟨a0, b0, c0, d0⟩ : Nm).ok := ⟨word_of_wf (w0 _ (by simp)), word_of_wf (w0 _ (by simp)), word_of_wf (w0 _ (by simp)), word_of_wf (w0 _ (by simp))⟩
  obtain ⟨a1, b1, c1, d1, rfl⟩ := list4 xs1 l1
  have ok1 : (⟨a1, b1, c1, d1⟩ : Nm).ok := ⟨word_of_wf (w1 _ (by simp)), word_of_wf (w1 _ (by simp)), word_of_wf (w1 _ (by simp)), word_of_wf (w1 _ (by simp))⟩
  obtain ⟨a2, b2, c2, d2, rfl⟩ := list4 xs2 l2
  have ok2 : (⟨a2, b2, c2, d2⟩ : Nm).ok := ⟨word_of_wf (w2 _ (by simp)), word_of_wf (w2 _ (by simp)), word_of_wf (w2 _ (by simp)), word_of_wf (w2 _ (by simp))⟩
  obtain ⟨a3, b3, c3, d3, e3, f3, g3, i3, rfl⟩ := list8 xs3 l3
  have ok3 : (⟨a3, b3, c3, d3⟩ : Nm).ok := ⟨word_of_wf (w3 _ (by simp)), word_of_wf (w3 _ (by simp)), word_of_wf (w3 _ (by simp)), word_of_wf (w3 _ (by simp))⟩
  have okk3 : (⟨e3, f3, g3, i3⟩ : Nm).ok := ⟨word_of_wf (w3 _ (by simp)), word_of_wf (w3 _ (by simp)), word_of_wf (w3 _ (by simp)), word_of_wf (w3 _ (by simp))⟩
  simp only [List.append_nil] at hW'
  refine (ringOut_law ⟨a0, b0, c0, d0⟩ ⟨a1, b1, c1, d1⟩ ⟨a2, b2, c2, d2⟩ ⟨a3, b3, c3, d3⟩ ⟨e3, f3, g3, i3⟩ ok0 ok1 ok2 ok3 okk3 W).mono fun e W' ⟨he, hg⟩ => ?_
  subst he
  exact ⟨_, rfl, _, _, _, [], [], [], hW', trodAll_mk1 (shut_bool Try.underlying4 _), trodAll_mk4 (shut_arr Try.underlying24 Try.underlying22 Try.cellsU64 Try.cellsNum l0 w0) (shut_arr Try.underlying24 Try.underlying22 Try.cellsU64 Try.cellsNum l1 w1) (shut_arr Try.underlying24 Try.underlying22 Try.cellsU64 Try.cellsNum l2 w2) (shut_arr Try.underlying26 Try.underlying22 Try.cellsU64 Try.cellsWide l3 w3), rfl, hg.frame _, fun h => by cases h⟩

theorem ringOut_holds : Rows.RingOutSaid :=
  OpenClaim.holds_of_wide 3 Try.f3 rfl rfl rfl rfl rfl rfl rfl ⟨rfl, rfl, rfl, rfl, rfl⟩ rfl rfl rfl rfl rfl (by kernel_rfl) Try.func3 (by kernel_rfl)
    (of_decide_eq_true (by kernel_rfl)) (by unfold Func.isWrapper; first | (rw [if_pos (by decide +kernel)]; kernel_rfl) | (rw [if_neg (by decide +kernel)]; exact ⟨rfl, rfl⟩))
    (fun os started H enc _ => ringOut_lifted os started H enc)
#print axioms ringOut_holds
end Go.Proofs.Ytgdekdmdidahdab
