/- The walks of a ring's methods. -/
import Derived.Test.YtkgfeacednomfaaRingAt
import Derived.Test.YtkgfeacednomfaaHalf
import Derived.Test.YtkgfeacednomfaaCmp
namespace Go.Proofs.Ytkgfeacednomfaa
open Go.RowKit
attribute [local go_sem] World.cell?_alloc_some frozen?_alloc_cells frozen_out
set_option maxHeartbeats 1000000 in
theorem fold_walk (k : Nat) (m iv on tw l h p ol oh xl xh : Nm)
    (SM : ∀ w, Calls Try.prog 17 #[N l, N iv] w fun e w' => e = .returned (Wv ol oh) ∧ Below w.heap.size w w')
    (SN : ∀ w, Calls Try.prog 17 #[N ol, N m] w fun e w' => e = .returned (Wv xl xh) ∧ Below w.heap.size w w')
    (SL : ∀ w, RingAt w k m iv on tw → Calls Try.prog 70 #[rp k, N h, N xh] w fun e w' => e = .returned (N p) ∧ Below w.heap.size w w')
    (w : World) (hR : Hid (RingAt w k m iv on tw)) :
    Calls Try.prog 71 #[rp k, Wv l h] w fun e w' => e = .returned (N p) ∧ Below w.heap.size w w' := by
  go_enter Try.func71, Try.ntmps71
  have s0 : Hid (Kn (kz4 (kal8 w (l) (h))) [(w.heap.size + 1, zz4), (w.heap.size, (c8 (l) (h)))]) := (((Kn.nil w).al (c8 (l) (h)) 34 rfl).al zz4 24 (by simp))
  have b0 : Hid (Below w.heap.size w (kz4 (kal8 w (l) (h)))) := (((Below.refl _ _).alloc (Nat.le_refl _) _).alloc (by simp <;> omega) _)
  go_wp2_with fail
  refine wp_region_alloc1 8 (.cells #[.int .u64 0, .int .u64 0, .int .u64 0, .int .u64 0] 24) (by kernel_rfl) (by kernel_rfl) (by kernel_rfl) (by kernel_rfl) (by decide) (fun _ _ d _ _ h => by cases d <;> exact h) rfl rfl (fun _ _ => by kernel_rfl) ?_
  apply Exists.intro
  refine ⟨fun U hU f hf hcl => ?_, fun k1 w1 hb1 hk1 hc1 => ?_⟩
  · skip
    have ut_0 := fun nx => (Kn.get (s0.out.up (hf nx).out) 1 0 rfl rfl : (f nx).cell? ⟨w.heap.size, 0, none⟩ = some (.int .u64 (l).a))
    have ut_1 := fun nx => (Kn.get (s0.out.up (hf nx).out) 1 1 rfl rfl : (f nx).cell? ⟨w.heap.size, 1, none⟩ = some (.int .u64 (l).b))
    have ut_2 := fun nx => (Kn.get (s0.out.up (hf nx).out) 1 2 rfl rfl : (f nx).cell? ⟨w.heap.size, 2, none⟩ = some (.int .u64 (l).c))
    have ut_3 := fun nx => (Kn.get (s0.out.up (hf nx).out) 1 3 rfl rfl : (f nx).cell? ⟨w.heap.size, 3, none⟩ = some (.int .u64 (l).d))
    have ut_4 := fun nx => (Kn.get (s0.out.up (hf nx).out) 1 4 rfl rfl : (f nx).cell? ⟨w.heap.size, 4, none⟩ = some (.int .u64 (h).a))
    have ut_5 := fun nx => (Kn.get (s0.out.up (hf nx).out) 1 5 rfl rfl : (f nx).cell? ⟨w.heap.size, 5, none⟩ = some (.int .u64 (h).b))
    have ut_6 := fun nx => (Kn.get (s0.out.up (hf nx).out) 1 6 rfl rfl : (f nx).cell? ⟨w.heap.size, 6, none⟩ = some (.int .u64 (h).c))
    have ut_7 := fun nx => (Kn.get (s0.out.up (hf nx).out) 1 7 rfl rfl : (f nx).cell? ⟨w.heap.size, 7, none⟩ = some (.int .u64 (h).d))
    have RR := fun nx => (hR.out.up ((b0.out).trans ((hf nx).out.mono b0.out.size)) : RingAt (f nx) _ _ _ _ _)
    have riv_a := fun nx => (RR nx).iv.a
    have riv_b := fun nx => (RR nx).iv.b
    have riv_c := fun nx => (RR nx).iv.c
    have riv_d := fun nx => (RR nx).iv.d
    clear hf
    simp only [List.take_succ_cons, List.take_zero]
    repeat (go_big_quiet_step (first | (go_at_call_of 73 l.a; exact (low_fun l h _).mono fun e w'' ⟨he, hb⟩ => ⟨he, hcl.out _ _ hb⟩) | (go_at_call 17; exact (SM _).mono fun e w'' ⟨he, hb⟩ => ⟨he, hcl.out _ _ hb⟩) | (go_at_call_of 73 (Wv ol oh); exact (low_fun ol oh _).mono fun e w'' ⟨he, hb⟩ => ⟨he, hcl.out _ _ hb⟩)))
    exact wpQuiet_nil rfl
  simp only [List.drop_succ_cons, List.drop_zero]
  have z1 := b0.out.size
  have s1x : Hid (Kn w1 [(k1, zz4), (w.heap.size + 1, zz4), (w.heap.size, (c8 (l) (h)))]) := s0.out.fresh hb1.out hk1 hc1.out
  have g1 : w.heap.size ≤ k1 := Nat.le_trans b0.out.size hk1
  have cz1_0 : w1.cell? ⟨k1, 0, none⟩ = some (.int .u64 0) := Kn.get s1x.out 0 0 rfl rfl
  have cz1_1 : w1.cell? ⟨k1, 1, none⟩ = some (.int .u64 0) := Kn.get s1x.out 0 1 rfl rfl
  have cz1_2 : w1.cell? ⟨k1, 2, none⟩ = some (.int .u64 0) := Kn.get s1x.out 0 2 rfl rfl
  have cz1_3 : w1.cell? ⟨k1, 3, none⟩ = some (.int .u64 0) := Kn.get s1x.out 0 3 rfl rfl
  have cz1 : ∀ j, w1.frozen? ⟨k1, j, none⟩ = false := Kn.fz s1x.out 0 rfl
  have s1 : Hid (Kn (st4 w1 k1 (ol)) [(k1, (c4 (ol))), (w.heap.size + 1, zz4), (w.heap.size, (c8 (l) (h)))]) := s1x.out.st4 (ol)
  have b1 : Hid (Below w.heap.size w (st4 w1 k1 (ol))) := below_st4 (b0.out.trans (hb1.out.mono b0.out.size)) g1
  clear s1x s0 b0 hb1 hc1 hk1
  go_wp2_with fail
  clear cz1_0 cz1_1 cz1_2 cz1_3 cz1
  refine wp_region_up_then 11 (by kernel_rfl) (by kernel_rfl) (by kernel_rfl) (by kernel_rfl) (by decide) (fun _ _ d _ _ h => by cases d <;> exact h) (fun U hU f hf hcl => ?_)
  have ut_0 := fun nx => (Kn.get (s1.out.up (hf nx).out) 2 0 rfl rfl : (f nx).cell? ⟨w.heap.size, 0, none⟩ = some (.int .u64 (l).a))
  have ut_1 := fun nx => (Kn.get (s1.out.up (hf nx).out) 2 1 rfl rfl : (f nx).cell? ⟨w.heap.size, 1, none⟩ = some (.int .u64 (l).b))
  have ut_2 := fun nx => (Kn.get (s1.out.up (hf nx).out) 2 2 rfl rfl : (f nx).cell? ⟨w.heap.size, 2, none⟩ = some (.int .u64 (l).c))
  have ut_3 := fun nx => (Kn.get (s1.out.up (hf nx).out) 2 3 rfl rfl : (f nx).cell? ⟨w.heap.size, 3, none⟩ = some (.int .u64 (l).d))
  have ut_4 := fun nx => (Kn.get (s1.out.up (hf nx).out) 2 4 rfl rfl : (f nx).cell? ⟨w.heap.size, 4, none⟩ = some (.int .u64 (h).a))
  have ut_5 := fun nx => (Kn.get (s1.out.up (hf nx).out) 2 5 rfl rfl : (f nx).cell? ⟨w.heap.size, 5, none⟩ = some (.int .u64 (h).b))
  have ut_6 := fun nx => (Kn.get (s1.out.up (hf nx).out) 2 6 rfl rfl : (f nx).cell? ⟨w.heap.size, 6, none⟩ = some (.int .u64 (h).c))
  have ut_7 := fun nx => (Kn.get (s1.out.up (hf nx).out) 2 7 rfl rfl : (f nx).cell? ⟨w.heap.size, 7, none⟩ = some (.int .u64 (h).d))
  have uo_0 := fun nx => (Kn.get (s1.out.up (hf nx).out) 0 0 rfl rfl : (f nx).cell? ⟨k1, 0, none⟩ = some (.int .u64 (ol).a))
  have uo_1 := fun nx => (Kn.get (s1.out.up (hf nx).out) 0 1 rfl rfl : (f nx).cell? ⟨k1, 1, none⟩ = some (.int .u64 (ol).b))
  have uo_2 := fun nx => (Kn.get (s1.out.up (hf nx).out) 0 2 rfl rfl : (f nx).cell? ⟨k1, 2, none⟩ = some (.int .u64 (ol).c))
  have uo_3 := fun nx => (Kn.get (s1.out.up (hf nx).out) 0 3 rfl rfl : (f nx).cell? ⟨k1, 3, none⟩ = some (.int .u64 (ol).d))
  have RR := fun nx => (hR.out.up ((b1.out).trans ((hf nx).out.mono b1.out.size)) : RingAt (f nx) _ _ _ _ _)
  have rm_a := fun nx => (RR nx).m.a
  have rm_b := fun nx => (RR nx).m.b
  have rm_c := fun nx => (RR nx).m.c
  have rm_d := fun nx => (RR nx).m.d
  simp only [List.take_succ_cons, List.take_zero, List.drop_succ_cons, List.drop_zero]
  repeat (go_big_quiet_step (first | (go_at_call_of 74 l.a; exact (high_fun l h _).mono fun e w'' ⟨he, hb⟩ => ⟨he, hcl.out _ _ hb⟩) | (go_at_call 17; exact (SN _).mono fun e w'' ⟨he, hb⟩ => ⟨he, hcl.out _ _ hb⟩) | (go_at_call_of 74 (Wv xl xh); exact (high_fun xl xh _).mono fun e w'' ⟨he, hb⟩ => ⟨he, hcl.out _ _ hb⟩) | (go_at_call 70; exact (SL _ (RR _)).mono fun e w'' ⟨he, hb⟩ => ⟨he, hcl.out _ _ hb⟩)))
  refine wpQuiet_nil ?_
  intro nx
  have hb2 := (hf nx).out
  clear hf hcl ut_0 ut_1 ut_2 ut_3 ut_4 ut_5 ut_6 ut_7 uo_0 uo_1 uo_2 uo_3 RR rm_a rm_b rm_c rm_d
  generalize f nx = w2 at hb2 ⊢
  have s2 : Hid (Kn w2 [(k1, (c4 (ol))), (w.heap.size + 1, zz4), (w.heap.size, (c8 (l) (h)))]) := s1.out.up hb2
  have b2 : Hid (Below w.heap.size w w2) := b1.out.trans (hb2.mono b1.out.size)
  have z2 := b2.out.size
  clear hb2 s1 b1
  have uro_0 : w2.cell? ⟨w.heap.size + 1, 0, none⟩ = some (.int .u64 0) := Kn.get s2.out 1 0 rfl rfl
  have uro_1 : w2.cell? ⟨w.heap.size + 1, 1, none⟩ = some (.int .u64 0) := Kn.get s2.out 1 1 rfl rfl
  have uro_2 : w2.cell? ⟨w.heap.size + 1, 2, none⟩ = some (.int .u64 0) := Kn.get s2.out 1 2 rfl rfl
  have uro_3 : w2.cell? ⟨w.heap.size + 1, 3, none⟩ = some (.int .u64 0) := Kn.get s2.out 1 3 rfl rfl
  have uro_z : ∀ j, w2.frozen? ⟨w.heap.size + 1, j, none⟩ = false := Kn.fz s2.out 1 rfl
  have s3 : Hid (Kn (st4 w2 (w.heap.size + 1) (p)) [(w.heap.size + 1, (c4 (p))), (k1, (c4 (ol))), (w.heap.size, (c8 (l) (h)))]) := Kn.st4 (L := [(k1, (c4 (ol))), (w.heap.size, (c8 (l) (h)))]) (s2.out.front 1 rfl) (p)
  have b3 : Hid (Below w.heap.size w (st4 w2 (w.heap.size + 1) (p))) := below_st4 b2.out (by omega)
  clear s2 b2
  go_wp2_with fail
  clear uro_0 uro_1 uro_2 uro_3 uro_z
  have urr_0 : (st4 w2 (w.heap.size + 1) (p)).cell? ⟨w.heap.size + 1, 0, none⟩ = some (.int .u64 (p).a) := Kn.get s3.out 0 0 rfl rfl
  have urr_1 : (st4 w2 (w.heap.size + 1) (p)).cell? ⟨w.heap.size + 1, 1, none⟩ = some (.int .u64 (p).b) := Kn.get s3.out 0 1 rfl rfl
  have urr_2 : (st4 w2 (w.heap.size + 1) (p)).cell? ⟨w.heap.size + 1, 2, none⟩ = some (.int .u64 (p).c) := Kn.get s3.out 0 2 rfl rfl
  have urr_3 : (st4 w2 (w.heap.size + 1) (p)).cell? ⟨w.heap.size + 1, 3, none⟩ = some (.int .u64 (p).d) := Kn.get s3.out 0 3 rfl rfl
  refine bodyPost_ret (v := N p) ?_ rfl ⟨rfl, b3.out⟩
  show (results Try.f71 _).run Try.prog (st4 w2 (w.heap.size + 1) (p)) = .ok _ (st4 w2 (w.heap.size + 1) (p))
  clear s3 b3
  generalize (st4 w2 (w.heap.size + 1) (p)) = W9 at *
  simp [results, Try.results71, go_sem, urr_0, urr_1, urr_2, urr_3]
set_option maxHeartbeats 1000000 in
theorem in_walk (k : Nat) (m iv on tw a xl xh p : Nm)
    (SM : ∀ w, Calls Try.prog 17 #[N a, N tw] w fun e w' => e = .returned (Wv xl xh) ∧ Below w.heap.size w w')
    (SF : ∀ w, RingAt w k m iv on tw → Calls Try.prog 71 #[rp k, Wv xl xh] w fun e w' => e = .returned (N p) ∧ Below w.heap.size w w')
    (w : World) (hR : Hid (RingAt w k m iv on tw)) :
    Calls Try.prog 37 #[rp k, N a] w fun e w' => e = .returned (N p) ∧ Below w.heap.size w w' := by
  go_enter Try.func37, Try.ntmps37
  have s0 : Hid (Kn (kz4 (kal4 w (a))) [(w.heap.size + 1, zz4), (w.heap.size, (c4 (a)))]) := (((Kn.nil w).al (c4 (a)) 24 rfl).al zz4 24 (by simp))
  have b0 : Hid (Below w.heap.size w (kz4 (kal4 w (a)))) := (((Below.refl _ _).alloc (Nat.le_refl _) _).alloc (by simp <;> omega) _)
  go_wp2_with fail
  refine wp_region_up_then 8 (by kernel_rfl) (by kernel_rfl) (by kernel_rfl) (by kernel_rfl) (by decide) (fun _ _ d _ _ h => by cases d <;> exact h) (fun U hU f hf hcl => ?_)
  have ua_0 := fun nx => (Kn.get (s0.out.up (hf nx).out) 1 0 rfl rfl : (f nx).cell? ⟨w.heap.size, 0, none⟩ = some (.int .u64 (a).a))
  have ua_1 := fun nx => (Kn.get (s0.out.up (hf nx).out) 1 1 rfl rfl : (f nx).cell? ⟨w.heap.size, 1, none⟩ = some (.int .u64 (a).b))
  have ua_2 := fun nx => (Kn.get (s0.out.up (hf nx).out) 1 2 rfl rfl : (f nx).cell? ⟨w.heap.size, 2, none⟩ = some (.int .u64 (a).c))
  have ua_3 := fun nx => (Kn.get (s0.out.up (hf nx).out) 1 3 rfl rfl : (f nx).cell? ⟨w.heap.size, 3, none⟩ = some (.int .u64 (a).d))
  have RR := fun nx => (hR.out.up ((b0.out).trans ((hf nx).out.mono b0.out.size)) : RingAt (f nx) _ _ _ _ _)
  have rtw_a := fun nx => (RR nx).tw.a
  have rtw_b := fun nx => (RR nx).tw.b
  have rtw_c := fun nx => (RR nx).tw.c
  have rtw_d := fun nx => (RR nx).tw.d
  simp only [List.take_succ_cons, List.take_zero, List.drop_succ_cons, List.drop_zero]
  repeat (go_big_quiet_step (first | (go_at_call 17; exact (SM _).mono fun e w'' ⟨he, hb⟩ => ⟨he, hcl.out _ _ hb⟩) | (go_at_call 71; exact (SF _ (RR _)).mono fun e w'' ⟨he, hb⟩ => ⟨he, hcl.out _ _ hb⟩)))
  refine wpQuiet_nil ?_
  intro nx
  have hb1 := (hf nx).out
  clear hf hcl ua_0 ua_1 ua_2 ua_3 RR rtw_a rtw_b rtw_c rtw_d
  generalize f nx = w1 at hb1 ⊢
  have s1 : Hid (Kn w1 [(w.heap.size + 1, zz4), (w.heap.size, (c4 (a)))]) := s0.out.up hb1
  have b1 : Hid (Below w.heap.size w w1) := b0.out.trans (hb1.mono b0.out.size)
  have z1 := b1.out.size
  clear hb1 s0 b0
  have uro_0 : w1.cell? ⟨w.heap.size + 1, 0, none⟩ = some (.int .u64 0) := Kn.get s1.out 0 0 rfl rfl
  have uro_1 : w1.cell? ⟨w.heap.size + 1, 1, none⟩ = some (.int .u64 0) := Kn.get s1.out 0 1 rfl rfl
  have uro_2 : w1.cell? ⟨w.heap.size + 1, 2, none⟩ = some (.int .u64 0) := Kn.get s1.out 0 2 rfl rfl
  have uro_3 : w1.cell? ⟨w.heap.size + 1, 3, none⟩ = some (.int .u64 0) := Kn.get s1.out 0 3 rfl rfl
  have uro_z : ∀ j, w1.frozen? ⟨w.heap.size + 1, j, none⟩ = false := Kn.fz s1.out 0 rfl
  have s2 : Hid (Kn (st4 w1 (w.heap.size + 1) (p)) [(w.heap.size + 1, (c4 (p))), (w.heap.size, (c4 (a)))]) := Kn.st4 (L := [(w.heap.size, (c4 (a)))]) (s1.out.front 0 rfl) (p)
  have b2 : Hid (Below w.heap.size w (st4 w1 (w.heap.size + 1) (p))) := below_st4 b1.out (by omega)
  clear s1 b1
  go_wp2_with fail
  clear uro_0 uro_1 uro_2 uro_3 uro_z
  have urr_0 : (st4 w1 (w.heap.size + 1) (p)).cell? ⟨w.heap.size + 1, 0, none⟩ = some (.int .u64 (p).a) := Kn.get s2.out 0 0 rfl rfl
  have urr_1 : (st4 w1 (w.heap.size + 1) (p)).cell? ⟨w.heap.size + 1, 1, none⟩ = some (.int .u64 (p).b) := Kn.get s2.out 0 1 rfl rfl
  have urr_2 : (st4 w1 (w.heap.size + 1) (p)).cell? ⟨w.heap.size + 1, 2, none⟩ = some (.int .u64 (p).c) := Kn.get s2.out 0 2 rfl rfl
  have urr_3 : (st4 w1 (w.heap.size + 1) (p)).cell? ⟨w.heap.size + 1, 3, none⟩ = some (.int .u64 (p).d) := Kn.get s2.out 0 3 rfl rfl
  refine bodyPost_ret (v := N p) ?_ rfl ⟨rfl, b2.out⟩
  show (results Try.f37 _).run Try.prog (st4 w1 (w.heap.size + 1) (p)) = .ok _ (st4 w1 (w.heap.size + 1) (p))
  clear s2 b2
  generalize (st4 w1 (w.heap.size + 1) (p)) = W9 at *
  simp [results, Try.results37, go_sem, urr_0, urr_1, urr_2, urr_3]
set_option maxHeartbeats 1000000 in
theorem below_lt (k : Nat) (m iv on tw a : Nm) (c : Int) (hc : c < 0)
    (SC : ∀ w, Calls Try.prog 20 #[N a, N m] w fun e w' => e = .returned (.int .i64 c) ∧ Below w.heap.size w w')
    (w : World) (hR : Hid (RingAt w k m iv on tw)) :
    Calls Try.prog 69 #[rp k, N a] w fun e w' => e = .returned (N a) ∧ Below w.heap.size w w' := by
  go_enter Try.func69, Try.ntmps69
  have s0 : Hid (Kn (kz4 (kal4 w (a))) [(w.heap.size + 1, zz4), (w.heap.size, (c4 (a)))]) := (((Kn.nil w).al (c4 (a)) 24 rfl).al zz4 24 (by simp))
  have b0 : Hid (Below w.heap.size w (kz4 (kal4 w (a)))) := (((Below.refl _ _).alloc (Nat.le_refl _) _).alloc (by simp <;> omega) _)
  go_wp2_with fail
  refine wp_region_up (by kernel_rfl) (by kernel_rfl) (fun U hU f hf hcl => ?_)
  have ua_0 := fun nx => (Kn.get (s0.out.up (hf nx).out) 1 0 rfl rfl : (f nx).cell? ⟨w.heap.size, 0, none⟩ = some (.int .u64 (a).a))
  have ua_1 := fun nx => (Kn.get (s0.out.up (hf nx).out) 1 1 rfl rfl : (f nx).cell? ⟨w.heap.size, 1, none⟩ = some (.int .u64 (a).b))
  have ua_2 := fun nx => (Kn.get (s0.out.up (hf nx).out) 1 2 rfl rfl : (f nx).cell? ⟨w.heap.size, 2, none⟩ = some (.int .u64 (a).c))
  have ua_3 := fun nx => (Kn.get (s0.out.up (hf nx).out) 1 3 rfl rfl : (f nx).cell? ⟨w.heap.size, 3, none⟩ = some (.int .u64 (a).d))
  have RR := fun nx => (hR.out.up ((b0.out).trans ((hf nx).out.mono b0.out.size)) : RingAt (f nx) _ _ _ _ _)
  have rm_a := fun nx => (RR nx).m.a
  have rm_b := fun nx => (RR nx).m.b
  have rm_c := fun nx => (RR nx).m.c
  have rm_d := fun nx => (RR nx).m.d
  try simp only [List.append_eq, List.cons_append, List.nil_append]
  repeat (go_big_quiet_step (first | (go_at_call 20; exact (SC _).mono fun e w'' ⟨he, hb⟩ => ⟨he, hcl.out _ _ hb⟩)))
  refine wpQuiet_nil ?_
  intro nx
  have hb1 := (hf nx).out
  clear hf hcl ua_0 ua_1 ua_2 ua_3 RR rm_a rm_b rm_c rm_d
  generalize f nx = w1 at hb1 ⊢
  have s1 : Hid (Kn w1 [(w.heap.size + 1, zz4), (w.heap.size, (c4 (a)))]) := s0.out.up hb1
  have b1 : Hid (Below w.heap.size w w1) := b0.out.trans (hb1.mono b0.out.size)
  have z1 := b1.out.size
  clear hb1 s0 b0
  have ua_0 : w1.cell? ⟨w.heap.size, 0, none⟩ = some (.int .u64 (a).a) := Kn.get s1.out 1 0 rfl rfl
  have ua_1 : w1.cell? ⟨w.heap.size, 1, none⟩ = some (.int .u64 (a).b) := Kn.get s1.out 1 1 rfl rfl
  have ua_2 : w1.cell? ⟨w.heap.size, 2, none⟩ = some (.int .u64 (a).c) := Kn.get s1.out 1 2 rfl rfl
  have ua_3 : w1.cell? ⟨w.heap.size, 3, none⟩ = some (.int .u64 (a).d) := Kn.get s1.out 1 3 rfl rfl
  have uro_0 : w1.cell? ⟨w.heap.size + 1, 0, none⟩ = some (.int .u64 0) := Kn.get s1.out 0 0 rfl rfl
  have uro_1 : w1.cell? ⟨w.heap.size + 1, 1, none⟩ = some (.int .u64 0) := Kn.get s1.out 0 1 rfl rfl
  have uro_2 : w1.cell? ⟨w.heap.size + 1, 2, none⟩ = some (.int .u64 0) := Kn.get s1.out 0 2 rfl rfl
  have uro_3 : w1.cell? ⟨w.heap.size + 1, 3, none⟩ = some (.int .u64 0) := Kn.get s1.out 0 3 rfl rfl
  have uro_z : ∀ j, w1.frozen? ⟨w.heap.size + 1, j, none⟩ = false := Kn.fz s1.out 0 rfl
  have s2 : Hid (Kn (st4 w1 (w.heap.size + 1) (a)) [(w.heap.size + 1, (c4 (a))), (w.heap.size, (c4 (a)))]) := Kn.st4 (L := [(w.heap.size, (c4 (a)))]) (s1.out.front 0 rfl) (a)
  have b2 : Hid (Below w.heap.size w (st4 w1 (w.heap.size + 1) (a))) := below_st4 b1.out (by omega)
  clear s1 b1
  go_wp2_with fail
  clear ua_0 ua_1 ua_2 ua_3 uro_0 uro_1 uro_2 uro_3 uro_z
  have urr_0 : (st4 w1 (w.heap.size + 1) (a)).cell? ⟨w.heap.size + 1, 0, none⟩ = some (.int .u64 (a).a) := Kn.get s2.out 0 0 rfl rfl
  have urr_1 : (st4 w1 (w.heap.size + 1) (a)).cell? ⟨w.heap.size + 1, 1, none⟩ = some (.int .u64 (a).b) := Kn.get s2.out 0 1 rfl rfl
  have urr_2 : (st4 w1 (w.heap.size + 1) (a)).cell? ⟨w.heap.size + 1, 2, none⟩ = some (.int .u64 (a).c) := Kn.get s2.out 0 2 rfl rfl
  have urr_3 : (st4 w1 (w.heap.size + 1) (a)).cell? ⟨w.heap.size + 1, 3, none⟩ = some (.int .u64 (a).d) := Kn.get s2.out 0 3 rfl rfl
  refine bodyPost_ret (v := N a) ?_ rfl ⟨rfl, b2.out⟩
  show (results Try.f69 _).run Try.prog (st4 w1 (w.heap.size + 1) (a)) = .ok _ (st4 w1 (w.heap.size + 1) (a))
  clear s2 b2
  generalize (st4 w1 (w.heap.size + 1) (a)) = W9 at *
  simp [results, Try.results69, go_sem, urr_0, urr_1, urr_2, urr_3]
set_option maxHeartbeats 1000000 in
theorem below_ge (k : Nat) (m iv on tw a x p : Nm) (c : Int) (hc : ¬ c < 0)
    (SC : ∀ w, Calls Try.prog 20 #[N a, N m] w fun e w' => e = .returned (.int .i64 c) ∧ Below w.heap.size w w')
    (SI : ∀ w, RingAt w k m iv on tw → Calls Try.prog 37 #[rp k, N a] w fun e w' => e = .returned (N x) ∧ Below w.heap.size w w')
    (SF : ∀ w, RingAt w k m iv on tw → Calls Try.prog 71 #[rp k, Wv x ⟨0, 0, 0, 0⟩] w fun e w' => e = .returned (N p) ∧ Below w.heap.size w w')
    (w : World) (hR : Hid (RingAt w k m iv on tw)) :
    Calls Try.prog 69 #[rp k, N a] w fun e w' => e = .returned (N p) ∧ Below w.heap.size w w' := by
  go_enter Try.func69, Try.ntmps69
  have s0 : Hid (Kn (kz4 (kal4 w (a))) [(w.heap.size + 1, zz4), (w.heap.size, (c4 (a)))]) := (((Kn.nil w).al (c4 (a)) 24 rfl).al zz4 24 (by simp))
  have b0 : Hid (Below w.heap.size w (kz4 (kal4 w (a)))) := (((Below.refl _ _).alloc (Nat.le_refl _) _).alloc (by simp <;> omega) _)
  go_wp2_with fail
  refine wp_region_up (by kernel_rfl) (by kernel_rfl) (fun U hU f hf hcl => ?_)
  have ua_0 := fun nx => (Kn.get (s0.out.up (hf nx).out) 1 0 rfl rfl : (f nx).cell? ⟨w.heap.size, 0, none⟩ = some (.int .u64 (a).a))
  have ua_1 := fun nx => (Kn.get (s0.out.up (hf nx).out) 1 1 rfl rfl : (f nx).cell? ⟨w.heap.size, 1, none⟩ = some (.int .u64 (a).b))
  have ua_2 := fun nx => (Kn.get (s0.out.up (hf nx).out) 1 2 rfl rfl : (f nx).cell? ⟨w.heap.size, 2, none⟩ = some (.int .u64 (a).c))
  have ua_3 := fun nx => (Kn.get (s0.out.up (hf nx).out) 1 3 rfl rfl : (f nx).cell? ⟨w.heap.size, 3, none⟩ = some (.int .u64 (a).d))
  have RR := fun nx => (hR.out.up ((b0.out).trans ((hf nx).out.mono b0.out.size)) : RingAt (f nx) _ _ _ _ _)
  have rm_a := fun nx => (RR nx).m.a
  have rm_b := fun nx => (RR nx).m.b
  have rm_c := fun nx => (RR nx).m.c
  have rm_d := fun nx => (RR nx).m.d
  try simp only [List.append_eq, List.cons_append, List.nil_append]
  repeat (go_big_quiet_step (first | (go_at_call 20; exact (SC _).mono fun e w'' ⟨he, hb⟩ => ⟨he, hcl.out _ _ hb⟩)))
  refine wpQuiet_nil ?_
  intro nx
  have hb1 := (hf nx).out
  clear hf hcl ua_0 ua_1 ua_2 ua_3 RR rm_a rm_b rm_c rm_d
  generalize f nx = w1 at hb1 ⊢
  have s1 : Hid (Kn w1 [(w.heap.size + 1, zz4), (w.heap.size, (c4 (a)))]) := s0.out.up hb1
  have b1 : Hid (Below w.heap.size w w1) := b0.out.trans (hb1.mono b0.out.size)
  have z1 := b1.out.size
  clear hb1 s0 b0
  have ua_0 : w1.cell? ⟨w.heap.size, 0, none⟩ = some (.int .u64 (a).a) := Kn.get s1.out 1 0 rfl rfl
  have ua_1 : w1.cell? ⟨w.heap.size, 1, none⟩ = some (.int .u64 (a).b) := Kn.get s1.out 1 1 rfl rfl
  have ua_2 : w1.cell? ⟨w.heap.size, 2, none⟩ = some (.int .u64 (a).c) := Kn.get s1.out 1 2 rfl rfl
  have ua_3 : w1.cell? ⟨w.heap.size, 3, none⟩ = some (.int .u64 (a).d) := Kn.get s1.out 1 3 rfl rfl
  go_wp2_with fail
  clear ua_0 ua_1 ua_2 ua_3
  refine (SI _ (hR.out.up b1.out)).mono ?_
  rintro e w2 ⟨rfl, hb2⟩
  have s2 : Hid (Kn w2 [(w.heap.size + 1, zz4), (w.heap.size, (c4 (a)))]) := s1.out.up hb2
  have b2 : Hid (Below w.heap.size w w2) := b1.out.trans (hb2.mono b1.out.size)
  have z2 := b2.out.size
  clear hb2 s1 b1
  go_wp2_with fail
  refine (wideOf_fun x ⟨0, 0, 0, 0⟩ _).mono ?_
  rintro e w3 ⟨rfl, hb3⟩
  have s3 : Hid (Kn w3 [(w.heap.size + 1, zz4), (w.heap.size, (c4 (a)))]) := s2.out.up hb3
  have b3 : Hid (Below w.heap.size w w3) := b2.out.trans (hb3.mono b2.out.size)
  have z3 := b3.out.size
  clear hb3 s2 b2
  go_wp2_with fail
  refine (SF _ (hR.out.up b3.out)).mono ?_
  rintro e w4 ⟨rfl, hb4⟩
  have s4 : Hid (Kn w4 [(w.heap.size + 1, zz4), (w.heap.size, (c4 (a)))]) := s3.out.up hb4
  have b4 : Hid (Below w.heap.size w w4) := b3.out.trans (hb4.mono b3.out.size)
  have z4 := b4.out.size
  clear hb4 s3 b3
  have uro_0 : w4.cell? ⟨w.heap.size + 1, 0, none⟩ = some (.int .u64 0) := Kn.get s4.out 0 0 rfl rfl
  have uro_1 : w4.cell? ⟨w.heap.size + 1, 1, none⟩ = some (.int .u64 0) := Kn.get s4.out 0 1 rfl rfl
  have uro_2 : w4.cell? ⟨w.heap.size + 1, 2, none⟩ = some (.int .u64 0) := Kn.get s4.out 0 2 rfl rfl
  have uro_3 : w4.cell? ⟨w.heap.size + 1, 3, none⟩ = some (.int .u64 0) := Kn.get s4.out 0 3 rfl rfl
  have uro_z : ∀ j, w4.frozen? ⟨w.heap.size + 1, j, none⟩ = false := Kn.fz s4.out 0 rfl
  have s5 : Hid (Kn (st4 w4 (w.heap.size + 1) (p)) [(w.heap.size + 1, (c4 (p))), (w.heap.size, (c4 (a)))]) := Kn.st4 (L := [(w.heap.size, (c4 (a)))]) (s4.out.front 0 rfl) (p)
  have b5 : Hid (Below w.heap.size w (st4 w4 (w.heap.size + 1) (p))) := below_st4 b4.out (by omega)
  clear s4 b4
  go_wp2_with fail
  clear uro_0 uro_1 uro_2 uro_3 uro_z
  have urr_0 : (st4 w4 (w.heap.size + 1) (p)).cell? ⟨w.heap.size + 1, 0, none⟩ = some (.int .u64 (p).a) := Kn.get s5.out 0 0 rfl rfl
  have urr_1 : (st4 w4 (w.heap.size + 1) (p)).cell? ⟨w.heap.size + 1, 1, none⟩ = some (.int .u64 (p).b) := Kn.get s5.out 0 1 rfl rfl
  have urr_2 : (st4 w4 (w.heap.size + 1) (p)).cell? ⟨w.heap.size + 1, 2, none⟩ = some (.int .u64 (p).c) := Kn.get s5.out 0 2 rfl rfl
  have urr_3 : (st4 w4 (w.heap.size + 1) (p)).cell? ⟨w.heap.size + 1, 3, none⟩ = some (.int .u64 (p).d) := Kn.get s5.out 0 3 rfl rfl
  refine bodyPost_ret (v := N p) ?_ rfl ⟨rfl, b5.out⟩
  show (results Try.f69 _).run Try.prog (st4 w4 (w.heap.size + 1) (p)) = .ok _ (st4 w4 (w.heap.size + 1) (p))
  clear s5 b5
  generalize (st4 w4 (w.heap.size + 1) (p)) = W9 at *
  simp [results, Try.results69, go_sem, urr_0, urr_1, urr_2, urr_3]
set_option maxHeartbeats 1000000 in
theorem ringMul_walk (k : Nat) (m iv on tw a b x xl xh p : Nm)
    (SI : ∀ w, RingAt w k m iv on tw → Calls Try.prog 37 #[rp k, N a] w fun e w' => e = .returned (N x) ∧ Below w.heap.size w w')
    (SM : ∀ w, Calls Try.prog 17 #[N x, N b] w fun e w' => e = .returned (Wv xl xh) ∧ Below w.heap.size w w')
    (SF : ∀ w, RingAt w k m iv on tw → Calls Try.prog 71 #[rp k, Wv xl xh] w fun e w' => e = .returned (N p) ∧ Below w.heap.size w w')
    (w : World) (hR : Hid (RingAt w k m iv on tw)) :
    Calls Try.prog 33 #[rp k, N a, N b] w fun e w' => e = .returned (N p) ∧ Below w.heap.size w w' := by
  go_enter Try.func33, Try.ntmps33
  have s0 : Hid (Kn (kz4 (kal4 (kal4 w (a)) (b))) [(w.heap.size + 1 + 1, zz4), (w.heap.size + 1, (c4 (b))), (w.heap.size, (c4 (a)))]) := ((((Kn.nil w).al (c4 (a)) 24 rfl).al (c4 (b)) 24 (by simp)).al zz4 24 (by simp))
  have b0 : Hid (Below w.heap.size w (kz4 (kal4 (kal4 w (a)) (b)))) := ((((Below.refl _ _).alloc (Nat.le_refl _) _).alloc (by simp <;> omega) _).alloc (by simp <;> omega) _)
  go_wp2_with fail
  refine wp_region_up_then 7 (by kernel_rfl) (by kernel_rfl) (by kernel_rfl) (by kernel_rfl) (by decide) (fun _ _ d _ _ h => by cases d <;> exact h) (fun U hU f hf hcl => ?_)
  have ua_0 := fun nx => (Kn.get (s0.out.up (hf nx).out) 2 0 rfl rfl : (f nx).cell? ⟨w.heap.size, 0, none⟩ = some (.int .u64 (a).a))
  have ua_1 := fun nx => (Kn.get (s0.out.up (hf nx).out) 2 1 rfl rfl : (f nx).cell? ⟨w.heap.size, 1, none⟩ = some (.int .u64 (a).b))
  have ua_2 := fun nx => (Kn.get (s0.out.up (hf nx).out) 2 2 rfl rfl : (f nx).cell? ⟨w.heap.size, 2, none⟩ = some (.int .u64 (a).c))
  have ua_3 := fun nx => (Kn.get (s0.out.up (hf nx).out) 2 3 rfl rfl : (f nx).cell? ⟨w.heap.size, 3, none⟩ = some (.int .u64 (a).d))
  have ub_0 := fun nx => (Kn.get (s0.out.up (hf nx).out) 1 0 rfl rfl : (f nx).cell? ⟨w.heap.size + 1, 0, none⟩ = some (.int .u64 (b).a))
  have ub_1 := fun nx => (Kn.get (s0.out.up (hf nx).out) 1 1 rfl rfl : (f nx).cell? ⟨w.heap.size + 1, 1, none⟩ = some (.int .u64 (b).b))
  have ub_2 := fun nx => (Kn.get (s0.out.up (hf nx).out) 1 2 rfl rfl : (f nx).cell? ⟨w.heap.size + 1, 2, none⟩ = some (.int .u64 (b).c))
  have ub_3 := fun nx => (Kn.get (s0.out.up (hf nx).out) 1 3 rfl rfl : (f nx).cell? ⟨w.heap.size + 1, 3, none⟩ = some (.int .u64 (b).d))
  have RR := fun nx => (hR.out.up ((b0.out).trans ((hf nx).out.mono b0.out.size)) : RingAt (f nx) _ _ _ _ _)
  simp only [List.take_succ_cons, List.take_zero, List.drop_succ_cons, List.drop_zero]
  repeat (go_big_quiet_step (first | (go_at_call 37; exact (SI _ (RR _)).mono fun e w'' ⟨he, hb⟩ => ⟨he, hcl.out _ _ hb⟩) | (go_at_call 17; exact (SM _).mono fun e w'' ⟨he, hb⟩ => ⟨he, hcl.out _ _ hb⟩) | (go_at_call 71; exact (SF _ (RR _)).mono fun e w'' ⟨he, hb⟩ => ⟨he, hcl.out _ _ hb⟩)))
  refine wpQuiet_nil ?_
  intro nx
  have hb1 := (hf nx).out
  clear hf hcl ua_0 ua_1 ua_2 ua_3 ub_0 ub_1 ub_2 ub_3 RR
  generalize f nx = w1 at hb1 ⊢
  have s1 : Hid (Kn w1 [(w.heap.size + 1 + 1, zz4), (w.heap.size + 1, (c4 (b))), (w.heap.size, (c4 (a)))]) := s0.out.up hb1
  have b1 : Hid (Below w.heap.size w w1) := b0.out.trans (hb1.mono b0.out.size)
  have z1 := b1.out.size
  clear hb1 s0 b0
  have uro_0 : w1.cell? ⟨w.heap.size + 1 + 1, 0, none⟩ = some (.int .u64 0) := Kn.get s1.out 0 0 rfl rfl
  have uro_1 : w1.cell? ⟨w.heap.size + 1 + 1, 1, none⟩ = some (.int .u64 0) := Kn.get s1.out 0 1 rfl rfl
  have uro_2 : w1.cell? ⟨w.heap.size + 1 + 1, 2, none⟩ = some (.int .u64 0) := Kn.get s1.out 0 2 rfl rfl
  have uro_3 : w1.cell? ⟨w.heap.size + 1 + 1, 3, none⟩ = some (.int .u64 0) := Kn.get s1.out 0 3 rfl rfl
  have uro_z : ∀ j, w1.frozen? ⟨w.heap.size + 1 + 1, j, none⟩ = false := Kn.fz s1.out 0 rfl
  have s2 : Hid (Kn (st4 w1 (w.heap.size + 1 + 1) (p)) [(w.heap.size + 1 + 1, (c4 (p))), (w.heap.size + 1, (c4 (b))), (w.heap.size, (c4 (a)))]) := Kn.st4 (L := [(w.heap.size + 1, (c4 (b))), (w.heap.size, (c4 (a)))]) (s1.out.front 0 rfl) (p)
  have b2 : Hid (Below w.heap.size w (st4 w1 (w.heap.size + 1 + 1) (p))) := below_st4 b1.out (by omega)
  clear s1 b1
  go_wp2_with fail
  clear uro_0 uro_1 uro_2 uro_3 uro_z
  have urr_0 : (st4 w1 (w.heap.size + 1 + 1) (p)).cell? ⟨w.heap.size + 1 + 1, 0, none⟩ = some (.int .u64 (p).a) := Kn.get s2.out 0 0 rfl rfl
  have urr_1 : (st4 w1 (w.heap.size + 1 + 1) (p)).cell? ⟨w.heap.size + 1 + 1, 1, none⟩ = some (.int .u64 (p).b) := Kn.get s2.out 0 1 rfl rfl
  have urr_2 : (st4 w1 (w.heap.size + 1 + 1) (p)).cell? ⟨w.heap.size + 1 + 1, 2, none⟩ = some (.int .u64 (p).c) := Kn.get s2.out 0 2 rfl rfl
  have urr_3 : (st4 w1 (w.heap.size + 1 + 1) (p)).cell? ⟨w.heap.size + 1 + 1, 3, none⟩ = some (.int .u64 (p).d) := Kn.get s2.out 0 3 rfl rfl
  refine bodyPost_ret (v := N p) ?_ rfl ⟨rfl, b2.out⟩
  show (results Try.f33 _).run Try.prog (st4 w1 (w.heap.size + 1 + 1) (p)) = .ok _ (st4 w1 (w.heap.size + 1 + 1) (p))
  clear s2 b2
  generalize (st4 w1 (w.heap.size + 1 + 1) (p)) = W9 at *
  simp [results, Try.results33, go_sem, urr_0, urr_1, urr_2, urr_3]
set_option maxHeartbeats 1000000 in
theorem ringAdd_walk (k : Nat) (m iv on tw a b x y d p : Nm) (c : Int)
    (SB : ∀ w, RingAt w k m iv on tw → Calls Try.prog 69 #[rp k, N b] w fun e w' => e = .returned (N y) ∧ Below w.heap.size w w')
    (SA : ∀ w, RingAt w k m iv on tw → Calls Try.prog 69 #[rp k, N a] w fun e w' => e = .returned (N x) ∧ Below w.heap.size w w')
    (SS : ∀ w, Calls Try.prog 14 #[N m, N y] w fun e w' => e = .returned (.tuple #[N d, .int .u64 c]) ∧ Below w.heap.size w w')
    (SL : ∀ w, RingAt w k m iv on tw → Calls Try.prog 70 #[rp k, N x, N d] w fun e w' => e = .returned (N p) ∧ Below w.heap.size w w')
    (w : World) (hR : Hid (RingAt w k m iv on tw)) :
    Calls Try.prog 31 #[rp k, N a, N b] w fun e w' => e = .returned (N p) ∧ Below w.heap.size w w' := by
  go_enter Try.func31, Try.ntmps31
  have s0 : Hid (Kn (kz4 (kal4 (kal4 w (a)) (b))) [(w.heap.size + 1 + 1, zz4), (w.heap.size + 1, (c4 (b))), (w.heap.size, (c4 (a)))]) := ((((Kn.nil w).al (c4 (a)) 24 rfl).al (c4 (b)) 24 (by simp)).al zz4 24 (by simp))
  have b0 : Hid (Below w.heap.size w (kz4 (kal4 (kal4 w (a)) (b)))) := ((((Below.refl _ _).alloc (Nat.le_refl _) _).alloc (by simp <;> omega) _).alloc (by simp <;> omega) _)
  go_wp2_with fail
  refine wp_region_alloc1 11 (.cells #[.int .u64 0, .int .u64 0, .int .u64 0, .int .u64 0] 24) (by kernel_rfl) (by kernel_rfl) (by kernel_rfl) (by kernel_rfl) (by decide) (fun _ _ d _ _ h => by cases d <;> exact h) rfl rfl (fun _ _ => by kernel_rfl) ?_
  apply Exists.intro
  refine ⟨fun U hU f hf hcl => ?_, fun k1 w1 hb1 hk1 hc1 => ?_⟩
  · skip
    have ub_0 := fun nx => (Kn.get (s0.out.up (hf nx).out) 1 0 rfl rfl : (f nx).cell? ⟨w.heap.size + 1, 0, none⟩ = some (.int .u64 (b).a))
    have ub_1 := fun nx => (Kn.get (s0.out.up (hf nx).out) 1 1 rfl rfl : (f nx).cell? ⟨w.heap.size + 1, 1, none⟩ = some (.int .u64 (b).b))
    have ub_2 := fun nx => (Kn.get (s0.out.up (hf nx).out) 1 2 rfl rfl : (f nx).cell? ⟨w.heap.size + 1, 2, none⟩ = some (.int .u64 (b).c))
    have ub_3 := fun nx => (Kn.get (s0.out.up (hf nx).out) 1 3 rfl rfl : (f nx).cell? ⟨w.heap.size + 1, 3, none⟩ = some (.int .u64 (b).d))
    have RR := fun nx => (hR.out.up ((b0.out).trans ((hf nx).out.mono b0.out.size)) : RingAt (f nx) _ _ _ _ _)
    have rm_a := fun nx => (RR nx).m.a
    have rm_b := fun nx => (RR nx).m.b
    have rm_c := fun nx => (RR nx).m.c
    have rm_d := fun nx => (RR nx).m.d
    clear hf
    simp only [List.take_succ_cons, List.take_zero]
    repeat (go_big_quiet_step (first | (go_at_call 69; exact (SB _ (RR _)).mono fun e w'' ⟨he, hb⟩ => ⟨he, hcl.out _ _ hb⟩) | (go_at_call 14; exact (SS _).mono fun e w'' ⟨he, hb⟩ => ⟨he, hcl.out _ _ hb⟩)))
    exact wpQuiet_nil rfl
  simp only [List.drop_succ_cons, List.drop_zero]
  have z1 := b0.out.size
  have s1x : Hid (Kn w1 [(k1, zz4), (w.heap.size + 1 + 1, zz4), (w.heap.size + 1, (c4 (b))), (w.heap.size, (c4 (a)))]) := s0.out.fresh hb1.out hk1 hc1.out
  have g1 : w.heap.size ≤ k1 := Nat.le_trans b0.out.size hk1
  have cz1_0 : w1.cell? ⟨k1, 0, none⟩ = some (.int .u64 0) := Kn.get s1x.out 0 0 rfl rfl
  have cz1_1 : w1.cell? ⟨k1, 1, none⟩ = some (.int .u64 0) := Kn.get s1x.out 0 1 rfl rfl
  have cz1_2 : w1.cell? ⟨k1, 2, none⟩ = some (.int .u64 0) := Kn.get s1x.out 0 2 rfl rfl
  have cz1_3 : w1.cell? ⟨k1, 3, none⟩ = some (.int .u64 0) := Kn.get s1x.out 0 3 rfl rfl
  have cz1 : ∀ j, w1.frozen? ⟨k1, j, none⟩ = false := Kn.fz s1x.out 0 rfl
  have s1 : Hid (Kn (st4 w1 k1 (d)) [(k1, (c4 (d))), (w.heap.size + 1 + 1, zz4), (w.heap.size + 1, (c4 (b))), (w.heap.size, (c4 (a)))]) := s1x.out.st4 (d)
  have b1 : Hid (Below w.heap.size w (st4 w1 k1 (d))) := below_st4 (b0.out.trans (hb1.out.mono b0.out.size)) g1
  clear s1x s0 b0 hb1 hc1 hk1
  go_wp2_with fail
  clear cz1_0 cz1_1 cz1_2 cz1_3 cz1
  refine wp_region_up_then 6 (by kernel_rfl) (by kernel_rfl) (by kernel_rfl) (by kernel_rfl) (by decide) (fun _ _ d _ _ h => by cases d <;> exact h) (fun U hU f hf hcl => ?_)
  have ua_0 := fun nx => (Kn.get (s1.out.up (hf nx).out) 3 0 rfl rfl : (f nx).cell? ⟨w.heap.size, 0, none⟩ = some (.int .u64 (a).a))
  have ua_1 := fun nx => (Kn.get (s1.out.up (hf nx).out) 3 1 rfl rfl : (f nx).cell? ⟨w.heap.size, 1, none⟩ = some (.int .u64 (a).b))
  have ua_2 := fun nx => (Kn.get (s1.out.up (hf nx).out) 3 2 rfl rfl : (f nx).cell? ⟨w.heap.size, 2, none⟩ = some (.int .u64 (a).c))
  have ua_3 := fun nx => (Kn.get (s1.out.up (hf nx).out) 3 3 rfl rfl : (f nx).cell? ⟨w.heap.size, 3, none⟩ = some (.int .u64 (a).d))
  have ud_0 := fun nx => (Kn.get (s1.out.up (hf nx).out) 0 0 rfl rfl : (f nx).cell? ⟨k1, 0, none⟩ = some (.int .u64 (d).a))
  have ud_1 := fun nx => (Kn.get (s1.out.up (hf nx).out) 0 1 rfl rfl : (f nx).cell? ⟨k1, 1, none⟩ = some (.int .u64 (d).b))
  have ud_2 := fun nx => (Kn.get (s1.out.up (hf nx).out) 0 2 rfl rfl : (f nx).cell? ⟨k1, 2, none⟩ = some (.int .u64 (d).c))
  have ud_3 := fun nx => (Kn.get (s1.out.up (hf nx).out) 0 3 rfl rfl : (f nx).cell? ⟨k1, 3, none⟩ = some (.int .u64 (d).d))
  have RR := fun nx => (hR.out.up ((b1.out).trans ((hf nx).out.mono b1.out.size)) : RingAt (f nx) _ _ _ _ _)
  simp only [List.take_succ_cons, List.take_zero, List.drop_succ_cons, List.drop_zero]
  repeat (go_big_quiet_step (first | (go_at_call 69; exact (SA _ (RR _)).mono fun e w'' ⟨he, hb⟩ => ⟨he, hcl.out _ _ hb⟩) | (go_at_call 70; exact (SL _ (RR _)).mono fun e w'' ⟨he, hb⟩ => ⟨he, hcl.out _ _ hb⟩)))
  refine wpQuiet_nil ?_
  intro nx
  have hb2 := (hf nx).out
  clear hf hcl ua_0 ua_1 ua_2 ua_3 ud_0 ud_1 ud_2 ud_3 RR
  generalize f nx = w2 at hb2 ⊢
  have s2 : Hid (Kn w2 [(k1, (c4 (d))), (w.heap.size + 1 + 1, zz4), (w.heap.size + 1, (c4 (b))), (w.heap.size, (c4 (a)))]) := s1.out.up hb2
  have b2 : Hid (Below w.heap.size w w2) := b1.out.trans (hb2.mono b1.out.size)
  have z2 := b2.out.size
  clear hb2 s1 b1
  have uro_0 : w2.cell? ⟨w.heap.size + 1 + 1, 0, none⟩ = some (.int .u64 0) := Kn.get s2.out 1 0 rfl rfl
  have uro_1 : w2.cell? ⟨w.heap.size + 1 + 1, 1, none⟩ = some (.int .u64 0) := Kn.get s2.out 1 1 rfl rfl
  have uro_2 : w2.cell? ⟨w.heap.size + 1 + 1, 2, none⟩ = some (.int .u64 0) := Kn.get s2.out 1 2 rfl rfl
  have uro_3 : w2.cell? ⟨w.heap.size + 1 + 1, 3, none⟩ = some (.int .u64 0) := Kn.get s2.out 1 3 rfl rfl
  have uro_z : ∀ j, w2.frozen? ⟨w.heap.size + 1 + 1, j, none⟩ = false := Kn.fz s2.out 1 rfl
  have s3 : Hid (Kn (st4 w2 (w.heap.size + 1 + 1) (p)) [(w.heap.size + 1 + 1, (c4 (p))), (k1, (c4 (d))), (w.heap.size + 1, (c4 (b))), (w.heap.size, (c4 (a)))]) := Kn.st4 (L := [(k1, (c4 (d))), (w.heap.size + 1, (c4 (b))), (w.heap.size, (c4 (a)))]) (s2.out.front 1 rfl) (p)
  have b3 : Hid (Below w.heap.size w (st4 w2 (w.heap.size + 1 + 1) (p))) := below_st4 b2.out (by omega)
  clear s2 b2
  go_wp2_with fail
  clear uro_0 uro_1 uro_2 uro_3 uro_z
  have urr_0 : (st4 w2 (w.heap.size + 1 + 1) (p)).cell? ⟨w.heap.size + 1 + 1, 0, none⟩ = some (.int .u64 (p).a) := Kn.get s3.out 0 0 rfl rfl
  have urr_1 : (st4 w2 (w.heap.size + 1 + 1) (p)).cell? ⟨w.heap.size + 1 + 1, 1, none⟩ = some (.int .u64 (p).b) := Kn.get s3.out 0 1 rfl rfl
  have urr_2 : (st4 w2 (w.heap.size + 1 + 1) (p)).cell? ⟨w.heap.size + 1 + 1, 2, none⟩ = some (.int .u64 (p).c) := Kn.get s3.out 0 2 rfl rfl
  have urr_3 : (st4 w2 (w.heap.size + 1 + 1) (p)).cell? ⟨w.heap.size + 1 + 1, 3, none⟩ = some (.int .u64 (p).d) := Kn.get s3.out 0 3 rfl rfl
  refine bodyPost_ret (v := N p) ?_ rfl ⟨rfl, b3.out⟩
  show (results Try.f31 _).run Try.prog (st4 w2 (w.heap.size + 1 + 1) (p)) = .ok _ (st4 w2 (w.heap.size + 1 + 1) (p))
  clear s3 b3
  generalize (st4 w2 (w.heap.size + 1 + 1) (p)) = W9 at *
  simp [results, Try.results31, go_sem, urr_0, urr_1, urr_2, urr_3]
set_option maxHeartbeats 1000000 in
theorem ringOut_walk (k : Nat) (m iv on tw l h q p : Nm)
    (SF : ∀ w, RingAt w k m iv on tw → Calls Try.prog 71 #[rp k, Wv l ⟨0, 0, 0, 0⟩] w fun e w' => e = .returned (N q) ∧ Below w.heap.size w w')
    (SA : ∀ w, RingAt w k m iv on tw → Calls Try.prog 31 #[rp k, N h, N q] w fun e w' => e = .returned (N p) ∧ Below w.heap.size w w')
    (w : World) (hR : Hid (RingAt w k m iv on tw)) :
    Calls Try.prog 34 #[rp k, Wv l h] w fun e w' => e = .returned (N p) ∧ Below w.heap.size w w' := by
  go_enter Try.func34, Try.ntmps34
  have s0 : Hid (Kn (kz4 (kal8 w (l) (h))) [(w.heap.size + 1, zz4), (w.heap.size, (c8 (l) (h)))]) := (((Kn.nil w).al (c8 (l) (h)) 34 rfl).al zz4 24 (by simp))
  have b0 : Hid (Below w.heap.size w (kz4 (kal8 w (l) (h)))) := (((Below.refl _ _).alloc (Nat.le_refl _) _).alloc (by simp <;> omega) _)
  go_wp2_with fail
  refine (low_fun l h _).mono ?_
  rintro e w1 ⟨rfl, hb1⟩
  have s1 : Hid (Kn w1 [(w.heap.size + 1, zz4), (w.heap.size, (c8 (l) (h)))]) := s0.out.up hb1
  have b1 : Hid (Below w.heap.size w w1) := b0.out.trans (hb1.mono b0.out.size)
  have z1 := b1.out.size
  clear hb1 s0 b0
  go_wp2_with fail
  refine (wideOf_fun l ⟨0, 0, 0, 0⟩ _).mono ?_
  rintro e w2 ⟨rfl, hb2⟩
  have s2 : Hid (Kn w2 [(w.heap.size + 1, zz4), (w.heap.size, (c8 (l) (h)))]) := s1.out.up hb2
  have b2 : Hid (Below w.heap.size w w2) := b1.out.trans (hb2.mono b1.out.size)
  have z2 := b2.out.size
  clear hb2 s1 b1
  go_wp2_with fail
  refine (SF _ (hR.out.up b2.out)).mono ?_
  rintro e w3 ⟨rfl, hb3⟩
  have s3 : Hid (Kn w3 [(w.heap.size + 1, zz4), (w.heap.size, (c8 (l) (h)))]) := s2.out.up hb3
  have b3 : Hid (Below w.heap.size w w3) := b2.out.trans (hb3.mono b2.out.size)
  have z3 := b3.out.size
  clear hb3 s2 b2
  have s4 : Hid (Kn (kal4 w3 (q)) [(w3.heap.size, (c4 (q))), (w.heap.size + 1, zz4), (w.heap.size, (c8 (l) (h)))]) := s3.out.al (c4 (q)) 24 rfl
  have b4 : Hid (Below w.heap.size w (kal4 w3 (q))) := b3.out.alloc b3.out.size _
  have z4 := b3.out.size
  clear s3 b3
  go_wp2_with fail
  refine wp_region_up_then 5 (by kernel_rfl) (by kernel_rfl) (by kernel_rfl) (by kernel_rfl) (by decide) (fun _ _ d _ _ h => by cases d <;> exact h) (fun U hU f hf hcl => ?_)
  have ut_0 := fun nx => (Kn.get (s4.out.up (hf nx).out) 2 0 rfl rfl : (f nx).cell? ⟨w.heap.size, 0, none⟩ = some (.int .u64 (l).a))
  have ut_1 := fun nx => (Kn.get (s4.out.up (hf nx).out) 2 1 rfl rfl : (f nx).cell? ⟨w.heap.size, 1, none⟩ = some (.int .u64 (l).b))
  have ut_2 := fun nx => (Kn.get (s4.out.up (hf nx).out) 2 2 rfl rfl : (f nx).cell? ⟨w.heap.size, 2, none⟩ = some (.int .u64 (l).c))
  have ut_3 := fun nx => (Kn.get (s4.out.up (hf nx).out) 2 3 rfl rfl : (f nx).cell? ⟨w.heap.size, 3, none⟩ = some (.int .u64 (l).d))
  have ut_4 := fun nx => (Kn.get (s4.out.up (hf nx).out) 2 4 rfl rfl : (f nx).cell? ⟨w.heap.size, 4, none⟩ = some (.int .u64 (h).a))
  have ut_5 := fun nx => (Kn.get (s4.out.up (hf nx).out) 2 5 rfl rfl : (f nx).cell? ⟨w.heap.size, 5, none⟩ = some (.int .u64 (h).b))
  have ut_6 := fun nx => (Kn.get (s4.out.up (hf nx).out) 2 6 rfl rfl : (f nx).cell? ⟨w.heap.size, 6, none⟩ = some (.int .u64 (h).c))
  have ut_7 := fun nx => (Kn.get (s4.out.up (hf nx).out) 2 7 rfl rfl : (f nx).cell? ⟨w.heap.size, 7, none⟩ = some (.int .u64 (h).d))
  have uq_0 := fun nx => (Kn.get (s4.out.up (hf nx).out) 0 0 rfl rfl : (f nx).cell? ⟨w3.heap.size, 0, none⟩ = some (.int .u64 (q).a))
  have uq_1 := fun nx => (Kn.get (s4.out.up (hf nx).out) 0 1 rfl rfl : (f nx).cell? ⟨w3.heap.size, 1, none⟩ = some (.int .u64 (q).b))
  have uq_2 := fun nx => (Kn.get (s4.out.up (hf nx).out) 0 2 rfl rfl : (f nx).cell? ⟨w3.heap.size, 2, none⟩ = some (.int .u64 (q).c))
  have uq_3 := fun nx => (Kn.get (s4.out.up (hf nx).out) 0 3 rfl rfl : (f nx).cell? ⟨w3.heap.size, 3, none⟩ = some (.int .u64 (q).d))
  have RR := fun nx => (hR.out.up ((b4.out).trans ((hf nx).out.mono b4.out.size)) : RingAt (f nx) _ _ _ _ _)
  simp only [List.take_succ_cons, List.take_zero, List.drop_succ_cons, List.drop_zero]
  repeat (go_big_quiet_step (first | (go_at_call 74; exact (high_fun l h _).mono fun e w'' ⟨he, hb⟩ => ⟨he, hcl.out _ _ hb⟩) | (go_at_call 31; exact (SA _ (RR _)).mono fun e w'' ⟨he, hb⟩ => ⟨he, hcl.out _ _ hb⟩)))
  refine wpQuiet_nil ?_
  intro nx
  have hb5 := (hf nx).out
  clear hf hcl ut_0 ut_1 ut_2 ut_3 ut_4 ut_5 ut_6 ut_7 uq_0 uq_1 uq_2 uq_3 RR
  generalize f nx = w5 at hb5 ⊢
  have s5 : Hid (Kn w5 [(w3.heap.size, (c4 (q))), (w.heap.size + 1, zz4), (w.heap.size, (c8 (l) (h)))]) := s4.out.up hb5
  have b5 : Hid (Below w.heap.size w w5) := b4.out.trans (hb5.mono b4.out.size)
  have z5 := b5.out.size
  clear hb5 s4 b4
  have uro_0 : w5.cell? ⟨w.heap.size + 1, 0, none⟩ = some (.int .u64 0) := Kn.get s5.out 1 0 rfl rfl
  have uro_1 : w5.cell? ⟨w.heap.size + 1, 1, none⟩ = some (.int .u64 0) := Kn.get s5.out 1 1 rfl rfl
  have uro_2 : w5.cell? ⟨w.heap.size + 1, 2, none⟩ = some (.int .u64 0) := Kn.get s5.out 1 2 rfl rfl
  have uro_3 : w5.cell? ⟨w.heap.size + 1, 3, none⟩ = some (.int .u64 0) := Kn.get s5.out 1 3 rfl rfl
  have uro_z : ∀ j, w5.frozen? ⟨w.heap.size + 1, j, none⟩ = false := Kn.fz s5.out 1 rfl
  have s6 : Hid (Kn (st4 w5 (w.heap.size + 1) (p)) [(w.heap.size + 1, (c4 (p))), (w3.heap.size, (c4 (q))), (w.heap.size, (c8 (l) (h)))]) := Kn.st4 (L := [(w3.heap.size, (c4 (q))), (w.heap.size, (c8 (l) (h)))]) (s5.out.front 1 rfl) (p)
  have b6 : Hid (Below w.heap.size w (st4 w5 (w.heap.size + 1) (p))) := below_st4 b5.out (by omega)
  clear s5 b5
  go_wp2_with fail
  clear uro_0 uro_1 uro_2 uro_3 uro_z
  have urr_0 : (st4 w5 (w.heap.size + 1) (p)).cell? ⟨w.heap.size + 1, 0, none⟩ = some (.int .u64 (p).a) := Kn.get s6.out 0 0 rfl rfl
  have urr_1 : (st4 w5 (w.heap.size + 1) (p)).cell? ⟨w.heap.size + 1, 1, none⟩ = some (.int .u64 (p).b) := Kn.get s6.out 0 1 rfl rfl
  have urr_2 : (st4 w5 (w.heap.size + 1) (p)).cell? ⟨w.heap.size + 1, 2, none⟩ = some (.int .u64 (p).c) := Kn.get s6.out 0 2 rfl rfl
  have urr_3 : (st4 w5 (w.heap.size + 1) (p)).cell? ⟨w.heap.size + 1, 3, none⟩ = some (.int .u64 (p).d) := Kn.get s6.out 0 3 rfl rfl
  refine bodyPost_ret (v := N p) ?_ rfl ⟨rfl, b6.out⟩
  show (results Try.f34 _).run Try.prog (st4 w5 (w.heap.size + 1) (p)) = .ok _ (st4 w5 (w.heap.size + 1) (p))
  clear s6 b6
  generalize (st4 w5 (w.heap.size + 1) (p)) = W9 at *
  simp [results, Try.results34, go_sem, urr_0, urr_1, urr_2, urr_3]
end Go.Proofs.Ytkgfeacednomfaa
