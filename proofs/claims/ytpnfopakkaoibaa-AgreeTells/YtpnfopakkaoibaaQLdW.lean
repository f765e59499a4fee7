/- Package ladder, as it landed: one, square, twice, joined, pick, Of. -/
import Derived.Test.YtpnfopakkaoibaaQUpV3ToKnL
import Derived.Test.YtpnfopakkaoibaaQCvOn
import Derived.Test.YtpnfopakkaoibaaQLadC
namespace Go.Proofs.Ytpnfopakkaoibaa
open Go.RowKit
attribute [local go_sem] World.cell?_alloc_some cell_alloc2 cell_alloc3 cell_alloc4 frozen?_alloc_cells frozen_out
set_option linter.unusedSimpArgs false
set_option maxHeartbeats 1000000 in
theorem lone_walk (w : World) : Calls Try.prog 42 #[] w fun e w' => e = .returned (N nI) ∧ Below w.heap.size w w' := by
  go_enter Try.func42, Try.ntmps42
  have s0 : Hid (Kn (kal4 w (nI)) [(w.heap.size, (c4 (nI)))]) := ((Kn.nil w).al (c4 (nI)) 28 rfl)
  have b0 : Hid (Below w.heap.size w (kal4 w (nI))) := ((Below.refl _ _).alloc (Nat.le_refl _) _)
  go_wp2_with fail
  have urr_0 : (kal4 w (nI)).cell? ⟨w.heap.size, 0, none⟩ = some (.int .u64 (nI).a) := Kn.get s0.out 0 0 rfl rfl
  have urr_1 : (kal4 w (nI)).cell? ⟨w.heap.size, 1, none⟩ = some (.int .u64 (nI).b) := Kn.get s0.out 0 1 rfl rfl
  have urr_2 : (kal4 w (nI)).cell? ⟨w.heap.size, 2, none⟩ = some (.int .u64 (nI).c) := Kn.get s0.out 0 2 rfl rfl
  have urr_3 : (kal4 w (nI)).cell? ⟨w.heap.size, 3, none⟩ = some (.int .u64 (nI).d) := Kn.get s0.out 0 3 rfl rfl
  refine bodyPost_ret (v := N nI) ?_ rfl ⟨rfl, b0.out⟩
  show (results Try.f42 _).run Try.prog (kal4 w (nI)) = .ok _ (kal4 w (nI))
  clear s0 b0
  generalize (kal4 w (nI)) = W9 at *
  simp [results, Try.results42, go_sem, urr_0, urr_1, urr_2, urr_3]
set_option maxHeartbeats 1000000 in
theorem lsq_walk (a ra : Nm)
    (M1 : ∀ w, Calls Try.prog 34 #[N a, N a] w fun e w' => e = .returned (N ra) ∧ Below w.heap.size w w')
    (w : World) : Calls Try.prog 71 #[N a] w fun e w' => e = .returned (N ra) ∧ Below w.heap.size w w' := by
  go_enter Try.func71, Try.ntmps71
  have s0 : Hid (Kn (kz4 (kal4 w (a))) [(w.heap.size + 1, zz4), (w.heap.size, (c4 (a)))]) := (((Kn.nil w).al (c4 (a)) 28 rfl).al zz4 28 (by simp))
  have b0 : Hid (Below w.heap.size w (kz4 (kal4 w (a)))) := (((Below.refl _ _).alloc (Nat.le_refl _) _).alloc (by simp <;> omega) _)
  have ua_0 : (kz4 (kal4 w (a))).cell? ⟨w.heap.size, 0, none⟩ = some (.int .u64 (a).a) := Kn.get s0.out 1 0 rfl rfl
  have ua_1 : (kz4 (kal4 w (a))).cell? ⟨w.heap.size, 1, none⟩ = some (.int .u64 (a).b) := Kn.get s0.out 1 1 rfl rfl
  have ua_2 : (kz4 (kal4 w (a))).cell? ⟨w.heap.size, 2, none⟩ = some (.int .u64 (a).c) := Kn.get s0.out 1 2 rfl rfl
  have ua_3 : (kz4 (kal4 w (a))).cell? ⟨w.heap.size, 3, none⟩ = some (.int .u64 (a).d) := Kn.get s0.out 1 3 rfl rfl
  go_wp2_with fail
  clear ua_0 ua_1 ua_2 ua_3
  refine (M1 _).mono ?_
  rintro e w1 ⟨rfl, hb1⟩
  have s1 : Hid (Kn w1 [(w.heap.size + 1, zz4), (w.heap.size, (c4 (a)))]) := s0.out.up hb1
  have b1 : Hid (Below w.heap.size w w1) := b0.out.trans (hb1.mono b0.out.size)
  have z1 := b1.out.size
  clear hb1 s0 b0
  have uro_0 : w1.cell? ⟨w.heap.size + 1, 0, none⟩ = some (.int .u64 0) := Kn.get s1.out 0 0 rfl rfl
  have uro_1 : w1.cell? ⟨w.heap.size + 1, 1, none⟩ = some (.int .u64 0) := Kn.get s1.out 0 1 rfl rfl
  have uro_2 : w1.cell? ⟨w.heap.size + 1, 2, none⟩ = some (.int .u64 0) := Kn.get s1.out 0 2 rfl rfl
  have uro_3 : w1.cell? ⟨w.heap.size + 1, 3, none⟩ = some (.int .u64 0) := Kn.get s1.out 0 3 rfl rfl
  have uro_z : ∀ j, w1.frozen? ⟨w.heap.size + 1, j, none⟩ = false := Kn.fz s1.out 0 rfl
  have s2 : Hid (Kn (st4 w1 (w.heap.size + 1) (ra)) [(w.heap.size + 1, (c4 (ra))), (w.heap.size, (c4 (a)))]) := Kn.st4 (L := [(w.heap.size, (c4 (a)))]) (s1.out.front 0 rfl) (ra)
  have b2 : Hid (Below w.heap.size w (st4 w1 (w.heap.size + 1) (ra))) := below_st4 b1.out (by omega)
  clear s1 b1
  go_wp2_with fail
  clear uro_0 uro_1 uro_2 uro_3 uro_z
  have urr_0 : (st4 w1 (w.heap.size + 1) (ra)).cell? ⟨w.heap.size + 1, 0, none⟩ = some (.int .u64 (ra).a) := Kn.get s2.out 0 0 rfl rfl
  have urr_1 : (st4 w1 (w.heap.size + 1) (ra)).cell? ⟨w.heap.size + 1, 1, none⟩ = some (.int .u64 (ra).b) := Kn.get s2.out 0 1 rfl rfl
  have urr_2 : (st4 w1 (w.heap.size + 1) (ra)).cell? ⟨w.heap.size + 1, 2, none⟩ = some (.int .u64 (ra).c) := Kn.get s2.out 0 2 rfl rfl
  have urr_3 : (st4 w1 (w.heap.size + 1) (ra)).cell? ⟨w.heap.size + 1, 3, none⟩ = some (.int .u64 (ra).d) := Kn.get s2.out 0 3 rfl rfl
  refine bodyPost_ret (v := N ra) ?_ rfl ⟨rfl, b2.out⟩
  show (results Try.f71 _).run Try.prog (st4 w1 (w.heap.size + 1) (ra)) = .ok _ (st4 w1 (w.heap.size + 1) (ra))
  clear s2 b2
  generalize (st4 w1 (w.heap.size + 1) (ra)) = W9 at *
  simp [results, Try.results71, go_sem, urr_0, urr_1, urr_2, urr_3]
abbrev nS : Nm := ⟨121665, 0, 0, 0⟩
theorem nS_nm : nS = nm 121665 := by unfold nm Nm.of; congr 1
set_option maxRecDepth 20000 in
set_option maxHeartbeats 2000000 in
theorem ltw_walk (px pz aa sa ba ta ea ga ha rx rz : Nm)
    (A1 : ∀ w, Calls Try.prog 36 #[N px, N pz] w fun e w' => e = .returned (N aa) ∧ Below w.heap.size w w')
    (Q1 : ∀ w, Calls Try.prog 71 #[N aa] w fun e w' => e = .returned (N sa) ∧ Below w.heap.size w w')
    (B1 : ∀ w, Calls Try.prog 35 #[N px, N pz] w fun e w' => e = .returned (N ba) ∧ Below w.heap.size w w')
    (Q2 : ∀ w, Calls Try.prog 71 #[N ba] w fun e w' => e = .returned (N ta) ∧ Below w.heap.size w w')
    (E1 : ∀ w, Calls Try.prog 35 #[N sa, N ta] w fun e w' => e = .returned (N ea) ∧ Below w.heap.size w w')
    (M1 : ∀ w, Calls Try.prog 34 #[N sa, N ta] w fun e w' => e = .returned (N rx) ∧ Below w.heap.size w w')
    (M2 : ∀ w, Calls Try.prog 34 #[N nS, N ea] w fun e w' => e = .returned (N ga) ∧ Below w.heap.size w w')
    (M3 : ∀ w, Calls Try.prog 36 #[N sa, N ga] w fun e w' => e = .returned (N ha) ∧ Below w.heap.size w w')
    (M4 : ∀ w, Calls Try.prog 34 #[N ea, N ha] w fun e w' => e = .returned (N rz) ∧ Below w.heap.size w w')
    (w : World) : Calls Try.prog 44 #[lV px pz] w fun e w' => e = .returned (lV rx rz) ∧ Below w.heap.size w w' := by
  go_enter Try.func44, Try.ntmps44
  have s0 : Hid (Kn ((w.alloc (.cells (lR (px) (pz)).toArray 62)).alloc (.cells #[Value.int IntKind.u64 0, Value.int IntKind.u64 0, Value.int IntKind.u64 0, Value.int IntKind.u64 0, Value.int IntKind.u64 0, Value.int IntKind.u64 0, Value.int IntKind.u64 0, Value.int IntKind.u64 0] 62)) [(w.heap.size + 1, lZ), (w.heap.size, (lR (px) (pz)))]) := (((Kn.nil w).al (lR (px) (pz)) 62 rfl).al lZ 62 (by simp))
  have b0 : Hid (Below w.heap.size w ((w.alloc (.cells (lR (px) (pz)).toArray 62)).alloc (.cells #[Value.int IntKind.u64 0, Value.int IntKind.u64 0, Value.int IntKind.u64 0, Value.int IntKind.u64 0, Value.int IntKind.u64 0, Value.int IntKind.u64 0, Value.int IntKind.u64 0, Value.int IntKind.u64 0] 62))) := (((Below.refl _ _).alloc (Nat.le_refl _) _).alloc (by simp <;> omega) _)
  go_wp2_with (first | simp only [zero_lpr])
  refine wp_region_vars2 12 (.cells #[.int .u64 0, .int .u64 0, .int .u64 0, .int .u64 0] 28) (.cells #[.int .u64 0, .int .u64 0, .int .u64 0, .int .u64 0] 28) (.cells #[.int .u64 (sa).a, .int .u64 (sa).b, .int .u64 (sa).c, .int .u64 (sa).d] 28) (.cells #[.int .u64 (ta).a, .int .u64 (ta).b, .int .u64 (ta).c, .int .u64 (ta).d] 28) (by kernel_rfl) (by kernel_rfl) (by kernel_rfl) (by kernel_rfl) rfl rfl rfl rfl (by decide) rfl rfl (fun _ _ => by kernel_rfl) (fun _ _ => by kernel_rfl) ?_
  apply Exists.intro
  refine ⟨fun U hU f hf hcl => ?_, fun k j W hc => ?_, fun k j W hc => ?_, fun k1 j1 w1 hb1 hk1 hj1 hn1 hc1 hd1 => ?_⟩
  · skip
    have ra_p_0 := fun nx => (Kn.rng (s0.out.up (hf nx).out) 1 rfl : (f nx).rangeAt (w.heap.size) 0 (lR (px) (pz)))
    have ra_p_1 := fun nx => (Kn.lng0 (s0.out.up (hf nx).out) 1 rfl : (f nx).rangeAt (w.heap.size) 0 [Value.int IntKind.u64 px.a, Value.int IntKind.u64 px.b, Value.int IntKind.u64 px.c, Value.int IntKind.u64 px.d])
    have ra_p_2 := fun nx => (Kn.lng1 (s0.out.up (hf nx).out) 1 rfl : (f nx).rangeAt (w.heap.size) 4 [Value.int IntKind.u64 pz.a, Value.int IntKind.u64 pz.b, Value.int IntKind.u64 pz.c, Value.int IntKind.u64 pz.d])
    clear hf
    simp only [List.take_succ_cons, List.take_zero]
    repeat (first | (refine I.quiet_load rfl 62 _ rfl (w.heap.size) 0 rfl (lR (px) (pz)) _ (fun W hW => by obtain ⟨nx, rfl⟩ := hW; exact ra_p_0 nx) Try.underlying62 rfl (info_lR (px) (pz)) ?_; simp only [Act.put, List.setIfInBounds_toArray, List.set_cons_succ, List.set_cons_zero]) | (refine I.quiet_load rfl 28 _ rfl (w.heap.size) 0 rfl [Value.int IntKind.u64 px.a, Value.int IntKind.u64 px.b, Value.int IntKind.u64 px.c, Value.int IntKind.u64 px.d] _ (fun W hW => by obtain ⟨nx, rfl⟩ := hW; exact ra_p_1 nx) Try.underlying28 rfl (info_c4 (px)) ?_; simp only [Act.put, List.setIfInBounds_toArray, List.set_cons_succ, List.set_cons_zero]) | (refine I.quiet_load rfl 28 _ rfl (w.heap.size) 4 rfl [Value.int IntKind.u64 pz.a, Value.int IntKind.u64 pz.b, Value.int IntKind.u64 pz.c, Value.int IntKind.u64 pz.d] _ (fun W hW => by obtain ⟨nx, rfl⟩ := hW; exact ra_p_2 nx) Try.underlying28 rfl (info_c4 (pz)) ?_; simp only [Act.put, List.setIfInBounds_toArray, List.set_cons_succ, List.set_cons_zero]) | go_big_quiet_step (first | (go_at_call 36; exact (A1 _).mono fun e w'' ⟨he, hb⟩ => ⟨he, hcl.out _ _ hb⟩) | (go_at_call 35; exact (B1 _).mono fun e w'' ⟨he, hb⟩ => ⟨he, hcl.out _ _ hb⟩) | (go_at_call_of 71 [N aa]; exact (Q1 _).mono fun e w'' ⟨he, hb⟩ => ⟨he, hcl.out _ _ hb⟩) | (go_at_call_of 71 [N ba]; exact (Q2 _).mono fun e w'' ⟨he, hb⟩ => ⟨he, hcl.out _ _ hb⟩)))
    exact wpQuiet_nil rfl
  · obtain ⟨c0, c1, c2, c3, cz⟩ := cells4 hc.out
    exact ⟨(st4 W k (sa)), by simp [execOp, go_sem, c0, c1, c2, c3, cz], by first | exact heap_st4 hc.out _ | exact heap_st8 hc.out _ _, fun hk => by first | exact below_st4 (Below.refl _ _) hk | exact below_st8 (Below.refl _ _) hk, fun b hb => by first | exact heap_st4_ne hb | exact heap_st8_ne hb⟩
  · obtain ⟨c0, c1, c2, c3, cz⟩ := cells4 hc.out
    exact ⟨(st4 W j (ta)), by simp [execOp, go_sem, c0, c1, c2, c3, cz], by first | exact heap_st4 hc.out _ | exact heap_st8 hc.out _ _, fun hk => by first | exact below_st4 (Below.refl _ _) hk | exact below_st8 (Below.refl _ _) hk, fun b hb => by first | exact heap_st4_ne hb | exact heap_st8_ne hb⟩
  simp only [Act.put, List.setIfInBounds_toArray, List.set_cons_succ, List.set_cons_zero]
  have z1 := b0.out.size
  have g1 : w.heap.size ≤ k1 := Nat.le_trans b0.out.size hk1
  have gj1 : w.heap.size ≤ j1 := Nat.le_trans b0.out.size hj1
  have s1 : Hid (Kn w1 [(k1, (c4 (sa))), (j1, (c4 (ta))), (w.heap.size + 1, lZ), (w.heap.size, (lR (px) (pz)))]) := s0.out.two hb1.out hk1 hj1 hn1.out hc1.out hd1.out
  have b1 : Hid (Below w.heap.size w w1) := b0.out.trans (hb1.out.mono b0.out.size)
  clear s0 b0 hb1 hc1 hd1 hk1 hj1
  have us_0 : w1.cell? ⟨k1, 0, none⟩ = some (.int .u64 (sa).a) := Kn.get s1.out 0 0 rfl rfl
  have us_1 : w1.cell? ⟨k1, 1, none⟩ = some (.int .u64 (sa).b) := Kn.get s1.out 0 1 rfl rfl
  have us_2 : w1.cell? ⟨k1, 2, none⟩ = some (.int .u64 (sa).c) := Kn.get s1.out 0 2 rfl rfl
  have us_3 : w1.cell? ⟨k1, 3, none⟩ = some (.int .u64 (sa).d) := Kn.get s1.out 0 3 rfl rfl
  have ut_0 : w1.cell? ⟨j1, 0, none⟩ = some (.int .u64 (ta).a) := Kn.get s1.out 1 0 rfl rfl
  have ut_1 : w1.cell? ⟨j1, 1, none⟩ = some (.int .u64 (ta).b) := Kn.get s1.out 1 1 rfl rfl
  have ut_2 : w1.cell? ⟨j1, 2, none⟩ = some (.int .u64 (ta).c) := Kn.get s1.out 1 2 rfl rfl
  have ut_3 : w1.cell? ⟨j1, 3, none⟩ = some (.int .u64 (ta).d) := Kn.get s1.out 1 3 rfl rfl
  go_wp2_with fail
  clear us_0 us_1 us_2 us_3 ut_0 ut_1 ut_2 ut_3
  refine (E1 _).mono ?_
  rintro e w2 ⟨rfl, hb2⟩
  have s2 : Hid (Kn w2 [(k1, (c4 (sa))), (j1, (c4 (ta))), (w.heap.size + 1, lZ), (w.heap.size, (lR (px) (pz)))]) := s1.out.up hb2
  have b2 : Hid (Below w.heap.size w w2) := b1.out.trans (hb2.mono b1.out.size)
  have z2 := b2.out.size
  clear hb2 s1 b1
  have s3 : Hid (Kn (kal4 w2 (ea)) [(w2.heap.size, (c4 (ea))), (k1, (c4 (sa))), (j1, (c4 (ta))), (w.heap.size + 1, lZ), (w.heap.size, (lR (px) (pz)))]) := s2.out.al (c4 (ea)) 28 rfl
  have b3 : Hid (Below w.heap.size w (kal4 w2 (ea))) := b2.out.alloc b2.out.size _
  have z3 := b2.out.size
  clear s2 b2
  go_wp2_with fail
  refine wp_region_up_then 11 (by kernel_rfl) (by kernel_rfl) (by kernel_rfl) (by kernel_rfl) (by decide) (fun _ _ d _ _ h => by cases d <;> exact h) (fun U hU f hf hcl => ?_)
  have us_0 := fun nx => (Kn.get (s3.out.up (hf nx).out) 1 0 rfl rfl : (f nx).cell? ⟨k1, 0, none⟩ = some (.int .u64 (sa).a))
  have us_1 := fun nx => (Kn.get (s3.out.up (hf nx).out) 1 1 rfl rfl : (f nx).cell? ⟨k1, 1, none⟩ = some (.int .u64 (sa).b))
  have us_2 := fun nx => (Kn.get (s3.out.up (hf nx).out) 1 2 rfl rfl : (f nx).cell? ⟨k1, 2, none⟩ = some (.int .u64 (sa).c))
  have us_3 := fun nx => (Kn.get (s3.out.up (hf nx).out) 1 3 rfl rfl : (f nx).cell? ⟨k1, 3, none⟩ = some (.int .u64 (sa).d))
  have ut_0 := fun nx => (Kn.get (s3.out.up (hf nx).out) 2 0 rfl rfl : (f nx).cell? ⟨j1, 0, none⟩ = some (.int .u64 (ta).a))
  have ut_1 := fun nx => (Kn.get (s3.out.up (hf nx).out) 2 1 rfl rfl : (f nx).cell? ⟨j1, 1, none⟩ = some (.int .u64 (ta).b))
  have ut_2 := fun nx => (Kn.get (s3.out.up (hf nx).out) 2 2 rfl rfl : (f nx).cell? ⟨j1, 2, none⟩ = some (.int .u64 (ta).c))
  have ut_3 := fun nx => (Kn.get (s3.out.up (hf nx).out) 2 3 rfl rfl : (f nx).cell? ⟨j1, 3, none⟩ = some (.int .u64 (ta).d))
  have ue_0 := fun nx => (Kn.get (s3.out.up (hf nx).out) 0 0 rfl rfl : (f nx).cell? ⟨w2.heap.size, 0, none⟩ = some (.int .u64 (ea).a))
  have ue_1 := fun nx => (Kn.get (s3.out.up (hf nx).out) 0 1 rfl rfl : (f nx).cell? ⟨w2.heap.size, 1, none⟩ = some (.int .u64 (ea).b))
  have ue_2 := fun nx => (Kn.get (s3.out.up (hf nx).out) 0 2 rfl rfl : (f nx).cell? ⟨w2.heap.size, 2, none⟩ = some (.int .u64 (ea).c))
  have ue_3 := fun nx => (Kn.get (s3.out.up (hf nx).out) 0 3 rfl rfl : (f nx).cell? ⟨w2.heap.size, 3, none⟩ = some (.int .u64 (ea).d))
  simp only [List.take_succ_cons, List.take_zero, List.drop_succ_cons, List.drop_zero]
  repeat (first | (refine quiet_buildL rfl 62 _ _ rfl (N rx) (N rz) (lR rx rz) rfl rfl (lpr_built rx rz) ?_; simp only [Act.put, List.setIfInBounds_toArray, List.set_cons_succ, List.set_cons_zero]) | go_big_quiet_step (first | (go_at_call_of 34 [Value.agg #[Value.int IntKind.u64 sa.a, Value.int IntKind.u64 sa.b, Value.int IntKind.u64 sa.c, Value.int IntKind.u64 sa.d], Value.agg #[Value.int IntKind.u64 ta.a, Value.int IntKind.u64 ta.b, Value.int IntKind.u64 ta.c, Value.int IntKind.u64 ta.d]]; exact (M1 _).mono fun e w'' ⟨he, hb⟩ => ⟨he, hcl.out _ _ hb⟩) | (go_at_call_of 34 [Value.agg #[Value.int IntKind.u64 121665, Value.int IntKind.u64 0, Value.int IntKind.u64 0, Value.int IntKind.u64 0], Value.agg #[Value.int IntKind.u64 ea.a, Value.int IntKind.u64 ea.b, Value.int IntKind.u64 ea.c, Value.int IntKind.u64 ea.d]]; exact (M2 _).mono fun e w'' ⟨he, hb⟩ => ⟨he, hcl.out _ _ hb⟩) | (go_at_call 36; exact (M3 _).mono fun e w'' ⟨he, hb⟩ => ⟨he, hcl.out _ _ hb⟩) | (go_at_call_of 34 [Value.agg #[Value.int IntKind.u64 ea.a, Value.int IntKind.u64 ea.b, Value.int IntKind.u64 ea.c, Value.int IntKind.u64 ea.d], N ha]; exact (M4 _).mono fun e w'' ⟨he, hb⟩ => ⟨he, hcl.out _ _ hb⟩)))
  refine wpQuiet_nil ?_
  intro nx
  have hb4 := (hf nx).out
  clear hf hcl us_0 us_1 us_2 us_3 ut_0 ut_1 ut_2 ut_3 ue_0 ue_1 ue_2 ue_3
  generalize f nx = w4 at hb4 ⊢
  have s4 : Hid (Kn w4 [(w2.heap.size, (c4 (ea))), (k1, (c4 (sa))), (j1, (c4 (ta))), (w.heap.size + 1, lZ), (w.heap.size, (lR (px) (pz)))]) := s3.out.up hb4
  have b4 : Hid (Below w.heap.size w w4) := b3.out.trans (hb4.mono b3.out.size)
  have z4 := b4.out.size
  clear hb4 s3 b3
  have s5x : Hid (Kn w4 [(w.heap.size + 1, lZ), (w2.heap.size, (c4 (ea))), (k1, (c4 (sa))), (j1, (c4 (ta))), (w.heap.size, (lR (px) (pz)))]) := s4.out.front 3 rfl
  have b5x : Hid (Below w.heap.size w w4) := b4.out
  have TT5 : Hid (w4.there (w.heap.size + 1) 0 (lR (rx) (rz)).length) := Kn.there s5x.out 0 rfl (by rw [(lR_length (rx) (rz)), lZ_length])
  go_wp2_with (first | refine I.wp_store_eq rfl 62 _ _ rfl (w.heap.size + 1) 0 (lR (rx) (rz)) rfl rfl TT5.out (info_lR (rx) (rz)) (lR_one (rx) (rz)) ?_)
  intro w5 hw5
  try simp only [Act.put, List.setIfInBounds_toArray, List.set_cons_succ, List.set_cons_zero]
  have s5 : Hid (Kn w5 [(w.heap.size + 1, (lR (rx) (rz))), (w2.heap.size, (c4 (ea))), (k1, (c4 (sa))), (j1, (c4 (ta))), (w.heap.size, (lR (px) (pz)))]) := by rw [hw5.out]; exact Kn.put s5x.out (by rw [(lR_length (rx) (rz)), lZ_length])
  have b5 : Hid (Below w.heap.size w w5) := by rw [hw5.out]; exact I.below_setCells _ _ _ b5x.out (by omega)
  have z5 := b5.out.size
  clear hw5 s5x b5x TT5 s4 b4
  go_wp2_with fail
  exact bodyPost_ret (v := lV rx rz) (I.results_cell (b := w.heap.size + 1) rfl rfl (Kn.rng s5.out 0 rfl) Try.underlying62 rfl (info_lR (rx) (rz))) rfl ⟨rfl, b5.out⟩
set_option maxRecDepth 20000 in
set_option maxHeartbeats 2000000 in
theorem ljn_walk (qx qz rx rz u a1 a2 aa c1 c2 ca d1 d2 d3 ox oz : Nm)
    (A1 : ∀ w, Calls Try.prog 36 #[N rx, N rz] w fun e w' => e = .returned (N a1) ∧ Below w.heap.size w w')
    (A2 : ∀ w, Calls Try.prog 35 #[N qx, N qz] w fun e w' => e = .returned (N a2) ∧ Below w.heap.size w w')
    (A3 : ∀ w, Calls Try.prog 34 #[N a1, N a2] w fun e w' => e = .returned (N aa) ∧ Below w.heap.size w w')
    (B1 : ∀ w, Calls Try.prog 35 #[N rx, N rz] w fun e w' => e = .returned (N c1) ∧ Below w.heap.size w w')
    (B2 : ∀ w, Calls Try.prog 36 #[N qx, N qz] w fun e w' => e = .returned (N c2) ∧ Below w.heap.size w w')
    (B3 : ∀ w, Calls Try.prog 34 #[N c1, N c2] w fun e w' => e = .returned (N ca) ∧ Below w.heap.size w w')
    (D1 : ∀ w, Calls Try.prog 36 #[N aa, N ca] w fun e w' => e = .returned (N d1) ∧ Below w.heap.size w w')
    (Q1 : ∀ w, Calls Try.prog 71 #[N d1] w fun e w' => e = .returned (N ox) ∧ Below w.heap.size w w')
    (D2 : ∀ w, Calls Try.prog 35 #[N aa, N ca] w fun e w' => e = .returned (N d2) ∧ Below w.heap.size w w')
    (Q2 : ∀ w, Calls Try.prog 71 #[N d2] w fun e w' => e = .returned (N d3) ∧ Below w.heap.size w w')
    (M1 : ∀ w, Calls Try.prog 34 #[N u, N d3] w fun e w' => e = .returned (N oz) ∧ Below w.heap.size w w')
    (w : World) : Calls Try.prog 46 #[lV qx qz, lV rx rz, N u] w fun e w' => e = .returned (lV ox oz) ∧ Below w.heap.size w w' := by
  go_enter Try.func46, Try.ntmps46
  have s0 : Hid (Kn ((kal4 ((w.alloc (.cells (lR (qx) (qz)).toArray 62)).alloc (.cells (lR (rx) (rz)).toArray 62)) (u)).alloc (.cells #[Value.int IntKind.u64 0, Value.int IntKind.u64 0, Value.int IntKind.u64 0, Value.int IntKind.u64 0, Value.int IntKind.u64 0, Value.int IntKind.u64 0, Value.int IntKind.u64 0, Value.int IntKind.u64 0] 62)) [(w.heap.size + 1 + 1 + 1, lZ), (w.heap.size + 1 + 1, (c4 (u))), (w.heap.size + 1, (lR (rx) (rz))), (w.heap.size, (lR (qx) (qz)))]) := (((((Kn.nil w).al (lR (qx) (qz)) 62 rfl).al (lR (rx) (rz)) 62 (by simp)).al (c4 (u)) 28 (by simp)).al lZ 62 (by simp))
  have b0 : Hid (Below w.heap.size w ((kal4 ((w.alloc (.cells (lR (qx) (qz)).toArray 62)).alloc (.cells (lR (rx) (rz)).toArray 62)) (u)).alloc (.cells #[Value.int IntKind.u64 0, Value.int IntKind.u64 0, Value.int IntKind.u64 0, Value.int IntKind.u64 0, Value.int IntKind.u64 0, Value.int IntKind.u64 0, Value.int IntKind.u64 0, Value.int IntKind.u64 0] 62))) := (((((Below.refl _ _).alloc (Nat.le_refl _) _).alloc (by simp <;> omega) _).alloc (by simp <;> omega) _).alloc (by simp <;> omega) _)
  go_wp2_with (first | simp only [zero_lpr])
  refine wp_region_alloc1 11 (.cells #[.int .u64 0, .int .u64 0, .int .u64 0, .int .u64 0] 28) (by kernel_rfl) (by kernel_rfl) (by kernel_rfl) (by kernel_rfl) (by decide) (fun _ _ d _ _ h => by cases d <;> exact h) rfl rfl (fun _ _ => by kernel_rfl) ?_
  apply Exists.intro
  refine ⟨fun U hU f hf hcl => ?_, fun k1 w1 hb1 hk1 hc1 => ?_⟩
  · skip
    have ra_q_0 := fun nx => (Kn.rng (s0.out.up (hf nx).out) 3 rfl : (f nx).rangeAt (w.heap.size) 0 (lR (qx) (qz)))
    have ra_q_1 := fun nx => (Kn.lng0 (s0.out.up (hf nx).out) 3 rfl : (f nx).rangeAt (w.heap.size) 0 [Value.int IntKind.u64 qx.a, Value.int IntKind.u64 qx.b, Value.int IntKind.u64 qx.c, Value.int IntKind.u64 qx.d])
    have ra_q_2 := fun nx => (Kn.lng1 (s0.out.up (hf nx).out) 3 rfl : (f nx).rangeAt (w.heap.size) 4 [Value.int IntKind.u64 qz.a, Value.int IntKind.u64 qz.b, Value.int IntKind.u64 qz.c, Value.int IntKind.u64 qz.d])
    have ra_r_0 := fun nx => (Kn.rng (s0.out.up (hf nx).out) 2 rfl : (f nx).rangeAt (w.heap.size + 1) 0 (lR (rx) (rz)))
    have ra_r_1 := fun nx => (Kn.lng0 (s0.out.up (hf nx).out) 2 rfl : (f nx).rangeAt (w.heap.size + 1) 0 [Value.int IntKind.u64 rx.a, Value.int IntKind.u64 rx.b, Value.int IntKind.u64 rx.c, Value.int IntKind.u64 rx.d])
    have ra_r_2 := fun nx => (Kn.lng1 (s0.out.up (hf nx).out) 2 rfl : (f nx).rangeAt (w.heap.size + 1) 4 [Value.int IntKind.u64 rz.a, Value.int IntKind.u64 rz.b, Value.int IntKind.u64 rz.c, Value.int IntKind.u64 rz.d])
    clear hf
    simp only [List.take_succ_cons, List.take_zero]
    repeat (first | (refine I.quiet_load rfl 62 _ rfl (w.heap.size) 0 rfl (lR (qx) (qz)) _ (fun W hW => by obtain ⟨nx, rfl⟩ := hW; exact ra_q_0 nx) Try.underlying62 rfl (info_lR (qx) (qz)) ?_; simp only [Act.put, List.setIfInBounds_toArray, List.set_cons_succ, List.set_cons_zero]) | (refine I.quiet_load rfl 28 _ rfl (w.heap.size) 0 rfl [Value.int IntKind.u64 qx.a, Value.int IntKind.u64 qx.b, Value.int IntKind.u64 qx.c, Value.int IntKind.u64 qx.d] _ (fun W hW => by obtain ⟨nx, rfl⟩ := hW; exact ra_q_1 nx) Try.underlying28 rfl (info_c4 (qx)) ?_; simp only [Act.put, List.setIfInBounds_toArray, List.set_cons_succ, List.set_cons_zero]) | (refine I.quiet_load rfl 28 _ rfl (w.heap.size) 4 rfl [Value.int IntKind.u64 qz.a, Value.int IntKind.u64 qz.b, Value.int IntKind.u64 qz.c, Value.int IntKind.u64 qz.d] _ (fun W hW => by obtain ⟨nx, rfl⟩ := hW; exact ra_q_2 nx) Try.underlying28 rfl (info_c4 (qz)) ?_; simp only [Act.put, List.setIfInBounds_toArray, List.set_cons_succ, List.set_cons_zero]) | (refine I.quiet_load rfl 62 _ rfl (w.heap.size + 1) 0 rfl (lR (rx) (rz)) _ (fun W hW => by obtain ⟨nx, rfl⟩ := hW; exact ra_r_0 nx) Try.underlying62 rfl (info_lR (rx) (rz)) ?_; simp only [Act.put, List.setIfInBounds_toArray, List.set_cons_succ, List.set_cons_zero]) | (refine I.quiet_load rfl 28 _ rfl (w.heap.size + 1) 0 rfl [Value.int IntKind.u64 rx.a, Value.int IntKind.u64 rx.b, Value.int IntKind.u64 rx.c, Value.int IntKind.u64 rx.d] _ (fun W hW => by obtain ⟨nx, rfl⟩ := hW; exact ra_r_1 nx) Try.underlying28 rfl (info_c4 (rx)) ?_; simp only [Act.put, List.setIfInBounds_toArray, List.set_cons_succ, List.set_cons_zero]) | (refine I.quiet_load rfl 28 _ rfl (w.heap.size + 1) 4 rfl [Value.int IntKind.u64 rz.a, Value.int IntKind.u64 rz.b, Value.int IntKind.u64 rz.c, Value.int IntKind.u64 rz.d] _ (fun W hW => by obtain ⟨nx, rfl⟩ := hW; exact ra_r_2 nx) Try.underlying28 rfl (info_c4 (rz)) ?_; simp only [Act.put, List.setIfInBounds_toArray, List.set_cons_succ, List.set_cons_zero]) | go_big_quiet_step (first | (go_at_call 36; exact (A1 _).mono fun e w'' ⟨he, hb⟩ => ⟨he, hcl.out _ _ hb⟩) | (go_at_call 35; exact (A2 _).mono fun e w'' ⟨he, hb⟩ => ⟨he, hcl.out _ _ hb⟩) | (go_at_call 34; exact (A3 _).mono fun e w'' ⟨he, hb⟩ => ⟨he, hcl.out _ _ hb⟩)))
    exact wpQuiet_nil rfl
  simp only [List.drop_succ_cons, List.drop_zero]
  have z1 := b0.out.size
  have s1x : Hid (Kn w1 [(k1, zz4), (w.heap.size + 1 + 1 + 1, lZ), (w.heap.size + 1 + 1, (c4 (u))), (w.heap.size + 1, (lR (rx) (rz))), (w.heap.size, (lR (qx) (qz)))]) := s0.out.fresh hb1.out hk1 hc1.out
  have g1 : w.heap.size ≤ k1 := Nat.le_trans b0.out.size hk1
  have cz1_0 : w1.cell? ⟨k1, 0, none⟩ = some (.int .u64 0) := Kn.get s1x.out 0 0 rfl rfl
  have cz1_1 : w1.cell? ⟨k1, 1, none⟩ = some (.int .u64 0) := Kn.get s1x.out 0 1 rfl rfl
  have cz1_2 : w1.cell? ⟨k1, 2, none⟩ = some (.int .u64 0) := Kn.get s1x.out 0 2 rfl rfl
  have cz1_3 : w1.cell? ⟨k1, 3, none⟩ = some (.int .u64 0) := Kn.get s1x.out 0 3 rfl rfl
  have cz1 : ∀ j, w1.frozen? ⟨k1, j, none⟩ = false := Kn.fz s1x.out 0 rfl
  have s1 : Hid (Kn (st4 w1 k1 (aa)) [(k1, (c4 (aa))), (w.heap.size + 1 + 1 + 1, lZ), (w.heap.size + 1 + 1, (c4 (u))), (w.heap.size + 1, (lR (rx) (rz))), (w.heap.size, (lR (qx) (qz)))]) := s1x.out.st4 (aa)
  have b1 : Hid (Below w.heap.size w (st4 w1 k1 (aa))) := below_st4 (b0.out.trans (hb1.out.mono b0.out.size)) g1
  clear s1x s0 b0 hb1 hc1 hk1
  go_wp2_with fail
  clear cz1_0 cz1_1 cz1_2 cz1_3 cz1
  refine wp_region_alloc1 11 (.cells #[.int .u64 0, .int .u64 0, .int .u64 0, .int .u64 0] 28) (by kernel_rfl) (by kernel_rfl) (by kernel_rfl) (by kernel_rfl) (by decide) (fun _ _ d _ _ h => by cases d <;> exact h) rfl rfl (fun _ _ => by kernel_rfl) ?_
  apply Exists.intro
  refine ⟨fun U hU f hf hcl => ?_, fun k2 w2 hb2 hk2 hc2 => ?_⟩
  · skip
    have ra_q_0 := fun nx => (Kn.rng (s1.out.up (hf nx).out) 4 rfl : (f nx).rangeAt (w.heap.size) 0 (lR (qx) (qz)))
    have ra_q_1 := fun nx => (Kn.lng0 (s1.out.up (hf nx).out) 4 rfl : (f nx).rangeAt (w.heap.size) 0 [Value.int IntKind.u64 qx.a, Value.int IntKind.u64 qx.b, Value.int IntKind.u64 qx.c, Value.int IntKind.u64 qx.d])
    have ra_q_2 := fun nx => (Kn.lng1 (s1.out.up (hf nx).out) 4 rfl : (f nx).rangeAt (w.heap.size) 4 [Value.int IntKind.u64 qz.a, Value.int IntKind.u64 qz.b, Value.int IntKind.u64 qz.c, Value.int IntKind.u64 qz.d])
    have ra_r_0 := fun nx => (Kn.rng (s1.out.up (hf nx).out) 3 rfl : (f nx).rangeAt (w.heap.size + 1) 0 (lR (rx) (rz)))
    have ra_r_1 := fun nx => (Kn.lng0 (s1.out.up (hf nx).out) 3 rfl : (f nx).rangeAt (w.heap.size + 1) 0 [Value.int IntKind.u64 rx.a, Value.int IntKind.u64 rx.b, Value.int IntKind.u64 rx.c, Value.int IntKind.u64 rx.d])
    have ra_r_2 := fun nx => (Kn.lng1 (s1.out.up (hf nx).out) 3 rfl : (f nx).rangeAt (w.heap.size + 1) 4 [Value.int IntKind.u64 rz.a, Value.int IntKind.u64 rz.b, Value.int IntKind.u64 rz.c, Value.int IntKind.u64 rz.d])
    clear hf
    simp only [List.take_succ_cons, List.take_zero]
    repeat (first | (refine I.quiet_load rfl 62 _ rfl (w.heap.size) 0 rfl (lR (qx) (qz)) _ (fun W hW => by obtain ⟨nx, rfl⟩ := hW; exact ra_q_0 nx) Try.underlying62 rfl (info_lR (qx) (qz)) ?_; simp only [Act.put, List.setIfInBounds_toArray, List.set_cons_succ, List.set_cons_zero]) | (refine I.quiet_load rfl 28 _ rfl (w.heap.size) 0 rfl [Value.int IntKind.u64 qx.a, Value.int IntKind.u64 qx.b, Value.int IntKind.u64 qx.c, Value.int IntKind.u64 qx.d] _ (fun W hW => by obtain ⟨nx, rfl⟩ := hW; exact ra_q_1 nx) Try.underlying28 rfl (info_c4 (qx)) ?_; simp only [Act.put, List.setIfInBounds_toArray, List.set_cons_succ, List.set_cons_zero]) | (refine I.quiet_load rfl 28 _ rfl (w.heap.size) 4 rfl [Value.int IntKind.u64 qz.a, Value.int IntKind.u64 qz.b, Value.int IntKind.u64 qz.c, Value.int IntKind.u64 qz.d] _ (fun W hW => by obtain ⟨nx, rfl⟩ := hW; exact ra_q_2 nx) Try.underlying28 rfl (info_c4 (qz)) ?_; simp only [Act.put, List.setIfInBounds_toArray, List.set_cons_succ, List.set_cons_zero]) | (refine I.quiet_load rfl 62 _ rfl (w.heap.size + 1) 0 rfl (lR (rx) (rz)) _ (fun W hW => by obtain ⟨nx, rfl⟩ := hW; exact ra_r_0 nx) Try.underlying62 rfl (info_lR (rx) (rz)) ?_; simp only [Act.put, List.setIfInBounds_toArray, List.set_cons_succ, List.set_cons_zero]) | (refine I.quiet_load rfl 28 _ rfl (w.heap.size + 1) 0 rfl [Value.int IntKind.u64 rx.a, Value.int IntKind.u64 rx.b, Value.int IntKind.u64 rx.c, Value.int IntKind.u64 rx.d] _ (fun W hW => by obtain ⟨nx, rfl⟩ := hW; exact ra_r_1 nx) Try.underlying28 rfl (info_c4 (rx)) ?_; simp only [Act.put, List.setIfInBounds_toArray, List.set_cons_succ, List.set_cons_zero]) | (refine I.quiet_load rfl 28 _ rfl (w.heap.size + 1) 4 rfl [Value.int IntKind.u64 rz.a, Value.int IntKind.u64 rz.b, Value.int IntKind.u64 rz.c, Value.int IntKind.u64 rz.d] _ (fun W hW => by obtain ⟨nx, rfl⟩ := hW; exact ra_r_2 nx) Try.underlying28 rfl (info_c4 (rz)) ?_; simp only [Act.put, List.setIfInBounds_toArray, List.set_cons_succ, List.set_cons_zero]) | go_big_quiet_step (first | (go_at_call 35; exact (B1 _).mono fun e w'' ⟨he, hb⟩ => ⟨he, hcl.out _ _ hb⟩) | (go_at_call 36; exact (B2 _).mono fun e w'' ⟨he, hb⟩ => ⟨he, hcl.out _ _ hb⟩) | (go_at_call 34; exact (B3 _).mono fun e w'' ⟨he, hb⟩ => ⟨he, hcl.out _ _ hb⟩)))
    exact wpQuiet_nil rfl
  simp only [List.drop_succ_cons, List.drop_zero]
  have z2 := b1.out.size
  have s2x : Hid (Kn w2 [(k2, zz4), (k1, (c4 (aa))), (w.heap.size + 1 + 1 + 1, lZ), (w.heap.size + 1 + 1, (c4 (u))), (w.heap.size + 1, (lR (rx) (rz))), (w.heap.size, (lR (qx) (qz)))]) := s1.out.fresh hb2.out hk2 hc2.out
  have g2 : w.heap.size ≤ k2 := Nat.le_trans b1.out.size hk2
  have cz2_0 : w2.cell? ⟨k2, 0, none⟩ = some (.int .u64 0) := Kn.get s2x.out 0 0 rfl rfl
  have cz2_1 : w2.cell? ⟨k2, 1, none⟩ = some (.int .u64 0) := Kn.get s2x.out 0 1 rfl rfl
  have cz2_2 : w2.cell? ⟨k2, 2, none⟩ = some (.int .u64 0) := Kn.get s2x.out 0 2 rfl rfl
  have cz2_3 : w2.cell? ⟨k2, 3, none⟩ = some (.int .u64 0) := Kn.get s2x.out 0 3 rfl rfl
  have cz2 : ∀ j, w2.frozen? ⟨k2, j, none⟩ = false := Kn.fz s2x.out 0 rfl
  have s2 : Hid (Kn (st4 w2 k2 (ca)) [(k2, (c4 (ca))), (k1, (c4 (aa))), (w.heap.size + 1 + 1 + 1, lZ), (w.heap.size + 1 + 1, (c4 (u))), (w.heap.size + 1, (lR (rx) (rz))), (w.heap.size, (lR (qx) (qz)))]) := s2x.out.st4 (ca)
  have b2 : Hid (Below w.heap.size w (st4 w2 k2 (ca))) := below_st4 (b1.out.trans (hb2.out.mono b1.out.size)) g2
  clear s2x s1 b1 hb2 hc2 hk2
  go_wp2_with fail
  clear cz2_0 cz2_1 cz2_2 cz2_3 cz2
  refine wp_region_up_then 11 (by kernel_rfl) (by kernel_rfl) (by kernel_rfl) (by kernel_rfl) (by decide) (fun _ _ d _ _ h => by cases d <;> exact h) (fun U hU f hf hcl => ?_)
  have uu_0 := fun nx => (Kn.get (s2.out.up (hf nx).out) 3 0 rfl rfl : (f nx).cell? ⟨w.heap.size + 1 + 1, 0, none⟩ = some (.int .u64 (u).a))
  have uu_1 := fun nx => (Kn.get (s2.out.up (hf nx).out) 3 1 rfl rfl : (f nx).cell? ⟨w.heap.size + 1 + 1, 1, none⟩ = some (.int .u64 (u).b))
  have uu_2 := fun nx => (Kn.get (s2.out.up (hf nx).out) 3 2 rfl rfl : (f nx).cell? ⟨w.heap.size + 1 + 1, 2, none⟩ = some (.int .u64 (u).c))
  have uu_3 := fun nx => (Kn.get (s2.out.up (hf nx).out) 3 3 rfl rfl : (f nx).cell? ⟨w.heap.size + 1 + 1, 3, none⟩ = some (.int .u64 (u).d))
  have ua_0 := fun nx => (Kn.get (s2.out.up (hf nx).out) 1 0 rfl rfl : (f nx).cell? ⟨k1, 0, none⟩ = some (.int .u64 (aa).a))
  have ua_1 := fun nx => (Kn.get (s2.out.up (hf nx).out) 1 1 rfl rfl : (f nx).cell? ⟨k1, 1, none⟩ = some (.int .u64 (aa).b))
  have ua_2 := fun nx => (Kn.get (s2.out.up (hf nx).out) 1 2 rfl rfl : (f nx).cell? ⟨k1, 2, none⟩ = some (.int .u64 (aa).c))
  have ua_3 := fun nx => (Kn.get (s2.out.up (hf nx).out) 1 3 rfl rfl : (f nx).cell? ⟨k1, 3, none⟩ = some (.int .u64 (aa).d))
  have ub_0 := fun nx => (Kn.get (s2.out.up (hf nx).out) 0 0 rfl rfl : (f nx).cell? ⟨k2, 0, none⟩ = some (.int .u64 (ca).a))
  have ub_1 := fun nx => (Kn.get (s2.out.up (hf nx).out) 0 1 rfl rfl : (f nx).cell? ⟨k2, 1, none⟩ = some (.int .u64 (ca).b))
  have ub_2 := fun nx => (Kn.get (s2.out.up (hf nx).out) 0 2 rfl rfl : (f nx).cell? ⟨k2, 2, none⟩ = some (.int .u64 (ca).c))
  have ub_3 := fun nx => (Kn.get (s2.out.up (hf nx).out) 0 3 rfl rfl : (f nx).cell? ⟨k2, 3, none⟩ = some (.int .u64 (ca).d))
  simp only [List.take_succ_cons, List.take_zero, List.drop_succ_cons, List.drop_zero]
  repeat (first | (refine quiet_buildL rfl 62 _ _ rfl (N ox) (N oz) (lR ox oz) rfl rfl (lpr_built ox oz) ?_; simp only [Act.put, List.setIfInBounds_toArray, List.set_cons_succ, List.set_cons_zero]) | go_big_quiet_step (first | (go_at_call 36; exact (D1 _).mono fun e w'' ⟨he, hb⟩ => ⟨he, hcl.out _ _ hb⟩) | (go_at_call_of 71 [N d1]; exact (Q1 _).mono fun e w'' ⟨he, hb⟩ => ⟨he, hcl.out _ _ hb⟩) | (go_at_call 35; exact (D2 _).mono fun e w'' ⟨he, hb⟩ => ⟨he, hcl.out _ _ hb⟩) | (go_at_call_of 71 [N d2]; exact (Q2 _).mono fun e w'' ⟨he, hb⟩ => ⟨he, hcl.out _ _ hb⟩) | (go_at_call 34; exact (M1 _).mono fun e w'' ⟨he, hb⟩ => ⟨he, hcl.out _ _ hb⟩)))
  refine wpQuiet_nil ?_
  intro nx
  have hb3 := (hf nx).out
  clear hf hcl uu_0 uu_1 uu_2 uu_3 ua_0 ua_1 ua_2 ua_3 ub_0 ub_1 ub_2 ub_3
  generalize f nx = w3 at hb3 ⊢
  have s3 : Hid (Kn w3 [(k2, (c4 (ca))), (k1, (c4 (aa))), (w.heap.size + 1 + 1 + 1, lZ), (w.heap.size + 1 + 1, (c4 (u))), (w.heap.size + 1, (lR (rx) (rz))), (w.heap.size, (lR (qx) (qz)))]) := s2.out.up hb3
  have b3 : Hid (Below w.heap.size w w3) := b2.out.trans (hb3.mono b2.out.size)
  have z3 := b3.out.size
  clear hb3 s2 b2
  have s4x : Hid (Kn w3 [(w.heap.size + 1 + 1 + 1, lZ), (k2, (c4 (ca))), (k1, (c4 (aa))), (w.heap.size + 1 + 1, (c4 (u))), (w.heap.size + 1, (lR (rx) (rz))), (w.heap.size, (lR (qx) (qz)))]) := s3.out.front 2 rfl
  have b4x : Hid (Below w.heap.size w w3) := b3.out
  have TT4 : Hid (w3.there (w.heap.size + 1 + 1 + 1) 0 (lR (ox) (oz)).length) := Kn.there s4x.out 0 rfl (by rw [(lR_length (ox) (oz)), lZ_length])
  go_wp2_with (first | refine I.wp_store_eq rfl 62 _ _ rfl (w.heap.size + 1 + 1 + 1) 0 (lR (ox) (oz)) rfl rfl TT4.out (info_lR (ox) (oz)) (lR_one (ox) (oz)) ?_)
  intro w4 hw4
  try simp only [Act.put, List.setIfInBounds_toArray, List.set_cons_succ, List.set_cons_zero]
  have s4 : Hid (Kn w4 [(w.heap.size + 1 + 1 + 1, (lR (ox) (oz))), (k2, (c4 (ca))), (k1, (c4 (aa))), (w.heap.size + 1 + 1, (c4 (u))), (w.heap.size + 1, (lR (rx) (rz))), (w.heap.size, (lR (qx) (qz)))]) := by rw [hw4.out]; exact Kn.put s4x.out (by rw [(lR_length (ox) (oz)), lZ_length])
  have b4 : Hid (Below w.heap.size w w4) := by rw [hw4.out]; exact I.below_setCells _ _ _ b4x.out (by omega)
  have z4 := b4.out.size
  clear hw4 s4x b4x TT4 s3 b3
  go_wp2_with fail
  exact bodyPost_ret (v := lV ox oz) (I.results_cell (b := w.heap.size + 1 + 1 + 1) rfl rfl (Kn.rng s4.out 0 rfl) Try.underlying62 rfl (info_lR (ox) (oz))) rfl ⟨rfl, b4.out⟩
set_option maxRecDepth 20000 in
set_option maxHeartbeats 2000000 in
theorem lpick_walk (c : Int) (px pz qx qz rx rz : Nm)
    (P1 : ∀ w, Calls Try.prog 72 #[.int .u64 c, N px, N qx] w fun e w' => e = .returned (N rx) ∧ Below w.heap.size w w')
    (P2 : ∀ w, Calls Try.prog 72 #[.int .u64 c, N pz, N qz] w fun e w' => e = .returned (N rz) ∧ Below w.heap.size w w')
    (w : World) : Calls Try.prog 45 #[.int .u64 c, lV px pz, lV qx qz] w fun e w' => e = .returned (lV rx rz) ∧ Below w.heap.size w w' := by
  go_enter Try.func45, Try.ntmps45
  have s0 : Hid (Kn (((w.alloc (.cells (lR (px) (pz)).toArray 62)).alloc (.cells (lR (qx) (qz)).toArray 62)).alloc (.cells #[Value.int IntKind.u64 0, Value.int IntKind.u64 0, Value.int IntKind.u64 0, Value.int IntKind.u64 0, Value.int IntKind.u64 0, Value.int IntKind.u64 0, Value.int IntKind.u64 0, Value.int IntKind.u64 0] 62)) [(w.heap.size + 1 + 1, lZ), (w.heap.size + 1, (lR (qx) (qz))), (w.heap.size, (lR (px) (pz)))]) := ((((Kn.nil w).al (lR (px) (pz)) 62 rfl).al (lR (qx) (qz)) 62 (by simp)).al lZ 62 (by simp))
  have b0 : Hid (Below w.heap.size w (((w.alloc (.cells (lR (px) (pz)).toArray 62)).alloc (.cells (lR (qx) (qz)).toArray 62)).alloc (.cells #[Value.int IntKind.u64 0, Value.int IntKind.u64 0, Value.int IntKind.u64 0, Value.int IntKind.u64 0, Value.int IntKind.u64 0, Value.int IntKind.u64 0, Value.int IntKind.u64 0, Value.int IntKind.u64 0] 62))) := ((((Below.refl _ _).alloc (Nat.le_refl _) _).alloc (by simp <;> omega) _).alloc (by simp <;> omega) _)
  go_wp2_with (first | simp only [zero_lpr])
  refine wp_region_up_then 13 (by kernel_rfl) (by kernel_rfl) (by kernel_rfl) (by kernel_rfl) (by decide) (fun _ _ d _ _ h => by cases d <;> exact h) (fun U hU f hf hcl => ?_)
  have ra_p_0 := fun nx => (Kn.rng (s0.out.up (hf nx).out) 2 rfl : (f nx).rangeAt (w.heap.size) 0 (lR (px) (pz)))
  have ra_p_1 := fun nx => (Kn.lng0 (s0.out.up (hf nx).out) 2 rfl : (f nx).rangeAt (w.heap.size) 0 [Value.int IntKind.u64 px.a, Value.int IntKind.u64 px.b, Value.int IntKind.u64 px.c, Value.int IntKind.u64 px.d])
  have ra_p_2 := fun nx => (Kn.lng1 (s0.out.up (hf nx).out) 2 rfl : (f nx).rangeAt (w.heap.size) 4 [Value.int IntKind.u64 pz.a, Value.int IntKind.u64 pz.b, Value.int IntKind.u64 pz.c, Value.int IntKind.u64 pz.d])
  have ra_q_0 := fun nx => (Kn.rng (s0.out.up (hf nx).out) 1 rfl : (f nx).rangeAt (w.heap.size + 1) 0 (lR (qx) (qz)))
  have ra_q_1 := fun nx => (Kn.lng0 (s0.out.up (hf nx).out) 1 rfl : (f nx).rangeAt (w.heap.size + 1) 0 [Value.int IntKind.u64 qx.a, Value.int IntKind.u64 qx.b, Value.int IntKind.u64 qx.c, Value.int IntKind.u64 qx.d])
  have ra_q_2 := fun nx => (Kn.lng1 (s0.out.up (hf nx).out) 1 rfl : (f nx).rangeAt (w.heap.size + 1) 4 [Value.int IntKind.u64 qz.a, Value.int IntKind.u64 qz.b, Value.int IntKind.u64 qz.c, Value.int IntKind.u64 qz.d])
  simp only [List.take_succ_cons, List.take_zero, List.drop_succ_cons, List.drop_zero]
  repeat (first | (refine quiet_buildL rfl 62 _ _ rfl (N rx) (N rz) (lR rx rz) rfl rfl (lpr_built rx rz) ?_; simp only [Act.put, List.setIfInBounds_toArray, List.set_cons_succ, List.set_cons_zero]) | (refine I.quiet_load rfl 62 _ rfl (w.heap.size) 0 rfl (lR (px) (pz)) _ (fun W hW => by obtain ⟨nx, rfl⟩ := hW; exact ra_p_0 nx) Try.underlying62 rfl (info_lR (px) (pz)) ?_; simp only [Act.put, List.setIfInBounds_toArray, List.set_cons_succ, List.set_cons_zero]) | (refine I.quiet_load rfl 28 _ rfl (w.heap.size) 0 rfl [Value.int IntKind.u64 px.a, Value.int IntKind.u64 px.b, Value.int IntKind.u64 px.c, Value.int IntKind.u64 px.d] _ (fun W hW => by obtain ⟨nx, rfl⟩ := hW; exact ra_p_1 nx) Try.underlying28 rfl (info_c4 (px)) ?_; simp only [Act.put, List.setIfInBounds_toArray, List.set_cons_succ, List.set_cons_zero]) | (refine I.quiet_load rfl 28 _ rfl (w.heap.size) 4 rfl [Value.int IntKind.u64 pz.a, Value.int IntKind.u64 pz.b, Value.int IntKind.u64 pz.c, Value.int IntKind.u64 pz.d] _ (fun W hW => by obtain ⟨nx, rfl⟩ := hW; exact ra_p_2 nx) Try.underlying28 rfl (info_c4 (pz)) ?_; simp only [Act.put, List.setIfInBounds_toArray, List.set_cons_succ, List.set_cons_zero]) | (refine I.quiet_load rfl 62 _ rfl (w.heap.size + 1) 0 rfl (lR (qx) (qz)) _ (fun W hW => by obtain ⟨nx, rfl⟩ := hW; exact ra_q_0 nx) Try.underlying62 rfl (info_lR (qx) (qz)) ?_; simp only [Act.put, List.setIfInBounds_toArray, List.set_cons_succ, List.set_cons_zero]) | (refine I.quiet_load rfl 28 _ rfl (w.heap.size + 1) 0 rfl [Value.int IntKind.u64 qx.a, Value.int IntKind.u64 qx.b, Value.int IntKind.u64 qx.c, Value.int IntKind.u64 qx.d] _ (fun W hW => by obtain ⟨nx, rfl⟩ := hW; exact ra_q_1 nx) Try.underlying28 rfl (info_c4 (qx)) ?_; simp only [Act.put, List.setIfInBounds_toArray, List.set_cons_succ, List.set_cons_zero]) | (refine I.quiet_load rfl 28 _ rfl (w.heap.size + 1) 4 rfl [Value.int IntKind.u64 qz.a, Value.int IntKind.u64 qz.b, Value.int IntKind.u64 qz.c, Value.int IntKind.u64 qz.d] _ (fun W hW => by obtain ⟨nx, rfl⟩ := hW; exact ra_q_2 nx) Try.underlying28 rfl (info_c4 (qz)) ?_; simp only [Act.put, List.setIfInBounds_toArray, List.set_cons_succ, List.set_cons_zero]) | go_big_quiet_step (first | (go_at_call_of 72 [Value.int IntKind.u64 c, Value.agg #[Value.int IntKind.u64 px.a, Value.int IntKind.u64 px.b, Value.int IntKind.u64 px.c, Value.int IntKind.u64 px.d], Value.agg #[Value.int IntKind.u64 qx.a, Value.int IntKind.u64 qx.b, Value.int IntKind.u64 qx.c, Value.int IntKind.u64 qx.d]]; exact (P1 _).mono fun e w'' ⟨he, hb⟩ => ⟨he, hcl.out _ _ hb⟩) | (go_at_call_of 72 [Value.int IntKind.u64 c, Value.agg #[Value.int IntKind.u64 pz.a, Value.int IntKind.u64 pz.b, Value.int IntKind.u64 pz.c, Value.int IntKind.u64 pz.d], Value.agg #[Value.int IntKind.u64 qz.a, Value.int IntKind.u64 qz.b, Value.int IntKind.u64 qz.c, Value.int IntKind.u64 qz.d]]; exact (P2 _).mono fun e w'' ⟨he, hb⟩ => ⟨he, hcl.out _ _ hb⟩)))
  refine wpQuiet_nil ?_
  intro nx
  have hb1 := (hf nx).out
  clear hf hcl
  generalize f nx = w1 at hb1 ⊢
  have s1 : Hid (Kn w1 [(w.heap.size + 1 + 1, lZ), (w.heap.size + 1, (lR (qx) (qz))), (w.heap.size, (lR (px) (pz)))]) := s0.out.up hb1
  have b1 : Hid (Below w.heap.size w w1) := b0.out.trans (hb1.mono b0.out.size)
  have z1 := b1.out.size
  clear hb1 s0 b0
  have s2x : Hid (Kn w1 [(w.heap.size + 1 + 1, lZ), (w.heap.size + 1, (lR (qx) (qz))), (w.heap.size, (lR (px) (pz)))]) := s1.out.front 0 rfl
  have b2x : Hid (Below w.heap.size w w1) := b1.out
  have TT2 : Hid (w1.there (w.heap.size + 1 + 1) 0 (lR (rx) (rz)).length) := Kn.there s2x.out 0 rfl (by rw [(lR_length (rx) (rz)), lZ_length])
  go_wp2_with (first | refine I.wp_store_eq rfl 62 _ _ rfl (w.heap.size + 1 + 1) 0 (lR (rx) (rz)) rfl rfl TT2.out (info_lR (rx) (rz)) (lR_one (rx) (rz)) ?_)
  intro w2 hw2
  try simp only [Act.put, List.setIfInBounds_toArray, List.set_cons_succ, List.set_cons_zero]
  have s2 : Hid (Kn w2 [(w.heap.size + 1 + 1, (lR (rx) (rz))), (w.heap.size + 1, (lR (qx) (qz))), (w.heap.size, (lR (px) (pz)))]) := by rw [hw2.out]; exact Kn.put s2x.out (by rw [(lR_length (rx) (rz)), lZ_length])
  have b2 : Hid (Below w.heap.size w w2) := by rw [hw2.out]; exact I.below_setCells _ _ _ b2x.out (by omega)
  have z2 := b2.out.size
  clear hw2 s2x b2x TT2 s1 b1
  go_wp2_with fail
  exact bodyPost_ret (v := lV rx rz) (I.results_cell (b := w.heap.size + 1 + 1) rfl rfl (Kn.rng s2.out 0 rfl) Try.underlying62 rfl (info_lR (rx) (rz))) rfl ⟨rfl, b2.out⟩
end Go.Proofs.Ytpnfopakkaoibaa
