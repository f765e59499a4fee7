/- Package curve, as it landed: fractions: asFraction, sum, pick, divided. -/
import Derived.Test.YtpnfopakkaoibaaQCvOn
import Derived.Test.YtpnfopakkaoibaaQUpV3ToKnL
import Derived.Test.YtpnfopakkaoibaaQCFrac
namespace Go.Proofs.Ytpnfopakkaoibaa
open Go.RowKit
attribute [local go_sem] World.cell?_alloc_some cell_alloc2 cell_alloc3 cell_alloc4 frozen?_alloc_cells frozen_out
set_option linter.unusedSimpArgs false
set_option maxRecDepth 20000 in
set_option maxHeartbeats 1000000 in
theorem asF_walk (px py ma : Nm)
    (M1 : ∀ w, Calls Try.prog 34 #[N px, N py] w fun e w' => e = .returned (N ma) ∧ Below w.heap.size w w')
    (w : World) :
    Calls Try.prog 66 #[Wv px py] w fun e w' => e = .returned (qV px py ma nI) ∧ Below w.heap.size w w' := by
  go_enter Try.func66, Try.ntmps66
  have s0 : Hid (Kn ((kalP w (px) (py)).alloc (.cells #[Value.int IntKind.u64 0, Value.int IntKind.u64 0, Value.int IntKind.u64 0, Value.int IntKind.u64 0, Value.int IntKind.u64 0, Value.int IntKind.u64 0, Value.int IntKind.u64 0, Value.int IntKind.u64 0, Value.int IntKind.u64 0, Value.int IntKind.u64 0, Value.int IntKind.u64 0, Value.int IntKind.u64 0, Value.int IntKind.u64 0, Value.int IntKind.u64 0, Value.int IntKind.u64 0, Value.int IntKind.u64 0] 89)) [(w.heap.size + 1, qZ), (w.heap.size, (c8 (px) (py)))]) := (((Kn.nil w).al (c8 (px) (py)) 35 rfl).al qZ 89 (by simp))
  have b0 : Hid (Below w.heap.size w ((kalP w (px) (py)).alloc (.cells #[Value.int IntKind.u64 0, Value.int IntKind.u64 0, Value.int IntKind.u64 0, Value.int IntKind.u64 0, Value.int IntKind.u64 0, Value.int IntKind.u64 0, Value.int IntKind.u64 0, Value.int IntKind.u64 0, Value.int IntKind.u64 0, Value.int IntKind.u64 0, Value.int IntKind.u64 0, Value.int IntKind.u64 0, Value.int IntKind.u64 0, Value.int IntKind.u64 0, Value.int IntKind.u64 0, Value.int IntKind.u64 0] 89))) := (((Below.refl _ _).alloc (Nat.le_refl _) _).alloc (by simp <;> omega) _)
  go_wp2_with (first | simp only [zero_fra])
  refine wp_region_up_then 11 (by kernel_rfl) (by kernel_rfl) (by kernel_rfl) (by kernel_rfl) (by decide) (fun _ _ d _ _ h => by cases d <;> exact h) (fun U hU f hf hcl => ?_)
  have up_0 := fun nx => (Kn.get (s0.out.up (hf nx).out) 1 0 rfl rfl : (f nx).cell? ⟨w.heap.size, 0, none⟩ = some (.int .u64 (px).a))
  have up_1 := fun nx => (Kn.get (s0.out.up (hf nx).out) 1 1 rfl rfl : (f nx).cell? ⟨w.heap.size, 1, none⟩ = some (.int .u64 (px).b))
  have up_2 := fun nx => (Kn.get (s0.out.up (hf nx).out) 1 2 rfl rfl : (f nx).cell? ⟨w.heap.size, 2, none⟩ = some (.int .u64 (px).c))
  have up_3 := fun nx => (Kn.get (s0.out.up (hf nx).out) 1 3 rfl rfl : (f nx).cell? ⟨w.heap.size, 3, none⟩ = some (.int .u64 (px).d))
  have up_4 := fun nx => (Kn.get (s0.out.up (hf nx).out) 1 4 rfl rfl : (f nx).cell? ⟨w.heap.size, 4, none⟩ = some (.int .u64 (py).a))
  have up_5 := fun nx => (Kn.get (s0.out.up (hf nx).out) 1 5 rfl rfl : (f nx).cell? ⟨w.heap.size, 5, none⟩ = some (.int .u64 (py).b))
  have up_6 := fun nx => (Kn.get (s0.out.up (hf nx).out) 1 6 rfl rfl : (f nx).cell? ⟨w.heap.size, 6, none⟩ = some (.int .u64 (py).c))
  have up_7 := fun nx => (Kn.get (s0.out.up (hf nx).out) 1 7 rfl rfl : (f nx).cell? ⟨w.heap.size, 7, none⟩ = some (.int .u64 (py).d))
  simp only [List.take_succ_cons, List.take_zero, List.drop_succ_cons, List.drop_zero]
  repeat (first | (refine quiet_buildF rfl 89 _ _ _ _ rfl (N px) (N py) (N ma) (N nI) (qR px py ma nI) rfl rfl rfl rfl (fra_built px py ma nI) ?_; simp only [Act.put, List.setIfInBounds_toArray, List.set_cons_succ, List.set_cons_zero]) | go_big_quiet_step (first | (go_at_call 34; exact (M1 _).mono fun e w'' ⟨he, hb⟩ => ⟨he, hcl.out _ _ hb⟩) | (go_at_call 37; exact (cone_walk _).mono fun e w'' ⟨he, hb⟩ => ⟨he, hcl.out _ _ hb⟩)))
  refine wpQuiet_nil ?_
  intro nx
  have hb1 := (hf nx).out
  clear hf hcl up_0 up_1 up_2 up_3 up_4 up_5 up_6 up_7
  generalize f nx = w1 at hb1 ⊢
  have s1 : Hid (Kn w1 [(w.heap.size + 1, qZ), (w.heap.size, (c8 (px) (py)))]) := s0.out.up hb1
  have b1 : Hid (Below w.heap.size w w1) := b0.out.trans (hb1.mono b0.out.size)
  have z1 := b1.out.size
  clear hb1 s0 b0
  have s2x : Hid (Kn w1 [(w.heap.size + 1, qZ), (w.heap.size, (c8 (px) (py)))]) := s1.out.front 0 rfl
  have b2x : Hid (Below w.heap.size w w1) := b1.out
  have TT2 : Hid (w1.there (w.heap.size + 1) 0 (qR (px) (py) (ma) (nI)).length) := Kn.there s2x.out 0 rfl (by rw [(qR_length (px) (py) (ma) (nI)), qZ_length])
  go_wp2_with (first | refine I.wp_store_eq rfl 89 _ _ rfl (w.heap.size + 1) 0 (qR (px) (py) (ma) (nI)) rfl rfl TT2.out (info_qR (px) (py) (ma) (nI)) (qR_one (px) (py) (ma) (nI)) ?_)
  intro w2 hw2
  try simp only [Act.put, List.setIfInBounds_toArray, List.set_cons_succ, List.set_cons_zero]
  have s2 : Hid (Kn w2 [(w.heap.size + 1, (qR (px) (py) (ma) (nI))), (w.heap.size, (c8 (px) (py)))]) := by rw [hw2.out]; exact Kn.put s2x.out (by rw [(qR_length (px) (py) (ma) (nI)), qZ_length])
  have b2 : Hid (Below w.heap.size w w2) := by rw [hw2.out]; exact I.below_setCells _ _ _ b2x.out (by omega)
  have z2 := b2.out.size
  clear hw2 s2x b2x TT2 s1 b1
  go_wp2_with fail
  exact bodyPost_ret (v := qV px py ma nI) (I.results_cell (b := w.heap.size + 1) rfl rfl (Kn.rng s2.out 0 rfl) Try.underlying89 rfl (info_qR (px) (py) (ma) (nI))) rfl ⟨rfl, b2.out⟩
set_option maxRecDepth 20000 in
set_option maxHeartbeats 2000000 in
theorem csum_walk (x1 y1 v1 t1 x2 y2 v2 t2 a1 a2 xa m1 m2 ya wa n1 da ga ha rx ry rv rz : Nm)
    (A1 : ∀ w, Calls Try.prog 34 #[N x1, N y2] w fun e w' => e = .returned (N a1) ∧ Below w.heap.size w w')
    (A2 : ∀ w, Calls Try.prog 34 #[N y1, N x2] w fun e w' => e = .returned (N a2) ∧ Below w.heap.size w w')
    (A3 : ∀ w, Calls Try.prog 36 #[N a1, N a2] w fun e w' => e = .returned (N xa) ∧ Below w.heap.size w w')
    (B1 : ∀ w, Calls Try.prog 34 #[N y1, N y2] w fun e w' => e = .returned (N m1) ∧ Below w.heap.size w w')
    (B2 : ∀ w, Calls Try.prog 34 #[N x1, N x2] w fun e w' => e = .returned (N m2) ∧ Below w.heap.size w w')
    (B3 : ∀ w, Calls Try.prog 36 #[N m1, N m2] w fun e w' => e = .returned (N ya) ∧ Below w.heap.size w w')
    (C1 : ∀ w, Calls Try.prog 34 #[N t1, N t2] w fun e w' => e = .returned (N wa) ∧ Below w.heap.size w w')
    (D1 : ∀ w, Calls Try.prog 34 #[N v1, N v2] w fun e w' => e = .returned (N n1) ∧ Below w.heap.size w w')
    (D2 : ∀ w, Calls Try.prog 34 #[N dN, N n1] w fun e w' => e = .returned (N da) ∧ Below w.heap.size w w')
    (E1 : ∀ w, Calls Try.prog 36 #[N wa, N da] w fun e w' => e = .returned (N ga) ∧ Below w.heap.size w w')
    (E2 : ∀ w, Calls Try.prog 35 #[N wa, N da] w fun e w' => e = .returned (N ha) ∧ Below w.heap.size w w')
    (F1 : ∀ w, Calls Try.prog 34 #[N xa, N ha] w fun e w' => e = .returned (N rx) ∧ Below w.heap.size w w')
    (F2 : ∀ w, Calls Try.prog 34 #[N ya, N ga] w fun e w' => e = .returned (N ry) ∧ Below w.heap.size w w')
    (F3 : ∀ w, Calls Try.prog 34 #[N xa, N ya] w fun e w' => e = .returned (N rv) ∧ Below w.heap.size w w')
    (F4 : ∀ w, Calls Try.prog 34 #[N ga, N ha] w fun e w' => e = .returned (N rz) ∧ Below w.heap.size w w')
    (w : World) :
    Calls Try.prog 68 #[qV x1 y1 v1 t1, qV x2 y2 v2 t2] w fun e w' => e = .returned (qV rx ry rv rz) ∧ Below w.heap.size w w' := by
  go_enter Try.func68, Try.ntmps68
  have s0 : Hid (Kn (((w.alloc (.cells (qR (x1) (y1) (v1) (t1)).toArray 89)).alloc (.cells (qR (x2) (y2) (v2) (t2)).toArray 89)).alloc (.cells #[Value.int IntKind.u64 0, Value.int IntKind.u64 0, Value.int IntKind.u64 0, Value.int IntKind.u64 0, Value.int IntKind.u64 0, Value.int IntKind.u64 0, Value.int IntKind.u64 0, Value.int IntKind.u64 0, Value.int IntKind.u64 0, Value.int IntKind.u64 0, Value.int IntKind.u64 0, Value.int IntKind.u64 0, Value.int IntKind.u64 0, Value.int IntKind.u64 0, Value.int IntKind.u64 0, Value.int IntKind.u64 0] 89)) [(w.heap.size + 1 + 1, qZ), (w.heap.size + 1, (qR (x2) (y2) (v2) (t2))), (w.heap.size, (qR (x1) (y1) (v1) (t1)))]) := ((((Kn.nil w).al (qR (x1) (y1) (v1) (t1)) 89 rfl).al (qR (x2) (y2) (v2) (t2)) 89 (by simp)).al qZ 89 (by simp))
  have b0 : Hid (Below w.heap.size w (((w.alloc (.cells (qR (x1) (y1) (v1) (t1)).toArray 89)).alloc (.cells (qR (x2) (y2) (v2) (t2)).toArray 89)).alloc (.cells #[Value.int IntKind.u64 0, Value.int IntKind.u64 0, Value.int IntKind.u64 0, Value.int IntKind.u64 0, Value.int IntKind.u64 0, Value.int IntKind.u64 0, Value.int IntKind.u64 0, Value.int IntKind.u64 0, Value.int IntKind.u64 0, Value.int IntKind.u64 0, Value.int IntKind.u64 0, Value.int IntKind.u64 0, Value.int IntKind.u64 0, Value.int IntKind.u64 0, Value.int IntKind.u64 0, Value.int IntKind.u64 0] 89))) := ((((Below.refl _ _).alloc (Nat.le_refl _) _).alloc (by simp <;> omega) _).alloc (by simp <;> omega) _)
  go_wp2_with (first | simp only [zero_fra])
  refine wp_region_alloc1 11 (.cells #[.int .u64 0, .int .u64 0, .int .u64 0, .int .u64 0] 28) (by kernel_rfl) (by kernel_rfl) (by kernel_rfl) (by kernel_rfl) (by decide) (fun _ _ d _ _ h => by cases d <;> exact h) rfl rfl (fun _ _ => by kernel_rfl) ?_
  apply Exists.intro
  refine ⟨fun U hU f hf hcl => ?_, fun k1 w1 hb1 hk1 hc1 => ?_⟩
  · skip
    have ra_p_0 := fun nx => (Kn.rng (s0.out.up (hf nx).out) 2 rfl : (f nx).rangeAt (w.heap.size) 0 (qR (x1) (y1) (v1) (t1)))
    have ra_p_1 := fun nx => (Kn.qng0 (s0.out.up (hf nx).out) 2 rfl : (f nx).rangeAt (w.heap.size) 0 [Value.int IntKind.u64 x1.a, Value.int IntKind.u64 x1.b, Value.int IntKind.u64 x1.c, Value.int IntKind.u64 x1.d])
    have ra_p_2 := fun nx => (Kn.qng1 (s0.out.up (hf nx).out) 2 rfl : (f nx).rangeAt (w.heap.size) 4 [Value.int IntKind.u64 y1.a, Value.int IntKind.u64 y1.b, Value.int IntKind.u64 y1.c, Value.int IntKind.u64 y1.d])
    have ra_p_3 := fun nx => (Kn.qng2 (s0.out.up (hf nx).out) 2 rfl : (f nx).rangeAt (w.heap.size) 8 [Value.int IntKind.u64 v1.a, Value.int IntKind.u64 v1.b, Value.int IntKind.u64 v1.c, Value.int IntKind.u64 v1.d])
    have ra_p_4 := fun nx => (Kn.qng3 (s0.out.up (hf nx).out) 2 rfl : (f nx).rangeAt (w.heap.size) 12 [Value.int IntKind.u64 t1.a, Value.int IntKind.u64 t1.b, Value.int IntKind.u64 t1.c, Value.int IntKind.u64 t1.d])
    have ra_q_0 := fun nx => (Kn.rng (s0.out.up (hf nx).out) 1 rfl : (f nx).rangeAt (w.heap.size + 1) 0 (qR (x2) (y2) (v2) (t2)))
    have ra_q_1 := fun nx => (Kn.qng0 (s0.out.up (hf nx).out) 1 rfl : (f nx).rangeAt (w.heap.size + 1) 0 [Value.int IntKind.u64 x2.a, Value.int IntKind.u64 x2.b, Value.int IntKind.u64 x2.c, Value.int IntKind.u64 x2.d])
    have ra_q_2 := fun nx => (Kn.qng1 (s0.out.up (hf nx).out) 1 rfl : (f nx).rangeAt (w.heap.size + 1) 4 [Value.int IntKind.u64 y2.a, Value.int IntKind.u64 y2.b, Value.int IntKind.u64 y2.c, Value.int IntKind.u64 y2.d])
    have ra_q_3 := fun nx => (Kn.qng2 (s0.out.up (hf nx).out) 1 rfl : (f nx).rangeAt (w.heap.size + 1) 8 [Value.int IntKind.u64 v2.a, Value.int IntKind.u64 v2.b, Value.int IntKind.u64 v2.c, Value.int IntKind.u64 v2.d])
    have ra_q_4 := fun nx => (Kn.qng3 (s0.out.up (hf nx).out) 1 rfl : (f nx).rangeAt (w.heap.size + 1) 12 [Value.int IntKind.u64 t2.a, Value.int IntKind.u64 t2.b, Value.int IntKind.u64 t2.c, Value.int IntKind.u64 t2.d])
    clear hf
    simp only [List.take_succ_cons, List.take_zero]
    repeat (first | (refine I.quiet_load rfl 89 _ rfl (w.heap.size) 0 rfl (qR (x1) (y1) (v1) (t1)) _ (fun W hW => by obtain ⟨nx, rfl⟩ := hW; exact ra_p_0 nx) Try.underlying89 rfl (info_qR (x1) (y1) (v1) (t1)) ?_; simp only [Act.put, List.setIfInBounds_toArray, List.set_cons_succ, List.set_cons_zero]) | (refine I.quiet_load rfl 28 _ rfl (w.heap.size) 0 rfl [Value.int IntKind.u64 x1.a, Value.int IntKind.u64 x1.b, Value.int IntKind.u64 x1.c, Value.int IntKind.u64 x1.d] _ (fun W hW => by obtain ⟨nx, rfl⟩ := hW; exact ra_p_1 nx) Try.underlying28 rfl (info_c4 (x1)) ?_; simp only [Act.put, List.setIfInBounds_toArray, List.set_cons_succ, List.set_cons_zero]) | (refine I.quiet_load rfl 28 _ rfl (w.heap.size) 4 rfl [Value.int IntKind.u64 y1.a, Value.int IntKind.u64 y1.b, Value.int IntKind.u64 y1.c, Value.int IntKind.u64 y1.d] _ (fun W hW => by obtain ⟨nx, rfl⟩ := hW; exact ra_p_2 nx) Try.underlying28 rfl (info_c4 (y1)) ?_; simp only [Act.put, List.setIfInBounds_toArray, List.set_cons_succ, List.set_cons_zero]) | (refine I.quiet_load rfl 28 _ rfl (w.heap.size) 8 rfl [Value.int IntKind.u64 v1.a, Value.int IntKind.u64 v1.b, Value.int IntKind.u64 v1.c, Value.int IntKind.u64 v1.d] _ (fun W hW => by obtain ⟨nx, rfl⟩ := hW; exact ra_p_3 nx) Try.underlying28 rfl (info_c4 (v1)) ?_; simp only [Act.put, List.setIfInBounds_toArray, List.set_cons_succ, List.set_cons_zero]) | (refine I.quiet_load rfl 28 _ rfl (w.heap.size) 12 rfl [Value.int IntKind.u64 t1.a, Value.int IntKind.u64 t1.b, Value.int IntKind.u64 t1.c, Value.int IntKind.u64 t1.d] _ (fun W hW => by obtain ⟨nx, rfl⟩ := hW; exact ra_p_4 nx) Try.underlying28 rfl (info_c4 (t1)) ?_; simp only [Act.put, List.setIfInBounds_toArray, List.set_cons_succ, List.set_cons_zero]) | (refine I.quiet_load rfl 89 _ rfl (w.heap.size + 1) 0 rfl (qR (x2) (y2) (v2) (t2)) _ (fun W hW => by obtain ⟨nx, rfl⟩ := hW; exact ra_q_0 nx) Try.underlying89 rfl (info_qR (x2) (y2) (v2) (t2)) ?_; simp only [Act.put, List.setIfInBounds_toArray, List.set_cons_succ, List.set_cons_zero]) | (refine I.quiet_load rfl 28 _ rfl (w.heap.size + 1) 0 rfl [Value.int IntKind.u64 x2.a, Value.int IntKind.u64 x2.b, Value.int IntKind.u64 x2.c, Value.int IntKind.u64 x2.d] _ (fun W hW => by obtain ⟨nx, rfl⟩ := hW; exact ra_q_1 nx) Try.underlying28 rfl (info_c4 (x2)) ?_; simp only [Act.put, List.setIfInBounds_toArray, List.set_cons_succ, List.set_cons_zero]) | (refine I.quiet_load rfl 28 _ rfl (w.heap.size + 1) 4 rfl [Value.int IntKind.u64 y2.a, Value.int IntKind.u64 y2.b, Value.int IntKind.u64 y2.c, Value.int IntKind.u64 y2.d] _ (fun W hW => by obtain ⟨nx, rfl⟩ := hW; exact ra_q_2 nx) Try.underlying28 rfl (info_c4 (y2)) ?_; simp only [Act.put, List.setIfInBounds_toArray, List.set_cons_succ, List.set_cons_zero]) | (refine I.quiet_load rfl 28 _ rfl (w.heap.size + 1) 8 rfl [Value.int IntKind.u64 v2.a, Value.int IntKind.u64 v2.b, Value.int IntKind.u64 v2.c, Value.int IntKind.u64 v2.d] _ (fun W hW => by obtain ⟨nx, rfl⟩ := hW; exact ra_q_3 nx) Try.underlying28 rfl (info_c4 (v2)) ?_; simp only [Act.put, List.setIfInBounds_toArray, List.set_cons_succ, List.set_cons_zero]) | (refine I.quiet_load rfl 28 _ rfl (w.heap.size + 1) 12 rfl [Value.int IntKind.u64 t2.a, Value.int IntKind.u64 t2.b, Value.int IntKind.u64 t2.c, Value.int IntKind.u64 t2.d] _ (fun W hW => by obtain ⟨nx, rfl⟩ := hW; exact ra_q_4 nx) Try.underlying28 rfl (info_c4 (t2)) ?_; simp only [Act.put, List.setIfInBounds_toArray, List.set_cons_succ, List.set_cons_zero]) | go_big_quiet_step (first | (go_at_call_of 34 [Value.agg #[Value.int IntKind.u64 x1.a, Value.int IntKind.u64 x1.b, Value.int IntKind.u64 x1.c, Value.int IntKind.u64 x1.d], Value.agg #[Value.int IntKind.u64 y2.a, Value.int IntKind.u64 y2.b, Value.int IntKind.u64 y2.c, Value.int IntKind.u64 y2.d]]; exact (A1 _).mono fun e w'' ⟨he, hb⟩ => ⟨he, hcl.out _ _ hb⟩) | (go_at_call_of 34 [Value.agg #[Value.int IntKind.u64 y1.a, Value.int IntKind.u64 y1.b, Value.int IntKind.u64 y1.c, Value.int IntKind.u64 y1.d], Value.agg #[Value.int IntKind.u64 x2.a, Value.int IntKind.u64 x2.b, Value.int IntKind.u64 x2.c, Value.int IntKind.u64 x2.d]]; exact (A2 _).mono fun e w'' ⟨he, hb⟩ => ⟨he, hcl.out _ _ hb⟩) | (go_at_call 36; exact (A3 _).mono fun e w'' ⟨he, hb⟩ => ⟨he, hcl.out _ _ hb⟩)))
    exact wpQuiet_nil rfl
  simp only [List.drop_succ_cons, List.drop_zero]
  have z1 := b0.out.size
  have s1 : Hid (Kn w1 [(k1, zz4), (w.heap.size + 1 + 1, qZ), (w.heap.size + 1, (qR (x2) (y2) (v2) (t2))), (w.heap.size, (qR (x1) (y1) (v1) (t1)))]) := s0.out.fresh (vs := zz4) hb1.out hk1 hc1.out
  have g1 : w.heap.size ≤ k1 := Nat.le_trans b0.out.size hk1
  have b1 : Hid (Below w.heap.size w w1) := b0.out.trans (hb1.out.mono b0.out.size)
  clear s0 b0 hb1 hc1 hk1
  have s2x : Hid (Kn w1 [(k1, zz4), (w.heap.size + 1 + 1, qZ), (w.heap.size + 1, (qR (x2) (y2) (v2) (t2))), (w.heap.size, (qR (x1) (y1) (v1) (t1)))]) := s1.out.front 0 rfl
  have b2x : Hid (Below w.heap.size w w1) := b1.out
  have TT2 : Hid (w1.there k1 0 (c4 (xa)).length) := Kn.there s2x.out 0 rfl (by rw [(c4_length (xa)), zz4_length])
  go_wp2_with (first | refine I.wp_store_eq rfl 28 _ _ rfl k1 0 (c4 (xa)) rfl rfl TT2.out (info_c4 (xa)) (c4_one (xa)) ?_)
  intro w2 hw2
  try simp only [Act.put, List.setIfInBounds_toArray, List.set_cons_succ, List.set_cons_zero]
  have s2 : Hid (Kn w2 [(k1, (c4 (xa))), (w.heap.size + 1 + 1, qZ), (w.heap.size + 1, (qR (x2) (y2) (v2) (t2))), (w.heap.size, (qR (x1) (y1) (v1) (t1)))]) := by rw [hw2.out]; exact Kn.put s2x.out (by rw [(c4_length (xa)), zz4_length])
  have b2 : Hid (Below w.heap.size w w2) := by rw [hw2.out]; exact I.below_setCells _ _ _ b2x.out g1
  have z2 := b2.out.size
  clear hw2 s2x b2x TT2 s1 b1
  go_wp2_with fail
  refine wp_region_alloc1 11 (.cells #[.int .u64 0, .int .u64 0, .int .u64 0, .int .u64 0] 28) (by kernel_rfl) (by kernel_rfl) (by kernel_rfl) (by kernel_rfl) (by decide) (fun _ _ d _ _ h => by cases d <;> exact h) rfl rfl (fun _ _ => by kernel_rfl) ?_
  apply Exists.intro
  refine ⟨fun U hU f hf hcl => ?_, fun k3 w3 hb3 hk3 hc3 => ?_⟩
  · skip
    have ra_p_0 := fun nx => (Kn.rng (s2.out.up (hf nx).out) 3 rfl : (f nx).rangeAt (w.heap.size) 0 (qR (x1) (y1) (v1) (t1)))
    have ra_p_1 := fun nx => (Kn.qng0 (s2.out.up (hf nx).out) 3 rfl : (f nx).rangeAt (w.heap.size) 0 [Value.int IntKind.u64 x1.a, Value.int IntKind.u64 x1.b, Value.int IntKind.u64 x1.c, Value.int IntKind.u64 x1.d])
    have ra_p_2 := fun nx => (Kn.qng1 (s2.out.up (hf nx).out) 3 rfl : (f nx).rangeAt (w.heap.size) 4 [Value.int IntKind.u64 y1.a, Value.int IntKind.u64 y1.b, Value.int IntKind.u64 y1.c, Value.int IntKind.u64 y1.d])
    have ra_p_3 := fun nx => (Kn.qng2 (s2.out.up (hf nx).out) 3 rfl : (f nx).rangeAt (w.heap.size) 8 [Value.int IntKind.u64 v1.a, Value.int IntKind.u64 v1.b, Value.int IntKind.u64 v1.c, Value.int IntKind.u64 v1.d])
    have ra_p_4 := fun nx => (Kn.qng3 (s2.out.up (hf nx).out) 3 rfl : (f nx).rangeAt (w.heap.size) 12 [Value.int IntKind.u64 t1.a, Value.int IntKind.u64 t1.b, Value.int IntKind.u64 t1.c, Value.int IntKind.u64 t1.d])
    have ra_q_0 := fun nx => (Kn.rng (s2.out.up (hf nx).out) 2 rfl : (f nx).rangeAt (w.heap.size + 1) 0 (qR (x2) (y2) (v2) (t2)))
    have ra_q_1 := fun nx => (Kn.qng0 (s2.out.up (hf nx).out) 2 rfl : (f nx).rangeAt (w.heap.size + 1) 0 [Value.int IntKind.u64 x2.a, Value.int IntKind.u64 x2.b, Value.int IntKind.u64 x2.c, Value.int IntKind.u64 x2.d])
    have ra_q_2 := fun nx => (Kn.qng1 (s2.out.up (hf nx).out) 2 rfl : (f nx).rangeAt (w.heap.size + 1) 4 [Value.int IntKind.u64 y2.a, Value.int IntKind.u64 y2.b, Value.int IntKind.u64 y2.c, Value.int IntKind.u64 y2.d])
    have ra_q_3 := fun nx => (Kn.qng2 (s2.out.up (hf nx).out) 2 rfl : (f nx).rangeAt (w.heap.size + 1) 8 [Value.int IntKind.u64 v2.a, Value.int IntKind.u64 v2.b, Value.int IntKind.u64 v2.c, Value.int IntKind.u64 v2.d])
    have ra_q_4 := fun nx => (Kn.qng3 (s2.out.up (hf nx).out) 2 rfl : (f nx).rangeAt (w.heap.size + 1) 12 [Value.int IntKind.u64 t2.a, Value.int IntKind.u64 t2.b, Value.int IntKind.u64 t2.c, Value.int IntKind.u64 t2.d])
    clear hf
    simp only [List.take_succ_cons, List.take_zero]
    repeat (first | (refine I.quiet_load rfl 89 _ rfl (w.heap.size) 0 rfl (qR (x1) (y1) (v1) (t1)) _ (fun W hW => by obtain ⟨nx, rfl⟩ := hW; exact ra_p_0 nx) Try.underlying89 rfl (info_qR (x1) (y1) (v1) (t1)) ?_; simp only [Act.put, List.setIfInBounds_toArray, List.set_cons_succ, List.set_cons_zero]) | (refine I.quiet_load rfl 28 _ rfl (w.heap.size) 0 rfl [Value.int IntKind.u64 x1.a, Value.int IntKind.u64 x1.b, Value.int IntKind.u64 x1.c, Value.int IntKind.u64 x1.d] _ (fun W hW => by obtain ⟨nx, rfl⟩ := hW; exact ra_p_1 nx) Try.underlying28 rfl (info_c4 (x1)) ?_; simp only [Act.put, List.setIfInBounds_toArray, List.set_cons_succ, List.set_cons_zero]) | (refine I.quiet_load rfl 28 _ rfl (w.heap.size) 4 rfl [Value.int IntKind.u64 y1.a, Value.int IntKind.u64 y1.b, Value.int IntKind.u64 y1.c, Value.int IntKind.u64 y1.d] _ (fun W hW => by obtain ⟨nx, rfl⟩ := hW; exact ra_p_2 nx) Try.underlying28 rfl (info_c4 (y1)) ?_; simp only [Act.put, List.setIfInBounds_toArray, List.set_cons_succ, List.set_cons_zero]) | (refine I.quiet_load rfl 28 _ rfl (w.heap.size) 8 rfl [Value.int IntKind.u64 v1.a, Value.int IntKind.u64 v1.b, Value.int IntKind.u64 v1.c, Value.int IntKind.u64 v1.d] _ (fun W hW => by obtain ⟨nx, rfl⟩ := hW; exact ra_p_3 nx) Try.underlying28 rfl (info_c4 (v1)) ?_; simp only [Act.put, List.setIfInBounds_toArray, List.set_cons_succ, List.set_cons_zero]) | (refine I.quiet_load rfl 28 _ rfl (w.heap.size) 12 rfl [Value.int IntKind.u64 t1.a, Value.int IntKind.u64 t1.b, Value.int IntKind.u64 t1.c, Value.int IntKind.u64 t1.d] _ (fun W hW => by obtain ⟨nx, rfl⟩ := hW; exact ra_p_4 nx) Try.underlying28 rfl (info_c4 (t1)) ?_; simp only [Act.put, List.setIfInBounds_toArray, List.set_cons_succ, List.set_cons_zero]) | (refine I.quiet_load rfl 89 _ rfl (w.heap.size + 1) 0 rfl (qR (x2) (y2) (v2) (t2)) _ (fun W hW => by obtain ⟨nx, rfl⟩ := hW; exact ra_q_0 nx) Try.underlying89 rfl (info_qR (x2) (y2) (v2) (t2)) ?_; simp only [Act.put, List.setIfInBounds_toArray, List.set_cons_succ, List.set_cons_zero]) | (refine I.quiet_load rfl 28 _ rfl (w.heap.size + 1) 0 rfl [Value.int IntKind.u64 x2.a, Value.int IntKind.u64 x2.b, Value.int IntKind.u64 x2.c, Value.int IntKind.u64 x2.d] _ (fun W hW => by obtain ⟨nx, rfl⟩ := hW; exact ra_q_1 nx) Try.underlying28 rfl (info_c4 (x2)) ?_; simp only [Act.put, List.setIfInBounds_toArray, List.set_cons_succ, List.set_cons_zero]) | (refine I.quiet_load rfl 28 _ rfl (w.heap.size + 1) 4 rfl [Value.int IntKind.u64 y2.a, Value.int IntKind.u64 y2.b, Value.int IntKind.u64 y2.c, Value.int IntKind.u64 y2.d] _ (fun W hW => by obtain ⟨nx, rfl⟩ := hW; exact ra_q_2 nx) Try.underlying28 rfl (info_c4 (y2)) ?_; simp only [Act.put, List.setIfInBounds_toArray, List.set_cons_succ, List.set_cons_zero]) | (refine I.quiet_load rfl 28 _ rfl (w.heap.size + 1) 8 rfl [Value.int IntKind.u64 v2.a, Value.int IntKind.u64 v2.b, Value.int IntKind.u64 v2.c, Value.int IntKind.u64 v2.d] _ (fun W hW => by obtain ⟨nx, rfl⟩ := hW; exact ra_q_3 nx) Try.underlying28 rfl (info_c4 (v2)) ?_; simp only [Act.put, List.setIfInBounds_toArray, List.set_cons_succ, List.set_cons_zero]) | (refine I.quiet_load rfl 28 _ rfl (w.heap.size + 1) 12 rfl [Value.int IntKind.u64 t2.a, Value.int IntKind.u64 t2.b, Value.int IntKind.u64 t2.c, Value.int IntKind.u64 t2.d] _ (fun W hW => by obtain ⟨nx, rfl⟩ := hW; exact ra_q_4 nx) Try.underlying28 rfl (info_c4 (t2)) ?_; simp only [Act.put, List.setIfInBounds_toArray, List.set_cons_succ, List.set_cons_zero]) | go_big_quiet_step (first | (go_at_call_of 34 [Value.agg #[Value.int IntKind.u64 y1.a, Value.int IntKind.u64 y1.b, Value.int IntKind.u64 y1.c, Value.int IntKind.u64 y1.d], Value.agg #[Value.int IntKind.u64 y2.a, Value.int IntKind.u64 y2.b, Value.int IntKind.u64 y2.c, Value.int IntKind.u64 y2.d]]; exact (B1 _).mono fun e w'' ⟨he, hb⟩ => ⟨he, hcl.out _ _ hb⟩) | (go_at_call_of 34 [Value.agg #[Value.int IntKind.u64 x1.a, Value.int IntKind.u64 x1.b, Value.int IntKind.u64 x1.c, Value.int IntKind.u64 x1.d], Value.agg #[Value.int IntKind.u64 x2.a, Value.int IntKind.u64 x2.b, Value.int IntKind.u64 x2.c, Value.int IntKind.u64 x2.d]]; exact (B2 _).mono fun e w'' ⟨he, hb⟩ => ⟨he, hcl.out _ _ hb⟩) | (go_at_call 36; exact (B3 _).mono fun e w'' ⟨he, hb⟩ => ⟨he, hcl.out _ _ hb⟩)))
    exact wpQuiet_nil rfl
  simp only [List.drop_succ_cons, List.drop_zero]
  have z3 := b2.out.size
  have s3 : Hid (Kn w3 [(k3, zz4), (k1, (c4 (xa))), (w.heap.size + 1 + 1, qZ), (w.heap.size + 1, (qR (x2) (y2) (v2) (t2))), (w.heap.size, (qR (x1) (y1) (v1) (t1)))]) := s2.out.fresh (vs := zz4) hb3.out hk3 hc3.out
  have g3 : w.heap.size ≤ k3 := Nat.le_trans b2.out.size hk3
  have b3 : Hid (Below w.heap.size w w3) := b2.out.trans (hb3.out.mono b2.out.size)
  clear s2 b2 hb3 hc3 hk3
  have s4x : Hid (Kn w3 [(k3, zz4), (k1, (c4 (xa))), (w.heap.size + 1 + 1, qZ), (w.heap.size + 1, (qR (x2) (y2) (v2) (t2))), (w.heap.size, (qR (x1) (y1) (v1) (t1)))]) := s3.out.front 0 rfl
  have b4x : Hid (Below w.heap.size w w3) := b3.out
  have TT4 : Hid (w3.there k3 0 (c4 (ya)).length) := Kn.there s4x.out 0 rfl (by rw [(c4_length (ya)), zz4_length])
  go_wp2_with (first | refine I.wp_store_eq rfl 28 _ _ rfl k3 0 (c4 (ya)) rfl rfl TT4.out (info_c4 (ya)) (c4_one (ya)) ?_)
  intro w4 hw4
  try simp only [Act.put, List.setIfInBounds_toArray, List.set_cons_succ, List.set_cons_zero]
  have s4 : Hid (Kn w4 [(k3, (c4 (ya))), (k1, (c4 (xa))), (w.heap.size + 1 + 1, qZ), (w.heap.size + 1, (qR (x2) (y2) (v2) (t2))), (w.heap.size, (qR (x1) (y1) (v1) (t1)))]) := by rw [hw4.out]; exact Kn.put s4x.out (by rw [(c4_length (ya)), zz4_length])
  have b4 : Hid (Below w.heap.size w w4) := by rw [hw4.out]; exact I.below_setCells _ _ _ b4x.out g3
  have z4 := b4.out.size
  clear hw4 s4x b4x TT4 s3 b3
  go_wp2_with (first | refine wp_ldW rfl 89 _ rfl (w.heap.size) 0 rfl (qR (x1) (y1) (v1) (t1)) _ (Kn.rng s4.out 4 rfl) Try.underlying89 rfl (info_qR (x1) (y1) (v1) (t1)) ?_ | refine wp_ldW rfl 28 _ rfl (w.heap.size) 0 rfl [Value.int IntKind.u64 x1.a, Value.int IntKind.u64 x1.b, Value.int IntKind.u64 x1.c, Value.int IntKind.u64 x1.d] _ (Kn.qng0 s4.out 4 rfl) Try.underlying28 rfl (info_c4 (x1)) ?_ | refine wp_ldW rfl 28 _ rfl (w.heap.size) 4 rfl [Value.int IntKind.u64 y1.a, Value.int IntKind.u64 y1.b, Value.int IntKind.u64 y1.c, Value.int IntKind.u64 y1.d] _ (Kn.qng1 s4.out 4 rfl) Try.underlying28 rfl (info_c4 (y1)) ?_ | refine wp_ldW rfl 28 _ rfl (w.heap.size) 8 rfl [Value.int IntKind.u64 v1.a, Value.int IntKind.u64 v1.b, Value.int IntKind.u64 v1.c, Value.int IntKind.u64 v1.d] _ (Kn.qng2 s4.out 4 rfl) Try.underlying28 rfl (info_c4 (v1)) ?_ | refine wp_ldW rfl 28 _ rfl (w.heap.size) 12 rfl [Value.int IntKind.u64 t1.a, Value.int IntKind.u64 t1.b, Value.int IntKind.u64 t1.c, Value.int IntKind.u64 t1.d] _ (Kn.qng3 s4.out 4 rfl) Try.underlying28 rfl (info_c4 (t1)) ?_ | refine wp_ldW rfl 89 _ rfl (w.heap.size + 1) 0 rfl (qR (x2) (y2) (v2) (t2)) _ (Kn.rng s4.out 3 rfl) Try.underlying89 rfl (info_qR (x2) (y2) (v2) (t2)) ?_ | refine wp_ldW rfl 28 _ rfl (w.heap.size + 1) 0 rfl [Value.int IntKind.u64 x2.a, Value.int IntKind.u64 x2.b, Value.int IntKind.u64 x2.c, Value.int IntKind.u64 x2.d] _ (Kn.qng0 s4.out 3 rfl) Try.underlying28 rfl (info_c4 (x2)) ?_ | refine wp_ldW rfl 28 _ rfl (w.heap.size + 1) 4 rfl [Value.int IntKind.u64 y2.a, Value.int IntKind.u64 y2.b, Value.int IntKind.u64 y2.c, Value.int IntKind.u64 y2.d] _ (Kn.qng1 s4.out 3 rfl) Try.underlying28 rfl (info_c4 (y2)) ?_ | refine wp_ldW rfl 28 _ rfl (w.heap.size + 1) 8 rfl [Value.int IntKind.u64 v2.a, Value.int IntKind.u64 v2.b, Value.int IntKind.u64 v2.c, Value.int IntKind.u64 v2.d] _ (Kn.qng2 s4.out 3 rfl) Try.underlying28 rfl (info_c4 (v2)) ?_ | refine wp_ldW rfl 28 _ rfl (w.heap.size + 1) 12 rfl [Value.int IntKind.u64 t2.a, Value.int IntKind.u64 t2.b, Value.int IntKind.u64 t2.c, Value.int IntKind.u64 t2.d] _ (Kn.qng3 s4.out 3 rfl) Try.underlying28 rfl (info_c4 (t2)) ?_)
  refine (C1 _).mono ?_
  rintro e w5 ⟨rfl, hb5⟩
  have s5 : Hid (Kn w5 [(k3, (c4 (ya))), (k1, (c4 (xa))), (w.heap.size + 1 + 1, qZ), (w.heap.size + 1, (qR (x2) (y2) (v2) (t2))), (w.heap.size, (qR (x1) (y1) (v1) (t1)))]) := s4.out.up hb5
  have b5 : Hid (Below w.heap.size w w5) := b4.out.trans (hb5.mono b4.out.size)
  have z5 := b5.out.size
  clear hb5 s4 b4
  have s6 : Hid (Kn (kal4 w5 (wa)) [(w5.heap.size, (c4 (wa))), (k3, (c4 (ya))), (k1, (c4 (xa))), (w.heap.size + 1 + 1, qZ), (w.heap.size + 1, (qR (x2) (y2) (v2) (t2))), (w.heap.size, (qR (x1) (y1) (v1) (t1)))]) := s5.out.al (c4 (wa)) 28 rfl
  have b6 : Hid (Below w.heap.size w (kal4 w5 (wa))) := b5.out.alloc b5.out.size _
  have z6 := b5.out.size
  clear s5 b5
  go_wp2_with fail
  refine wp_region_alloc1 7 (.cells #[.int .u64 0, .int .u64 0, .int .u64 0, .int .u64 0] 28) (by kernel_rfl) (by kernel_rfl) (by kernel_rfl) (by kernel_rfl) (by decide) (fun _ _ d _ _ h => by cases d <;> exact h) rfl rfl (fun _ _ => by kernel_rfl) ?_
  apply Exists.intro
  refine ⟨fun U hU f hf hcl => ?_, fun k7 w7 hb7 hk7 hc7 => ?_⟩
  · skip
    have ra_p_0 := fun nx => (Kn.rng (s6.out.up (hf nx).out) 5 rfl : (f nx).rangeAt (w.heap.size) 0 (qR (x1) (y1) (v1) (t1)))
    have ra_p_1 := fun nx => (Kn.qng0 (s6.out.up (hf nx).out) 5 rfl : (f nx).rangeAt (w.heap.size) 0 [Value.int IntKind.u64 x1.a, Value.int IntKind.u64 x1.b, Value.int IntKind.u64 x1.c, Value.int IntKind.u64 x1.d])
    have ra_p_2 := fun nx => (Kn.qng1 (s6.out.up (hf nx).out) 5 rfl : (f nx).rangeAt (w.heap.size) 4 [Value.int IntKind.u64 y1.a, Value.int IntKind.u64 y1.b, Value.int IntKind.u64 y1.c, Value.int IntKind.u64 y1.d])
    have ra_p_3 := fun nx => (Kn.qng2 (s6.out.up (hf nx).out) 5 rfl : (f nx).rangeAt (w.heap.size) 8 [Value.int IntKind.u64 v1.a, Value.int IntKind.u64 v1.b, Value.int IntKind.u64 v1.c, Value.int IntKind.u64 v1.d])
    have ra_p_4 := fun nx => (Kn.qng3 (s6.out.up (hf nx).out) 5 rfl : (f nx).rangeAt (w.heap.size) 12 [Value.int IntKind.u64 t1.a, Value.int IntKind.u64 t1.b, Value.int IntKind.u64 t1.c, Value.int IntKind.u64 t1.d])
    have ra_q_0 := fun nx => (Kn.rng (s6.out.up (hf nx).out) 4 rfl : (f nx).rangeAt (w.heap.size + 1) 0 (qR (x2) (y2) (v2) (t2)))
    have ra_q_1 := fun nx => (Kn.qng0 (s6.out.up (hf nx).out) 4 rfl : (f nx).rangeAt (w.heap.size + 1) 0 [Value.int IntKind.u64 x2.a, Value.int IntKind.u64 x2.b, Value.int IntKind.u64 x2.c, Value.int IntKind.u64 x2.d])
    have ra_q_2 := fun nx => (Kn.qng1 (s6.out.up (hf nx).out) 4 rfl : (f nx).rangeAt (w.heap.size + 1) 4 [Value.int IntKind.u64 y2.a, Value.int IntKind.u64 y2.b, Value.int IntKind.u64 y2.c, Value.int IntKind.u64 y2.d])
    have ra_q_3 := fun nx => (Kn.qng2 (s6.out.up (hf nx).out) 4 rfl : (f nx).rangeAt (w.heap.size + 1) 8 [Value.int IntKind.u64 v2.a, Value.int IntKind.u64 v2.b, Value.int IntKind.u64 v2.c, Value.int IntKind.u64 v2.d])
    have ra_q_4 := fun nx => (Kn.qng3 (s6.out.up (hf nx).out) 4 rfl : (f nx).rangeAt (w.heap.size + 1) 12 [Value.int IntKind.u64 t2.a, Value.int IntKind.u64 t2.b, Value.int IntKind.u64 t2.c, Value.int IntKind.u64 t2.d])
    clear hf
    simp only [List.take_succ_cons, List.take_zero]
    repeat (first | (refine I.quiet_load rfl 89 _ rfl (w.heap.size) 0 rfl (qR (x1) (y1) (v1) (t1)) _ (fun W hW => by obtain ⟨nx, rfl⟩ := hW; exact ra_p_0 nx) Try.underlying89 rfl (info_qR (x1) (y1) (v1) (t1)) ?_; simp only [Act.put, List.setIfInBounds_toArray, List.set_cons_succ, List.set_cons_zero]) | (refine I.quiet_load rfl 28 _ rfl (w.heap.size) 0 rfl [Value.int IntKind.u64 x1.a, Value.int IntKind.u64 x1.b, Value.int IntKind.u64 x1.c, Value.int IntKind.u64 x1.d] _ (fun W hW => by obtain ⟨nx, rfl⟩ := hW; exact ra_p_1 nx) Try.underlying28 rfl (info_c4 (x1)) ?_; simp only [Act.put, List.setIfInBounds_toArray, List.set_cons_succ, List.set_cons_zero]) | (refine I.quiet_load rfl 28 _ rfl (w.heap.size) 4 rfl [Value.int IntKind.u64 y1.a, Value.int IntKind.u64 y1.b, Value.int IntKind.u64 y1.c, Value.int IntKind.u64 y1.d] _ (fun W hW => by obtain ⟨nx, rfl⟩ := hW; exact ra_p_2 nx) Try.underlying28 rfl (info_c4 (y1)) ?_; simp only [Act.put, List.setIfInBounds_toArray, List.set_cons_succ, List.set_cons_zero]) | (refine I.quiet_load rfl 28 _ rfl (w.heap.size) 8 rfl [Value.int IntKind.u64 v1.a, Value.int IntKind.u64 v1.b, Value.int IntKind.u64 v1.c, Value.int IntKind.u64 v1.d] _ (fun W hW => by obtain ⟨nx, rfl⟩ := hW; exact ra_p_3 nx) Try.underlying28 rfl (info_c4 (v1)) ?_; simp only [Act.put, List.setIfInBounds_toArray, List.set_cons_succ, List.set_cons_zero]) | (refine I.quiet_load rfl 28 _ rfl (w.heap.size) 12 rfl [Value.int IntKind.u64 t1.a, Value.int IntKind.u64 t1.b, Value.int IntKind.u64 t1.c, Value.int IntKind.u64 t1.d] _ (fun W hW => by obtain ⟨nx, rfl⟩ := hW; exact ra_p_4 nx) Try.underlying28 rfl (info_c4 (t1)) ?_; simp only [Act.put, List.setIfInBounds_toArray, List.set_cons_succ, List.set_cons_zero]) | (refine I.quiet_load rfl 89 _ rfl (w.heap.size + 1) 0 rfl (qR (x2) (y2) (v2) (t2)) _ (fun W hW => by obtain ⟨nx, rfl⟩ := hW; exact ra_q_0 nx) Try.underlying89 rfl (info_qR (x2) (y2) (v2) (t2)) ?_; simp only [Act.put, List.setIfInBounds_toArray, List.set_cons_succ, List.set_cons_zero]) | (refine I.quiet_load rfl 28 _ rfl (w.heap.size + 1) 0 rfl [Value.int IntKind.u64 x2.a, Value.int IntKind.u64 x2.b, Value.int IntKind.u64 x2.c, Value.int IntKind.u64 x2.d] _ (fun W hW => by obtain ⟨nx, rfl⟩ := hW; exact ra_q_1 nx) Try.underlying28 rfl (info_c4 (x2)) ?_; simp only [Act.put, List.setIfInBounds_toArray, List.set_cons_succ, List.set_cons_zero]) | (refine I.quiet_load rfl 28 _ rfl (w.heap.size + 1) 4 rfl [Value.int IntKind.u64 y2.a, Value.int IntKind.u64 y2.b, Value.int IntKind.u64 y2.c, Value.int IntKind.u64 y2.d] _ (fun W hW => by obtain ⟨nx, rfl⟩ := hW; exact ra_q_2 nx) Try.underlying28 rfl (info_c4 (y2)) ?_; simp only [Act.put, List.setIfInBounds_toArray, List.set_cons_succ, List.set_cons_zero]) | (refine I.quiet_load rfl 28 _ rfl (w.heap.size + 1) 8 rfl [Value.int IntKind.u64 v2.a, Value.int IntKind.u64 v2.b, Value.int IntKind.u64 v2.c, Value.int IntKind.u64 v2.d] _ (fun W hW => by obtain ⟨nx, rfl⟩ := hW; exact ra_q_3 nx) Try.underlying28 rfl (info_c4 (v2)) ?_; simp only [Act.put, List.setIfInBounds_toArray, List.set_cons_succ, List.set_cons_zero]) | (refine I.quiet_load rfl 28 _ rfl (w.heap.size + 1) 12 rfl [Value.int IntKind.u64 t2.a, Value.int IntKind.u64 t2.b, Value.int IntKind.u64 t2.c, Value.int IntKind.u64 t2.d] _ (fun W hW => by obtain ⟨nx, rfl⟩ := hW; exact ra_q_4 nx) Try.underlying28 rfl (info_c4 (t2)) ?_; simp only [Act.put, List.setIfInBounds_toArray, List.set_cons_succ, List.set_cons_zero]) | go_big_quiet_step (first | (go_at_call 38; exact (cD_walk _).mono fun e w'' ⟨he, hb⟩ => ⟨he, hcl.out _ _ hb⟩) | (go_at_call_of 34 [Value.agg #[Value.int IntKind.u64 v1.a, Value.int IntKind.u64 v1.b, Value.int IntKind.u64 v1.c, Value.int IntKind.u64 v1.d], Value.agg #[Value.int IntKind.u64 v2.a, Value.int IntKind.u64 v2.b, Value.int IntKind.u64 v2.c, Value.int IntKind.u64 v2.d]]; exact (D1 _).mono fun e w'' ⟨he, hb⟩ => ⟨he, hcl.out _ _ hb⟩) | (go_at_call_of 34 [N dN, N n1]; exact (D2 _).mono fun e w'' ⟨he, hb⟩ => ⟨he, hcl.out _ _ hb⟩)))
    exact wpQuiet_nil rfl
  simp only [List.drop_succ_cons, List.drop_zero]
  have z7 := b6.out.size
  have s7x : Hid (Kn w7 [(k7, zz4), (w5.heap.size, (c4 (wa))), (k3, (c4 (ya))), (k1, (c4 (xa))), (w.heap.size + 1 + 1, qZ), (w.heap.size + 1, (qR (x2) (y2) (v2) (t2))), (w.heap.size, (qR (x1) (y1) (v1) (t1)))]) := s6.out.fresh hb7.out hk7 hc7.out
  have g7 : w.heap.size ≤ k7 := Nat.le_trans b6.out.size hk7
  have cz7_0 : w7.cell? ⟨k7, 0, none⟩ = some (.int .u64 0) := Kn.get s7x.out 0 0 rfl rfl
  have cz7_1 : w7.cell? ⟨k7, 1, none⟩ = some (.int .u64 0) := Kn.get s7x.out 0 1 rfl rfl
  have cz7_2 : w7.cell? ⟨k7, 2, none⟩ = some (.int .u64 0) := Kn.get s7x.out 0 2 rfl rfl
  have cz7_3 : w7.cell? ⟨k7, 3, none⟩ = some (.int .u64 0) := Kn.get s7x.out 0 3 rfl rfl
  have cz7 : ∀ j, w7.frozen? ⟨k7, j, none⟩ = false := Kn.fz s7x.out 0 rfl
  have s7 : Hid (Kn (st4 w7 k7 (da)) [(k7, (c4 (da))), (w5.heap.size, (c4 (wa))), (k3, (c4 (ya))), (k1, (c4 (xa))), (w.heap.size + 1 + 1, qZ), (w.heap.size + 1, (qR (x2) (y2) (v2) (t2))), (w.heap.size, (qR (x1) (y1) (v1) (t1)))]) := s7x.out.st4 (da)
  have b7 : Hid (Below w.heap.size w (st4 w7 k7 (da))) := below_st4 (b6.out.trans (hb7.out.mono b6.out.size)) g7
  clear s7x s6 b6 hb7 hc7 hk7
  go_wp2_with fail
  clear cz7_0 cz7_1 cz7_2 cz7_3 cz7
  refine wp_region_vars2 6 (.cells #[.int .u64 0, .int .u64 0, .int .u64 0, .int .u64 0] 28) (.cells #[.int .u64 0, .int .u64 0, .int .u64 0, .int .u64 0] 28) (.cells #[.int .u64 (ga).a, .int .u64 (ga).b, .int .u64 (ga).c, .int .u64 (ga).d] 28) (.cells #[.int .u64 (ha).a, .int .u64 (ha).b, .int .u64 (ha).c, .int .u64 (ha).d] 28) (by kernel_rfl) (by kernel_rfl) (by kernel_rfl) (by kernel_rfl) rfl rfl rfl rfl (by decide) rfl rfl (fun _ _ => by kernel_rfl) (fun _ _ => by kernel_rfl) ?_
  apply Exists.intro
  refine ⟨fun U hU f hf hcl => ?_, fun k j W hc => ?_, fun k j W hc => ?_, fun k8 j8 w8 hb8 hk8 hj8 hn8 hc8 hd8 => ?_⟩
  · skip
    have uwhole_0 := fun nx => (Kn.get (s7.out.up (hf nx).out) 1 0 rfl rfl : (f nx).cell? ⟨w5.heap.size, 0, none⟩ = some (.int .u64 (wa).a))
    have uwhole_1 := fun nx => (Kn.get (s7.out.up (hf nx).out) 1 1 rfl rfl : (f nx).cell? ⟨w5.heap.size, 1, none⟩ = some (.int .u64 (wa).b))
    have uwhole_2 := fun nx => (Kn.get (s7.out.up (hf nx).out) 1 2 rfl rfl : (f nx).cell? ⟨w5.heap.size, 2, none⟩ = some (.int .u64 (wa).c))
    have uwhole_3 := fun nx => (Kn.get (s7.out.up (hf nx).out) 1 3 rfl rfl : (f nx).cell? ⟨w5.heap.size, 3, none⟩ = some (.int .u64 (wa).d))
    have upart_0 := fun nx => (Kn.get (s7.out.up (hf nx).out) 0 0 rfl rfl : (f nx).cell? ⟨k7, 0, none⟩ = some (.int .u64 (da).a))
    have upart_1 := fun nx => (Kn.get (s7.out.up (hf nx).out) 0 1 rfl rfl : (f nx).cell? ⟨k7, 1, none⟩ = some (.int .u64 (da).b))
    have upart_2 := fun nx => (Kn.get (s7.out.up (hf nx).out) 0 2 rfl rfl : (f nx).cell? ⟨k7, 2, none⟩ = some (.int .u64 (da).c))
    have upart_3 := fun nx => (Kn.get (s7.out.up (hf nx).out) 0 3 rfl rfl : (f nx).cell? ⟨k7, 3, none⟩ = some (.int .u64 (da).d))
    clear hf
    simp only [List.take_succ_cons, List.take_zero]
    repeat (go_big_quiet_step (first | (go_at_call 36; exact (E1 _).mono fun e w'' ⟨he, hb⟩ => ⟨he, hcl.out _ _ hb⟩) | (go_at_call 35; exact (E2 _).mono fun e w'' ⟨he, hb⟩ => ⟨he, hcl.out _ _ hb⟩)))
    exact wpQuiet_nil rfl
  · obtain ⟨c0, c1, c2, c3, cz⟩ := cells4 hc.out
    exact ⟨(st4 W k (ga)), by simp [execOp, go_sem, c0, c1, c2, c3, cz], by first | exact heap_st4 hc.out _ | exact heap_st8 hc.out _ _, fun hk => by first | exact below_st4 (Below.refl _ _) hk | exact below_st8 (Below.refl _ _) hk, fun b hb => by first | exact heap_st4_ne hb | exact heap_st8_ne hb⟩
  · obtain ⟨c0, c1, c2, c3, cz⟩ := cells4 hc.out
    exact ⟨(st4 W j (ha)), by simp [execOp, go_sem, c0, c1, c2, c3, cz], by first | exact heap_st4 hc.out _ | exact heap_st8 hc.out _ _, fun hk => by first | exact below_st4 (Below.refl _ _) hk | exact below_st8 (Below.refl _ _) hk, fun b hb => by first | exact heap_st4_ne hb | exact heap_st8_ne hb⟩
  simp only [Act.put, List.setIfInBounds_toArray, List.set_cons_succ, List.set_cons_zero]
  have z8 := b7.out.size
  have g8 : w.heap.size ≤ k8 := Nat.le_trans b7.out.size hk8
  have gj8 : w.heap.size ≤ j8 := Nat.le_trans b7.out.size hj8
  have s8 : Hid (Kn w8 [(k8, (c4 (ga))), (j8, (c4 (ha))), (k7, (c4 (da))), (w5.heap.size, (c4 (wa))), (k3, (c4 (ya))), (k1, (c4 (xa))), (w.heap.size + 1 + 1, qZ), (w.heap.size + 1, (qR (x2) (y2) (v2) (t2))), (w.heap.size, (qR (x1) (y1) (v1) (t1)))]) := s7.out.two hb8.out hk8 hj8 hn8.out hc8.out hd8.out
  have b8 : Hid (Below w.heap.size w w8) := b7.out.trans (hb8.out.mono b7.out.size)
  clear s7 b7 hb8 hc8 hd8 hk8 hj8
  go_wp2_with fail
  refine wp_region_up_then 13 (by kernel_rfl) (by kernel_rfl) (by kernel_rfl) (by kernel_rfl) (by decide) (fun _ _ d _ _ h => by cases d <;> exact h) (fun U hU f hf hcl => ?_)
  have uux_0 := fun nx => (Kn.get (s8.out.up (hf nx).out) 0 0 rfl rfl : (f nx).cell? ⟨k8, 0, none⟩ = some (.int .u64 (ga).a))
  have uux_1 := fun nx => (Kn.get (s8.out.up (hf nx).out) 0 1 rfl rfl : (f nx).cell? ⟨k8, 1, none⟩ = some (.int .u64 (ga).b))
  have uux_2 := fun nx => (Kn.get (s8.out.up (hf nx).out) 0 2 rfl rfl : (f nx).cell? ⟨k8, 2, none⟩ = some (.int .u64 (ga).c))
  have uux_3 := fun nx => (Kn.get (s8.out.up (hf nx).out) 0 3 rfl rfl : (f nx).cell? ⟨k8, 3, none⟩ = some (.int .u64 (ga).d))
  have uuy_0 := fun nx => (Kn.get (s8.out.up (hf nx).out) 1 0 rfl rfl : (f nx).cell? ⟨j8, 0, none⟩ = some (.int .u64 (ha).a))
  have uuy_1 := fun nx => (Kn.get (s8.out.up (hf nx).out) 1 1 rfl rfl : (f nx).cell? ⟨j8, 1, none⟩ = some (.int .u64 (ha).b))
  have uuy_2 := fun nx => (Kn.get (s8.out.up (hf nx).out) 1 2 rfl rfl : (f nx).cell? ⟨j8, 2, none⟩ = some (.int .u64 (ha).c))
  have uuy_3 := fun nx => (Kn.get (s8.out.up (hf nx).out) 1 3 rfl rfl : (f nx).cell? ⟨j8, 3, none⟩ = some (.int .u64 (ha).d))
  have ra_x_0 := fun nx => (Kn.rng (s8.out.up (hf nx).out) 5 rfl : (f nx).rangeAt k1 0 [Value.int IntKind.u64 xa.a, Value.int IntKind.u64 xa.b, Value.int IntKind.u64 xa.c, Value.int IntKind.u64 xa.d])
  have ra_y_0 := fun nx => (Kn.rng (s8.out.up (hf nx).out) 4 rfl : (f nx).rangeAt k3 0 [Value.int IntKind.u64 ya.a, Value.int IntKind.u64 ya.b, Value.int IntKind.u64 ya.c, Value.int IntKind.u64 ya.d])
  simp only [List.take_succ_cons, List.take_zero, List.drop_succ_cons, List.drop_zero]
  repeat (first | (refine quiet_buildF rfl 89 _ _ _ _ rfl (N rx) (N ry) (N rv) (N rz) (qR rx ry rv rz) rfl rfl rfl rfl (fra_built rx ry rv rz) ?_; simp only [Act.put, List.setIfInBounds_toArray, List.set_cons_succ, List.set_cons_zero]) | (refine I.quiet_load rfl 28 _ rfl k1 0 rfl [Value.int IntKind.u64 xa.a, Value.int IntKind.u64 xa.b, Value.int IntKind.u64 xa.c, Value.int IntKind.u64 xa.d] _ (fun W hW => by obtain ⟨nx, rfl⟩ := hW; exact ra_x_0 nx) Try.underlying28 rfl (info_c4 (xa)) ?_; simp only [Act.put, List.setIfInBounds_toArray, List.set_cons_succ, List.set_cons_zero]) | (refine I.quiet_load rfl 28 _ rfl k3 0 rfl [Value.int IntKind.u64 ya.a, Value.int IntKind.u64 ya.b, Value.int IntKind.u64 ya.c, Value.int IntKind.u64 ya.d] _ (fun W hW => by obtain ⟨nx, rfl⟩ := hW; exact ra_y_0 nx) Try.underlying28 rfl (info_c4 (ya)) ?_; simp only [Act.put, List.setIfInBounds_toArray, List.set_cons_succ, List.set_cons_zero]) | go_big_quiet_step (first | (go_at_call_of 34 [Value.agg #[Value.int IntKind.u64 xa.a, Value.int IntKind.u64 xa.b, Value.int IntKind.u64 xa.c, Value.int IntKind.u64 xa.d], Value.agg #[Value.int IntKind.u64 ha.a, Value.int IntKind.u64 ha.b, Value.int IntKind.u64 ha.c, Value.int IntKind.u64 ha.d]]; exact (F1 _).mono fun e w'' ⟨he, hb⟩ => ⟨he, hcl.out _ _ hb⟩) | (go_at_call_of 34 [Value.agg #[Value.int IntKind.u64 ya.a, Value.int IntKind.u64 ya.b, Value.int IntKind.u64 ya.c, Value.int IntKind.u64 ya.d], Value.agg #[Value.int IntKind.u64 ga.a, Value.int IntKind.u64 ga.b, Value.int IntKind.u64 ga.c, Value.int IntKind.u64 ga.d]]; exact (F2 _).mono fun e w'' ⟨he, hb⟩ => ⟨he, hcl.out _ _ hb⟩) | (go_at_call_of 34 [Value.agg #[Value.int IntKind.u64 xa.a, Value.int IntKind.u64 xa.b, Value.int IntKind.u64 xa.c, Value.int IntKind.u64 xa.d], Value.agg #[Value.int IntKind.u64 ya.a, Value.int IntKind.u64 ya.b, Value.int IntKind.u64 ya.c, Value.int IntKind.u64 ya.d]]; exact (F3 _).mono fun e w'' ⟨he, hb⟩ => ⟨he, hcl.out _ _ hb⟩) | (go_at_call_of 34 [Value.agg #[Value.int IntKind.u64 ga.a, Value.int IntKind.u64 ga.b, Value.int IntKind.u64 ga.c, Value.int IntKind.u64 ga.d], Value.agg #[Value.int IntKind.u64 ha.a, Value.int IntKind.u64 ha.b, Value.int IntKind.u64 ha.c, Value.int IntKind.u64 ha.d]]; exact (F4 _).mono fun e w'' ⟨he, hb⟩ => ⟨he, hcl.out _ _ hb⟩)))
  refine wpQuiet_nil ?_
  intro nx
  have hb9 := (hf nx).out
  clear hf hcl uux_0 uux_1 uux_2 uux_3 uuy_0 uuy_1 uuy_2 uuy_3
  generalize f nx = w9 at hb9 ⊢
  have s9 : Hid (Kn w9 [(k8, (c4 (ga))), (j8, (c4 (ha))), (k7, (c4 (da))), (w5.heap.size, (c4 (wa))), (k3, (c4 (ya))), (k1, (c4 (xa))), (w.heap.size + 1 + 1, qZ), (w.heap.size + 1, (qR (x2) (y2) (v2) (t2))), (w.heap.size, (qR (x1) (y1) (v1) (t1)))]) := s8.out.up hb9
  have b9 : Hid (Below w.heap.size w w9) := b8.out.trans (hb9.mono b8.out.size)
  have z9 := b9.out.size
  clear hb9 s8 b8
  have s10x : Hid (Kn w9 [(w.heap.size + 1 + 1, qZ), (k8, (c4 (ga))), (j8, (c4 (ha))), (k7, (c4 (da))), (w5.heap.size, (c4 (wa))), (k3, (c4 (ya))), (k1, (c4 (xa))), (w.heap.size + 1, (qR (x2) (y2) (v2) (t2))), (w.heap.size, (qR (x1) (y1) (v1) (t1)))]) := s9.out.front 6 rfl
  have b10x : Hid (Below w.heap.size w w9) := b9.out
  have TT10 : Hid (w9.there (w.heap.size + 1 + 1) 0 (qR (rx) (ry) (rv) (rz)).length) := Kn.there s10x.out 0 rfl (by rw [(qR_length (rx) (ry) (rv) (rz)), qZ_length])
  go_wp2_with (first | refine I.wp_store_eq rfl 89 _ _ rfl (w.heap.size + 1 + 1) 0 (qR (rx) (ry) (rv) (rz)) rfl rfl TT10.out (info_qR (rx) (ry) (rv) (rz)) (qR_one (rx) (ry) (rv) (rz)) ?_)
  intro w10 hw10
  try simp only [Act.put, List.setIfInBounds_toArray, List.set_cons_succ, List.set_cons_zero]
  have s10 : Hid (Kn w10 [(w.heap.size + 1 + 1, (qR (rx) (ry) (rv) (rz))), (k8, (c4 (ga))), (j8, (c4 (ha))), (k7, (c4 (da))), (w5.heap.size, (c4 (wa))), (k3, (c4 (ya))), (k1, (c4 (xa))), (w.heap.size + 1, (qR (x2) (y2) (v2) (t2))), (w.heap.size, (qR (x1) (y1) (v1) (t1)))]) := by rw [hw10.out]; exact Kn.put s10x.out (by rw [(qR_length (rx) (ry) (rv) (rz)), qZ_length])
  have b10 : Hid (Below w.heap.size w w10) := by rw [hw10.out]; exact I.below_setCells _ _ _ b10x.out (by omega)
  have z10 := b10.out.size
  clear hw10 s10x b10x TT10 s9 b9
  go_wp2_with fail
  exact bodyPost_ret (v := qV rx ry rv rz) (I.results_cell (b := w.heap.size + 1 + 1) rfl rfl (Kn.rng s10.out 0 rfl) Try.underlying89 rfl (info_qR (rx) (ry) (rv) (rz))) rfl ⟨rfl, b10.out⟩
set_option maxRecDepth 20000 in
set_option maxHeartbeats 2000000 in
theorem cpick_walk (c : Int) (x1 y1 v1 t1 x2 y2 v2 t2 rx ry rv rz : Nm)
    (P1 : ∀ w, Calls Try.prog 72 #[.int .u64 c, N x1, N x2] w fun e w' => e = .returned (N rx) ∧ Below w.heap.size w w')
    (P2 : ∀ w, Calls Try.prog 72 #[.int .u64 c, N y1, N y2] w fun e w' => e = .returned (N ry) ∧ Below w.heap.size w w')
    (P3 : ∀ w, Calls Try.prog 72 #[.int .u64 c, N v1, N v2] w fun e w' => e = .returned (N rv) ∧ Below w.heap.size w w')
    (P4 : ∀ w, Calls Try.prog 72 #[.int .u64 c, N t1, N t2] w fun e w' => e = .returned (N rz) ∧ Below w.heap.size w w')
    (w : World) :
    Calls Try.prog 69 #[.int .u64 c, qV x1 y1 v1 t1, qV x2 y2 v2 t2] w fun e w' => e = .returned (qV rx ry rv rz) ∧ Below w.heap.size w w' := by
  go_enter Try.func69, Try.ntmps69
  have s0 : Hid (Kn (((w.alloc (.cells (qR (x1) (y1) (v1) (t1)).toArray 89)).alloc (.cells (qR (x2) (y2) (v2) (t2)).toArray 89)).alloc (.cells #[Value.int IntKind.u64 0, Value.int IntKind.u64 0, Value.int IntKind.u64 0, Value.int IntKind.u64 0, Value.int IntKind.u64 0, Value.int IntKind.u64 0, Value.int IntKind.u64 0, Value.int IntKind.u64 0, Value.int IntKind.u64 0, Value.int IntKind.u64 0, Value.int IntKind.u64 0, Value.int IntKind.u64 0, Value.int IntKind.u64 0, Value.int IntKind.u64 0, Value.int IntKind.u64 0, Value.int IntKind.u64 0] 89)) [(w.heap.size + 1 + 1, qZ), (w.heap.size + 1, (qR (x2) (y2) (v2) (t2))), (w.heap.size, (qR (x1) (y1) (v1) (t1)))]) := ((((Kn.nil w).al (qR (x1) (y1) (v1) (t1)) 89 rfl).al (qR (x2) (y2) (v2) (t2)) 89 (by simp)).al qZ 89 (by simp))
  have b0 : Hid (Below w.heap.size w (((w.alloc (.cells (qR (x1) (y1) (v1) (t1)).toArray 89)).alloc (.cells (qR (x2) (y2) (v2) (t2)).toArray 89)).alloc (.cells #[Value.int IntKind.u64 0, Value.int IntKind.u64 0, Value.int IntKind.u64 0, Value.int IntKind.u64 0, Value.int IntKind.u64 0, Value.int IntKind.u64 0, Value.int IntKind.u64 0, Value.int IntKind.u64 0, Value.int IntKind.u64 0, Value.int IntKind.u64 0, Value.int IntKind.u64 0, Value.int IntKind.u64 0, Value.int IntKind.u64 0, Value.int IntKind.u64 0, Value.int IntKind.u64 0, Value.int IntKind.u64 0] 89))) := ((((Below.refl _ _).alloc (Nat.le_refl _) _).alloc (by simp <;> omega) _).alloc (by simp <;> omega) _)
  go_wp2_with (first | simp only [zero_fra])
  refine wp_region_up_then 25 (by kernel_rfl) (by kernel_rfl) (by kernel_rfl) (by kernel_rfl) (by decide) (fun _ _ d _ _ h => by cases d <;> exact h) (fun U hU f hf hcl => ?_)
  have ra_p_0 := fun nx => (Kn.rng (s0.out.up (hf nx).out) 2 rfl : (f nx).rangeAt (w.heap.size) 0 (qR (x1) (y1) (v1) (t1)))
  have ra_p_1 := fun nx => (Kn.qng0 (s0.out.up (hf nx).out) 2 rfl : (f nx).rangeAt (w.heap.size) 0 [Value.int IntKind.u64 x1.a, Value.int IntKind.u64 x1.b, Value.int IntKind.u64 x1.c, Value.int IntKind.u64 x1.d])
  have ra_p_2 := fun nx => (Kn.qng1 (s0.out.up (hf nx).out) 2 rfl : (f nx).rangeAt (w.heap.size) 4 [Value.int IntKind.u64 y1.a, Value.int IntKind.u64 y1.b, Value.int IntKind.u64 y1.c, Value.int IntKind.u64 y1.d])
  have ra_p_3 := fun nx => (Kn.qng2 (s0.out.up (hf nx).out) 2 rfl : (f nx).rangeAt (w.heap.size) 8 [Value.int IntKind.u64 v1.a, Value.int IntKind.u64 v1.b, Value.int IntKind.u64 v1.c, Value.int IntKind.u64 v1.d])
  have ra_p_4 := fun nx => (Kn.qng3 (s0.out.up (hf nx).out) 2 rfl : (f nx).rangeAt (w.heap.size) 12 [Value.int IntKind.u64 t1.a, Value.int IntKind.u64 t1.b, Value.int IntKind.u64 t1.c, Value.int IntKind.u64 t1.d])
  have ra_q_0 := fun nx => (Kn.rng (s0.out.up (hf nx).out) 1 rfl : (f nx).rangeAt (w.heap.size + 1) 0 (qR (x2) (y2) (v2) (t2)))
  have ra_q_1 := fun nx => (Kn.qng0 (s0.out.up (hf nx).out) 1 rfl : (f nx).rangeAt (w.heap.size + 1) 0 [Value.int IntKind.u64 x2.a, Value.int IntKind.u64 x2.b, Value.int IntKind.u64 x2.c, Value.int IntKind.u64 x2.d])
  have ra_q_2 := fun nx => (Kn.qng1 (s0.out.up (hf nx).out) 1 rfl : (f nx).rangeAt (w.heap.size + 1) 4 [Value.int IntKind.u64 y2.a, Value.int IntKind.u64 y2.b, Value.int IntKind.u64 y2.c, Value.int IntKind.u64 y2.d])
  have ra_q_3 := fun nx => (Kn.qng2 (s0.out.up (hf nx).out) 1 rfl : (f nx).rangeAt (w.heap.size + 1) 8 [Value.int IntKind.u64 v2.a, Value.int IntKind.u64 v2.b, Value.int IntKind.u64 v2.c, Value.int IntKind.u64 v2.d])
  have ra_q_4 := fun nx => (Kn.qng3 (s0.out.up (hf nx).out) 1 rfl : (f nx).rangeAt (w.heap.size + 1) 12 [Value.int IntKind.u64 t2.a, Value.int IntKind.u64 t2.b, Value.int IntKind.u64 t2.c, Value.int IntKind.u64 t2.d])
  simp only [List.take_succ_cons, List.take_zero, List.drop_succ_cons, List.drop_zero]
  repeat (first | (refine quiet_buildF rfl 89 _ _ _ _ rfl (N rx) (N ry) (N rv) (N rz) (qR rx ry rv rz) rfl rfl rfl rfl (fra_built rx ry rv rz) ?_; simp only [Act.put, List.setIfInBounds_toArray, List.set_cons_succ, List.set_cons_zero]) | (refine I.quiet_load rfl 89 _ rfl (w.heap.size) 0 rfl (qR (x1) (y1) (v1) (t1)) _ (fun W hW => by obtain ⟨nx, rfl⟩ := hW; exact ra_p_0 nx) Try.underlying89 rfl (info_qR (x1) (y1) (v1) (t1)) ?_; simp only [Act.put, List.setIfInBounds_toArray, List.set_cons_succ, List.set_cons_zero]) | (refine I.quiet_load rfl 28 _ rfl (w.heap.size) 0 rfl [Value.int IntKind.u64 x1.a, Value.int IntKind.u64 x1.b, Value.int IntKind.u64 x1.c, Value.int IntKind.u64 x1.d] _ (fun W hW => by obtain ⟨nx, rfl⟩ := hW; exact ra_p_1 nx) Try.underlying28 rfl (info_c4 (x1)) ?_; simp only [Act.put, List.setIfInBounds_toArray, List.set_cons_succ, List.set_cons_zero]) | (refine I.quiet_load rfl 28 _ rfl (w.heap.size) 4 rfl [Value.int IntKind.u64 y1.a, Value.int IntKind.u64 y1.b, Value.int IntKind.u64 y1.c, Value.int IntKind.u64 y1.d] _ (fun W hW => by obtain ⟨nx, rfl⟩ := hW; exact ra_p_2 nx) Try.underlying28 rfl (info_c4 (y1)) ?_; simp only [Act.put, List.setIfInBounds_toArray, List.set_cons_succ, List.set_cons_zero]) | (refine I.quiet_load rfl 28 _ rfl (w.heap.size) 8 rfl [Value.int IntKind.u64 v1.a, Value.int IntKind.u64 v1.b, Value.int IntKind.u64 v1.c, Value.int IntKind.u64 v1.d] _ (fun W hW => by obtain ⟨nx, rfl⟩ := hW; exact ra_p_3 nx) Try.underlying28 rfl (info_c4 (v1)) ?_; simp only [Act.put, List.setIfInBounds_toArray, List.set_cons_succ, List.set_cons_zero]) | (refine I.quiet_load rfl 28 _ rfl (w.heap.size) 12 rfl [Value.int IntKind.u64 t1.a, Value.int IntKind.u64 t1.b, Value.int IntKind.u64 t1.c, Value.int IntKind.u64 t1.d] _ (fun W hW => by obtain ⟨nx, rfl⟩ := hW; exact ra_p_4 nx) Try.underlying28 rfl (info_c4 (t1)) ?_; simp only [Act.put, List.setIfInBounds_toArray, List.set_cons_succ, List.set_cons_zero]) | (refine I.quiet_load rfl 89 _ rfl (w.heap.size + 1) 0 rfl (qR (x2) (y2) (v2) (t2)) _ (fun W hW => by obtain ⟨nx, rfl⟩ := hW; exact ra_q_0 nx) Try.underlying89 rfl (info_qR (x2) (y2) (v2) (t2)) ?_; simp only [Act.put, List.setIfInBounds_toArray, List.set_cons_succ, List.set_cons_zero]) | (refine I.quiet_load rfl 28 _ rfl (w.heap.size + 1) 0 rfl [Value.int IntKind.u64 x2.a, Value.int IntKind.u64 x2.b, Value.int IntKind.u64 x2.c, Value.int IntKind.u64 x2.d] _ (fun W hW => by obtain ⟨nx, rfl⟩ := hW; exact ra_q_1 nx) Try.underlying28 rfl (info_c4 (x2)) ?_; simp only [Act.put, List.setIfInBounds_toArray, List.set_cons_succ, List.set_cons_zero]) | (refine I.quiet_load rfl 28 _ rfl (w.heap.size + 1) 4 rfl [Value.int IntKind.u64 y2.a, Value.int IntKind.u64 y2.b, Value.int IntKind.u64 y2.c, Value.int IntKind.u64 y2.d] _ (fun W hW => by obtain ⟨nx, rfl⟩ := hW; exact ra_q_2 nx) Try.underlying28 rfl (info_c4 (y2)) ?_; simp only [Act.put, List.setIfInBounds_toArray, List.set_cons_succ, List.set_cons_zero]) | (refine I.quiet_load rfl 28 _ rfl (w.heap.size + 1) 8 rfl [Value.int IntKind.u64 v2.a, Value.int IntKind.u64 v2.b, Value.int IntKind.u64 v2.c, Value.int IntKind.u64 v2.d] _ (fun W hW => by obtain ⟨nx, rfl⟩ := hW; exact ra_q_3 nx) Try.underlying28 rfl (info_c4 (v2)) ?_; simp only [Act.put, List.setIfInBounds_toArray, List.set_cons_succ, List.set_cons_zero]) | (refine I.quiet_load rfl 28 _ rfl (w.heap.size + 1) 12 rfl [Value.int IntKind.u64 t2.a, Value.int IntKind.u64 t2.b, Value.int IntKind.u64 t2.c, Value.int IntKind.u64 t2.d] _ (fun W hW => by obtain ⟨nx, rfl⟩ := hW; exact ra_q_4 nx) Try.underlying28 rfl (info_c4 (t2)) ?_; simp only [Act.put, List.setIfInBounds_toArray, List.set_cons_succ, List.set_cons_zero]) | go_big_quiet_step (first | (go_at_call_of 72 [Value.int IntKind.u64 c, Value.agg #[Value.int IntKind.u64 x1.a, Value.int IntKind.u64 x1.b, Value.int IntKind.u64 x1.c, Value.int IntKind.u64 x1.d], Value.agg #[Value.int IntKind.u64 x2.a, Value.int IntKind.u64 x2.b, Value.int IntKind.u64 x2.c, Value.int IntKind.u64 x2.d]]; exact (P1 _).mono fun e w'' ⟨he, hb⟩ => ⟨he, hcl.out _ _ hb⟩) | (go_at_call_of 72 [Value.int IntKind.u64 c, Value.agg #[Value.int IntKind.u64 y1.a, Value.int IntKind.u64 y1.b, Value.int IntKind.u64 y1.c, Value.int IntKind.u64 y1.d], Value.agg #[Value.int IntKind.u64 y2.a, Value.int IntKind.u64 y2.b, Value.int IntKind.u64 y2.c, Value.int IntKind.u64 y2.d]]; exact (P2 _).mono fun e w'' ⟨he, hb⟩ => ⟨he, hcl.out _ _ hb⟩) | (go_at_call_of 72 [Value.int IntKind.u64 c, Value.agg #[Value.int IntKind.u64 v1.a, Value.int IntKind.u64 v1.b, Value.int IntKind.u64 v1.c, Value.int IntKind.u64 v1.d], Value.agg #[Value.int IntKind.u64 v2.a, Value.int IntKind.u64 v2.b, Value.int IntKind.u64 v2.c, Value.int IntKind.u64 v2.d]]; exact (P3 _).mono fun e w'' ⟨he, hb⟩ => ⟨he, hcl.out _ _ hb⟩) | (go_at_call_of 72 [Value.int IntKind.u64 c, Value.agg #[Value.int IntKind.u64 t1.a, Value.int IntKind.u64 t1.b, Value.int IntKind.u64 t1.c, Value.int IntKind.u64 t1.d], Value.agg #[Value.int IntKind.u64 t2.a, Value.int IntKind.u64 t2.b, Value.int IntKind.u64 t2.c, Value.int IntKind.u64 t2.d]]; exact (P4 _).mono fun e w'' ⟨he, hb⟩ => ⟨he, hcl.out _ _ hb⟩)))
  refine wpQuiet_nil ?_
  intro nx
  have hb1 := (hf nx).out
  clear hf hcl
  generalize f nx = w1 at hb1 ⊢
  have s1 : Hid (Kn w1 [(w.heap.size + 1 + 1, qZ), (w.heap.size + 1, (qR (x2) (y2) (v2) (t2))), (w.heap.size, (qR (x1) (y1) (v1) (t1)))]) := s0.out.up hb1
  have b1 : Hid (Below w.heap.size w w1) := b0.out.trans (hb1.mono b0.out.size)
  have z1 := b1.out.size
  clear hb1 s0 b0
  have s2x : Hid (Kn w1 [(w.heap.size + 1 + 1, qZ), (w.heap.size + 1, (qR (x2) (y2) (v2) (t2))), (w.heap.size, (qR (x1) (y1) (v1) (t1)))]) := s1.out.front 0 rfl
  have b2x : Hid (Below w.heap.size w w1) := b1.out
  have TT2 : Hid (w1.there (w.heap.size + 1 + 1) 0 (qR (rx) (ry) (rv) (rz)).length) := Kn.there s2x.out 0 rfl (by rw [(qR_length (rx) (ry) (rv) (rz)), qZ_length])
  go_wp2_with (first | refine I.wp_store_eq rfl 89 _ _ rfl (w.heap.size + 1 + 1) 0 (qR (rx) (ry) (rv) (rz)) rfl rfl TT2.out (info_qR (rx) (ry) (rv) (rz)) (qR_one (rx) (ry) (rv) (rz)) ?_)
  intro w2 hw2
  try simp only [Act.put, List.setIfInBounds_toArray, List.set_cons_succ, List.set_cons_zero]
  have s2 : Hid (Kn w2 [(w.heap.size + 1 + 1, (qR (rx) (ry) (rv) (rz))), (w.heap.size + 1, (qR (x2) (y2) (v2) (t2))), (w.heap.size, (qR (x1) (y1) (v1) (t1)))]) := by rw [hw2.out]; exact Kn.put s2x.out (by rw [(qR_length (rx) (ry) (rv) (rz)), qZ_length])
  have b2 : Hid (Below w.heap.size w w2) := by rw [hw2.out]; exact I.below_setCells _ _ _ b2x.out (by omega)
  have z2 := b2.out.size
  clear hw2 s2x b2x TT2 s1 b1
  go_wp2_with fail
  exact bodyPost_ret (v := qV rx ry rv rz) (I.results_cell (b := w.heap.size + 1 + 1) rfl rfl (Kn.rng s2.out 0 rfl) Try.underlying89 rfl (info_qR (rx) (ry) (rv) (rz))) rfl ⟨rfl, b2.out⟩
set_option maxRecDepth 20000 in
set_option maxHeartbeats 1000000 in
theorem cdiv_walk (xa ya va za ia rx ry : Nm)
    (I1 : ∀ w, Calls Try.prog 47 #[N za] w fun e w' => e = .returned (N ia) ∧ Below w.heap.size w w')
    (M1 : ∀ w, Calls Try.prog 34 #[N xa, N ia] w fun e w' => e = .returned (N rx) ∧ Below w.heap.size w w')
    (M2 : ∀ w, Calls Try.prog 34 #[N ya, N ia] w fun e w' => e = .returned (N ry) ∧ Below w.heap.size w w')
    (w : World) :
    Calls Try.prog 70 #[qV xa ya va za] w fun e w' => e = .returned (Wv rx ry) ∧ Below w.heap.size w w' := by
  go_enter Try.func70, Try.ntmps70
  have s0 : Hid (Kn (kzP (w.alloc (.cells (qR (xa) (ya) (va) (za)).toArray 89))) [(w.heap.size + 1, zz8), (w.heap.size, (qR (xa) (ya) (va) (za)))]) := (((Kn.nil w).al (qR (xa) (ya) (va) (za)) 89 rfl).al zz8 35 (by simp))
  have b0 : Hid (Below w.heap.size w (kzP (w.alloc (.cells (qR (xa) (ya) (va) (za)).toArray 89)))) := (((Below.refl _ _).alloc (Nat.le_refl _) _).alloc (by simp <;> omega) _)
  go_wp2_with (first | refine wp_ldW rfl 89 _ rfl (w.heap.size) 0 rfl (qR (xa) (ya) (va) (za)) _ (Kn.rng s0.out 1 rfl) Try.underlying89 rfl (info_qR (xa) (ya) (va) (za)) ?_ | refine wp_ldW rfl 28 _ rfl (w.heap.size) 0 rfl [Value.int IntKind.u64 xa.a, Value.int IntKind.u64 xa.b, Value.int IntKind.u64 xa.c, Value.int IntKind.u64 xa.d] _ (Kn.qng0 s0.out 1 rfl) Try.underlying28 rfl (info_c4 (xa)) ?_ | refine wp_ldW rfl 28 _ rfl (w.heap.size) 4 rfl [Value.int IntKind.u64 ya.a, Value.int IntKind.u64 ya.b, Value.int IntKind.u64 ya.c, Value.int IntKind.u64 ya.d] _ (Kn.qng1 s0.out 1 rfl) Try.underlying28 rfl (info_c4 (ya)) ?_ | refine wp_ldW rfl 28 _ rfl (w.heap.size) 8 rfl [Value.int IntKind.u64 va.a, Value.int IntKind.u64 va.b, Value.int IntKind.u64 va.c, Value.int IntKind.u64 va.d] _ (Kn.qng2 s0.out 1 rfl) Try.underlying28 rfl (info_c4 (va)) ?_ | refine wp_ldW rfl 28 _ rfl (w.heap.size) 12 rfl [Value.int IntKind.u64 za.a, Value.int IntKind.u64 za.b, Value.int IntKind.u64 za.c, Value.int IntKind.u64 za.d] _ (Kn.qng3 s0.out 1 rfl) Try.underlying28 rfl (info_c4 (za)) ?_)
  refine (I1 _).mono ?_
  rintro e w1 ⟨rfl, hb1⟩
  have s1 : Hid (Kn w1 [(w.heap.size + 1, zz8), (w.heap.size, (qR (xa) (ya) (va) (za)))]) := s0.out.up hb1
  have b1 : Hid (Below w.heap.size w w1) := b0.out.trans (hb1.mono b0.out.size)
  have z1 := b1.out.size
  clear hb1 s0 b0
  have s2 : Hid (Kn (kal4 w1 (ia)) [(w1.heap.size, (c4 (ia))), (w.heap.size + 1, zz8), (w.heap.size, (qR (xa) (ya) (va) (za)))]) := s1.out.al (c4 (ia)) 28 rfl
  have b2 : Hid (Below w.heap.size w (kal4 w1 (ia))) := b1.out.alloc b1.out.size _
  have z2 := b1.out.size
  clear s1 b1
  go_wp2_with fail
  refine wp_region_up_then 9 (by kernel_rfl) (by kernel_rfl) (by kernel_rfl) (by kernel_rfl) (by decide) (fun _ _ d _ _ h => by cases d <;> exact h) (fun U hU f hf hcl => ?_)
  have uinv_0 := fun nx => (Kn.get (s2.out.up (hf nx).out) 0 0 rfl rfl : (f nx).cell? ⟨w1.heap.size, 0, none⟩ = some (.int .u64 (ia).a))
  have uinv_1 := fun nx => (Kn.get (s2.out.up (hf nx).out) 0 1 rfl rfl : (f nx).cell? ⟨w1.heap.size, 1, none⟩ = some (.int .u64 (ia).b))
  have uinv_2 := fun nx => (Kn.get (s2.out.up (hf nx).out) 0 2 rfl rfl : (f nx).cell? ⟨w1.heap.size, 2, none⟩ = some (.int .u64 (ia).c))
  have uinv_3 := fun nx => (Kn.get (s2.out.up (hf nx).out) 0 3 rfl rfl : (f nx).cell? ⟨w1.heap.size, 3, none⟩ = some (.int .u64 (ia).d))
  have ra_q_0 := fun nx => (Kn.rng (s2.out.up (hf nx).out) 2 rfl : (f nx).rangeAt (w.heap.size) 0 (qR (xa) (ya) (va) (za)))
  have ra_q_1 := fun nx => (Kn.qng0 (s2.out.up (hf nx).out) 2 rfl : (f nx).rangeAt (w.heap.size) 0 [Value.int IntKind.u64 xa.a, Value.int IntKind.u64 xa.b, Value.int IntKind.u64 xa.c, Value.int IntKind.u64 xa.d])
  have ra_q_2 := fun nx => (Kn.qng1 (s2.out.up (hf nx).out) 2 rfl : (f nx).rangeAt (w.heap.size) 4 [Value.int IntKind.u64 ya.a, Value.int IntKind.u64 ya.b, Value.int IntKind.u64 ya.c, Value.int IntKind.u64 ya.d])
  have ra_q_3 := fun nx => (Kn.qng2 (s2.out.up (hf nx).out) 2 rfl : (f nx).rangeAt (w.heap.size) 8 [Value.int IntKind.u64 va.a, Value.int IntKind.u64 va.b, Value.int IntKind.u64 va.c, Value.int IntKind.u64 va.d])
  have ra_q_4 := fun nx => (Kn.qng3 (s2.out.up (hf nx).out) 2 rfl : (f nx).rangeAt (w.heap.size) 12 [Value.int IntKind.u64 za.a, Value.int IntKind.u64 za.b, Value.int IntKind.u64 za.c, Value.int IntKind.u64 za.d])
  simp only [List.take_succ_cons, List.take_zero, List.drop_succ_cons, List.drop_zero]
  repeat (first | (refine I.quiet_load rfl 89 _ rfl (w.heap.size) 0 rfl (qR (xa) (ya) (va) (za)) _ (fun W hW => by obtain ⟨nx, rfl⟩ := hW; exact ra_q_0 nx) Try.underlying89 rfl (info_qR (xa) (ya) (va) (za)) ?_; simp only [Act.put, List.setIfInBounds_toArray, List.set_cons_succ, List.set_cons_zero]) | (refine I.quiet_load rfl 28 _ rfl (w.heap.size) 0 rfl [Value.int IntKind.u64 xa.a, Value.int IntKind.u64 xa.b, Value.int IntKind.u64 xa.c, Value.int IntKind.u64 xa.d] _ (fun W hW => by obtain ⟨nx, rfl⟩ := hW; exact ra_q_1 nx) Try.underlying28 rfl (info_c4 (xa)) ?_; simp only [Act.put, List.setIfInBounds_toArray, List.set_cons_succ, List.set_cons_zero]) | (refine I.quiet_load rfl 28 _ rfl (w.heap.size) 4 rfl [Value.int IntKind.u64 ya.a, Value.int IntKind.u64 ya.b, Value.int IntKind.u64 ya.c, Value.int IntKind.u64 ya.d] _ (fun W hW => by obtain ⟨nx, rfl⟩ := hW; exact ra_q_2 nx) Try.underlying28 rfl (info_c4 (ya)) ?_; simp only [Act.put, List.setIfInBounds_toArray, List.set_cons_succ, List.set_cons_zero]) | (refine I.quiet_load rfl 28 _ rfl (w.heap.size) 8 rfl [Value.int IntKind.u64 va.a, Value.int IntKind.u64 va.b, Value.int IntKind.u64 va.c, Value.int IntKind.u64 va.d] _ (fun W hW => by obtain ⟨nx, rfl⟩ := hW; exact ra_q_3 nx) Try.underlying28 rfl (info_c4 (va)) ?_; simp only [Act.put, List.setIfInBounds_toArray, List.set_cons_succ, List.set_cons_zero]) | (refine I.quiet_load rfl 28 _ rfl (w.heap.size) 12 rfl [Value.int IntKind.u64 za.a, Value.int IntKind.u64 za.b, Value.int IntKind.u64 za.c, Value.int IntKind.u64 za.d] _ (fun W hW => by obtain ⟨nx, rfl⟩ := hW; exact ra_q_4 nx) Try.underlying28 rfl (info_c4 (za)) ?_; simp only [Act.put, List.setIfInBounds_toArray, List.set_cons_succ, List.set_cons_zero]) | go_big_quiet_step (first | (go_at_call_of 34 [Value.agg #[Value.int IntKind.u64 xa.a, Value.int IntKind.u64 xa.b, Value.int IntKind.u64 xa.c, Value.int IntKind.u64 xa.d], Value.agg #[Value.int IntKind.u64 ia.a, Value.int IntKind.u64 ia.b, Value.int IntKind.u64 ia.c, Value.int IntKind.u64 ia.d]]; exact (M1 _).mono fun e w'' ⟨he, hb⟩ => ⟨he, hcl.out _ _ hb⟩) | (go_at_call_of 34 [Value.agg #[Value.int IntKind.u64 ya.a, Value.int IntKind.u64 ya.b, Value.int IntKind.u64 ya.c, Value.int IntKind.u64 ya.d], Value.agg #[Value.int IntKind.u64 ia.a, Value.int IntKind.u64 ia.b, Value.int IntKind.u64 ia.c, Value.int IntKind.u64 ia.d]]; exact (M2 _).mono fun e w'' ⟨he, hb⟩ => ⟨he, hcl.out _ _ hb⟩)))
  refine wpQuiet_nil ?_
  intro nx
  have hb3 := (hf nx).out
  clear hf hcl uinv_0 uinv_1 uinv_2 uinv_3
  generalize f nx = w3 at hb3 ⊢
  have s3 : Hid (Kn w3 [(w1.heap.size, (c4 (ia))), (w.heap.size + 1, zz8), (w.heap.size, (qR (xa) (ya) (va) (za)))]) := s2.out.up hb3
  have b3 : Hid (Below w.heap.size w w3) := b2.out.trans (hb3.mono b2.out.size)
  have z3 := b3.out.size
  clear hb3 s2 b2
  have uro_0 : w3.cell? ⟨w.heap.size + 1, 0, none⟩ = some (.int .u64 0) := Kn.get s3.out 1 0 rfl rfl
  have uro_1 : w3.cell? ⟨w.heap.size + 1, 1, none⟩ = some (.int .u64 0) := Kn.get s3.out 1 1 rfl rfl
  have uro_2 : w3.cell? ⟨w.heap.size + 1, 2, none⟩ = some (.int .u64 0) := Kn.get s3.out 1 2 rfl rfl
  have uro_3 : w3.cell? ⟨w.heap.size + 1, 3, none⟩ = some (.int .u64 0) := Kn.get s3.out 1 3 rfl rfl
  have uro_4 : w3.cell? ⟨w.heap.size + 1, 4, none⟩ = some (.int .u64 0) := Kn.get s3.out 1 4 rfl rfl
  have uro_5 : w3.cell? ⟨w.heap.size + 1, 5, none⟩ = some (.int .u64 0) := Kn.get s3.out 1 5 rfl rfl
  have uro_6 : w3.cell? ⟨w.heap.size + 1, 6, none⟩ = some (.int .u64 0) := Kn.get s3.out 1 6 rfl rfl
  have uro_7 : w3.cell? ⟨w.heap.size + 1, 7, none⟩ = some (.int .u64 0) := Kn.get s3.out 1 7 rfl rfl
  have uro_z : ∀ j, w3.frozen? ⟨w.heap.size + 1, j, none⟩ = false := Kn.fz s3.out 1 rfl
  have s4 : Hid (Kn (st8 w3 (w.heap.size + 1) (rx) (ry)) [(w.heap.size + 1, (c8 (rx) (ry))), (w1.heap.size, (c4 (ia))), (w.heap.size, (qR (xa) (ya) (va) (za)))]) := Kn.st8 (L := [(w1.heap.size, (c4 (ia))), (w.heap.size, (qR (xa) (ya) (va) (za)))]) (s3.out.front 1 rfl) (rx) (ry)
  have b4 : Hid (Below w.heap.size w (st8 w3 (w.heap.size + 1) (rx) (ry))) := below_st8 b3.out (by omega)
  clear s3 b3
  go_wp2_with fail
  clear uro_0 uro_1 uro_2 uro_3 uro_4 uro_5 uro_6 uro_7 uro_z
  have urr_0 : (st8 w3 (w.heap.size + 1) (rx) (ry)).cell? ⟨w.heap.size + 1, 0, none⟩ = some (.int .u64 (rx).a) := Kn.get s4.out 0 0 rfl rfl
  have urr_1 : (st8 w3 (w.heap.size + 1) (rx) (ry)).cell? ⟨w.heap.size + 1, 1, none⟩ = some (.int .u64 (rx).b) := Kn.get s4.out 0 1 rfl rfl
  have urr_2 : (st8 w3 (w.heap.size + 1) (rx) (ry)).cell? ⟨w.heap.size + 1, 2, none⟩ = some (.int .u64 (rx).c) := Kn.get s4.out 0 2 rfl rfl
  have urr_3 : (st8 w3 (w.heap.size + 1) (rx) (ry)).cell? ⟨w.heap.size + 1, 3, none⟩ = some (.int .u64 (rx).d) := Kn.get s4.out 0 3 rfl rfl
  have urr_4 : (st8 w3 (w.heap.size + 1) (rx) (ry)).cell? ⟨w.heap.size + 1, 4, none⟩ = some (.int .u64 (ry).a) := Kn.get s4.out 0 4 rfl rfl
  have urr_5 : (st8 w3 (w.heap.size + 1) (rx) (ry)).cell? ⟨w.heap.size + 1, 5, none⟩ = some (.int .u64 (ry).b) := Kn.get s4.out 0 5 rfl rfl
  have urr_6 : (st8 w3 (w.heap.size + 1) (rx) (ry)).cell? ⟨w.heap.size + 1, 6, none⟩ = some (.int .u64 (ry).c) := Kn.get s4.out 0 6 rfl rfl
  have urr_7 : (st8 w3 (w.heap.size + 1) (rx) (ry)).cell? ⟨w.heap.size + 1, 7, none⟩ = some (.int .u64 (ry).d) := Kn.get s4.out 0 7 rfl rfl
  refine bodyPost_ret (v := Wv rx ry) ?_ rfl ⟨rfl, b4.out⟩
  show (results Try.f70 _).run Try.prog (st8 w3 (w.heap.size + 1) (rx) (ry)) = .ok _ (st8 w3 (w.heap.size + 1) (rx) (ry))
  clear s4 b4
  generalize (st8 w3 (w.heap.size + 1) (rx) (ry)) = W9 at *
  simp [results, Try.results70, go_sem, urr_0, urr_1, urr_2, urr_3, urr_4, urr_5, urr_6, urr_7]
/-- Four numbers as Go has them. -/
abbrev qv (t : Cv.Qd) : Value := qV (nm t.1) (nm t.2.1) (nm t.2.2.1) (nm t.2.2.2)
theorem fMul_n {a b : Nat} (ha : a < F.p) (hb : b < F.p) (w : World) : Calls Try.prog 34 #[N (nm a), N (nm b)] w fun e w' => e = .returned (N (nm (F.mul a b))) ∧ Below w.heap.size w w' := by
  have := fMulC (nm a) (nm b) (nm_ok _) (nm_ok _) w
  rwa [f_nat ha, f_nat hb] at this
theorem fAdd_n {a b : Nat} (ha : a < F.p) (hb : b < F.p) (w : World) : Calls Try.prog 36 #[N (nm a), N (nm b)] w fun e w' => e = .returned (N (nm (F.add a b))) ∧ Below w.heap.size w w' := by
  have := fAddC (nm a) (nm b) (nm_ok _) (nm_ok _) w
  rwa [f_nat ha, f_nat hb] at this
theorem fSub_n {a b : Nat} (ha : a < F.p) (hb : b < F.p) (w : World) : Calls Try.prog 35 #[N (nm a), N (nm b)] w fun e w' => e = .returned (N (nm (F.sub a b))) ∧ Below w.heap.size w w' := by
  have := fSubC (nm a) (nm b) (nm_ok _) (nm_ok _) w
  rwa [f_nat ha, f_nat hb] at this
theorem fInv_n {a : Nat} (ha : a < F.p) (w : World) : Calls Try.prog 47 #[N (nm a)] w fun e w' => e = .returned (N (nm (F.inv a))) ∧ Below w.heap.size w w' := by
  have := fInvC (nm a) (nm_ok _) w
  rwa [f_nat ha] at this
theorem asF_fun {P : Cv.Pt} (hP : Cv.On P) (w : World) : Calls Try.prog 66 #[pv P] w fun e w' => e = .returned (qv (Cv.asq P)) ∧ Below w.heap.size w w' := by
  have := asF_walk _ _ _ (fMul_n hP.1 hP.2.1) w
  rw [nI_nm] at this
  exact this
theorem csum_fun (s t : Cv.Qd) (hs : Cv.qlt s) (ht : Cv.qlt t) (w : World) : Calls Try.prog 68 #[qv s, qv t] w fun e w' => e = .returned (qv (Cv.qadd s t)) ∧ Below w.heap.size w w' := by
  obtain ⟨s1, s2, s3, s4⟩ := hs
  obtain ⟨t1, t2, t3, t4⟩ := ht
  have m := F.mul_lt; have a := F.add_lt; have b := F.sub_lt
  have D2 : ∀ w, Calls Try.prog 34 #[N dN, N (nm (F.mul s.2.2.1 t.2.2.1))] w fun e w' => e = .returned (N (nm (F.mul Cv.d (F.mul s.2.2.1 t.2.2.1)))) ∧ Below w.heap.size w w' := by
    rw [dN_nm]
    exact fMul_n Cv.d_lt (m _ _)
  exact csum_walk _ _ _ _ _ _ _ _ _ _ _ _ _ _ _ _ _ _ _ _ _ _ _ (fMul_n s1 t2) (fMul_n s2 t1) (fAdd_n (m _ _) (m _ _)) (fMul_n s2 t2) (fMul_n s1 t1) (fAdd_n (m _ _) (m _ _)) (fMul_n s4 t4) (fMul_n s3 t3) D2 (fAdd_n (m _ _) (m _ _)) (fSub_n (m _ _) (m _ _)) (fMul_n (a _ _) (b _ _)) (fMul_n (a _ _) (a _ _)) (fMul_n (a _ _) (a _ _)) (fMul_n (a _ _) (b _ _)) w
theorem cpick_fun (c : Nat) (hc : c < 2) (s t : Cv.Qd) (w : World) : Calls Try.prog 69 #[.int .u64 (c : Int), qv s, qv t] w fun e w' => e = .returned (qv (if c = 0 then s else t)) ∧ Below w.heap.size w w' := by
  have pf : ∀ (a b : Nat) (w : World), Calls Try.prog 72 #[.int .u64 (c : Int), N (nm a), N (nm b)] w fun e w' => e = .returned (N (nm (if c = 0 then a else b))) ∧ Below w.heap.size w w' := fun a b w => by
    have := pick_fun (c : Int) (nm a) (nm b) ⟨by omega, by omega⟩ (nm_ok _) (nm_ok _) w
    unfold pick at this
    by_cases h : c = 0
    · rw [if_pos (by omega)] at this
      rw [if_pos h]
      exact this
    · rw [if_neg (by omega)] at this
      rw [if_neg h]
      exact this
  have := cpick_walk (c : Int) _ _ _ _ _ _ _ _ _ _ _ _ (pf s.1 t.1) (pf s.2.1 t.2.1) (pf s.2.2.1 t.2.2.1) (pf s.2.2.2 t.2.2.2) w
  by_cases h : c = 0
  · simp only [if_pos h] at this ⊢
    exact this
  · simp only [if_neg h] at this ⊢
    exact this
theorem cdiv_fun {t : Cv.Qd} (ht : Cv.qlt t) {P : Cv.Pt} (hP : Cv.On P) (h : Cv.FqN t P) (w : World) : Calls Try.prog 70 #[qv t] w fun e w' => e = .returned (pv P) ∧ Below w.heap.size w w' := by
  have := cdiv_walk _ _ (nm t.2.2.1) _ _ _ _ (fInv_n ht.2.2.2) (fMul_n ht.1 (F.inv_lt _)) (fMul_n ht.2.1 (F.inv_lt _)) w
  rw [(Cv.fq_point hP h).1, (Cv.fq_point hP h).2] at this
  exact this
end Go.Proofs.Ytpnfopakkaoibaa
