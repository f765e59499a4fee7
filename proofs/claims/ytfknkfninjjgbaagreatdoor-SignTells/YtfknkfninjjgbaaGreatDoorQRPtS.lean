/- The document's points: Plus. -/
import Derived.Test.YtfknkfninjjgbaaGreatDoorQCAssToRPt
namespace Go.Proofs.YtfknkfninjjgbaaGreatDoor
open Go.RowKit
attribute [local go_sem] World.cell?_alloc_some cell_alloc2 cell_alloc3 cell_alloc4 frozen?_alloc_cells frozen_out
set_option linter.unusedSimpArgs false
set_option maxRecDepth 20000 in
set_option maxHeartbeats 600000 in
theorem ptPlus_walk (x1 y1 t1 x2 y2 t2 dd va vc vd vb vdc ve vf vg m1 m2 vs ax rx ay cd ry rt : Nat)
  (DF : ∀ w, Calls Tryz.prog 83 #[] w fun e w' => e = .returned (.agg (fR (dd)).toArray) ∧ Below w.heap.size w w')
  (A1 : ∀ w, Calls Tryz.prog 61 #[.agg (fR (t1)).toArray, .agg (fR (t2)).toArray] w fun e w' => e = .returned (.agg (fR (va)).toArray) ∧ Below w.heap.size w w')
  (A2 : ∀ w, Calls Tryz.prog 61 #[.agg (fR (x1)).toArray, .agg (fR (x2)).toArray] w fun e w' => e = .returned (.agg (fR (vc)).toArray) ∧ Below w.heap.size w w')
  (A3 : ∀ w, Calls Tryz.prog 61 #[.agg (fR (y1)).toArray, .agg (fR (y2)).toArray] w fun e w' => e = .returned (.agg (fR (vd)).toArray) ∧ Below w.heap.size w w')
  (B1 : ∀ w, Calls Tryz.prog 61 #[.agg (fR (va)).toArray, .agg (fR (va)).toArray] w fun e w' => e = .returned (.agg (fR (vb)).toArray) ∧ Below w.heap.size w w')
  (B2 : ∀ w, Calls Tryz.prog 61 #[.agg (fR (dd)).toArray, .agg (fR (vc)).toArray] w fun e w' => e = .returned (.agg (fR (vdc)).toArray) ∧ Below w.heap.size w w')
  (B3 : ∀ w, Calls Tryz.prog 61 #[.agg (fR (vdc)).toArray, .agg (fR (vd)).toArray] w fun e w' => e = .returned (.agg (fR (ve)).toArray) ∧ Below w.heap.size w w')
  (C1 : ∀ w, Calls Tryz.prog 84 #[.agg (fR (vb)).toArray, .agg (fR (ve)).toArray] w fun e w' => e = .returned (.agg (fR (vf)).toArray) ∧ Below w.heap.size w w')
  (C2 : ∀ w, Calls Tryz.prog 85 #[.agg (fR (vb)).toArray, .agg (fR (ve)).toArray] w fun e w' => e = .returned (.agg (fR (vg)).toArray) ∧ Below w.heap.size w w')
  (D1 : ∀ w, Calls Tryz.prog 61 #[.agg (fR (x1)).toArray, .agg (fR (y2)).toArray] w fun e w' => e = .returned (.agg (fR (m1)).toArray) ∧ Below w.heap.size w w')
  (D2 : ∀ w, Calls Tryz.prog 61 #[.agg (fR (y1)).toArray, .agg (fR (x2)).toArray] w fun e w' => e = .returned (.agg (fR (m2)).toArray) ∧ Below w.heap.size w w')
  (D3 : ∀ w, Calls Tryz.prog 85 #[.agg (fR (m1)).toArray, .agg (fR (m2)).toArray] w fun e w' => e = .returned (.agg (fR (vs)).toArray) ∧ Below w.heap.size w w')
  (E1 : ∀ w, Calls Tryz.prog 61 #[.agg (fR (va)).toArray, .agg (fR (vf)).toArray] w fun e w' => e = .returned (.agg (fR (ax)).toArray) ∧ Below w.heap.size w w')
  (E2 : ∀ w, Calls Tryz.prog 61 #[.agg (fR (ax)).toArray, .agg (fR (vs)).toArray] w fun e w' => e = .returned (.agg (fR (rx)).toArray) ∧ Below w.heap.size w w')
  (E3 : ∀ w, Calls Tryz.prog 61 #[.agg (fR (va)).toArray, .agg (fR (vg)).toArray] w fun e w' => e = .returned (.agg (fR (ay)).toArray) ∧ Below w.heap.size w w')
  (E4 : ∀ w, Calls Tryz.prog 85 #[.agg (fR (vc)).toArray, .agg (fR (vd)).toArray] w fun e w' => e = .returned (.agg (fR (cd)).toArray) ∧ Below w.heap.size w w')
  (E5 : ∀ w, Calls Tryz.prog 61 #[.agg (fR (ay)).toArray, .agg (fR (cd)).toArray] w fun e w' => e = .returned (.agg (fR (ry)).toArray) ∧ Below w.heap.size w w')
  (E6 : ∀ w, Calls Tryz.prog 61 #[.agg (fR (vf)).toArray, .agg (fR (vg)).toArray] w fun e w' => e = .returned (.agg (fR (rt)).toArray) ∧ Below w.heap.size w w')
  (w : World) :
  Calls Tryz.prog 43 #[pV x1 y1 t1, pV x2 y2 t2] w fun e w' => e = .returned (pV rx ry rt) ∧ Below w.heap.size w w' := by
 go_enter Tryz.func43, Tryz.ntmps43
 have s0 : Hid (Kn (((w.alloc (.cells (pR (x1) (y1) (t1)).toArray 63)).alloc (.cells (pR (x2) (y2) (t2)).toArray 63)).alloc (.cells #[Value.int IntKind.i64 0, .int .i64 0, .int .i64 0, .int .i64 0, .int .i64 0, .int .i64 0, .int .i64 0, .int .i64 0, .int .i64 0, .int .i64 0, .int .i64 0, .int .i64 0, .int .i64 0, .int .i64 0, .int .i64 0, .int .i64 0, .int .i64 0, .int .i64 0, .int .i64 0, .int .i64 0, .int .i64 0, .int .i64 0, .int .i64 0, .int .i64 0, .int .i64 0, .int .i64 0, .int .i64 0, .int .i64 0, .int .i64 0, .int .i64 0, .int .i64 0, .int .i64 0, .int .i64 0, .int .i64 0, .int .i64 0, .int .i64 0, .int .i64 0, .int .i64 0, .int .i64 0, .int .i64 0, .int .i64 0, .int .i64 0, .int .i64 0, .int .i64 0, .int .i64 0, .int .i64 0, .int .i64 0, .int .i64 0] 63)) [(w.heap.size + 1 + 1, pZ), (w.heap.size + 1, (pR (x2) (y2) (t2))), (w.heap.size, (pR (x1) (y1) (t1)))]) := ((((Kn.nil w).al (pR (x1) (y1) (t1)) 63 rfl).al (pR (x2) (y2) (t2)) 63 (by simp)).al pZ 63 (by simp))
 have b0 : Hid (Below w.heap.size w (((w.alloc (.cells (pR (x1) (y1) (t1)).toArray 63)).alloc (.cells (pR (x2) (y2) (t2)).toArray 63)).alloc (.cells #[Value.int IntKind.i64 0, .int .i64 0, .int .i64 0, .int .i64 0, .int .i64 0, .int .i64 0, .int .i64 0, .int .i64 0, .int .i64 0, .int .i64 0, .int .i64 0, .int .i64 0, .int .i64 0, .int .i64 0, .int .i64 0, .int .i64 0, .int .i64 0, .int .i64 0, .int .i64 0, .int .i64 0, .int .i64 0, .int .i64 0, .int .i64 0, .int .i64 0, .int .i64 0, .int .i64 0, .int .i64 0, .int .i64 0, .int .i64 0, .int .i64 0, .int .i64 0, .int .i64 0, .int .i64 0, .int .i64 0, .int .i64 0, .int .i64 0, .int .i64 0, .int .i64 0, .int .i64 0, .int .i64 0, .int .i64 0, .int .i64 0, .int .i64 0, .int .i64 0, .int .i64 0, .int .i64 0, .int .i64 0, .int .i64 0] 63))) := ((((Below.refl _ _).alloc (Nat.le_refl _) _).alloc (by simp <;> omega) _).alloc (by simp <;> omega) _)
 go_wp2_with (first | simp only [zero_pt])
 refine wp_region_vars3 15 (.cells #[Value.int IntKind.i64 0, .int .i64 0, .int .i64 0, .int .i64 0, .int .i64 0, .int .i64 0, .int .i64 0, .int .i64 0, .int .i64 0, .int .i64 0, .int .i64 0, .int .i64 0, .int .i64 0, .int .i64 0, .int .i64 0, .int .i64 0] 61) (.cells #[Value.int IntKind.i64 0, .int .i64 0, .int .i64 0, .int .i64 0, .int .i64 0, .int .i64 0, .int .i64 0, .int .i64 0, .int .i64 0, .int .i64 0, .int .i64 0, .int .i64 0, .int .i64 0, .int .i64 0, .int .i64 0, .int .i64 0] 61) (.cells #[Value.int IntKind.i64 0, .int .i64 0, .int .i64 0, .int .i64 0, .int .i64 0, .int .i64 0, .int .i64 0, .int .i64 0, .int .i64 0, .int .i64 0, .int .i64 0, .int .i64 0, .int .i64 0, .int .i64 0, .int .i64 0, .int .i64 0] 61) (.cells (fR (va)).toArray 61) (.cells (fR (vc)).toArray 61) (.cells (fR (vd)).toArray 61) (by kernel_rfl) (by kernel_rfl) (by kernel_rfl) (by kernel_rfl) rfl rfl rfl rfl rfl rfl (by decide) rfl rfl rfl (fun _ _ => by kernel_rfl) (fun _ _ => by kernel_rfl) (fun _ _ => by kernel_rfl) ?_
 apply Exists.intro
 refine ⟨fun U hU f hf hcl => ?_, fun k j i W hc => ?_, fun k j i W hc => ?_, fun k j i W hc => ?_, fun k1 j1 i1 w1 hb1 hk1 hj1 hi1 hn1 hc1 hd1 he1 => ?_⟩
 ·skip
  have ra_p_0 := fun nx => (Kn.rng (s0.out.up (hf nx).out) 2 rfl : (f nx).rangeAt (w.heap.size) 0 (pR (x1) (y1) (t1)))
  have ra_p_1 := fun nx => (Kn.rng0 (s0.out.up (hf nx).out) 2 rfl : (f nx).rangeAt (w.heap.size) 0 (fR (x1)))
  have ra_p_2 := fun nx => (Kn.rng1 (s0.out.up (hf nx).out) 2 rfl : (f nx).rangeAt (w.heap.size) 16 (fR (y1)))
  have ra_p_3 := fun nx => (Kn.rng2 (s0.out.up (hf nx).out) 2 rfl : (f nx).rangeAt (w.heap.size) 32 (fR (t1)))
  have ra_q_0 := fun nx => (Kn.rng (s0.out.up (hf nx).out) 1 rfl : (f nx).rangeAt (w.heap.size + 1) 0 (pR (x2) (y2) (t2)))
  have ra_q_1 := fun nx => (Kn.rng0 (s0.out.up (hf nx).out) 1 rfl : (f nx).rangeAt (w.heap.size + 1) 0 (fR (x2)))
  have ra_q_2 := fun nx => (Kn.rng1 (s0.out.up (hf nx).out) 1 rfl : (f nx).rangeAt (w.heap.size + 1) 16 (fR (y2)))
  have ra_q_3 := fun nx => (Kn.rng2 (s0.out.up (hf nx).out) 1 rfl : (f nx).rangeAt (w.heap.size + 1) 32 (fR (t2)))
  clear hf
  simp only [List.take_succ_cons, List.take_zero]
  repeat (first | (refine I.quiet_load rfl 63 _ rfl (w.heap.size) 0 rfl (pR (x1) (y1) (t1)) _ (fun W hW => by obtain ⟨nx, rfl⟩ := hW; exact ra_p_0 nx) Tryz.underlying63 rfl (info_pR (x1) (y1) (t1)) ?_; simp only [Act.put, List.setIfInBounds_toArray, List.set_cons_succ, List.set_cons_zero]) | (refine I.quiet_load rfl 61 _ rfl (w.heap.size) 0 rfl (fR (x1)) _ (fun W hW => by obtain ⟨nx, rfl⟩ := hW; exact ra_p_1 nx) Tryz.underlying61 rfl (info_fR (x1)) ?_; simp only [Act.put, List.setIfInBounds_toArray, List.set_cons_succ, List.set_cons_zero]) | (refine I.quiet_load rfl 61 _ rfl (w.heap.size) 16 rfl (fR (y1)) _ (fun W hW => by obtain ⟨nx, rfl⟩ := hW; exact ra_p_2 nx) Tryz.underlying61 rfl (info_fR (y1)) ?_; simp only [Act.put, List.setIfInBounds_toArray, List.set_cons_succ, List.set_cons_zero]) | (refine I.quiet_load rfl 61 _ rfl (w.heap.size) 32 rfl (fR (t1)) _ (fun W hW => by obtain ⟨nx, rfl⟩ := hW; exact ra_p_3 nx) Tryz.underlying61 rfl (info_fR (t1)) ?_; simp only [Act.put, List.setIfInBounds_toArray, List.set_cons_succ, List.set_cons_zero]) | (refine I.quiet_load rfl 63 _ rfl (w.heap.size + 1) 0 rfl (pR (x2) (y2) (t2)) _ (fun W hW => by obtain ⟨nx, rfl⟩ := hW; exact ra_q_0 nx) Tryz.underlying63 rfl (info_pR (x2) (y2) (t2)) ?_; simp only [Act.put, List.setIfInBounds_toArray, List.set_cons_succ, List.set_cons_zero]) | (refine I.quiet_load rfl 61 _ rfl (w.heap.size + 1) 0 rfl (fR (x2)) _ (fun W hW => by obtain ⟨nx, rfl⟩ := hW; exact ra_q_1 nx) Tryz.underlying61 rfl (info_fR (x2)) ?_; simp only [Act.put, List.setIfInBounds_toArray, List.set_cons_succ, List.set_cons_zero]) | (refine I.quiet_load rfl 61 _ rfl (w.heap.size + 1) 16 rfl (fR (y2)) _ (fun W hW => by obtain ⟨nx, rfl⟩ := hW; exact ra_q_2 nx) Tryz.underlying61 rfl (info_fR (y2)) ?_; simp only [Act.put, List.setIfInBounds_toArray, List.set_cons_succ, List.set_cons_zero]) | (refine I.quiet_load rfl 61 _ rfl (w.heap.size + 1) 32 rfl (fR (t2)) _ (fun W hW => by obtain ⟨nx, rfl⟩ := hW; exact ra_q_3 nx) Tryz.underlying61 rfl (info_fR (t2)) ?_; simp only [Act.put, List.setIfInBounds_toArray, List.set_cons_succ, List.set_cons_zero]) | go_big_quiet_step (first | (go_at_call_of 61 [Value.agg (fR (t1)).toArray, Value.agg (fR (t2)).toArray]; exact (A1 _).mono fun e w'' ⟨he, hb⟩ => ⟨he, hcl.out _ _ hb⟩) | (go_at_call_of 61 [Value.agg (fR (x1)).toArray, Value.agg (fR (x2)).toArray]; exact (A2 _).mono fun e w'' ⟨he, hb⟩ => ⟨he, hcl.out _ _ hb⟩) | (go_at_call_of 61 [Value.agg (fR (y1)).toArray, Value.agg (fR (y2)).toArray]; exact (A3 _).mono fun e w'' ⟨he, hb⟩ => ⟨he, hcl.out _ _ hb⟩)))
  exact wpQuiet_nil rfl
 ·exact st_obj (zs := fZ) (cs := (fR (va))) hc.out rfl rfl rfl (by rw [(fR_length (va)), fZ_length]) (info_fR (va)) (I.one_dI _)
 ·exact st_obj (zs := fZ) (cs := (fR (vc))) hc.out rfl rfl rfl (by rw [(fR_length (vc)), fZ_length]) (info_fR (vc)) (I.one_dI _)
 ·exact st_obj (zs := fZ) (cs := (fR (vd))) hc.out rfl rfl rfl (by rw [(fR_length (vd)), fZ_length]) (info_fR (vd)) (I.one_dI _)
 simp only [Act.put, List.setIfInBounds_toArray, List.set_cons_succ, List.set_cons_zero]
 have z1 := b0.out.size
 have g1 : w.heap.size ≤ k1 := Nat.le_trans b0.out.size hk1
 have gj1 : w.heap.size ≤ j1 := Nat.le_trans b0.out.size hj1
 have gi1 : w.heap.size ≤ i1 := Nat.le_trans b0.out.size hi1
 have s1 : Hid (Kn w1 [(k1, (fR (va))), (j1, (fR (vc))), (i1, (fR (vd))), (w.heap.size + 1 + 1, pZ), (w.heap.size + 1, (pR (x2) (y2) (t2))), (w.heap.size, (pR (x1) (y1) (t1)))]) := s0.out.three hb1.out hk1 hj1 hi1 hn1.out hc1.out hd1.out he1.out
 have b1 : Hid (Below w.heap.size w w1) := b0.out.trans (hb1.out.mono b0.out.size)
 clear s0 b0 hb1 hc1 hd1 he1 hk1 hj1 hi1
 go_wp2_with fail
 refine wp_region_vars2 8 (.cells #[Value.int IntKind.i64 0, .int .i64 0, .int .i64 0, .int .i64 0, .int .i64 0, .int .i64 0, .int .i64 0, .int .i64 0, .int .i64 0, .int .i64 0, .int .i64 0, .int .i64 0, .int .i64 0, .int .i64 0, .int .i64 0, .int .i64 0] 61) (.cells #[Value.int IntKind.i64 0, .int .i64 0, .int .i64 0, .int .i64 0, .int .i64 0, .int .i64 0, .int .i64 0, .int .i64 0, .int .i64 0, .int .i64 0, .int .i64 0, .int .i64 0, .int .i64 0, .int .i64 0, .int .i64 0, .int .i64 0] 61) (.cells (fR (vb)).toArray 61) (.cells (fR (ve)).toArray 61) (by kernel_rfl) (by kernel_rfl) (by kernel_rfl) (by kernel_rfl) rfl rfl rfl rfl (by decide) rfl rfl (fun _ _ => by kernel_rfl) (fun _ _ => by kernel_rfl) ?_
 apply Exists.intro
 refine ⟨fun U hU f hf hcl => ?_, fun k j W hc => ?_, fun k j W hc => ?_, fun k2 j2 w2 hb2 hk2 hj2 hn2 hc2 hd2 => ?_⟩
 ·skip
  have ra_a_0 := fun nx => (Kn.rng (s1.out.up (hf nx).out) 0 rfl : (f nx).rangeAt k1 0 (fR (va)))
  have ra_c_0 := fun nx => (Kn.rng (s1.out.up (hf nx).out) 1 rfl : (f nx).rangeAt j1 0 (fR (vc)))
  have ra_d_0 := fun nx => (Kn.rng (s1.out.up (hf nx).out) 2 rfl : (f nx).rangeAt i1 0 (fR (vd)))
  clear hf
  simp only [List.take_succ_cons, List.take_zero]
  repeat (first | (refine I.quiet_load rfl 61 _ rfl k1 0 rfl (fR (va)) _ (fun W hW => by obtain ⟨nx, rfl⟩ := hW; exact ra_a_0 nx) Tryz.underlying61 rfl (info_fR (va)) ?_; simp only [Act.put, List.setIfInBounds_toArray, List.set_cons_succ, List.set_cons_zero]) | (refine I.quiet_load rfl 61 _ rfl j1 0 rfl (fR (vc)) _ (fun W hW => by obtain ⟨nx, rfl⟩ := hW; exact ra_c_0 nx) Tryz.underlying61 rfl (info_fR (vc)) ?_; simp only [Act.put, List.setIfInBounds_toArray, List.set_cons_succ, List.set_cons_zero]) | (refine I.quiet_load rfl 61 _ rfl i1 0 rfl (fR (vd)) _ (fun W hW => by obtain ⟨nx, rfl⟩ := hW; exact ra_d_0 nx) Tryz.underlying61 rfl (info_fR (vd)) ?_; simp only [Act.put, List.setIfInBounds_toArray, List.set_cons_succ, List.set_cons_zero]) | go_big_quiet_step (first | (go_at_call 83; exact (DF _).mono fun e w'' ⟨he, hb⟩ => ⟨he, hcl.out _ _ hb⟩) | (go_at_call_of 61 [Value.agg (fR (va)).toArray, Value.agg (fR (va)).toArray]; exact (B1 _).mono fun e w'' ⟨he, hb⟩ => ⟨he, hcl.out _ _ hb⟩) | (go_at_call_of 61 [Value.agg (fR (dd)).toArray, Value.agg (fR (vc)).toArray]; exact (B2 _).mono fun e w'' ⟨he, hb⟩ => ⟨he, hcl.out _ _ hb⟩) | (go_at_call_of 61 [Value.agg (fR (vdc)).toArray, Value.agg (fR (vd)).toArray]; exact (B3 _).mono fun e w'' ⟨he, hb⟩ => ⟨he, hcl.out _ _ hb⟩)))
  exact wpQuiet_nil rfl
 ·exact st_obj (zs := fZ) (cs := (fR (vb))) hc.out rfl rfl rfl (by rw [(fR_length (vb)), fZ_length]) (info_fR (vb)) (I.one_dI _)
 ·exact st_obj (zs := fZ) (cs := (fR (ve))) hc.out rfl rfl rfl (by rw [(fR_length (ve)), fZ_length]) (info_fR (ve)) (I.one_dI _)
 simp only [Act.put, List.setIfInBounds_toArray, List.set_cons_succ, List.set_cons_zero]
 have z2 := b1.out.size
 have g2 : w.heap.size ≤ k2 := Nat.le_trans b1.out.size hk2
 have gj2 : w.heap.size ≤ j2 := Nat.le_trans b1.out.size hj2
 have s2 : Hid (Kn w2 [(k2, (fR (vb))), (j2, (fR (ve))), (k1, (fR (va))), (j1, (fR (vc))), (i1, (fR (vd))), (w.heap.size + 1 + 1, pZ), (w.heap.size + 1, (pR (x2) (y2) (t2))), (w.heap.size, (pR (x1) (y1) (t1)))]) := s1.out.two hb2.out hk2 hj2 hn2.out hc2.out hd2.out
 have b2 : Hid (Below w.heap.size w w2) := b1.out.trans (hb2.out.mono b1.out.size)
 clear s1 b1 hb2 hc2 hd2 hk2 hj2
 go_wp2_with fail
 refine wp_region_vars2 6 (.cells #[Value.int IntKind.i64 0, .int .i64 0, .int .i64 0, .int .i64 0, .int .i64 0, .int .i64 0, .int .i64 0, .int .i64 0, .int .i64 0, .int .i64 0, .int .i64 0, .int .i64 0, .int .i64 0, .int .i64 0, .int .i64 0, .int .i64 0] 61) (.cells #[Value.int IntKind.i64 0, .int .i64 0, .int .i64 0, .int .i64 0, .int .i64 0, .int .i64 0, .int .i64 0, .int .i64 0, .int .i64 0, .int .i64 0, .int .i64 0, .int .i64 0, .int .i64 0, .int .i64 0, .int .i64 0, .int .i64 0] 61) (.cells (fR (vf)).toArray 61) (.cells (fR (vg)).toArray 61) (by kernel_rfl) (by kernel_rfl) (by kernel_rfl) (by kernel_rfl) rfl rfl rfl rfl (by decide) rfl rfl (fun _ _ => by kernel_rfl) (fun _ _ => by kernel_rfl) ?_
 apply Exists.intro
 refine ⟨fun U hU f hf hcl => ?_, fun k j W hc => ?_, fun k j W hc => ?_, fun k3 j3 w3 hb3 hk3 hj3 hn3 hc3 hd3 => ?_⟩
 ·skip
  have ra_b_0 := fun nx => (Kn.rng (s2.out.up (hf nx).out) 0 rfl : (f nx).rangeAt k2 0 (fR (vb)))
  have ra_e_0 := fun nx => (Kn.rng (s2.out.up (hf nx).out) 1 rfl : (f nx).rangeAt j2 0 (fR (ve)))
  clear hf
  simp only [List.take_succ_cons, List.take_zero]
  repeat (first | (refine I.quiet_load rfl 61 _ rfl k2 0 rfl (fR (vb)) _ (fun W hW => by obtain ⟨nx, rfl⟩ := hW; exact ra_b_0 nx) Tryz.underlying61 rfl (info_fR (vb)) ?_; simp only [Act.put, List.setIfInBounds_toArray, List.set_cons_succ, List.set_cons_zero]) | (refine I.quiet_load rfl 61 _ rfl j2 0 rfl (fR (ve)) _ (fun W hW => by obtain ⟨nx, rfl⟩ := hW; exact ra_e_0 nx) Tryz.underlying61 rfl (info_fR (ve)) ?_; simp only [Act.put, List.setIfInBounds_toArray, List.set_cons_succ, List.set_cons_zero]) | go_big_quiet_step (first | (go_at_call 84; exact (C1 _).mono fun e w'' ⟨he, hb⟩ => ⟨he, hcl.out _ _ hb⟩) | (go_at_call 85; exact (C2 _).mono fun e w'' ⟨he, hb⟩ => ⟨he, hcl.out _ _ hb⟩)))
  exact wpQuiet_nil rfl
 ·exact st_obj (zs := fZ) (cs := (fR (vf))) hc.out rfl rfl rfl (by rw [(fR_length (vf)), fZ_length]) (info_fR (vf)) (I.one_dI _)
 ·exact st_obj (zs := fZ) (cs := (fR (vg))) hc.out rfl rfl rfl (by rw [(fR_length (vg)), fZ_length]) (info_fR (vg)) (I.one_dI _)
 simp only [Act.put, List.setIfInBounds_toArray, List.set_cons_succ, List.set_cons_zero]
 have z3 := b2.out.size
 have g3 : w.heap.size ≤ k3 := Nat.le_trans b2.out.size hk3
 have gj3 : w.heap.size ≤ j3 := Nat.le_trans b2.out.size hj3
 have s3 : Hid (Kn w3 [(k3, (fR (vf))), (j3, (fR (vg))), (k2, (fR (vb))), (j2, (fR (ve))), (k1, (fR (va))), (j1, (fR (vc))), (i1, (fR (vd))), (w.heap.size + 1 + 1, pZ), (w.heap.size + 1, (pR (x2) (y2) (t2))), (w.heap.size, (pR (x1) (y1) (t1)))]) := s2.out.two hb3.out hk3 hj3 hn3.out hc3.out hd3.out
 have b3 : Hid (Below w.heap.size w w3) := b2.out.trans (hb3.out.mono b2.out.size)
 clear s2 b2 hb3 hc3 hd3 hk3 hj3
 go_wp2_with fail
 refine wp_region_alloc1 11 (.cells #[Value.int IntKind.i64 0, .int .i64 0, .int .i64 0, .int .i64 0, .int .i64 0, .int .i64 0, .int .i64 0, .int .i64 0, .int .i64 0, .int .i64 0, .int .i64 0, .int .i64 0, .int .i64 0, .int .i64 0, .int .i64 0, .int .i64 0] 61) (by kernel_rfl) (by kernel_rfl) (by kernel_rfl) (by kernel_rfl) (by decide) (fun _ _ d _ _ h => by cases d <;> exact h) rfl rfl (fun _ _ => by kernel_rfl) ?_
 apply Exists.intro
 refine ⟨fun U hU f hf hcl => ?_, fun k4 w4 hb4 hk4 hc4 => ?_⟩
 ·skip
  have ra_p_0 := fun nx => (Kn.rng (s3.out.up (hf nx).out) 9 rfl : (f nx).rangeAt (w.heap.size) 0 (pR (x1) (y1) (t1)))
  have ra_p_1 := fun nx => (Kn.rng0 (s3.out.up (hf nx).out) 9 rfl : (f nx).rangeAt (w.heap.size) 0 (fR (x1)))
  have ra_p_2 := fun nx => (Kn.rng1 (s3.out.up (hf nx).out) 9 rfl : (f nx).rangeAt (w.heap.size) 16 (fR (y1)))
  have ra_p_3 := fun nx => (Kn.rng2 (s3.out.up (hf nx).out) 9 rfl : (f nx).rangeAt (w.heap.size) 32 (fR (t1)))
  have ra_q_0 := fun nx => (Kn.rng (s3.out.up (hf nx).out) 8 rfl : (f nx).rangeAt (w.heap.size + 1) 0 (pR (x2) (y2) (t2)))
  have ra_q_1 := fun nx => (Kn.rng0 (s3.out.up (hf nx).out) 8 rfl : (f nx).rangeAt (w.heap.size + 1) 0 (fR (x2)))
  have ra_q_2 := fun nx => (Kn.rng1 (s3.out.up (hf nx).out) 8 rfl : (f nx).rangeAt (w.heap.size + 1) 16 (fR (y2)))
  have ra_q_3 := fun nx => (Kn.rng2 (s3.out.up (hf nx).out) 8 rfl : (f nx).rangeAt (w.heap.size + 1) 32 (fR (t2)))
  clear hf
  simp only [List.take_succ_cons, List.take_zero]
  repeat (first | (refine I.quiet_load rfl 63 _ rfl (w.heap.size) 0 rfl (pR (x1) (y1) (t1)) _ (fun W hW => by obtain ⟨nx, rfl⟩ := hW; exact ra_p_0 nx) Tryz.underlying63 rfl (info_pR (x1) (y1) (t1)) ?_; simp only [Act.put, List.setIfInBounds_toArray, List.set_cons_succ, List.set_cons_zero]) | (refine I.quiet_load rfl 61 _ rfl (w.heap.size) 0 rfl (fR (x1)) _ (fun W hW => by obtain ⟨nx, rfl⟩ := hW; exact ra_p_1 nx) Tryz.underlying61 rfl (info_fR (x1)) ?_; simp only [Act.put, List.setIfInBounds_toArray, List.set_cons_succ, List.set_cons_zero]) | (refine I.quiet_load rfl 61 _ rfl (w.heap.size) 16 rfl (fR (y1)) _ (fun W hW => by obtain ⟨nx, rfl⟩ := hW; exact ra_p_2 nx) Tryz.underlying61 rfl (info_fR (y1)) ?_; simp only [Act.put, List.setIfInBounds_toArray, List.set_cons_succ, List.set_cons_zero]) | (refine I.quiet_load rfl 61 _ rfl (w.heap.size) 32 rfl (fR (t1)) _ (fun W hW => by obtain ⟨nx, rfl⟩ := hW; exact ra_p_3 nx) Tryz.underlying61 rfl (info_fR (t1)) ?_; simp only [Act.put, List.setIfInBounds_toArray, List.set_cons_succ, List.set_cons_zero]) | (refine I.quiet_load rfl 63 _ rfl (w.heap.size + 1) 0 rfl (pR (x2) (y2) (t2)) _ (fun W hW => by obtain ⟨nx, rfl⟩ := hW; exact ra_q_0 nx) Tryz.underlying63 rfl (info_pR (x2) (y2) (t2)) ?_; simp only [Act.put, List.setIfInBounds_toArray, List.set_cons_succ, List.set_cons_zero]) | (refine I.quiet_load rfl 61 _ rfl (w.heap.size + 1) 0 rfl (fR (x2)) _ (fun W hW => by obtain ⟨nx, rfl⟩ := hW; exact ra_q_1 nx) Tryz.underlying61 rfl (info_fR (x2)) ?_; simp only [Act.put, List.setIfInBounds_toArray, List.set_cons_succ, List.set_cons_zero]) | (refine I.quiet_load rfl 61 _ rfl (w.heap.size + 1) 16 rfl (fR (y2)) _ (fun W hW => by obtain ⟨nx, rfl⟩ := hW; exact ra_q_2 nx) Tryz.underlying61 rfl (info_fR (y2)) ?_; simp only [Act.put, List.setIfInBounds_toArray, List.set_cons_succ, List.set_cons_zero]) | (refine I.quiet_load rfl 61 _ rfl (w.heap.size + 1) 32 rfl (fR (t2)) _ (fun W hW => by obtain ⟨nx, rfl⟩ := hW; exact ra_q_3 nx) Tryz.underlying61 rfl (info_fR (t2)) ?_; simp only [Act.put, List.setIfInBounds_toArray, List.set_cons_succ, List.set_cons_zero]) | go_big_quiet_step (first | (go_at_call_of 61 [Value.agg (fR (x1)).toArray, Value.agg (fR (y2)).toArray]; exact (D1 _).mono fun e w'' ⟨he, hb⟩ => ⟨he, hcl.out _ _ hb⟩) | (go_at_call_of 61 [Value.agg (fR (y1)).toArray, Value.agg (fR (x2)).toArray]; exact (D2 _).mono fun e w'' ⟨he, hb⟩ => ⟨he, hcl.out _ _ hb⟩) | (go_at_call 85; exact (D3 _).mono fun e w'' ⟨he, hb⟩ => ⟨he, hcl.out _ _ hb⟩)))
  exact wpQuiet_nil rfl
 simp only [List.drop_succ_cons, List.drop_zero]
 have z4 := b3.out.size
 have s4 : Hid (Kn w4 [(k4, fZ), (k3, (fR (vf))), (j3, (fR (vg))), (k2, (fR (vb))), (j2, (fR (ve))), (k1, (fR (va))), (j1, (fR (vc))), (i1, (fR (vd))), (w.heap.size + 1 + 1, pZ), (w.heap.size + 1, (pR (x2) (y2) (t2))), (w.heap.size, (pR (x1) (y1) (t1)))]) := s3.out.fresh (vs := fZ) hb4.out hk4 hc4.out
 have g4 : w.heap.size ≤ k4 := Nat.le_trans b3.out.size hk4
 have b4 : Hid (Below w.heap.size w w4) := b3.out.trans (hb4.out.mono b3.out.size)
 clear s3 b3 hb4 hc4 hk4
 have s5x : Hid (Kn w4 [(k4, fZ), (k3, (fR (vf))), (j3, (fR (vg))), (k2, (fR (vb))), (j2, (fR (ve))), (k1, (fR (va))), (j1, (fR (vc))), (i1, (fR (vd))), (w.heap.size + 1 + 1, pZ), (w.heap.size + 1, (pR (x2) (y2) (t2))), (w.heap.size, (pR (x1) (y1) (t1)))]) := s4.out.front 0 rfl
 have b5x : Hid (Below w.heap.size w w4) := b4.out
 have TT5 : Hid (w4.there k4 0 (fR (vs)).length) := Kn.there s5x.out 0 rfl (by rw [(fR_length (vs)), fZ_length])
 go_wp2_with (first | refine I.wp_store_eq rfl 61 _ _ rfl k4 0 (fR (vs)) rfl rfl TT5.out (info_fR (vs)) (I.one_dI _) ?_)
 intro w5 hw5
 try simp only [Act.put, List.setIfInBounds_toArray, List.set_cons_succ, List.set_cons_zero]
 have s5 : Hid (Kn w5 [(k4, (fR (vs))), (k3, (fR (vf))), (j3, (fR (vg))), (k2, (fR (vb))), (j2, (fR (ve))), (k1, (fR (va))), (j1, (fR (vc))), (i1, (fR (vd))), (w.heap.size + 1 + 1, pZ), (w.heap.size + 1, (pR (x2) (y2) (t2))), (w.heap.size, (pR (x1) (y1) (t1)))]) := by rw [hw5.out]; exact Kn.put s5x.out (by rw [(fR_length (vs)), fZ_length])
 have b5 : Hid (Below w.heap.size w w5) := by rw [hw5.out]; exact I.below_setCells _ _ _ b5x.out g4
 have z5 := b5.out.size
 clear hw5 s5x b5x TT5 s4 b4
 go_wp2_with fail
 refine wp_region_up_then 16 (by kernel_rfl) (by kernel_rfl) (by kernel_rfl) (by kernel_rfl) (by decide) (fun _ _ d _ _ h => by cases d <;> exact h) (fun U hU f hf hcl => ?_)
 have ra_a_0 := fun nx => (Kn.rng (s5.out.up (hf nx).out) 5 rfl : (f nx).rangeAt k1 0 (fR (va)))
 have ra_c_0 := fun nx => (Kn.rng (s5.out.up (hf nx).out) 6 rfl : (f nx).rangeAt j1 0 (fR (vc)))
 have ra_d_0 := fun nx => (Kn.rng (s5.out.up (hf nx).out) 7 rfl : (f nx).rangeAt i1 0 (fR (vd)))
 have ra_f_0 := fun nx => (Kn.rng (s5.out.up (hf nx).out) 1 rfl : (f nx).rangeAt k3 0 (fR (vf)))
 have ra_g_0 := fun nx => (Kn.rng (s5.out.up (hf nx).out) 2 rfl : (f nx).rangeAt j3 0 (fR (vg)))
 have ra_s_0 := fun nx => (Kn.rng (s5.out.up (hf nx).out) 0 rfl : (f nx).rangeAt k4 0 (fR (vs)))
 simp only [List.take_succ_cons, List.take_zero, List.drop_succ_cons, List.drop_zero]
 repeat (first | (refine quiet_build3 rfl 63 _ _ _ rfl (.agg (fR rx).toArray) (.agg (fR ry).toArray) (.agg (fR rt).toArray) (pR rx ry rt) rfl rfl rfl (pt_built rx ry rt) ?_; simp only [Act.put, List.setIfInBounds_toArray, List.set_cons_succ, List.set_cons_zero]) | (refine I.quiet_load rfl 61 _ rfl k1 0 rfl (fR (va)) _ (fun W hW => by obtain ⟨nx, rfl⟩ := hW; exact ra_a_0 nx) Tryz.underlying61 rfl (info_fR (va)) ?_; simp only [Act.put, List.setIfInBounds_toArray, List.set_cons_succ, List.set_cons_zero]) | (refine I.quiet_load rfl 61 _ rfl j1 0 rfl (fR (vc)) _ (fun W hW => by obtain ⟨nx, rfl⟩ := hW; exact ra_c_0 nx) Tryz.underlying61 rfl (info_fR (vc)) ?_; simp only [Act.put, List.setIfInBounds_toArray, List.set_cons_succ, List.set_cons_zero]) | (refine I.quiet_load rfl 61 _ rfl i1 0 rfl (fR (vd)) _ (fun W hW => by obtain ⟨nx, rfl⟩ := hW; exact ra_d_0 nx) Tryz.underlying61 rfl (info_fR (vd)) ?_; simp only [Act.put, List.setIfInBounds_toArray, List.set_cons_succ, List.set_cons_zero]) | (refine I.quiet_load rfl 61 _ rfl k3 0 rfl (fR (vf)) _ (fun W hW => by obtain ⟨nx, rfl⟩ := hW; exact ra_f_0 nx) Tryz.underlying61 rfl (info_fR (vf)) ?_; simp only [Act.put, List.setIfInBounds_toArray, List.set_cons_succ, List.set_cons_zero]) | (refine I.quiet_load rfl 61 _ rfl j3 0 rfl (fR (vg)) _ (fun W hW => by obtain ⟨nx, rfl⟩ := hW; exact ra_g_0 nx) Tryz.underlying61 rfl (info_fR (vg)) ?_; simp only [Act.put, List.setIfInBounds_toArray, List.set_cons_succ, List.set_cons_zero]) | (refine I.quiet_load rfl 61 _ rfl k4 0 rfl (fR (vs)) _ (fun W hW => by obtain ⟨nx, rfl⟩ := hW; exact ra_s_0 nx) Tryz.underlying61 rfl (info_fR (vs)) ?_; simp only [Act.put, List.setIfInBounds_toArray, List.set_cons_succ, List.set_cons_zero]) | go_big_quiet_step (first | (go_at_call_of 61 [Value.agg (fR (va)).toArray, Value.agg (fR (vf)).toArray]; exact (E1 _).mono fun e w'' ⟨he, hb⟩ => ⟨he, hcl.out _ _ hb⟩) | (go_at_call_of 61 [Value.agg (fR (ax)).toArray, Value.agg (fR (vs)).toArray]; exact (E2 _).mono fun e w'' ⟨he, hb⟩ => ⟨he, hcl.out _ _ hb⟩) | (go_at_call_of 61 [Value.agg (fR (va)).toArray, Value.agg (fR (vg)).toArray]; exact (E3 _).mono fun e w'' ⟨he, hb⟩ => ⟨he, hcl.out _ _ hb⟩) | (go_at_call 85; exact (E4 _).mono fun e w'' ⟨he, hb⟩ => ⟨he, hcl.out _ _ hb⟩) | (go_at_call_of 61 [Value.agg (fR (ay)).toArray, Value.agg (fR (cd)).toArray]; exact (E5 _).mono fun e w'' ⟨he, hb⟩ => ⟨he, hcl.out _ _ hb⟩) | (go_at_call_of 61 [Value.agg (fR (vf)).toArray, Value.agg (fR (vg)).toArray]; exact (E6 _).mono fun e w'' ⟨he, hb⟩ => ⟨he, hcl.out _ _ hb⟩)))
 refine wpQuiet_nil ?_
 intro nx
 have hb6 := (hf nx).out
 clear hf hcl
 generalize f nx = w6 at hb6 ⊢
 have s6 : Hid (Kn w6 _) := s5.out.up hb6
 have b6 : Hid (Below w.heap.size w w6) := b5.out.trans (hb6.mono b5.out.size)
 have z6 := b6.out.size
 clear hb6 s5 b5
 have s7x : Hid (Kn w6 [(w.heap.size + 1 + 1, pZ), (k4, (fR (vs))), (k3, (fR (vf))), (j3, (fR (vg))), (k2, (fR (vb))), (j2, (fR (ve))), (k1, (fR (va))), (j1, (fR (vc))), (i1, (fR (vd))), (w.heap.size + 1, (pR (x2) (y2) (t2))), (w.heap.size, (pR (x1) (y1) (t1)))]) := s6.out.front 8 rfl
 have b7x : Hid (Below w.heap.size w w6) := b6.out
 have TT7 : Hid (w6.there (w.heap.size + 1 + 1) 0 (pR (rx) (ry) (rt)).length) := Kn.there s7x.out 0 rfl (by rw [(pR_length (rx) (ry) (rt)), pZ_length])
 go_wp2_with (first | refine I.wp_store_eq rfl 63 _ _ rfl (w.heap.size + 1 + 1) 0 (pR (rx) (ry) (rt)) rfl rfl TT7.out (info_pR (rx) (ry) (rt)) (pR_one (rx) (ry) (rt)) ?_)
 intro w7 hw7
 try simp only [Act.put, List.setIfInBounds_toArray, List.set_cons_succ, List.set_cons_zero]
 have s7 : Hid (Kn w7 [(w.heap.size + 1 + 1, (pR (rx) (ry) (rt))), (k4, (fR (vs))), (k3, (fR (vf))), (j3, (fR (vg))), (k2, (fR (vb))), (j2, (fR (ve))), (k1, (fR (va))), (j1, (fR (vc))), (i1, (fR (vd))), (w.heap.size + 1, (pR (x2) (y2) (t2))), (w.heap.size, (pR (x1) (y1) (t1)))]) := by rw [hw7.out]; exact Kn.put s7x.out (by rw [(pR_length (rx) (ry) (rt)), pZ_length])
 have b7 : Hid (Below w.heap.size w w7) := by rw [hw7.out]; exact I.below_setCells _ _ _ b7x.out (by omega)
 have z7 := b7.out.size
 clear hw7 s7x b7x TT7 s6 b6
 go_wp2_with fail
 exact bodyPost_ret (v := pV rx ry rt) (I.results_cell (b := w.heap.size + 1 + 1) rfl rfl (Kn.rng s7.out 0 rfl) Tryz.underlying63 rfl (info_pR (rx) (ry) (rt))) rfl ⟨rfl, b7.out⟩
end Go.Proofs.YtfknkfninjjgbaaGreatDoor
