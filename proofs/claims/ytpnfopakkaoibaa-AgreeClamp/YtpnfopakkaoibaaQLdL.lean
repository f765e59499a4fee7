/- Package ladder, as it landed: the walks of Ladder and Of. -/
import Derived.Test.YtpnfopakkaoibaaQLdW
import Derived.Test.YtpnfopakkaoibaaQShlToBit
import Derived.Test.YtpnfopakkaoibaaQUp2
import Derived.LoopN
namespace Go.Proofs.Ytpnfopakkaoibaa
open Go.RowKit
attribute [local go_sem] World.cell?_alloc_some cell_alloc2 cell_alloc3 cell_alloc4 frozen?_alloc_cells frozen_out
set_option linter.unusedSimpArgs false
/-- What a round of Ladder does. -/
structure LdS (n u : Nm) (TI : Nat → Nm → Nm → Nm → Nm → Prop) (j : Nat) (qx qy rx ry mx my dx dy jx jy ax ay ex ey : Nm) (bb : Int) : Prop where
  fq : ∀ w, Calls Try.prog 43 #[N n, .int .i64 (j : Int)] w fun e w' => e = .returned (.int .u64 bb) ∧ Below w.heap.size w w'
  fm : ∀ w, Calls Try.prog 45 #[.int .u64 bb, lV qx qy, lV rx ry] w fun e w' => e = .returned (lV mx my) ∧ Below w.heap.size w w'
  fd : ∀ w, Calls Try.prog 44 #[lV mx my] w fun e w' => e = .returned (lV dx dy) ∧ Below w.heap.size w w'
  fj : ∀ w, Calls Try.prog 46 #[lV qx qy, lV rx ry, N u] w fun e w' => e = .returned (lV jx jy) ∧ Below w.heap.size w w'
  fa : ∀ w, Calls Try.prog 45 #[.int .u64 bb, lV dx dy, lV jx jy] w fun e w' => e = .returned (lV ax ay) ∧ Below w.heap.size w w'
  fe : ∀ w, Calls Try.prog 45 #[.int .u64 bb, lV jx jy, lV dx dy] w fun e w' => e = .returned (lV ex ey) ∧ Below w.heap.size w w'
  ft : TI j ax ay ex ey
set_option maxRecDepth 20000 in
set_option maxHeartbeats 400000 in
theorem lLad_walk (n u oa : Nm) (TI : Nat → Nm → Nm → Nm → Nm → Prop)
    (h0 : TI 256 nI nO u nI)
    (hs : ∀ j qx qy rx ry, j < 256 → TI (j + 1) qx qy rx ry → ∃ mx my dx dy jx jy ax ay ex ey b, LdS n u TI j qx qy rx ry mx my dx dy jx jy ax ay ex ey b)
    (he : ∀ qx qy rx ry, TI 0 qx qy rx ry → ∃ ia, (∀ w, Calls Try.prog 47 #[N qy] w fun e w' => e = .returned (N ia) ∧ Below w.heap.size w w') ∧ ∀ w, Calls Try.prog 34 #[N qx, N ia] w fun e w' => e = .returned (N oa) ∧ Below w.heap.size w w')
    (w : World) :
    Calls Try.prog 22 #[N n, N u] w fun e w' => e = .returned (N oa) ∧ Below w.heap.size w w' := by
  have H0 : Hid _ := h0
  have HS : Hid _ := hs
  have HE : Hid _ := he
  clear h0 hs he
  go_enter Try.func22, Try.ntmps22
  have s0 : Hid (Kn (kz4 (kal4 (kal4 w (n)) (u))) [(w.heap.size + 1 + 1, zz4), (w.heap.size + 1, (c4 (u))), (w.heap.size, (c4 (n)))]) := ((((Kn.nil w).al (c4 (n)) 28 rfl).al (c4 (u)) 28 (by simp)).al zz4 28 (by simp))
  have b0 : Hid (Below w.heap.size w (kz4 (kal4 (kal4 w (n)) (u)))) := ((((Below.refl _ _).alloc (Nat.le_refl _) _).alloc (by simp <;> omega) _).alloc (by simp <;> omega) _)
  go_wp2_with fail
  refine wp_region_vars2 5 (.cells #[Value.int IntKind.u64 0, Value.int IntKind.u64 0, Value.int IntKind.u64 0, Value.int IntKind.u64 0, Value.int IntKind.u64 0, Value.int IntKind.u64 0, Value.int IntKind.u64 0, Value.int IntKind.u64 0] 62) (.cells #[Value.int IntKind.u64 0, Value.int IntKind.u64 0, Value.int IntKind.u64 0, Value.int IntKind.u64 0, Value.int IntKind.u64 0, Value.int IntKind.u64 0, Value.int IntKind.u64 0, Value.int IntKind.u64 0] 62) (.cells (lR (nI) (nO)).toArray 62) (.cells (lR (u) (nI)).toArray 62) (by kernel_rfl) (by kernel_rfl) (by kernel_rfl) (by kernel_rfl) rfl rfl rfl rfl (by decide) rfl rfl (fun _ _ => by kernel_rfl) (fun _ _ => by kernel_rfl) ?_
  apply Exists.intro
  refine ⟨fun U hU f hf hcl => ?_, fun k j W hc => ?_, fun k j W hc => ?_, fun k1 j1 w1 hb1 hk1 hj1 hn1 hc1 hd1 => ?_⟩
  · skip
    have uu_0 := fun nx => (Kn.get (s0.out.up (hf nx).out) 1 0 rfl rfl : (f nx).cell? ⟨w.heap.size + 1, 0, none⟩ = some (.int .u64 (u).a))
    have uu_1 := fun nx => (Kn.get (s0.out.up (hf nx).out) 1 1 rfl rfl : (f nx).cell? ⟨w.heap.size + 1, 1, none⟩ = some (.int .u64 (u).b))
    have uu_2 := fun nx => (Kn.get (s0.out.up (hf nx).out) 1 2 rfl rfl : (f nx).cell? ⟨w.heap.size + 1, 2, none⟩ = some (.int .u64 (u).c))
    have uu_3 := fun nx => (Kn.get (s0.out.up (hf nx).out) 1 3 rfl rfl : (f nx).cell? ⟨w.heap.size + 1, 3, none⟩ = some (.int .u64 (u).d))
    clear hf
    simp only [List.take_succ_cons, List.take_zero]
    repeat (first | (refine quiet_buildL1 rfl 62 _ rfl (N nI) (lR nI nO) rfl (lpr_built1 nI) ?_; simp only [Act.put, List.setIfInBounds_toArray, List.set_cons_succ, List.set_cons_zero]) | (refine quiet_buildL rfl 62 _ _ rfl (N u) (N nI) (lR u nI) rfl rfl (lpr_built u nI) ?_; simp only [Act.put, List.setIfInBounds_toArray, List.set_cons_succ, List.set_cons_zero]) | go_big_quiet_step (first | (go_at_call 42; exact (lone_walk _).mono fun e w'' ⟨he, hb⟩ => ⟨he, hcl.out _ _ hb⟩)))
    exact wpQuiet_nil rfl
  · exact st_obj (zs := lZ) (cs := (lR (nI) (nO))) hc.out rfl rfl rfl (by rw [(lR_length (nI) (nO)), lZ_length]) (info_lR (nI) (nO)) (lR_one (nI) (nO))
  · exact st_obj (zs := lZ) (cs := (lR (u) (nI))) hc.out rfl rfl rfl (by rw [(lR_length (u) (nI)), lZ_length]) (info_lR (u) (nI)) (lR_one (u) (nI))
  simp only [Act.put, List.setIfInBounds_toArray, List.set_cons_succ, List.set_cons_zero]
  have z1 := b0.out.size
  have g1 : w.heap.size ≤ k1 := Nat.le_trans b0.out.size hk1
  have gj1 : w.heap.size ≤ j1 := Nat.le_trans b0.out.size hj1
  have s1 : Hid (Kn w1 [(k1, (lR (nI) (nO))), (j1, (lR (u) (nI))), (w.heap.size + 1 + 1, zz4), (w.heap.size + 1, (c4 (u))), (w.heap.size, (c4 (n)))]) := s0.out.two hb1.out hk1 hj1 hn1.out hc1.out hd1.out
  have b1 : Hid (Below w.heap.size w w1) := b0.out.trans (hb1.out.mono b0.out.size)
  clear s0 b0 hb1 hc1 hd1 hk1 hj1
  go_wp2_with fail
  go_loopw [7] (fun i wr => ∃ (k : Nat) (qx qy rx ry : Nm), k ≤ 256 ∧ i = .int .i64 ((k : Int) - 1) ∧ Hid (TI k qx qy rx ry) ∧ Hid (Kn wr [(k1, lR qx qy), (j1, lR rx ry), (w.heap.size + 1 + 1, zz4), (w.heap.size + 1, c4 u), (w.heap.size, c4 n)]) ∧ Hid (Below w.heap.size w wr)) (fun i _ => ((intOf i) + 1).toNat)
  case atStart => exact ⟨256, _, _, _, _, Nat.le_refl _, by first | rfl | go_num, H0, s1, b1⟩
  case round =>
    clear s1 b1 H0
    obtain ⟨k, qx, qy, rx, ry, hk, rfl, HI, s1, b1⟩ := hrel
    cases k with
    | succ j =>
      rw [show (((j + 1 : Nat) : Int) - 1) = (j : Int) by omega]
      have j0 : (j : Int) ≥ 0 := by omega
      have wk : IntKind.i64.wrap ((j : Int) - 1) = (j : Int) - 1 := by rw [IntKind.wrap_i64]; omega
      have K1 : Hid (j < 256) := hk
      obtain ⟨mx, my, dx, dy, jx, jy, ax, ay, ex, ey, b, R⟩ := HS.out j qx qy rx ry hk HI.out
      have T1 := R.fq
      have T2 := R.fm
      have T3 := R.fd
      have T4 := R.fj
      have T5 := R.fa
      have T6 := R.fe
      have NX : Hid _ := R.ft
      clear R HS HE hk HI
      have un_0 : wr.cell? ⟨w.heap.size, 0, none⟩ = some (.int .u64 (n).a) := Kn.get s1.out 4 0 rfl rfl
      have un_1 : wr.cell? ⟨w.heap.size, 1, none⟩ = some (.int .u64 (n).b) := Kn.get s1.out 4 1 rfl rfl
      have un_2 : wr.cell? ⟨w.heap.size, 2, none⟩ = some (.int .u64 (n).c) := Kn.get s1.out 4 2 rfl rfl
      have un_3 : wr.cell? ⟨w.heap.size, 3, none⟩ = some (.int .u64 (n).d) := Kn.get s1.out 4 3 rfl rfl
      go_wp2_with fail
      clear un_0 un_1 un_2 un_3
      refine (T1 _).mono ?_
      rintro e w2 ⟨rfl, hb2⟩
      have s2 : Hid (Kn w2 [(k1, (lR (qx) (qy))), (j1, (lR (rx) (ry))), (w.heap.size + 1 + 1, zz4), (w.heap.size + 1, (c4 (u))), (w.heap.size, (c4 (n)))]) := s1.out.up hb2
      have b2 : Hid (Below w.heap.size w w2) := b1.out.trans (hb2.mono b1.out.size)
      have z2 := b2.out.size
      clear hb2 s1 b1
      go_wp2_with fail
      refine wp_region_vars2 9 (.cells #[Value.int IntKind.u64 0, Value.int IntKind.u64 0, Value.int IntKind.u64 0, Value.int IntKind.u64 0, Value.int IntKind.u64 0, Value.int IntKind.u64 0, Value.int IntKind.u64 0, Value.int IntKind.u64 0] 62) (.cells #[Value.int IntKind.u64 0, Value.int IntKind.u64 0, Value.int IntKind.u64 0, Value.int IntKind.u64 0, Value.int IntKind.u64 0, Value.int IntKind.u64 0, Value.int IntKind.u64 0, Value.int IntKind.u64 0] 62) (.cells (lR (dx) (dy)).toArray 62) (.cells (lR (jx) (jy)).toArray 62) (by kernel_rfl) (by kernel_rfl) (by kernel_rfl) (by kernel_rfl) rfl rfl rfl rfl (by decide) rfl rfl (fun _ _ => by kernel_rfl) (fun _ _ => by kernel_rfl) ?_
      apply Exists.intro
      refine ⟨fun U hU f hf hcl => ?_, fun k j W hc => ?_, fun k j W hc => ?_, fun k3 j3 w3 hb3 hk3 hj3 hn3 hc3 hd3 => ?_⟩
      · skip
        have uu_0 := fun nx => (Kn.get (s2.out.up (hf nx).out) 3 0 rfl rfl : (f nx).cell? ⟨w.heap.size + 1, 0, none⟩ = some (.int .u64 (u).a))
        have uu_1 := fun nx => (Kn.get (s2.out.up (hf nx).out) 3 1 rfl rfl : (f nx).cell? ⟨w.heap.size + 1, 1, none⟩ = some (.int .u64 (u).b))
        have uu_2 := fun nx => (Kn.get (s2.out.up (hf nx).out) 3 2 rfl rfl : (f nx).cell? ⟨w.heap.size + 1, 2, none⟩ = some (.int .u64 (u).c))
        have uu_3 := fun nx => (Kn.get (s2.out.up (hf nx).out) 3 3 rfl rfl : (f nx).cell? ⟨w.heap.size + 1, 3, none⟩ = some (.int .u64 (u).d))
        have ra_q_0 := fun nx => (Kn.rng (s2.out.up (hf nx).out) 0 rfl : (f nx).rangeAt k1 0 (lR (qx) (qy)))
        have ra_q_1 := fun nx => (Kn.lng0 (s2.out.up (hf nx).out) 0 rfl : (f nx).rangeAt k1 0 [Value.int IntKind.u64 qx.a, Value.int IntKind.u64 qx.b, Value.int IntKind.u64 qx.c, Value.int IntKind.u64 qx.d])
        have ra_q_2 := fun nx => (Kn.lng1 (s2.out.up (hf nx).out) 0 rfl : (f nx).rangeAt k1 4 [Value.int IntKind.u64 qy.a, Value.int IntKind.u64 qy.b, Value.int IntKind.u64 qy.c, Value.int IntKind.u64 qy.d])
        have ra_r_0 := fun nx => (Kn.rng (s2.out.up (hf nx).out) 1 rfl : (f nx).rangeAt j1 0 (lR (rx) (ry)))
        have ra_r_1 := fun nx => (Kn.lng0 (s2.out.up (hf nx).out) 1 rfl : (f nx).rangeAt j1 0 [Value.int IntKind.u64 rx.a, Value.int IntKind.u64 rx.b, Value.int IntKind.u64 rx.c, Value.int IntKind.u64 rx.d])
        have ra_r_2 := fun nx => (Kn.lng1 (s2.out.up (hf nx).out) 1 rfl : (f nx).rangeAt j1 4 [Value.int IntKind.u64 ry.a, Value.int IntKind.u64 ry.b, Value.int IntKind.u64 ry.c, Value.int IntKind.u64 ry.d])
        clear hf
        simp only [List.take_succ_cons, List.take_zero]
        repeat (first | (refine I.quiet_load rfl 62 _ rfl k1 0 rfl (lR (qx) (qy)) _ (fun W hW => by obtain ⟨nx, rfl⟩ := hW; exact ra_q_0 nx) Try.underlying62 rfl (info_lR (qx) (qy)) ?_; simp only [Act.put, List.setIfInBounds_toArray, List.set_cons_succ, List.set_cons_zero]) | (refine I.quiet_load rfl 28 _ rfl k1 0 rfl [Value.int IntKind.u64 qx.a, Value.int IntKind.u64 qx.b, Value.int IntKind.u64 qx.c, Value.int IntKind.u64 qx.d] _ (fun W hW => by obtain ⟨nx, rfl⟩ := hW; exact ra_q_1 nx) Try.underlying28 rfl (info_c4 (qx)) ?_; simp only [Act.put, List.setIfInBounds_toArray, List.set_cons_succ, List.set_cons_zero]) | (refine I.quiet_load rfl 28 _ rfl k1 4 rfl [Value.int IntKind.u64 qy.a, Value.int IntKind.u64 qy.b, Value.int IntKind.u64 qy.c, Value.int IntKind.u64 qy.d] _ (fun W hW => by obtain ⟨nx, rfl⟩ := hW; exact ra_q_2 nx) Try.underlying28 rfl (info_c4 (qy)) ?_; simp only [Act.put, List.setIfInBounds_toArray, List.set_cons_succ, List.set_cons_zero]) | (refine I.quiet_load rfl 62 _ rfl j1 0 rfl (lR (rx) (ry)) _ (fun W hW => by obtain ⟨nx, rfl⟩ := hW; exact ra_r_0 nx) Try.underlying62 rfl (info_lR (rx) (ry)) ?_; simp only [Act.put, List.setIfInBounds_toArray, List.set_cons_succ, List.set_cons_zero]) | (refine I.quiet_load rfl 28 _ rfl j1 0 rfl [Value.int IntKind.u64 rx.a, Value.int IntKind.u64 rx.b, Value.int IntKind.u64 rx.c, Value.int IntKind.u64 rx.d] _ (fun W hW => by obtain ⟨nx, rfl⟩ := hW; exact ra_r_1 nx) Try.underlying28 rfl (info_c4 (rx)) ?_; simp only [Act.put, List.setIfInBounds_toArray, List.set_cons_succ, List.set_cons_zero]) | (refine I.quiet_load rfl 28 _ rfl j1 4 rfl [Value.int IntKind.u64 ry.a, Value.int IntKind.u64 ry.b, Value.int IntKind.u64 ry.c, Value.int IntKind.u64 ry.d] _ (fun W hW => by obtain ⟨nx, rfl⟩ := hW; exact ra_r_2 nx) Try.underlying28 rfl (info_c4 (ry)) ?_; simp only [Act.put, List.setIfInBounds_toArray, List.set_cons_succ, List.set_cons_zero]) | go_big_quiet_step (first | (go_at_call 45; exact (T2 _).mono fun e w'' ⟨he, hb⟩ => ⟨he, hcl.out _ _ hb⟩) | (go_at_call 44; exact (T3 _).mono fun e w'' ⟨he, hb⟩ => ⟨he, hcl.out _ _ hb⟩) | (go_at_call 46; exact (T4 _).mono fun e w'' ⟨he, hb⟩ => ⟨he, hcl.out _ _ hb⟩)))
        exact wpQuiet_nil rfl
      · exact st_obj (zs := lZ) (cs := (lR (dx) (dy))) hc.out rfl rfl rfl (by rw [(lR_length (dx) (dy)), lZ_length]) (info_lR (dx) (dy)) (lR_one (dx) (dy))
      · exact st_obj (zs := lZ) (cs := (lR (jx) (jy))) hc.out rfl rfl rfl (by rw [(lR_length (jx) (jy)), lZ_length]) (info_lR (jx) (jy)) (lR_one (jx) (jy))
      simp only [Act.put, List.setIfInBounds_toArray, List.set_cons_succ, List.set_cons_zero]
      have z3 := b2.out.size
      have g3 : w.heap.size ≤ k3 := Nat.le_trans b2.out.size hk3
      have gj3 : w.heap.size ≤ j3 := Nat.le_trans b2.out.size hj3
      have s3 : Hid (Kn w3 [(k3, (lR (dx) (dy))), (j3, (lR (jx) (jy))), (k1, (lR (qx) (qy))), (j1, (lR (rx) (ry))), (w.heap.size + 1 + 1, zz4), (w.heap.size + 1, (c4 (u))), (w.heap.size, (c4 (n)))]) := s2.out.two hb3.out hk3 hj3 hn3.out hc3.out hd3.out
      have b3 : Hid (Below w.heap.size w w3) := b2.out.trans (hb3.out.mono b2.out.size)
      clear s2 b2 hb3 hc3 hd3 hk3 hj3
      go_wp2_with fail
      refine wp_region_up_then2 8 (by kernel_rfl) (by kernel_rfl) (by kernel_rfl) (by kernel_rfl) (by decide) (fun _ _ d _ _ h => by cases d <;> exact h) (fun U hU f hf hcl => ?_)
      have ra_d_0 := fun nx => (Kn.rng (s3.out.up (hf nx).out) 0 rfl : (f nx).rangeAt k3 0 (lR (dx) (dy)))
      have ra_d_1 := fun nx => (Kn.lng0 (s3.out.up (hf nx).out) 0 rfl : (f nx).rangeAt k3 0 [Value.int IntKind.u64 dx.a, Value.int IntKind.u64 dx.b, Value.int IntKind.u64 dx.c, Value.int IntKind.u64 dx.d])
      have ra_d_2 := fun nx => (Kn.lng1 (s3.out.up (hf nx).out) 0 rfl : (f nx).rangeAt k3 4 [Value.int IntKind.u64 dy.a, Value.int IntKind.u64 dy.b, Value.int IntKind.u64 dy.c, Value.int IntKind.u64 dy.d])
      have ra_c_0 := fun nx => (Kn.rng (s3.out.up (hf nx).out) 1 rfl : (f nx).rangeAt j3 0 (lR (jx) (jy)))
      have ra_c_1 := fun nx => (Kn.lng0 (s3.out.up (hf nx).out) 1 rfl : (f nx).rangeAt j3 0 [Value.int IntKind.u64 jx.a, Value.int IntKind.u64 jx.b, Value.int IntKind.u64 jx.c, Value.int IntKind.u64 jx.d])
      have ra_c_2 := fun nx => (Kn.lng1 (s3.out.up (hf nx).out) 1 rfl : (f nx).rangeAt j3 4 [Value.int IntKind.u64 jy.a, Value.int IntKind.u64 jy.b, Value.int IntKind.u64 jy.c, Value.int IntKind.u64 jy.d])
      simp only [List.take_succ_cons, List.take_zero, List.drop_succ_cons, List.drop_zero]
      repeat (first | (refine I.quiet_load rfl 62 _ rfl k3 0 rfl (lR (dx) (dy)) _ (fun W hW => by obtain ⟨nx, rfl⟩ := hW; exact ra_d_0 nx) Try.underlying62 rfl (info_lR (dx) (dy)) ?_; simp only [Act.put, List.setIfInBounds_toArray, List.set_cons_succ, List.set_cons_zero]) | (refine I.quiet_load rfl 28 _ rfl k3 0 rfl [Value.int IntKind.u64 dx.a, Value.int IntKind.u64 dx.b, Value.int IntKind.u64 dx.c, Value.int IntKind.u64 dx.d] _ (fun W hW => by obtain ⟨nx, rfl⟩ := hW; exact ra_d_1 nx) Try.underlying28 rfl (info_c4 (dx)) ?_; simp only [Act.put, List.setIfInBounds_toArray, List.set_cons_succ, List.set_cons_zero]) | (refine I.quiet_load rfl 28 _ rfl k3 4 rfl [Value.int IntKind.u64 dy.a, Value.int IntKind.u64 dy.b, Value.int IntKind.u64 dy.c, Value.int IntKind.u64 dy.d] _ (fun W hW => by obtain ⟨nx, rfl⟩ := hW; exact ra_d_2 nx) Try.underlying28 rfl (info_c4 (dy)) ?_; simp only [Act.put, List.setIfInBounds_toArray, List.set_cons_succ, List.set_cons_zero]) | (refine I.quiet_load rfl 62 _ rfl j3 0 rfl (lR (jx) (jy)) _ (fun W hW => by obtain ⟨nx, rfl⟩ := hW; exact ra_c_0 nx) Try.underlying62 rfl (info_lR (jx) (jy)) ?_; simp only [Act.put, List.setIfInBounds_toArray, List.set_cons_succ, List.set_cons_zero]) | (refine I.quiet_load rfl 28 _ rfl j3 0 rfl [Value.int IntKind.u64 jx.a, Value.int IntKind.u64 jx.b, Value.int IntKind.u64 jx.c, Value.int IntKind.u64 jx.d] _ (fun W hW => by obtain ⟨nx, rfl⟩ := hW; exact ra_c_1 nx) Try.underlying28 rfl (info_c4 (jx)) ?_; simp only [Act.put, List.setIfInBounds_toArray, List.set_cons_succ, List.set_cons_zero]) | (refine I.quiet_load rfl 28 _ rfl j3 4 rfl [Value.int IntKind.u64 jy.a, Value.int IntKind.u64 jy.b, Value.int IntKind.u64 jy.c, Value.int IntKind.u64 jy.d] _ (fun W hW => by obtain ⟨nx, rfl⟩ := hW; exact ra_c_2 nx) Try.underlying28 rfl (info_c4 (jy)) ?_; simp only [Act.put, List.setIfInBounds_toArray, List.set_cons_succ, List.set_cons_zero]) | go_big_quiet_step (first | (go_at_call_of 45 [Value.int IntKind.u64 b, Value.agg (lR (dx) (dy)).toArray, Value.agg (lR (jx) (jy)).toArray]; exact (T5 _).mono fun e w'' ⟨he, hb⟩ => ⟨he, hcl.out _ _ hb⟩) | (go_at_call_of 45 [Value.int IntKind.u64 b, Value.agg (lR (jx) (jy)).toArray, Value.agg (lR (dx) (dy)).toArray]; exact (T6 _).mono fun e w'' ⟨he, hb⟩ => ⟨he, hcl.out _ _ hb⟩)))
      refine wpQuiet_nil ?_
      intro nx
      have hb4 := (hf nx).out
      clear hf hcl
      generalize f nx = w4 at hb4 ⊢
      have s4 : Hid (Kn w4 [(k3, (lR (dx) (dy))), (j3, (lR (jx) (jy))), (k1, (lR (qx) (qy))), (j1, (lR (rx) (ry))), (w.heap.size + 1 + 1, zz4), (w.heap.size + 1, (c4 (u))), (w.heap.size, (c4 (n)))]) := s3.out.up hb4
      have b4 : Hid (Below w.heap.size w w4) := b3.out.trans (hb4.mono b3.out.size)
      have z4 := b4.out.size
      clear hb4 s3 b3
      have s5x : Hid (Kn w4 [(k1, (lR (qx) (qy))), (k3, (lR (dx) (dy))), (j3, (lR (jx) (jy))), (j1, (lR (rx) (ry))), (w.heap.size + 1 + 1, zz4), (w.heap.size + 1, (c4 (u))), (w.heap.size, (c4 (n)))]) := s4.out.front 2 rfl
      have b5x : Hid (Below w.heap.size w w4) := b4.out
      have TT5 : Hid (w4.there k1 0 (lR (ax) (ay)).length) := Kn.there s5x.out 0 rfl (by rw [(lR_length (ax) (ay)), (lR_length (qx) (qy))])
      go_wp2_with (first | refine I.wp_store_eq rfl 62 _ _ rfl k1 0 (lR (ax) (ay)) rfl rfl TT5.out (info_lR (ax) (ay)) (lR_one (ax) (ay)) ?_)
      intro w5 hw5
      try simp only [Act.put, List.setIfInBounds_toArray, List.set_cons_succ, List.set_cons_zero]
      have s5 : Hid (Kn w5 [(k1, (lR (ax) (ay))), (k3, (lR (dx) (dy))), (j3, (lR (jx) (jy))), (j1, (lR (rx) (ry))), (w.heap.size + 1 + 1, zz4), (w.heap.size + 1, (c4 (u))), (w.heap.size, (c4 (n)))]) := by rw [hw5.out]; exact Kn.put s5x.out (by rw [(lR_length (ax) (ay)), (lR_length (qx) (qy))])
      have b5 : Hid (Below w.heap.size w w5) := by rw [hw5.out]; exact I.below_setCells _ _ _ b5x.out (by omega)
      have z5 := b5.out.size
      clear hw5 s5x b5x TT5 s4 b4
      have s6x : Hid (Kn w5 [(j1, (lR (rx) (ry))), (k1, (lR (ax) (ay))), (k3, (lR (dx) (dy))), (j3, (lR (jx) (jy))), (w.heap.size + 1 + 1, zz4), (w.heap.size + 1, (c4 (u))), (w.heap.size, (c4 (n)))]) := s5.out.front 3 rfl
      have b6x : Hid (Below w.heap.size w w5) := b5.out
      have TT6 : Hid (w5.there j1 0 (lR (ex) (ey)).length) := Kn.there s6x.out 0 rfl (by rw [(lR_length (ex) (ey)), (lR_length (rx) (ry))])
      go_wp2_with (first | refine I.wp_store_eq rfl 62 _ _ rfl j1 0 (lR (ex) (ey)) rfl rfl TT6.out (info_lR (ex) (ey)) (lR_one (ex) (ey)) ?_)
      intro w6 hw6
      try simp only [Act.put, List.setIfInBounds_toArray, List.set_cons_succ, List.set_cons_zero]
      have s6 : Hid (Kn w6 [(j1, (lR (ex) (ey))), (k1, (lR (ax) (ay))), (k3, (lR (dx) (dy))), (j3, (lR (jx) (jy))), (w.heap.size + 1 + 1, zz4), (w.heap.size + 1, (c4 (u))), (w.heap.size, (c4 (n)))]) := by rw [hw6.out]; exact Kn.put s6x.out (by rw [(lR_length (ex) (ey)), (lR_length (rx) (ry))])
      have b6 : Hid (Below w.heap.size w w6) := by rw [hw6.out]; exact I.below_setCells _ _ _ b6x.out (by omega)
      have z6 := b6.out.size
      clear hw6 s6x b6x TT6 s5 b5
      replace s6 : Hid (Kn w6 [(j1, (lR (ex) (ey))), (k1, (lR (ax) (ay))), (j3, (lR (jx) (jy))), (w.heap.size + 1 + 1, zz4), (w.heap.size + 1, (c4 (u))), (w.heap.size, (c4 (n)))]) := s6.out.drop 2
      replace s6 : Hid (Kn w6 [(j1, (lR (ex) (ey))), (k1, (lR (ax) (ay))), (w.heap.size + 1 + 1, zz4), (w.heap.size + 1, (c4 (u))), (w.heap.size, (c4 (n)))]) := s6.out.drop 2
      replace s6 : Hid (Kn w6 [(w.heap.size, (c4 (n))), (j1, (lR (ex) (ey))), (k1, (lR (ax) (ay))), (w.heap.size + 1 + 1, zz4), (w.heap.size + 1, (c4 (u)))]) := s6.out.front 4 rfl
      replace s6 : Hid (Kn w6 [(w.heap.size + 1, (c4 (u))), (w.heap.size, (c4 (n))), (j1, (lR (ex) (ey))), (k1, (lR (ax) (ay))), (w.heap.size + 1 + 1, zz4)]) := s6.out.front 4 rfl
      replace s6 : Hid (Kn w6 [(w.heap.size + 1 + 1, zz4), (w.heap.size + 1, (c4 (u))), (w.heap.size, (c4 (n))), (j1, (lR (ex) (ey))), (k1, (lR (ax) (ay)))]) := s6.out.front 4 rfl
      replace s6 : Hid (Kn w6 [(j1, (lR (ex) (ey))), (w.heap.size + 1 + 1, zz4), (w.heap.size + 1, (c4 (u))), (w.heap.size, (c4 (n))), (k1, (lR (ax) (ay)))]) := s6.out.front 3 rfl
      replace s6 : Hid (Kn w6 [(k1, (lR (ax) (ay))), (j1, (lR (ex) (ey))), (w.heap.size + 1 + 1, zz4), (w.heap.size + 1, (c4 (u))), (w.heap.size, (c4 (n)))]) := s6.out.front 4 rfl
      go_wp2_with fail
      go_roundw
      case rel => exact ⟨j, ax, ay, ex, ey, Nat.le_of_lt K1.out, by first | rfl | go_num, NX, s6, b6⟩
      case measure => simp [intOf]
    | zero =>
      obtain ⟨ia, T1, T2⟩ := HE.out _ _ _ _ HI.out
      clear HS HE HI hk
      have j0 : ¬ ((((0 : Nat) : Int)) - 1 ≥ 0) := by omega
      go_wp2_with fail
      refine wp_region_up_then 6 (by kernel_rfl) (by kernel_rfl) (by kernel_rfl) (by kernel_rfl) (by decide) (fun _ _ d _ _ h => by cases d <;> exact h) (fun U hU f hf hcl => ?_)
      have ra_q_0 := fun nx => (Kn.rng (s1.out.up (hf nx).out) 0 rfl : (f nx).rangeAt k1 0 (lR (qx) (qy)))
      have ra_q_1 := fun nx => (Kn.lng0 (s1.out.up (hf nx).out) 0 rfl : (f nx).rangeAt k1 0 [Value.int IntKind.u64 qx.a, Value.int IntKind.u64 qx.b, Value.int IntKind.u64 qx.c, Value.int IntKind.u64 qx.d])
      have ra_q_2 := fun nx => (Kn.lng1 (s1.out.up (hf nx).out) 0 rfl : (f nx).rangeAt k1 4 [Value.int IntKind.u64 qy.a, Value.int IntKind.u64 qy.b, Value.int IntKind.u64 qy.c, Value.int IntKind.u64 qy.d])
      simp only [List.take_succ_cons, List.take_zero, List.drop_succ_cons, List.drop_zero]
      repeat (first | (refine I.quiet_load rfl 62 _ rfl k1 0 rfl (lR (qx) (qy)) _ (fun W hW => by obtain ⟨nx, rfl⟩ := hW; exact ra_q_0 nx) Try.underlying62 rfl (info_lR (qx) (qy)) ?_; simp only [Act.put, List.setIfInBounds_toArray, List.set_cons_succ, List.set_cons_zero]) | (refine I.quiet_load rfl 28 _ rfl k1 0 rfl [Value.int IntKind.u64 qx.a, Value.int IntKind.u64 qx.b, Value.int IntKind.u64 qx.c, Value.int IntKind.u64 qx.d] _ (fun W hW => by obtain ⟨nx, rfl⟩ := hW; exact ra_q_1 nx) Try.underlying28 rfl (info_c4 (qx)) ?_; simp only [Act.put, List.setIfInBounds_toArray, List.set_cons_succ, List.set_cons_zero]) | (refine I.quiet_load rfl 28 _ rfl k1 4 rfl [Value.int IntKind.u64 qy.a, Value.int IntKind.u64 qy.b, Value.int IntKind.u64 qy.c, Value.int IntKind.u64 qy.d] _ (fun W hW => by obtain ⟨nx, rfl⟩ := hW; exact ra_q_2 nx) Try.underlying28 rfl (info_c4 (qy)) ?_; simp only [Act.put, List.setIfInBounds_toArray, List.set_cons_succ, List.set_cons_zero]) | go_big_quiet_step (first | (go_at_call 47; exact (T1 _).mono fun e w'' ⟨he, hb⟩ => ⟨he, hcl.out _ _ hb⟩) | (go_at_call 34; exact (T2 _).mono fun e w'' ⟨he, hb⟩ => ⟨he, hcl.out _ _ hb⟩)))
      refine wpQuiet_nil ?_
      intro nx
      have hb2 := (hf nx).out
      clear hf hcl
      generalize f nx = w2 at hb2 ⊢
      have s2 : Hid (Kn w2 [(k1, (lR (qx) (qy))), (j1, (lR (rx) (ry))), (w.heap.size + 1 + 1, zz4), (w.heap.size + 1, (c4 (u))), (w.heap.size, (c4 (n)))]) := s1.out.up hb2
      have b2 : Hid (Below w.heap.size w w2) := b1.out.trans (hb2.mono b1.out.size)
      have z2 := b2.out.size
      clear hb2 s1 b1
      have uoo_0 : w2.cell? ⟨w.heap.size + 1 + 1, 0, none⟩ = some (.int .u64 0) := Kn.get s2.out 2 0 rfl rfl
      have uoo_1 : w2.cell? ⟨w.heap.size + 1 + 1, 1, none⟩ = some (.int .u64 0) := Kn.get s2.out 2 1 rfl rfl
      have uoo_2 : w2.cell? ⟨w.heap.size + 1 + 1, 2, none⟩ = some (.int .u64 0) := Kn.get s2.out 2 2 rfl rfl
      have uoo_3 : w2.cell? ⟨w.heap.size + 1 + 1, 3, none⟩ = some (.int .u64 0) := Kn.get s2.out 2 3 rfl rfl
      have uoo_z : ∀ j, w2.frozen? ⟨w.heap.size + 1 + 1, j, none⟩ = false := Kn.fz s2.out 2 rfl
      have s3 : Hid (Kn (st4 w2 (w.heap.size + 1 + 1) (oa)) [(w.heap.size + 1 + 1, (c4 (oa))), (k1, (lR (qx) (qy))), (j1, (lR (rx) (ry))), (w.heap.size + 1, (c4 (u))), (w.heap.size, (c4 (n)))]) := Kn.st4 (L := [(k1, (lR (qx) (qy))), (j1, (lR (rx) (ry))), (w.heap.size + 1, (c4 (u))), (w.heap.size, (c4 (n)))]) (s2.out.front 2 rfl) (oa)
      have b3 : Hid (Below w.heap.size w (st4 w2 (w.heap.size + 1 + 1) (oa))) := below_st4 b2.out (by omega)
      clear s2 b2
      go_wp2_with fail
      clear uoo_0 uoo_1 uoo_2 uoo_3 uoo_z
      have uor_0 : (st4 w2 (w.heap.size + 1 + 1) (oa)).cell? ⟨w.heap.size + 1 + 1, 0, none⟩ = some (.int .u64 (oa).a) := Kn.get s3.out 0 0 rfl rfl
      have uor_1 : (st4 w2 (w.heap.size + 1 + 1) (oa)).cell? ⟨w.heap.size + 1 + 1, 1, none⟩ = some (.int .u64 (oa).b) := Kn.get s3.out 0 1 rfl rfl
      have uor_2 : (st4 w2 (w.heap.size + 1 + 1) (oa)).cell? ⟨w.heap.size + 1 + 1, 2, none⟩ = some (.int .u64 (oa).c) := Kn.get s3.out 0 2 rfl rfl
      have uor_3 : (st4 w2 (w.heap.size + 1 + 1) (oa)).cell? ⟨w.heap.size + 1 + 1, 3, none⟩ = some (.int .u64 (oa).d) := Kn.get s3.out 0 3 rfl rfl
      refine bodyPost_ret (v := N oa) ?_ rfl ⟨rfl, b3.out⟩
      show (results Try.f22 _).run Try.prog (st4 w2 (w.heap.size + 1 + 1) (oa)) = .ok _ (st4 w2 (w.heap.size + 1 + 1) (oa))
      clear s3 b3
      generalize (st4 w2 (w.heap.size + 1 + 1) (oa)) = W9 at *
      simp [results, Try.results22, go_sem, uor_0, uor_1, uor_2, uor_3]
set_option maxHeartbeats 1000000 in
theorem lOf_yes (px py ua ia sa ra : Nm)
    (O1 : ∀ w, Calls Try.prog 15 #[Wv px py] w fun e w' => e = .returned (.bool true) ∧ Below w.heap.size w w')
    (S1 : ∀ w, Calls Try.prog 35 #[N nI, N py] w fun e w' => e = .returned (N ua) ∧ Below w.heap.size w w')
    (I1 : ∀ w, Calls Try.prog 47 #[N ua] w fun e w' => e = .returned (N ia) ∧ Below w.heap.size w w')
    (A1 : ∀ w, Calls Try.prog 36 #[N nI, N py] w fun e w' => e = .returned (N sa) ∧ Below w.heap.size w w')
    (M1 : ∀ w, Calls Try.prog 34 #[N sa, N ia] w fun e w' => e = .returned (N ra) ∧ Below w.heap.size w w')
    (w : World) :
    Calls Try.prog 39 #[Wv px py] w fun e w' => e = .returned (.tuple #[N ra, .int .i64 0]) ∧ Below w.heap.size w w' := by
  go_enter Try.func39, Try.ntmps39
  have s0 : Hid (Kn (kz4 (kalP w (px) (py))) [(w.heap.size + 1, zz4), (w.heap.size, (c8 (px) (py)))]) := (((Kn.nil w).al (c8 (px) (py)) 35 rfl).al zz4 28 (by simp))
  have b0 : Hid (Below w.heap.size w (kz4 (kalP w (px) (py)))) := (((Below.refl _ _).alloc (Nat.le_refl _) _).alloc (by simp <;> omega) _)
  have up_0 : (kz4 (kalP w (px) (py))).cell? ⟨w.heap.size, 0, none⟩ = some (.int .u64 (px).a) := Kn.get s0.out 1 0 rfl rfl
  have up_1 : (kz4 (kalP w (px) (py))).cell? ⟨w.heap.size, 1, none⟩ = some (.int .u64 (px).b) := Kn.get s0.out 1 1 rfl rfl
  have up_2 : (kz4 (kalP w (px) (py))).cell? ⟨w.heap.size, 2, none⟩ = some (.int .u64 (px).c) := Kn.get s0.out 1 2 rfl rfl
  have up_3 : (kz4 (kalP w (px) (py))).cell? ⟨w.heap.size, 3, none⟩ = some (.int .u64 (px).d) := Kn.get s0.out 1 3 rfl rfl
  have up_4 : (kz4 (kalP w (px) (py))).cell? ⟨w.heap.size, 4, none⟩ = some (.int .u64 (py).a) := Kn.get s0.out 1 4 rfl rfl
  have up_5 : (kz4 (kalP w (px) (py))).cell? ⟨w.heap.size, 5, none⟩ = some (.int .u64 (py).b) := Kn.get s0.out 1 5 rfl rfl
  have up_6 : (kz4 (kalP w (px) (py))).cell? ⟨w.heap.size, 6, none⟩ = some (.int .u64 (py).c) := Kn.get s0.out 1 6 rfl rfl
  have up_7 : (kz4 (kalP w (px) (py))).cell? ⟨w.heap.size, 7, none⟩ = some (.int .u64 (py).d) := Kn.get s0.out 1 7 rfl rfl
  go_wp2_with fail
  clear up_0 up_1 up_2 up_3 up_4 up_5 up_6 up_7
  refine (O1 _).mono ?_
  rintro e w1 ⟨rfl, hb1⟩
  have s1 : Hid (Kn w1 [(w.heap.size + 1, zz4), (w.heap.size, (c8 (px) (py)))]) := s0.out.up hb1
  have b1 : Hid (Below w.heap.size w w1) := b0.out.trans (hb1.mono b0.out.size)
  have z1 := b1.out.size
  clear hb1 s0 b0
  go_wp2_with fail
  refine wp_region_alloc1 4 (.cells #[.int .u64 0, .int .u64 0, .int .u64 0, .int .u64 0] 28) (by kernel_rfl) (by kernel_rfl) (by kernel_rfl) (by kernel_rfl) (by decide) (fun _ _ d _ _ h => by cases d <;> exact h) rfl rfl (fun _ _ => by kernel_rfl) ?_
  apply Exists.intro
  refine ⟨fun U hU f hf hcl => ?_, fun k2 w2 hb2 hk2 hc2 => ?_⟩
  · skip
    have up_0 := fun nx => (Kn.get (s1.out.up (hf nx).out) 1 0 rfl rfl : (f nx).cell? ⟨w.heap.size, 0, none⟩ = some (.int .u64 (px).a))
    have up_1 := fun nx => (Kn.get (s1.out.up (hf nx).out) 1 1 rfl rfl : (f nx).cell? ⟨w.heap.size, 1, none⟩ = some (.int .u64 (px).b))
    have up_2 := fun nx => (Kn.get (s1.out.up (hf nx).out) 1 2 rfl rfl : (f nx).cell? ⟨w.heap.size, 2, none⟩ = some (.int .u64 (px).c))
    have up_3 := fun nx => (Kn.get (s1.out.up (hf nx).out) 1 3 rfl rfl : (f nx).cell? ⟨w.heap.size, 3, none⟩ = some (.int .u64 (px).d))
    have up_4 := fun nx => (Kn.get (s1.out.up (hf nx).out) 1 4 rfl rfl : (f nx).cell? ⟨w.heap.size, 4, none⟩ = some (.int .u64 (py).a))
    have up_5 := fun nx => (Kn.get (s1.out.up (hf nx).out) 1 5 rfl rfl : (f nx).cell? ⟨w.heap.size, 5, none⟩ = some (.int .u64 (py).b))
    have up_6 := fun nx => (Kn.get (s1.out.up (hf nx).out) 1 6 rfl rfl : (f nx).cell? ⟨w.heap.size, 6, none⟩ = some (.int .u64 (py).c))
    have up_7 := fun nx => (Kn.get (s1.out.up (hf nx).out) 1 7 rfl rfl : (f nx).cell? ⟨w.heap.size, 7, none⟩ = some (.int .u64 (py).d))
    clear hf
    simp only [List.take_succ_cons, List.take_zero]
    repeat (go_big_quiet_step (first | (go_at_call 42; exact (lone_walk _).mono fun e w'' ⟨he, hb⟩ => ⟨he, hcl.out _ _ hb⟩) | (go_at_call 35; exact (S1 _).mono fun e w'' ⟨he, hb⟩ => ⟨he, hcl.out _ _ hb⟩)))
    exact wpQuiet_nil rfl
  simp only [List.drop_succ_cons, List.drop_zero]
  have z2 := b1.out.size
  have s2x : Hid (Kn w2 [(k2, zz4), (w.heap.size + 1, zz4), (w.heap.size, (c8 (px) (py)))]) := s1.out.fresh hb2.out hk2 hc2.out
  have g2 : w.heap.size ≤ k2 := Nat.le_trans b1.out.size hk2
  have cz2_0 : w2.cell? ⟨k2, 0, none⟩ = some (.int .u64 0) := Kn.get s2x.out 0 0 rfl rfl
  have cz2_1 : w2.cell? ⟨k2, 1, none⟩ = some (.int .u64 0) := Kn.get s2x.out 0 1 rfl rfl
  have cz2_2 : w2.cell? ⟨k2, 2, none⟩ = some (.int .u64 0) := Kn.get s2x.out 0 2 rfl rfl
  have cz2_3 : w2.cell? ⟨k2, 3, none⟩ = some (.int .u64 0) := Kn.get s2x.out 0 3 rfl rfl
  have cz2 : ∀ j, w2.frozen? ⟨k2, j, none⟩ = false := Kn.fz s2x.out 0 rfl
  have s2 : Hid (Kn (st4 w2 k2 (ua)) [(k2, (c4 (ua))), (w.heap.size + 1, zz4), (w.heap.size, (c8 (px) (py)))]) := s2x.out.st4 (ua)
  have b2 : Hid (Below w.heap.size w (st4 w2 k2 (ua))) := below_st4 (b1.out.trans (hb2.out.mono b1.out.size)) g2
  clear s2x s1 b1 hb2 hc2 hk2
  go_wp2_with fail
  clear cz2_0 cz2_1 cz2_2 cz2_3 cz2
  refine wp_region_up_then 7 (by kernel_rfl) (by kernel_rfl) (by kernel_rfl) (by kernel_rfl) (by decide) (fun _ _ d _ _ h => by cases d <;> exact h) (fun U hU f hf hcl => ?_)
  have up_0 := fun nx => (Kn.get (s2.out.up (hf nx).out) 2 0 rfl rfl : (f nx).cell? ⟨w.heap.size, 0, none⟩ = some (.int .u64 (px).a))
  have up_1 := fun nx => (Kn.get (s2.out.up (hf nx).out) 2 1 rfl rfl : (f nx).cell? ⟨w.heap.size, 1, none⟩ = some (.int .u64 (px).b))
  have up_2 := fun nx => (Kn.get (s2.out.up (hf nx).out) 2 2 rfl rfl : (f nx).cell? ⟨w.heap.size, 2, none⟩ = some (.int .u64 (px).c))
  have up_3 := fun nx => (Kn.get (s2.out.up (hf nx).out) 2 3 rfl rfl : (f nx).cell? ⟨w.heap.size, 3, none⟩ = some (.int .u64 (px).d))
  have up_4 := fun nx => (Kn.get (s2.out.up (hf nx).out) 2 4 rfl rfl : (f nx).cell? ⟨w.heap.size, 4, none⟩ = some (.int .u64 (py).a))
  have up_5 := fun nx => (Kn.get (s2.out.up (hf nx).out) 2 5 rfl rfl : (f nx).cell? ⟨w.heap.size, 5, none⟩ = some (.int .u64 (py).b))
  have up_6 := fun nx => (Kn.get (s2.out.up (hf nx).out) 2 6 rfl rfl : (f nx).cell? ⟨w.heap.size, 6, none⟩ = some (.int .u64 (py).c))
  have up_7 := fun nx => (Kn.get (s2.out.up (hf nx).out) 2 7 rfl rfl : (f nx).cell? ⟨w.heap.size, 7, none⟩ = some (.int .u64 (py).d))
  have uunder_0 := fun nx => (Kn.get (s2.out.up (hf nx).out) 0 0 rfl rfl : (f nx).cell? ⟨k2, 0, none⟩ = some (.int .u64 (ua).a))
  have uunder_1 := fun nx => (Kn.get (s2.out.up (hf nx).out) 0 1 rfl rfl : (f nx).cell? ⟨k2, 1, none⟩ = some (.int .u64 (ua).b))
  have uunder_2 := fun nx => (Kn.get (s2.out.up (hf nx).out) 0 2 rfl rfl : (f nx).cell? ⟨k2, 2, none⟩ = some (.int .u64 (ua).c))
  have uunder_3 := fun nx => (Kn.get (s2.out.up (hf nx).out) 0 3 rfl rfl : (f nx).cell? ⟨k2, 3, none⟩ = some (.int .u64 (ua).d))
  simp only [List.take_succ_cons, List.take_zero, List.drop_succ_cons, List.drop_zero]
  repeat (go_big_quiet_step (first | (go_at_call 42; exact (lone_walk _).mono fun e w'' ⟨he, hb⟩ => ⟨he, hcl.out _ _ hb⟩) | (go_at_call 36; exact (A1 _).mono fun e w'' ⟨he, hb⟩ => ⟨he, hcl.out _ _ hb⟩) | (go_at_call 47; exact (I1 _).mono fun e w'' ⟨he, hb⟩ => ⟨he, hcl.out _ _ hb⟩) | (go_at_call 34; exact (M1 _).mono fun e w'' ⟨he, hb⟩ => ⟨he, hcl.out _ _ hb⟩)))
  refine wpQuiet_nil ?_
  intro nx
  have hb3 := (hf nx).out
  clear hf hcl up_0 up_1 up_2 up_3 up_4 up_5 up_6 up_7 uunder_0 uunder_1 uunder_2 uunder_3
  generalize f nx = w3 at hb3 ⊢
  have s3 : Hid (Kn w3 [(k2, (c4 (ua))), (w.heap.size + 1, zz4), (w.heap.size, (c8 (px) (py)))]) := s2.out.up hb3
  have b3 : Hid (Below w.heap.size w w3) := b2.out.trans (hb3.mono b2.out.size)
  have z3 := b3.out.size
  clear hb3 s2 b2
  have uro_0 : w3.cell? ⟨w.heap.size + 1, 0, none⟩ = some (.int .u64 0) := Kn.get s3.out 1 0 rfl rfl
  have uro_1 : w3.cell? ⟨w.heap.size + 1, 1, none⟩ = some (.int .u64 0) := Kn.get s3.out 1 1 rfl rfl
  have uro_2 : w3.cell? ⟨w.heap.size + 1, 2, none⟩ = some (.int .u64 0) := Kn.get s3.out 1 2 rfl rfl
  have uro_3 : w3.cell? ⟨w.heap.size + 1, 3, none⟩ = some (.int .u64 0) := Kn.get s3.out 1 3 rfl rfl
  have uro_z : ∀ j, w3.frozen? ⟨w.heap.size + 1, j, none⟩ = false := Kn.fz s3.out 1 rfl
  have s4 : Hid (Kn (st4 w3 (w.heap.size + 1) (ra)) [(w.heap.size + 1, (c4 (ra))), (k2, (c4 (ua))), (w.heap.size, (c8 (px) (py)))]) := Kn.st4 (L := [(k2, (c4 (ua))), (w.heap.size, (c8 (px) (py)))]) (s3.out.front 1 rfl) (ra)
  have b4 : Hid (Below w.heap.size w (st4 w3 (w.heap.size + 1) (ra))) := below_st4 b3.out (by omega)
  clear s3 b3
  go_wp2_with fail
  clear uro_0 uro_1 uro_2 uro_3 uro_z
  have urr_0 : (st4 w3 (w.heap.size + 1) (ra)).cell? ⟨w.heap.size + 1, 0, none⟩ = some (.int .u64 (ra).a) := Kn.get s4.out 0 0 rfl rfl
  have urr_1 : (st4 w3 (w.heap.size + 1) (ra)).cell? ⟨w.heap.size + 1, 1, none⟩ = some (.int .u64 (ra).b) := Kn.get s4.out 0 1 rfl rfl
  have urr_2 : (st4 w3 (w.heap.size + 1) (ra)).cell? ⟨w.heap.size + 1, 2, none⟩ = some (.int .u64 (ra).c) := Kn.get s4.out 0 2 rfl rfl
  have urr_3 : (st4 w3 (w.heap.size + 1) (ra)).cell? ⟨w.heap.size + 1, 3, none⟩ = some (.int .u64 (ra).d) := Kn.get s4.out 0 3 rfl rfl
  refine bodyPost_ret (v := .tuple #[N ra, .int .i64 0]) ?_ rfl ⟨rfl, b4.out⟩
  show (results Try.f39 _).run Try.prog (st4 w3 (w.heap.size + 1) (ra)) = .ok _ (st4 w3 (w.heap.size + 1) (ra))
  clear s4 b4
  generalize (st4 w3 (w.heap.size + 1) (ra)) = W9 at *
  simp [results, Try.results39, go_sem, urr_0, urr_1, urr_2, urr_3]
end Go.Proofs.Ytpnfopakkaoibaa
