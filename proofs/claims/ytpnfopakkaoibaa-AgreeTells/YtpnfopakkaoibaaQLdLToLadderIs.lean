/- Texts that were joined: LdL, LadderIs. -/
import Derived.Test.YtpnfopakkaoibaaQLdW
import Derived.Test.YtpnfopakkaoibaaQShlToBit
import Derived.Test.YtpnfopakkaoibaaQUp2
import Derived.LoopN
/- Package ladder, as it landed: the walks of Ladder and Of. -/
namespace Go.Proofs.Ytpnfopakkaoibaa
open Go.RowKit
attribute [local go_sem] World.cell?_alloc_some cell_alloc2 cell_alloc3 cell_alloc4 frozen?_alloc_cells frozen_out
set_option linter.unusedSimpArgs false
/-- What a round of Ladder does. -/
structure LdS (n u : Nm) (TI : Nat → Nm → Nm → Nm → Nm → Prop) (j : Nat) (qx qy rx ry mx my dx dy jx jy ax ay ex ey : Nm) (bb : Int) : Prop where
  fq : ∀ w, Calls Try.prog 43 #[N n, .int .i64 (j : Int)] w fun e w' => e = .returned (.int .u64 bb) ∧ Below w.heap.size w w'
  fm : ∀ w, Calls Try.prog 45 #[.int .u64 bb, lV qx qy, lV rx ry] w fun e w' => e = .returned (lV mx my) ∧ Below w.heap.size w w'
  fd : ∀ w, Calls Try.prog 44 #[lV mx my] w fun e w' => e = .returned (lV dx dy) ∧ Below w.heap.size w w'
  fj : ∀ w, Calls Try.prog 46 #[lV qx qy, lV rx ry, N u] w fun e w' => e = .returned (lV jx jy) ∧ Below w.heap.size w w'
  fa : ∀ w, Calls Try.prog 45 #[.int .u64 bb, lV dx dy, lV jx jy] w fun e w' => e = .returned (lV ax ay) ∧ Below w.heap.size w w'
  fe : ∀ w, Calls Try.prog 45 #[.int .u64 bb, lV jx jy, lV dx dy] w fun e w' => e = .returned (lV ex ey) ∧ Below w.heap.size w w'
  ft : TI j ax ay ex ey
set_option maxRecDepth 20000 in
set_option maxHeartbeats 400000 in
theorem lLad_walk (n u oa : Nm) (TI : Nat → Nm → Nm → Nm → Nm → Prop)
    (h0 : TI 256 nI nO u nI)
    (hs : ∀ j qx qy rx ry, j < 256 → TI (j + 1) qx qy rx ry → ∃ mx my dx dy jx jy ax ay ex ey b, LdS n u TI j qx qy rx ry mx my dx dy jx jy ax ay ex ey b)
    (he : ∀ qx qy rx ry, TI 0 qx qy rx ry → ∃ ia, (∀ w, Calls Try.prog 47 #[N qy] w fun e w' => e = .returned (N ia) ∧ Below w.heap.size w w') ∧ ∀ w, Calls Try.prog 34 #[N qx, N ia] w fun e w' => e = .returned (N oa) ∧ Below w.heap.size w w')
    (w : World) :
    Calls Try.prog 22 #[N n, N u] w fun e w' => e = .returned (N oa) ∧ Below w.heap.size w w' := by
  have H0 : Hid _ := h0
  have HS : Hid _ := hs
  have HE : Hid _ := he
  clear h0 hs he
  go_enter Try.func22, Try.ntmps22
  have s0 : Hid (Kn (kz4 (kal4 (kal4 w (n)) (u))) [(w.heap.size + 1 + 1, zz4), (w.heap.size + 1, (c4 (u))), (w.heap.size, (c4 (n)))]) := ((((Kn.nil w).al (c4 (n)) 28 rfl).al (c4 (u)) 28 (by simp)).al zz4 28 (by simp))
  have b0 : Hid (Below w.heap.size w (kz4 (kal4 (kal4 w (n)) (u)))) := ((((Below.refl _ _).alloc (Nat.le_refl _) _).alloc (by simp <;> omega) _).alloc (by simp <;> omega) _)
  go_wp2_with fail
  refine wp_region_vars2 5 (.cells #[Value.int IntKind.u64 0, Value.int IntKind.u64 0, Value.int IntKind.u64 0, Value.int IntKind.u64 0, Value.int IntKind.u64 0, Value.int IntKind.u64 0, Value.int IntKind.u64 0, Value.int IntKind.u64 0] 62) (.cells #[Value.int IntKind.u64 0, Value.int IntKind.u64 0, Value.int IntKind.u64 0, Value.int IntKind.u64 0, Value.int IntKind.u64 0, Value.int IntKind.u64 0, Value.int IntKind.u64 0, Value.int IntKind.u64 0] 62) (.cells (lR (nI) (nO)).toArray 62) (.cells (lR (u) (nI)).toArray 62) (by kernel_rfl) (by kernel_rfl) (by kernel_rfl) (by kernel_rfl) rfl rfl rfl rfl (by decide) rfl rfl (fun _ _ => by kernel_rfl) (fun _ _ => by kernel_rfl) ?_
  apply Exists.intro
  refine ⟨fun U hU f hf hcl => ?_, fun k j W hc => ?_, fun k j W hc => ?_, fun k1 j1 w1 hb1 hk1 hj1 hn1 hc1 hd1 => ?_⟩
  · skip
    have uu_0 := fun nx => (Kn.get (s0.out.up (hf nx).out) 1 0 rfl rfl : (f nx).cell? ⟨w.heap.size + 1, 0, none⟩ = some (.int .u64 (u).a))
    have uu_1 := fun nx => (Kn.get (s0.out.up (hf nx).out) 1 1 rfl rfl : (f nx).cell? ⟨w.heap.size + 1, 1, none⟩ = some (.int .u64 (u).b))
    have uu_2 := fun nx => (Kn.get (s0.out.up (hf nx).out) 1 2 rfl rfl : (f nx).cell? ⟨w.heap.size + 1, 2, none⟩ = some (.int .u64 (u).c))
    have uu_3 := fun nx => (Kn.get (s0.out.up (hf nx).out) 1 3 rfl rfl : (f nx).cell? ⟨w.heap.size + 1, 3, none⟩ = some (.int .u64 (u).d))
    clear hf
    simp only [List.take_succ_cons, List.take_zero]
    repeat (first | (refine quiet_buildL1 rfl 62 _ rfl (N nI) (lR nI nO) rfl (lpr_built1 nI) ?_; simp only [Act.put, List.setIfInBounds_toArray, List.set_cons_succ, List.set_cons_zero]) | (refine quiet_buildL rfl 62 _ _ rfl (N u) (N nI) (lR u nI) rfl rfl (lpr_built u nI) ?_; simp only [Act.put, List.setIfInBounds_toArray, List.set_cons_succ, List.set_cons_zero]) | go_big_quiet_step (first | (go_at_call 42; exact (lone_walk _).mono fun e w'' ⟨he, hb⟩ => ⟨he, hcl.out _ _ hb⟩)))
    exact wpQuiet_nil rfl
  · exact st_obj (zs := lZ) (cs := (lR (nI) (nO))) hc.out rfl rfl rfl (by rw [(lR_length (nI) (nO)), lZ_length]) (info_lR (nI) (nO)) (lR_one (nI) (nO))
  · exact st_obj (zs := lZ) (cs := (lR (u) (nI))) hc.out rfl rfl rfl (by rw [(lR_length (u) (nI)), lZ_length]) (info_lR (u) (nI)) (lR_one (u) (nI))
  simp only [Act.put, List.setIfInBounds_toArray, List.set_cons_succ, List.set_cons_zero]
  have z1 := b0.out.size
  have g1 : w.heap.size ≤ k1 := Nat.le_trans b0.out.size hk1
  have gj1 : w.heap.size ≤ j1 := Nat.le_trans b0.out.size hj1
  have s1 : Hid (Kn w1 [(k1, (lR (nI) (nO))), (j1, (lR (u) (nI))), (w.heap.size + 1 + 1, zz4), (w.heap.size + 1, (c4 (u))), (w.heap.size, (c4 (n)))]) := s0.out.two hb1.out hk1 hj1 hn1.out hc1.out hd1.out
  have b1 : Hid (Below w.heap.size w w1) := b0.out.trans (hb1.out.mono b0.out.size)
  clear s0 b0 hb1 hc1 hd1 hk1 hj1
  go_wp2_with fail
  go_loopw [7] (fun i wr => ∃ (k : Nat) (qx qy rx ry : Nm), k ≤ 256 ∧ i = .int .i64 ((k : Int) - 1) ∧ Hid (TI k qx qy rx ry) ∧ Hid (Kn wr [(k1, lR qx qy), (j1, lR rx ry), (w.heap.size + 1 + 1, zz4), (w.heap.size + 1, c4 u), (w.heap.size, c4 n)]) ∧ Hid (Below w.heap.size w wr)) (fun i _ => ((intOf i) + 1).toNat)
  case atStart => exact ⟨256, _, _, _, _, Nat.le_refl _, by first | rfl | go_num, H0, s1, b1⟩
  case round =>
    clear s1 b1 H0
    obtain ⟨k, qx, qy, rx, ry, hk, rfl, HI, s1, b1⟩ := hrel
    cases k with
    | succ j =>
      rw [show (((j + 1 : Nat) : Int) - 1) = (j : Int) by omega]
      have j0 : (j : Int) ≥ 0 := by omega
      have wk : IntKind.i64.wrap ((j : Int) - 1) = (j : Int) - 1 := by rw [IntKind.wrap_i64]; omega
      have K1 : Hid (j < 256) := hk
      obtain ⟨mx, my, dx, dy, jx, jy, ax, ay, ex, ey, b, R⟩ := HS.out j qx qy rx ry hk HI.out
      have T1 := R.fq
      have T2 := R.fm
      have T3 := R.fd
      have T4 := R.fj
      have T5 := R.fa
      have T6 := R.fe
      have NX : Hid _ := R.ft
      clear R HS HE hk HI
      have un_0 : wr.cell? ⟨w.heap.size, 0, none⟩ = some (.int .u64 (n).a) := Kn.get s1.out 4 0 rfl rfl
      have un_1 : wr.cell? ⟨w.heap.size, 1, none⟩ = some (.int .u64 (n).b) := Kn.get s1.out 4 1 rfl rfl
      have un_2 : wr.cell? ⟨w.heap.size, 2, none⟩ = some (.int .u64 (n).c) := Kn.get s1.out 4 2 rfl rfl
      have un_3 : wr.cell? ⟨w.heap.size, 3, none⟩ = some (.int .u64 (n).d) := Kn.get s1.out 4 3 rfl rfl
      go_wp2_with fail
      clear un_0 un_1 un_2 un_3
      refine (T1 _).mono ?_
      rintro e w2 ⟨rfl, hb2⟩
      have s2 : Hid (Kn w2 [(k1, (lR (qx) (qy))), (j1, (lR (rx) (ry))), (w.heap.size + 1 + 1, zz4), (w.heap.size + 1, (c4 (u))), (w.heap.size, (c4 (n)))]) := s1.out.up hb2
      have b2 : Hid (Below w.heap.size w w2) := b1.out.trans (hb2.mono b1.out.size)
      have z2 := b2.out.size
      clear hb2 s1 b1
      go_wp2_with fail
      refine wp_region_vars2 9 (.cells #[Value.int IntKind.u64 0, Value.int IntKind.u64 0, Value.int IntKind.u64 0, Value.int IntKind.u64 0, Value.int IntKind.u64 0, Value.int IntKind.u64 0, Value.int IntKind.u64 0, Value.int IntKind.u64 0] 62) (.cells #[Value.int IntKind.u64 0, Value.int IntKind.u64 0, Value.int IntKind.u64 0, Value.int IntKind.u64 0, Value.int IntKind.u64 0, Value.int IntKind.u64 0, Value.int IntKind.u64 0, Value.int IntKind.u64 0] 62) (.cells (lR (dx) (dy)).toArray 62) (.cells (lR (jx) (jy)).toArray 62) (by kernel_rfl) (by kernel_rfl) (by kernel_rfl) (by kernel_rfl) rfl rfl rfl rfl (by decide) rfl rfl (fun _ _ => by kernel_rfl) (fun _ _ => by kernel_rfl) ?_
      apply Exists.intro
      refine ⟨fun U hU f hf hcl => ?_, fun k j W hc => ?_, fun k j W hc => ?_, fun k3 j3 w3 hb3 hk3 hj3 hn3 hc3 hd3 => ?_⟩
      · skip
        have uu_0 := fun nx => (Kn.get (s2.out.up (hf nx).out) 3 0 rfl rfl : (f nx).cell? ⟨w.heap.size + 1, 0, none⟩ = some (.int .u64 (u).a))
        have uu_1 := fun nx => (Kn.get (s2.out.up (hf nx).out) 3 1 rfl rfl : (f nx).cell? ⟨w.heap.size + 1, 1, none⟩ = some (.int .u64 (u).b))
        have uu_2 := fun nx => (Kn.get (s2.out.up (hf nx).out) 3 2 rfl rfl : (f nx).cell? ⟨w.heap.size + 1, 2, none⟩ = some (.int .u64 (u).c))
        have uu_3 := fun nx => (Kn.get (s2.out.up (hf nx).out) 3 3 rfl rfl : (f nx).cell? ⟨w.heap.size + 1, 3, none⟩ = some (.int .u64 (u).d))
        have ra_q_0 := fun nx => (Kn.rng (s2.out.up (hf nx).out) 0 rfl : (f nx).rangeAt k1 0 (lR (qx) (qy)))
        have ra_q_1 := fun nx => (Kn.lng0 (s2.out.up (hf nx).out) 0 rfl : (f nx).rangeAt k1 0 [Value.int IntKind.u64 qx.a, Value.int IntKind.u64 qx.b, Value.int IntKind.u64 qx.c, Value.int IntKind.u64 qx.d])
        have ra_q_2 := fun nx => (Kn.lng1 (s2.out.up (hf nx).out) 0 rfl : (f nx).rangeAt k1 4 [Value.int IntKind.u64 qy.a, Value.int IntKind.u64 qy.b, Value.int IntKind.u64 qy.c, Value.int IntKind.u64 qy.d])
        have ra_r_0 := fun nx => (Kn.rng (s2.out.up (hf nx).out) 1 rfl : (f nx).rangeAt j1 0 (lR (rx) (ry)))
        have ra_r_1 := fun nx => (Kn.lng0 (s2.out.up (hf nx).out) 1 rfl : (f nx).rangeAt j1 0 [Value.int IntKind.u64 rx.a, Value.int IntKind.u64 rx.b, Value.int IntKind.u64 rx.c, Value.int IntKind.u64 rx.d])
        have ra_r_2 := fun nx => (Kn.lng1 (s2.out.up (hf nx).out) 1 rfl : (f nx).rangeAt j1 4 [Value.int IntKind.u64 ry.a, Value.int IntKind.u64 ry.b, Value.int IntKind.u64 ry.c, Value.int IntKind.u64 ry.d])
        clear hf
        simp only [List.take_succ_cons, List.take_zero]
        repeat (first | (refine I.quiet_load rfl 62 _ rfl k1 0 rfl (lR (qx) (qy)) _ (fun W hW => by obtain ⟨nx, rfl⟩ := hW; exact ra_q_0 nx) Try.underlying62 rfl (info_lR (qx) (qy)) ?_; simp only [Act.put, List.setIfInBounds_toArray, List.set_cons_succ, List.set_cons_zero]) | (refine I.quiet_load rfl 28 _ rfl k1 0 rfl [Value.int IntKind.u64 qx.a, Value.int IntKind.u64 qx.b, Value.int IntKind.u64 qx.c, Value.int IntKind.u64 qx.d] _ (fun W hW => by obtain ⟨nx, rfl⟩ := hW; exact ra_q_1 nx) Try.underlying28 rfl (info_c4 (qx)) ?_; simp only [Act.put, List.setIfInBounds_toArray, List.set_cons_succ, List.set_cons_zero]) | (refine I.quiet_load rfl 28 _ rfl k1 4 rfl [Value.int IntKind.u64 qy.a, Value.int IntKind.u64 qy.b, Value.int IntKind.u64 qy.c, Value.int IntKind.u64 qy.d] _ (fun W hW => by obtain ⟨nx, rfl⟩ := hW; exact ra_q_2 nx) Try.underlying28 rfl (info_c4 (qy)) ?_; simp only [Act.put, List.setIfInBounds_toArray, List.set_cons_succ, List.set_cons_zero]) | (refine I.quiet_load rfl 62 _ rfl j1 0 rfl (lR (rx) (ry)) _ (fun W hW => by obtain ⟨nx, rfl⟩ := hW; exact ra_r_0 nx) Try.underlying62 rfl (info_lR (rx) (ry)) ?_; simp only [Act.put, List.setIfInBounds_toArray, List.set_cons_succ, List.set_cons_zero]) | (refine I.quiet_load rfl 28 _ rfl j1 0 rfl [Value.int IntKind.u64 rx.a, Value.int IntKind.u64 rx.b, Value.int IntKind.u64 rx.c, Value.int IntKind.u64 rx.d] _ (fun W hW => by obtain ⟨nx, rfl⟩ := hW; exact ra_r_1 nx) Try.underlying28 rfl (info_c4 (rx)) ?_; simp only [Act.put, List.setIfInBounds_toArray, List.set_cons_succ, List.set_cons_zero]) | (refine I.quiet_load rfl 28 _ rfl j1 4 rfl [Value.int IntKind.u64 ry.a, Value.int IntKind.u64 ry.b, Value.int IntKind.u64 ry.c, Value.int IntKind.u64 ry.d] _ (fun W hW => by obtain ⟨nx, rfl⟩ := hW; exact ra_r_2 nx) Try.underlying28 rfl (info_c4 (ry)) ?_; simp only [Act.put, List.setIfInBounds_toArray, List.set_cons_succ, List.set_cons_zero]) | go_big_quiet_step (first | (go_at_call 45; exact (T2 _).mono fun e w'' ⟨he, hb⟩ => ⟨he, hcl.out _ _ hb⟩) | (go_at_call 44; exact (T3 _).mono fun e w'' ⟨he, hb⟩ => ⟨he, hcl.out _ _ hb⟩) | (go_at_call 46; exact (T4 _).mono fun e w'' ⟨he, hb⟩ => ⟨he, hcl.out _ _ hb⟩)))
        exact wpQuiet_nil rfl
      · exact st_obj (zs := lZ) (cs := (lR (dx) (dy))) hc.out rfl rfl rfl (by rw [(lR_length (dx) (dy)), lZ_length]) (info_lR (dx) (dy)) (lR_one (dx) (dy))
      · exact st_obj (zs := lZ) (cs := (lR (jx) (jy))) hc.out rfl rfl rfl (by rw [(lR_length (jx) (jy)), lZ_length]) (info_lR (jx) (jy)) (lR_one (jx) (jy))
      simp only [Act.put, List.setIfInBounds_toArray, List.set_cons_succ, List.set_cons_zero]
      have z3 := b2.out.size
      have g3 : w.heap.size ≤ k3 := Nat.le_trans b2.out.size hk3
      have gj3 : w.heap.size ≤ j3 := Nat.le_trans b2.out.size hj3
      have s3 : Hid (Kn w3 [(k3, (lR (dx) (dy))), (j3, (lR (jx) (jy))), (k1, (lR (qx) (qy))), (j1, (lR (rx) (ry))), (w.heap.size + 1 + 1, zz4), (w.heap.size + 1, (c4 (u))), (w.heap.size, (c4 (n)))]) := s2.out.two hb3.out hk3 hj3 hn3.out hc3.out hd3.out
      have b3 : Hid (Below w.heap.size w w3) := b2.out.trans (hb3.out.mono b2.out.size)
      clear s2 b2 hb3 hc3 hd3 hk3 hj3
      go_wp2_with fail
      refine wp_region_up_then2 8 (by kernel_rfl) (by kernel_rfl) (by kernel_rfl) (by kernel_rfl) (by decide) (fun _ _ d _ _ h => by cases d <;> exact h) (fun U hU f hf hcl => ?_)
      have ra_d_0 := fun nx => (Kn.rng (s3.out.up (hf nx).out) 0 rfl : (f nx).rangeAt k3 0 (lR (dx) (dy)))
      have ra_d_1 := fun nx => (Kn.lng0 (s3.out.up (hf nx).out) 0 rfl : (f nx).rangeAt k3 0 [Value.int IntKind.u64 dx.a, Value.int IntKind.u64 dx.b, Value.int IntKind.u64 dx.c, Value.int IntKind.u64 dx.d])
      have ra_d_2 := fun nx => (Kn.lng1 (s3.out.up (hf nx).out) 0 rfl : (f nx).rangeAt k3 4 [Value.int IntKind.u64 dy.a, Value.int IntKind.u64 dy.b, Value.int IntKind.u64 dy.c, Value.int IntKind.u64 dy.d])
      have ra_c_0 := fun nx => (Kn.rng (s3.out.up (hf nx).out) 1 rfl : (f nx).rangeAt j3 0 (lR (jx) (jy)))
      have ra_c_1 := fun nx => (Kn.lng0 (s3.out.up (hf nx).out) 1 rfl : (f nx).rangeAt j3 0 [Value.int IntKind.u64 jx.a, Value.int IntKind.u64 jx.b, Value.int IntKind.u64 jx.c, Value.int IntKind.u64 jx.d])
      have ra_c_2 := fun nx => (Kn.lng1 (s3.out.up (hf nx).out) 1 rfl : (f nx).rangeAt j3 4 [Value.int IntKind.u64 jy.a, Value.int IntKind.u64 jy.b, Value.int IntKind.u64 jy.c, Value.int IntKind.u64 jy.d])
      simp only [List.take_succ_cons, List.take_zero, List.drop_succ_cons, List.drop_zero]
      repeat (first | (refine I.quiet_load rfl 62 _ rfl k3 0 rfl (lR (dx) (dy)) _ (fun W hW => by obtain ⟨nx, rfl⟩ := hW; exact ra_d_0 nx) Try.underlying62 rfl (info_lR (dx) (dy)) ?_; simp only [Act.put, List.setIfInBounds_toArray, List.set_cons_succ, List.set_cons_zero]) | (refine I.quiet_load rfl 28 _ rfl k3 0 rfl [Value.int IntKind.u64 dx.a, Value.int IntKind.u64 dx.b, Value.int IntKind.u64 dx.c, Value.int IntKind.u64 dx.d] _ (fun W hW => by obtain ⟨nx, rfl⟩ := hW; exact ra_d_1 nx) Try.underlying28 rfl (info_c4 (dx)) ?_; simp only [Act.put, List.setIfInBounds_toArray, List.set_cons_succ, List.set_cons_zero]) | (refine I.quiet_load rfl 28 _ rfl k3 4 rfl [Value.int IntKind.u64 dy.a, Value.int IntKind.u64 dy.b, Value.int IntKind.u64 dy.c, Value.int IntKind.u64 dy.d] _ (fun W hW => by obtain ⟨nx, rfl⟩ := hW; exact ra_d_2 nx) Try.underlying28 rfl (info_c4 (dy)) ?_; simp only [Act.put, List.setIfInBounds_toArray, List.set_cons_succ, List.set_cons_zero]) | (refine I.quiet_load rfl 62 _ rfl j3 0 rfl (lR (jx) (jy)) _ (fun W hW => by obtain ⟨nx, rfl⟩ := hW; exact ra_c_0 nx) Try.underlying62 rfl (info_lR (jx) (jy)) ?_; simp only [Act.put, List.setIfInBounds_toArray, List.set_cons_succ, List.set_cons_zero]) | (refine I.quiet_load rfl 28 _ rfl j3 0 rfl [Value.int IntKind.u64 jx.a, Value.int IntKind.u64 jx.b, Value.int IntKind.u64 jx.c, Value.int IntKind.u64 jx.d] _ (fun W hW => by obtain ⟨nx, rfl⟩ := hW; exact ra_c_1 nx) Try.underlying28 rfl (info_c4 (jx)) ?_; simp only [Act.put, List.setIfInBounds_toArray, List.set_cons_succ, List.set_cons_zero]) | (refine I.quiet_load rfl 28 _ rfl j3 4 rfl [Value.int IntKind.u64 jy.a, Value.int IntKind.u64 jy.b, Value.int IntKind.u64 jy.c, Value.int IntKind.u64 jy.d] _ (fun W hW => by obtain ⟨nx, rfl⟩ := hW; exact ra_c_2 nx) Try.underlying28 rfl (info_c4 (jy)) ?_; simp only [Act.put, List.setIfInBounds_toArray, List.set_cons_succ, List.set_cons_zero]) | go_big_quiet_step (first | (go_at_call_of 45 [Value.int IntKind.u64 b, Value.agg (lR (dx) (dy)).toArray, Value.agg (lR (jx) (jy)).toArray]; exact (T5 _).mono fun e w'' ⟨he, hb⟩ => ⟨he, hcl.out _ _ hb⟩) | (go_at_call_of 45 [Value.int IntKind.u64 b, Value.agg (lR (jx) (jy)).toArray, Value.agg (lR (dx) (dy)).toArray]; exact (T6 _).mono fun e w'' ⟨he, hb⟩ => ⟨he, hcl.out _ _ hb⟩)))
      refine wpQuiet_nil ?_
      intro nx
      have hb4 := (hf nx).out
      clear hf hcl
      generalize f nx = w4 at hb4 ⊢
      have s4 : Hid (Kn w4 [(k3, (lR (dx) (dy))), (j3, (lR (jx) (jy))), (k1, (lR (qx) (qy))), (j1, (lR (rx) (ry))), (w.heap.size + 1 + 1, zz4), (w.heap.size + 1, (c4 (u))), (w.heap.size, (c4 (n)))]) := s3.out.up hb4
      have b4 : Hid (Below w.heap.size w w4) := b3.out.trans (hb4.mono b3.out.size)
      have z4 := b4.out.size
      clear hb4 s3 b3
      have s5x : Hid (Kn w4 [(k1, (lR (qx) (qy))), (k3, (lR (dx) (dy))), (j3, (lR (jx) (jy))), (j1, (lR (rx) (ry))), (w.heap.size + 1 + 1, zz4), (w.heap.size + 1, (c4 (u))), (w.heap.size, (c4 (n)))]) := s4.out.front 2 rfl
      have b5x : Hid (Below w.heap.size w w4) := b4.out
      have TT5 : Hid (w4.there k1 0 (lR (ax) (ay)).length) := Kn.there s5x.out 0 rfl (by rw [(lR_length (ax) (ay)), (lR_length (qx) (qy))])
      go_wp2_with (first | refine I.wp_store_eq rfl 62 _ _ rfl k1 0 (lR (ax) (ay)) rfl rfl TT5.out (info_lR (ax) (ay)) (lR_one (ax) (ay)) ?_)
      intro w5 hw5
      try simp only [Act.put, List.setIfInBounds_toArray, List.set_cons_succ, List.set_cons_zero]
      have s5 : Hid (Kn w5 [(k1, (lR (ax) (ay))), (k3, (lR (dx) (dy))), (j3, (lR (jx) (jy))), (j1, (lR (rx) (ry))), (w.heap.size + 1 + 1, zz4), (w.heap.size + 1, (c4 (u))), (w.heap.size, (c4 (n)))]) := by rw [hw5.out]; exact Kn.put s5x.out (by rw [(lR_length (ax) (ay)), (lR_length (qx) (qy))])
      have b5 : Hid (Below w.heap.size w w5) := by rw [hw5.out]; exact I.below_setCells _ _ _ b5x.out (by omega)
      have z5 := b5.out.size
      clear hw5 s5x b5x TT5 s4 b4
      have s6x : Hid (Kn w5 [(j1, (lR (rx) (ry))), (k1, (lR (ax) (ay))), (k3, (lR (dx) (dy))), (j3, (lR (jx) (jy))), (w.heap.size + 1 + 1, zz4), (w.heap.size + 1, (c4 (u))), (w.heap.size, (c4 (n)))]) := s5.out.front 3 rfl
      have b6x : Hid (Below w.heap.size w w5) := b5.out
      have TT6 : Hid (w5.there j1 0 (lR (ex) (ey)).length) := Kn.there s6x.out 0 rfl (by rw [(lR_length (ex) (ey)), (lR_length (rx) (ry))])
      go_wp2_with (first | refine I.wp_store_eq rfl 62 _ _ rfl j1 0 (lR (ex) (ey)) rfl rfl TT6.out (info_lR (ex) (ey)) (lR_one (ex) (ey)) ?_)
      intro w6 hw6
      try simp only [Act.put, List.setIfInBounds_toArray, List.set_cons_succ, List.set_cons_zero]
      have s6 : Hid (Kn w6 [(j1, (lR (ex) (ey))), (k1, (lR (ax) (ay))), (k3, (lR (dx) (dy))), (j3, (lR (jx) (jy))), (w.heap.size + 1 + 1, zz4), (w.heap.size + 1, (c4 (u))), (w.heap.size, (c4 (n)))]) := by rw [hw6.out]; exact Kn.put s6x.out (by rw [(lR_length (ex) (ey)), (lR_length (rx) (ry))])
      have b6 : Hid (Below w.heap.size w w6) := by rw [hw6.out]; exact I.below_setCells _ _ _ b6x.out (by omega)
      have z6 := b6.out.size
      clear hw6 s6x b6x TT6 s5 b5
      replace s6 : Hid (Kn w6 [(j1, (lR (ex) (ey))), (k1, (lR (ax) (ay))), (j3, (lR (jx) (jy))), (w.heap.size + 1 + 1, zz4), (w.heap.size + 1, (c4 (u))), (w.heap.size, (c4 (n)))]) := s6.out.drop 2
      replace s6 : Hid (Kn w6 [(j1, (lR (ex) (ey))), (k1, (lR (ax) (ay))), (w.heap.size + 1 + 1, zz4), (w.heap.size + 1, (c4 (u))), (w.heap.size, (c4 (n)))]) := s6.out.drop 2
      replace s6 : Hid (Kn w6 [(w.heap.size, (c4 (n))), (j1, (lR (ex) (ey))), (k1, (lR (ax) (ay))), (w.heap.size + 1 + 1, zz4), (w.heap.size + 1, (c4 (u)))]) := s6.out.front 4 rfl
      replace s6 : Hid (Kn w6 [(w.heap.size + 1, (c4 (u))), (w.heap.size, (c4 (n))), (j1, (lR (ex) (ey))), (k1, (lR (ax) (ay))), (w.heap.size + 1 + 1, zz4)]) := s6.out.front 4 rfl
      replace s6 : Hid (Kn w6 [(w.heap.size + 1 + 1, zz4), (w.heap.size + 1, (c4 (u))), (w.heap.size, (c4 (n))), (j1, (lR (ex) (ey))), (k1, (lR (ax) (ay)))]) := s6.out.front 4 rfl
      replace s6 : Hid (Kn w6 [(j1, (lR (ex) (ey))), (w.heap.size + 1 + 1, zz4), (w.heap.size + 1, (c4 (u))), (w.heap.size, (c4 (n))), (k1, (lR (ax) (ay)))]) := s6.out.front 3 rfl
      replace s6 : Hid (Kn w6 [(k1, (lR (ax) (ay))), (j1, (lR (ex) (ey))), (w.heap.size + 1 + 1, zz4), (w.heap.size + 1, (c4 (u))), (w.heap.size, (c4 (n)))]) := s6.out.front 4 rfl
      go_wp2_with fail
      go_roundw
      case rel => exact ⟨j, ax, ay, ex, ey, Nat.le_of_lt K1.out, by first | rfl | go_num, NX, s6, b6⟩
      case measure => simp [intOf]
    | zero =>
      obtain ⟨ia, T1, T2⟩ := HE.out _ _ _ _ HI.out
      clear HS HE HI hk
      have j0 : ¬ ((((0 : Nat) : Int)) - 1 ≥ 0) := by omega
      go_wp2_with fail
      refine wp_region_up_then 6 (by kernel_rfl) (by kernel_rfl) (by kernel_rfl) (by kernel_rfl) (by decide) (fun _ _ d _ _ h => by cases d <;> exact h) (fun U hU f hf hcl => ?_)
      have ra_q_0 := fun nx => (Kn.rng (s1.out.up (hf nx).out) 0 rfl : (f nx).rangeAt k1 0 (lR (qx) (qy)))
      have ra_q_1 := fun nx => (Kn.lng0 (s1.out.up (hf nx).out) 0 rfl : (f nx).rangeAt k1 0 [Value.int IntKind.u64 qx.a, Value.int IntKind.u64 qx.b, Value.int IntKind.u64 qx.c, Value.int IntKind.u64 qx.d])
      have ra_q_2 := fun nx => (Kn.lng1 (s1.out.up (hf nx).out) 0 rfl : (f nx).rangeAt k1 4 [Value.int IntKind.u64 qy.a, Value.int IntKind.u64 qy.b, Value.int IntKind.u64 qy.c, Value.int IntKind.u64 qy.d])
      simp only [List.take_succ_cons, List.take_zero, List.drop_succ_cons, List.drop_zero]
      repeat (first | (refine I.quiet_load rfl 62 _ rfl k1 0 rfl (lR (qx) (qy)) _ (fun W hW => by obtain ⟨nx, rfl⟩ := hW; exact ra_q_0 nx) Try.underlying62 rfl (info_lR (qx) (qy)) ?_; simp only [Act.put, List.setIfInBounds_toArray, List.set_cons_succ, List.set_cons_zero]) | (refine I.quiet_load rfl 28 _ rfl k1 0 rfl [Value.int IntKind.u64 qx.a, Value.int IntKind.u64 qx.b, Value.int IntKind.u64 qx.c, Value.int IntKind.u64 qx.d] _ (fun W hW => by obtain ⟨nx, rfl⟩ := hW; exact ra_q_1 nx) Try.underlying28 rfl (info_c4 (qx)) ?_; simp only [Act.put, List.setIfInBounds_toArray, List.set_cons_succ, List.set_cons_zero]) | (refine I.quiet_load rfl 28 _ rfl k1 4 rfl [Value.int IntKind.u64 qy.a, Value.int IntKind.u64 qy.b, Value.int IntKind.u64 qy.c, Value.int IntKind.u64 qy.d] _ (fun W hW => by obtain ⟨nx, rfl⟩ := hW; exact ra_q_2 nx) Try.underlying28 rfl (info_c4 (qy)) ?_; simp only [Act.put, List.setIfInBounds_toArray, List.set_cons_succ, List.set_cons_zero]) | go_big_quiet_step (first | (go_at_call 47; exact (T1 _).mono fun e w'' ⟨he, hb⟩ => ⟨he, hcl.out _ _ hb⟩) | (go_at_call 34; exact (T2 _).mono fun e w'' ⟨he, hb⟩ => ⟨he, hcl.out _ _ hb⟩)))
      refine wpQuiet_nil ?_
      intro nx
      have hb2 := (hf nx).out
      clear hf hcl
      generalize f nx = w2 at hb2 ⊢
      have s2 : Hid (Kn w2 [(k1, (lR (qx) (qy))), (j1, (lR (rx) (ry))), (w.heap.size + 1 + 1, zz4), (w.heap.size + 1, (c4 (u))), (w.heap.size, (c4 (n)))]) := s1.out.up hb2
      have b2 : Hid (Below w.heap.size w w2) := b1.out.trans (hb2.mono b1.out.size)
      have z2 := b2.out.size
      clear hb2 s1 b1
      have uoo_0 : w2.cell? ⟨w.heap.size + 1 + 1, 0, none⟩ = some (.int .u64 0) := Kn.get s2.out 2 0 rfl rfl
      have uoo_1 : w2.cell? ⟨w.heap.size + 1 + 1, 1, none⟩ = some (.int .u64 0) := Kn.get s2.out 2 1 rfl rfl
      have uoo_2 : w2.cell? ⟨w.heap.size + 1 + 1, 2, none⟩ = some (.int .u64 0) := Kn.get s2.out 2 2 rfl rfl
      have uoo_3 : w2.cell? ⟨w.heap.size + 1 + 1, 3, none⟩ = some (.int .u64 0) := Kn.get s2.out 2 3 rfl rfl
      have uoo_z : ∀ j, w2.frozen? ⟨w.heap.size + 1 + 1, j, none⟩ = false := Kn.fz s2.out 2 rfl
      have s3 : Hid (Kn (st4 w2 (w.heap.size + 1 + 1) (oa)) [(w.heap.size + 1 + 1, (c4 (oa))), (k1, (lR (qx) (qy))), (j1, (lR (rx) (ry))), (w.heap.size + 1, (c4 (u))), (w.heap.size, (c4 (n)))]) := Kn.st4 (L := [(k1, (lR (qx) (qy))), (j1, (lR (rx) (ry))), (w.heap.size + 1, (c4 (u))), (w.heap.size, (c4 (n)))]) (s2.out.front 2 rfl) (oa)
      have b3 : Hid (Below w.heap.size w (st4 w2 (w.heap.size + 1 + 1) (oa))) := below_st4 b2.out (by omega)
      clear s2 b2
      go_wp2_with fail
      clear uoo_0 uoo_1 uoo_2 uoo_3 uoo_z
      have uor_0 : (st4 w2 (w.heap.size + 1 + 1) (oa)).cell? ⟨w.heap.size + 1 + 1, 0, none⟩ = some (.int .u64 (oa).a) := Kn.get s3.out 0 0 rfl rfl
      have uor_1 : (st4 w2 (w.heap.size + 1 + 1) (oa)).cell? ⟨w.heap.size + 1 + 1, 1, none⟩ = some (.int .u64 (oa).b) := Kn.get s3.out 0 1 rfl rfl
      have uor_2 : (st4 w2 (w.heap.size + 1 + 1) (oa)).cell? ⟨w.heap.size + 1 + 1, 2, none⟩ = some (.int .u64 (oa).c) := Kn.get s3.out 0 2 rfl rfl
      have uor_3 : (st4 w2 (w.heap.size + 1 + 1) (oa)).cell? ⟨w.heap.size + 1 + 1, 3, none⟩ = some (.int .u64 (oa).d) := Kn.get s3.out 0 3 rfl rfl
      refine bodyPost_ret (v := N oa) ?_ rfl ⟨rfl, b3.out⟩
      show (results Try.f22 _).run Try.prog (st4 w2 (w.heap.size + 1 + 1) (oa)) = .ok _ (st4 w2 (w.heap.size + 1 + 1) (oa))
      clear s3 b3
      generalize (st4 w2 (w.heap.size + 1 + 1) (oa)) = W9 at *
      simp [results, Try.results22, go_sem, uor_0, uor_1, uor_2, uor_3]
end Go.Proofs.Ytpnfopakkaoibaa

/- Package ladder, as it landed: its contracts. -/
namespace Go.Proofs.Ytpnfopakkaoibaa
open Go.RowKit
set_option linter.unusedSimpArgs false
abbrev l256 : Nat := 2 ^ 256
theorem wMul {a b : Nat} (ha : a < l256) (hb : b < l256) (w : World) : Calls Try.prog 34 #[N (nm a), N (nm b)] w fun e w' => e = .returned (N (nm (F.mul a b))) ∧ Below w.heap.size w w' := by
  have := fMulC (nm a) (nm b) (nm_ok _) (nm_ok _) w
  rwa [nm_nat ha, nm_nat hb] at this
theorem wAdd {a b : Nat} (ha : a < l256) (hb : b < l256) (w : World) : Calls Try.prog 36 #[N (nm a), N (nm b)] w fun e w' => e = .returned (N (nm (F.add a b))) ∧ Below w.heap.size w w' := by
  have := fAddC (nm a) (nm b) (nm_ok _) (nm_ok _) w
  rwa [nm_nat ha, nm_nat hb] at this
theorem wSub {a b : Nat} (ha : a < l256) (hb : b < l256) (w : World) : Calls Try.prog 35 #[N (nm a), N (nm b)] w fun e w' => e = .returned (N (nm (F.sub a b))) ∧ Below w.heap.size w w' := by
  have := fSubC (nm a) (nm b) (nm_ok _) (nm_ok _) w
  rwa [nm_nat ha, nm_nat hb] at this
theorem wInv {a : Nat} (ha : a < l256) (w : World) : Calls Try.prog 47 #[N (nm a)] w fun e w' => e = .returned (N (nm (F.inv a))) ∧ Below w.heap.size w w' := by
  have := fInvC (nm a) (nm_ok _) w
  rwa [nm_nat ha] at this
theorem wSq {a : Nat} (ha : a < l256) (w : World) : Calls Try.prog 71 #[N (nm a)] w fun e w' => e = .returned (N (nm (F.mul a a))) ∧ Below w.heap.size w w' := lsq_walk _ _ (wMul ha ha) w
/-- A pair as Go has it. -/
abbrev lv (t : Nat × Nat) : Value := lV (nm t.1) (nm t.2)
abbrev llt (t : Nat × Nat) : Prop := t.1 < l256 ∧ t.2 < l256
theorem wm (a b : Nat) : F.mul a b < l256 := Nat.lt_trans (F.mul_lt a b) F.p_lt
theorem wa (a b : Nat) : F.add a b < l256 := Nat.lt_trans (F.add_lt a b) F.p_lt
theorem ws (a b : Nat) : F.sub a b < l256 := Nat.lt_trans (F.sub_lt a b) F.p_lt
theorem tw_llt (t : Nat × Nat) : llt (Cv.tw t) := ⟨wm _ _, wm _ _⟩
theorem jn_llt (u : Nat) (q r : Nat × Nat) : llt (Cv.jn u q r) := ⟨wm _ _, wm _ _⟩
theorem ltw_fun {t : Nat × Nat} (h : llt t) (w : World) : Calls Try.prog 44 #[lv t] w fun e w' => e = .returned (lv (Cv.tw t)) ∧ Below w.heap.size w w' := by
  have M2 : ∀ e, e < l256 → ∀ w, Calls Try.prog 34 #[N nS, N (nm e)] w fun e' w' => e' = .returned (N (nm (F.mul 121665 e))) ∧ Below w.heap.size w w' := fun e he => by
    rw [nS_nm]
    exact wMul (by decide) he
  exact ltw_walk _ _ _ _ _ _ _ _ _ _ _ (wAdd h.1 h.2) (wSq (wa _ _)) (wSub h.1 h.2) (wSq (ws _ _)) (wSub (wm _ _) (wm _ _)) (wMul (wm _ _) (wm _ _)) (M2 _ (ws _ _)) (wAdd (wm _ _) (wm _ _)) (wMul (ws _ _) (wa _ _)) w
theorem ljn_fun {u : Nat} (hu : u < l256) {q r : Nat × Nat} (hq : llt q) (hr : llt r) (w : World) : Calls Try.prog 46 #[lv q, lv r, N (nm u)] w fun e w' => e = .returned (lv (Cv.jn u q r)) ∧ Below w.heap.size w w' :=
  ljn_walk _ _ _ _ _ _ _ _ _ _ _ _ _ _ _ _ (wAdd hr.1 hr.2) (wSub hq.1 hq.2) (wMul (wa _ _) (ws _ _)) (wSub hr.1 hr.2) (wAdd hq.1 hq.2) (wMul (ws _ _) (wa _ _)) (wAdd (wm _ _) (wm _ _)) (wSq (wa _ _)) (wSub (wm _ _) (wm _ _)) (wSq (ws _ _)) (wMul hu (wm _ _)) w
theorem lpick_fun (c : Nat) (hc : c < 2) (s t : Nat × Nat) (w : World) : Calls Try.prog 45 #[.int .u64 (c : Int), lv s, lv t] w fun e w' => e = .returned (lv (if c = 0 then s else t)) ∧ Below w.heap.size w w' := by
  have pf : ∀ (a b : Nat) (w : World), Calls Try.prog 72 #[.int .u64 (c : Int), N (nm a), N (nm b)] w fun e w' => e = .returned (N (nm (if c = 0 then a else b))) ∧ Below w.heap.size w w' := fun a b w => by
    have := pick_fun (c : Int) (nm a) (nm b) ⟨by omega, by omega⟩ (nm_ok _) (nm_ok _) w
    unfold pick at this
    by_cases h : c = 0
    · rw [if_pos (by omega)] at this
      rw [if_pos h]
      exact this
    · rw [if_neg (by omega)] at this
      rw [if_neg h]
      exact this
  have := lpick_walk (c : Int) _ _ _ _ _ _ (pf s.1 t.1) (pf s.2 t.2) w
  by_cases h : c = 0
  · simp only [if_pos h] at this ⊢
    exact this
  · simp only [if_neg h] at this ⊢
    exact this
theorem tw_low (a b : Nat) : Cv.tw (a % F.p, b) = Cv.tw (a, b) := by
  simp only [Cv.tw, F.add_modl, F.sub_modl]
theorem jn_low (u : Nat) (q : Nat × Nat) (a b : Nat) : Cv.jn (u % F.p) q (a % F.p, b) = Cv.jn u q (a, b) := by
  simp only [Cv.jn, F.add_modl, F.sub_modl, F.mul_modl]
theorem jn_low0 (u : Nat) (q r : Nat × Nat) : Cv.jn (u % F.p) q r = Cv.jn u q r := by
  simp only [Cv.jn, F.mul_modl]
/-- Whether u is brought below P first is no matter. -/
theorem lst_low (u k : Nat) : ∀ i, Cv.lst (u % F.p) k (i + 1) = Cv.lst u k (i + 1)
  | 0 => by
    simp only [Cv.lst, tw_low, jn_low]
  | i + 1 => by
    have ih := lst_low u k i
    rw [Cv.lst, ih, Cv.lst.eq_def u k (i + 1 + 1)]
    simp only [jn_low0]
theorem lst_llt (u k : Nat) (hu : u < l256) : ∀ i, llt (Cv.lst u k i).1 ∧ llt (Cv.lst u k i).2
  | 0 => ⟨⟨(by decide : 1 < l256), (by decide : 0 < l256)⟩, hu, (by decide : 1 < l256)⟩
  | i + 1 => by
    rw [Cv.lst]
    split
    · exact ⟨tw_llt _, jn_llt _ _ _⟩
    · exact ⟨jn_llt _ _ _, tw_llt _⟩
theorem lLadC : LLadC := fun k u ok ou w => by
  have hu : u.nat < l256 := Nm.nat_lt ou
  have eu : u = nm u.nat := (Nm.eq_nm ou rfl)
  have key : Cv.lad k.nat u.nat = F.mul (Cv.lst u.nat k.nat 256).1.1 (F.inv (Cv.lst u.nat k.nat 256).1.2) := by
    unfold Cv.lad
    rw [lst_low u.nat k.nat 255]
  rw [key]
  refine lLad_walk k u _ (fun j qx qy rx ry => lV qx qy = lv (Cv.lst u.nat k.nat (256 - j)).1 ∧ lV rx ry = lv (Cv.lst u.nat k.nat (256 - j)).2 ∧ qx = nm (Cv.lst u.nat k.nat (256 - j)).1.1 ∧ qy = nm (Cv.lst u.nat k.nat (256 - j)).1.2) ?_ ?_ ?_ w
  · refine ⟨?_, ?_, ?_, ?_⟩
    · rw [nI_nm, nO_nm]; rfl
    · show lV u nI = lv (u.nat, 1)
      rw [nI_nm]
      show lV u (nm 1) = lV (nm u.nat) (nm 1)
      rw [← eu]
    · rw [nI_nm]; rfl
    · rw [nO_nm]; rfl
  · rintro j qx qy rx ry hj ⟨e1, e2, -, -⟩
    obtain ⟨l1, l2⟩ := lst_llt u.nat k.nat hu (256 - (j + 1))
    have hb := bit_fun k ok j hj
    rw [show k.val / 2 ^ j % 2 = ((k.nat / 2 ^ j % 2 : Nat) : Int) by rw [← Nm.nat_cast ok]; norm_cast] at hb
    have hc : k.nat / 2 ^ j % 2 < 2 := Nat.mod_lt _ (by decide)
    have P1 := lpick_fun _ hc (Cv.lst u.nat k.nat (256 - (j + 1))).1 (Cv.lst u.nat k.nat (256 - (j + 1))).2
    have hl : llt (if k.nat / 2 ^ j % 2 = 0 then (Cv.lst u.nat k.nat (256 - (j + 1))).1 else (Cv.lst u.nat k.nat (256 - (j + 1))).2) := by split <;> assumption
    have P2 := ltw_fun hl
    have P3 := ljn_fun hu l1 l2
    have P4 := lpick_fun _ hc (Cv.tw (if k.nat / 2 ^ j % 2 = 0 then (Cv.lst u.nat k.nat (256 - (j + 1))).1 else (Cv.lst u.nat k.nat (256 - (j + 1))).2)) (Cv.jn u.nat (Cv.lst u.nat k.nat (256 - (j + 1))).1 (Cv.lst u.nat k.nat (256 - (j + 1))).2)
    have P5 := lpick_fun _ hc (Cv.jn u.nat (Cv.lst u.nat k.nat (256 - (j + 1))).1 (Cv.lst u.nat k.nat (256 - (j + 1))).2) (Cv.tw (if k.nat / 2 ^ j % 2 = 0 then (Cv.lst u.nat k.nat (256 - (j + 1))).1 else (Cv.lst u.nat k.nat (256 - (j + 1))).2))
    rw [← e1, ← e2] at P1
    rw [← e1, ← e2, ← eu] at P3
    have st : Cv.lst u.nat k.nat (256 - j) = if k.nat / 2 ^ j % 2 = 0 then (Cv.tw (Cv.lst u.nat k.nat (256 - (j + 1))).1, Cv.jn u.nat (Cv.lst u.nat k.nat (256 - (j + 1))).1 (Cv.lst u.nat k.nat (256 - (j + 1))).2) else (Cv.jn u.nat (Cv.lst u.nat k.nat (256 - (j + 1))).1 (Cv.lst u.nat k.nat (256 - (j + 1))).2, Cv.tw (Cv.lst u.nat k.nat (256 - (j + 1))).2) := by
      conv => lhs; rw [show 256 - j = 256 - (j + 1) + 1 by omega, Cv.lst]
      rw [show 255 - (256 - (j + 1)) = j by omega]
    refine ⟨_, _, _, _, _, _, _, _, _, _, _, hb, P1, P2, P3, P4, P5, ?_⟩
    show lV _ _ = lv (Cv.lst u.nat k.nat (256 - j)).1 ∧ lV _ _ = lv (Cv.lst u.nat k.nat (256 - j)).2 ∧ _ = nm (Cv.lst u.nat k.nat (256 - j)).1.1 ∧ _ = nm (Cv.lst u.nat k.nat (256 - j)).1.2
    rw [st]
    by_cases h : k.nat / 2 ^ j % 2 = 0
    · simp only [if_pos h]
      exact ⟨trivial, trivial, trivial, trivial⟩
    · simp only [if_neg h]
      exact ⟨trivial, trivial, trivial, trivial⟩
  · rintro qx qy rx ry ⟨-, -, e1, e2⟩
    rw [Nat.sub_zero] at e1 e2
    obtain ⟨l1, -⟩ := lst_llt u.nat k.nat hu 256
    subst e1 e2
    exact ⟨_, wInv l1.2, wMul l1.1 (Nat.lt_trans (F.inv_lt _) F.p_lt)⟩
end Go.Proofs.Ytpnfopakkaoibaa
