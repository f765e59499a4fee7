/- SignTrue, SignPairs, SignOnly, out of what package sign must keep. -/
import Derived.Test.YtfknkfninjjgbaaDoorQCOwnToSgOnly
import Derived.Test.YtfknkfninjjgbaaDoorQUpV
import Derived.Test.YtfknkfninjjgbaaDoorQMulWToAdN
import Derived.Test.YtfknkfninjjgbaaDoorQCmp
namespace Go.Proofs.YtfknkfninjjgbaaDoor
open Go.RowKit
attribute [local go_sem] World.cell?_alloc_some cell_alloc2 cell_alloc3 cell_alloc4 frozen?_alloc_cells frozen_out
set_option linter.unusedSimpArgs false
set_option maxRecDepth 20000 in
set_option maxHeartbeats 1000000 in
theorem signs_walk (m a r s : Nat) (x : Nm) (ne : ∀ w, (binOp .neq 31 (sgV r s) (sgV 0 0)).run Tryd.prog w = .ok (.bool true) w)
    (NW : ∀ w, KTab w → Calls Tryd.prog 7 #[bV 0] w fun e w' => e = .returned (prV x m a) ∧ Below w.heap.size w w')
    (SG : ∀ w, KTab w → Calls Tryd.prog 8 #[bV 0, .slice none 0 0] w fun e w' => e = .returned (sgV r s) ∧ Below w.heap.size w w')
    (VR : ∀ u w, By w u (S.by r ++ S.by s) → KTab w → Calls Tryd.prog 9 #[bV a, .slice none 0 0, u] w fun e w' => e = .returned (.int .i64 0) ∧ Below w.heap.size w w')
    (w : World) (hK : KTab w) :
    Calls Tryd.prog 6 #[] w fun e w' => e = .returned (.bool true) ∧ Below w.heap.size w w' := by
  have HK : Hid (KTab w) := hK
  clear hK
  go_enter Tryd.func6, Tryd.ntmps6
  have s0 : Hid (Kn w []) := (Kn.nil w)
  have b0 : Hid (Below w.heap.size w w) := (Below.refl _ _)
  go_wp2_with (first | refine wp_buildZ rfl rfl b32_zero ?_)
  refine (SG _ (HK.out.up b0.out HK.out.pos)).mono ?_
  rintro e w1 ⟨rfl, hb1⟩
  have s1 : Hid (Kn w1 []) := s0.out.up hb1
  have b1 : Hid (Below w.heap.size w w1) := b0.out.trans (hb1.mono b0.out.size)
  have z1 := b1.out.size
  clear hb1 s0 b0
  have s2x : Hid (Kn (w1.alloc (.cells #[Value.int IntKind.u8 0, Value.int IntKind.u8 0, Value.int IntKind.u8 0, Value.int IntKind.u8 0, Value.int IntKind.u8 0, Value.int IntKind.u8 0, Value.int IntKind.u8 0, Value.int IntKind.u8 0, Value.int IntKind.u8 0, Value.int IntKind.u8 0, Value.int IntKind.u8 0, Value.int IntKind.u8 0, Value.int IntKind.u8 0, Value.int IntKind.u8 0, Value.int IntKind.u8 0, Value.int IntKind.u8 0, Value.int IntKind.u8 0, Value.int IntKind.u8 0, Value.int IntKind.u8 0, Value.int IntKind.u8 0, Value.int IntKind.u8 0, Value.int IntKind.u8 0, Value.int IntKind.u8 0, Value.int IntKind.u8 0, Value.int IntKind.u8 0, Value.int IntKind.u8 0, Value.int IntKind.u8 0, Value.int IntKind.u8 0, Value.int IntKind.u8 0, Value.int IntKind.u8 0, Value.int IntKind.u8 0, Value.int IntKind.u8 0, Value.int IntKind.u8 0, Value.int IntKind.u8 0, Value.int IntKind.u8 0, Value.int IntKind.u8 0, Value.int IntKind.u8 0, Value.int IntKind.u8 0, Value.int IntKind.u8 0, Value.int IntKind.u8 0, Value.int IntKind.u8 0, Value.int IntKind.u8 0, Value.int IntKind.u8 0, Value.int IntKind.u8 0, Value.int IntKind.u8 0, Value.int IntKind.u8 0, Value.int IntKind.u8 0, Value.int IntKind.u8 0, Value.int IntKind.u8 0, Value.int IntKind.u8 0, Value.int IntKind.u8 0, Value.int IntKind.u8 0, Value.int IntKind.u8 0, Value.int IntKind.u8 0, Value.int IntKind.u8 0, Value.int IntKind.u8 0, Value.int IntKind.u8 0, Value.int IntKind.u8 0, Value.int IntKind.u8 0, Value.int IntKind.u8 0, Value.int IntKind.u8 0, Value.int IntKind.u8 0, Value.int IntKind.u8 0, Value.int IntKind.u8 0] 31)) [(w1.heap.size, sgZ)]) := s1.out.al sgZ 31 rfl
  have b2x : Hid (Below w.heap.size w (w1.alloc (.cells #[Value.int IntKind.u8 0, Value.int IntKind.u8 0, Value.int IntKind.u8 0, Value.int IntKind.u8 0, Value.int IntKind.u8 0, Value.int IntKind.u8 0, Value.int IntKind.u8 0, Value.int IntKind.u8 0, Value.int IntKind.u8 0, Value.int IntKind.u8 0, Value.int IntKind.u8 0, Value.int IntKind.u8 0, Value.int IntKind.u8 0, Value.int IntKind.u8 0, Value.int IntKind.u8 0, Value.int IntKind.u8 0, Value.int IntKind.u8 0, Value.int IntKind.u8 0, Value.int IntKind.u8 0, Value.int IntKind.u8 0, Value.int IntKind.u8 0, Value.int IntKind.u8 0, Value.int IntKind.u8 0, Value.int IntKind.u8 0, Value.int IntKind.u8 0, Value.int IntKind.u8 0, Value.int IntKind.u8 0, Value.int IntKind.u8 0, Value.int IntKind.u8 0, Value.int IntKind.u8 0, Value.int IntKind.u8 0, Value.int IntKind.u8 0, Value.int IntKind.u8 0, Value.int IntKind.u8 0, Value.int IntKind.u8 0, Value.int IntKind.u8 0, Value.int IntKind.u8 0, Value.int IntKind.u8 0, Value.int IntKind.u8 0, Value.int IntKind.u8 0, Value.int IntKind.u8 0, Value.int IntKind.u8 0, Value.int IntKind.u8 0, Value.int IntKind.u8 0, Value.int IntKind.u8 0, Value.int IntKind.u8 0, Value.int IntKind.u8 0, Value.int IntKind.u8 0, Value.int IntKind.u8 0, Value.int IntKind.u8 0, Value.int IntKind.u8 0, Value.int IntKind.u8 0, Value.int IntKind.u8 0, Value.int IntKind.u8 0, Value.int IntKind.u8 0, Value.int IntKind.u8 0, Value.int IntKind.u8 0, Value.int IntKind.u8 0, Value.int IntKind.u8 0, Value.int IntKind.u8 0, Value.int IntKind.u8 0, Value.int IntKind.u8 0, Value.int IntKind.u8 0, Value.int IntKind.u8 0] 31))) := b1.out.alloc b1.out.size _
  have g2 : w.heap.size ≤ w1.heap.size := b1.out.size
  have TT2 : Hid ((w1.alloc (.cells #[Value.int IntKind.u8 0, Value.int IntKind.u8 0, Value.int IntKind.u8 0, Value.int IntKind.u8 0, Value.int IntKind.u8 0, Value.int IntKind.u8 0, Value.int IntKind.u8 0, Value.int IntKind.u8 0, Value.int IntKind.u8 0, Value.int IntKind.u8 0, Value.int IntKind.u8 0, Value.int IntKind.u8 0, Value.int IntKind.u8 0, Value.int IntKind.u8 0, Value.int IntKind.u8 0, Value.int IntKind.u8 0, Value.int IntKind.u8 0, Value.int IntKind.u8 0, Value.int IntKind.u8 0, Value.int IntKind.u8 0, Value.int IntKind.u8 0, Value.int IntKind.u8 0, Value.int IntKind.u8 0, Value.int IntKind.u8 0, Value.int IntKind.u8 0, Value.int IntKind.u8 0, Value.int IntKind.u8 0, Value.int IntKind.u8 0, Value.int IntKind.u8 0, Value.int IntKind.u8 0, Value.int IntKind.u8 0, Value.int IntKind.u8 0, Value.int IntKind.u8 0, Value.int IntKind.u8 0, Value.int IntKind.u8 0, Value.int IntKind.u8 0, Value.int IntKind.u8 0, Value.int IntKind.u8 0, Value.int IntKind.u8 0, Value.int IntKind.u8 0, Value.int IntKind.u8 0, Value.int IntKind.u8 0, Value.int IntKind.u8 0, Value.int IntKind.u8 0, Value.int IntKind.u8 0, Value.int IntKind.u8 0, Value.int IntKind.u8 0, Value.int IntKind.u8 0, Value.int IntKind.u8 0, Value.int IntKind.u8 0, Value.int IntKind.u8 0, Value.int IntKind.u8 0, Value.int IntKind.u8 0, Value.int IntKind.u8 0, Value.int IntKind.u8 0, Value.int IntKind.u8 0, Value.int IntKind.u8 0, Value.int IntKind.u8 0, Value.int IntKind.u8 0, Value.int IntKind.u8 0, Value.int IntKind.u8 0, Value.int IntKind.u8 0, Value.int IntKind.u8 0, Value.int IntKind.u8 0] 31)).there (w1.heap.size) 0 (sgR (r) (s)).length) := Kn.there s2x.out 0 rfl (by rw [(sgR_length (r) (s)), sgZ_length])
  go_wp2_with (first | simp only [zero_b64] | refine I.wp_store_eq rfl 31 _ _ rfl (w1.heap.size) 0 (sgR (r) (s)) rfl rfl TT2.out (info_sgR (r) (s)) (sgR_one (r) (s)) ?_)
  intro w2 hw2
  try simp only [Act.put, List.setIfInBounds_toArray, List.set_cons_succ, List.set_cons_zero]
  have s2 : Hid (Kn w2 [(w1.heap.size, (sgR (r) (s)))]) := by rw [hw2.out]; exact Kn.put s2x.out (by rw [(sgR_length (r) (s)), sgZ_length])
  have b2 : Hid (Below w.heap.size w w2) := by rw [hw2.out]; exact I.below_setCells _ _ _ b2x.out g2
  have z2 := b2.out.size
  clear hw2 s2x b2x TT2 s1 b1
  go_wp2_with fail
  refine wp_region_up (by kernel_rfl) (by kernel_rfl) (fun U hU f hf hcl => ?_)
  have ra_sg_0 := fun nx => (Kn.rng (s2.out.up (hf nx).out) 0 rfl : (f nx).rangeAt (w1.heap.size) 0 (sgR (r) (s)))
  have KT := fun nx => HK.out.up (b2.out.trans ((hf nx).out.mono b2.out.size)) HK.out.pos
  have BS := fun nx => Kn.by64 (s2.out.up (hf nx).out) 0 rfl
  try simp only [List.append_eq, List.cons_append, List.nil_append]
  repeat (first | (refine quiet_buildZ rfl rfl b64_zero ?_; simp only [Act.put, List.setIfInBounds_toArray, List.set_cons_succ, List.set_cons_zero]) | (refine quiet_buildZ rfl rfl b32_zero ?_; simp only [Act.put, List.setIfInBounds_toArray, List.set_cons_succ, List.set_cons_zero]) | (refine quiet_all64 rfl _ rfl w1.heap.size rfl ?_; simp only [Act.put, List.setIfInBounds_toArray, List.set_cons_succ, List.set_cons_zero]) | (refine quiet_pub rfl _ rfl x m a rfl ?_; simp only [Act.put, List.setIfInBounds_toArray, List.set_cons_succ, List.set_cons_zero]) | (refine I.quiet_load rfl 31 _ rfl (w1.heap.size) 0 rfl (sgR (r) (s)) _ (fun W hW => by obtain ⟨nx, rfl⟩ := hW; exact ra_sg_0 nx) Tryd.underlying31 rfl (info_sgR (r) (s)) ?_; simp only [Act.put, List.setIfInBounds_toArray, List.set_cons_succ, List.set_cons_zero]) | go_big_quiet_step (first | (go_at_call 7; exact (NW _ (KT _)).mono fun e w'' ⟨he, hb⟩ => ⟨he, hcl.out _ _ hb⟩) | (go_at_call 9; exact (VR _ _ (BS _) (KT _)).mono fun e w'' ⟨he, hb⟩ => ⟨he, hcl.out _ _ hb⟩)))
  refine wpQuiet_nil ?_
  intro nx
  have hb3 := (hf nx).out
  clear hf hcl
  generalize f nx = w3 at hb3 ⊢
  have s3 : Hid (Kn w3 [(w1.heap.size, (sgR (r) (s)))]) := s2.out.up hb3
  have b3 : Hid (Below w.heap.size w w3) := b2.out.trans (hb3.mono b2.out.size)
  have z3 := b3.out.size
  clear hb3 s2 b2
  go_wp2_with fail
  go_ret
  exact ⟨rfl, b3.out⟩
set_option maxRecDepth 20000 in
set_option maxHeartbeats 2000000 in
theorem signTrue_walk (n m a r s : Nat) (x : Nm) (v : Value) (p : List Nat)
    (SS : ∀ w, KTab w → Calls Tryd.prog 6 #[] w fun e w' => e = .returned (.bool true) ∧ Below w.heap.size w w')
    (NW : ∀ w, KTab w → Calls Tryd.prog 7 #[bV n] w fun e w' => e = .returned (prV x m a) ∧ Below w.heap.size w w')
    (SG : ∀ w, By w v p → KTab w → Calls Tryd.prog 8 #[bV n, v] w fun e w' => e = .returned (sgV r s) ∧ Below w.heap.size w w')
    (VR : ∀ u w, By w v p → By w u (S.by r ++ S.by s) → KTab w → Calls Tryd.prog 9 #[bV a, v, u] w fun e w' => e = .returned (.int .i64 0) ∧ Below w.heap.size w w')
    (w : World) (hv : By w v p) (hK : KTab w) :
    Calls Tryd.prog 3 #[bV n, v] w fun e w' => e = .returned (.bool true) ∧ Below w.heap.size w w' := by
  have HV : Hid (By w v p) := hv
  have HK : Hid (KTab w) := hK
  clear hv hK
  go_enter Tryd.func3, Tryd.ntmps3
  have s0 : Hid (Kn (w.alloc (.cells (bR (n)).toArray 22)) [(w.heap.size, (bR (n)))]) := ((Kn.nil w).al (bR (n)) 22 rfl)
  have b0 : Hid (Below w.heap.size w (w.alloc (.cells (bR (n)).toArray 22))) := ((Below.refl _ _).alloc (Nat.le_refl _) _)
  go_wp2_with fail
  refine (SS _ (HK.out.up b0.out HK.out.pos)).mono ?_
  rintro e w1 ⟨rfl, hb1⟩
  have s1 : Hid (Kn w1 [(w.heap.size, (bR (n)))]) := s0.out.up hb1
  have b1 : Hid (Below w.heap.size w w1) := b0.out.trans (hb1.mono b0.out.size)
  have z1 := b1.out.size
  clear hb1 s0 b0
  go_wp2_with fail
  refine wp_region_vars2 5 (.cells #[Value.int IntKind.u64 0, Value.int IntKind.u64 0, Value.int IntKind.u64 0, Value.int IntKind.u64 0, Value.int IntKind.u8 0, Value.int IntKind.u8 0, Value.int IntKind.u8 0, Value.int IntKind.u8 0, Value.int IntKind.u8 0, Value.int IntKind.u8 0, Value.int IntKind.u8 0, Value.int IntKind.u8 0, Value.int IntKind.u8 0, Value.int IntKind.u8 0, Value.int IntKind.u8 0, Value.int IntKind.u8 0, Value.int IntKind.u8 0, Value.int IntKind.u8 0, Value.int IntKind.u8 0, Value.int IntKind.u8 0, Value.int IntKind.u8 0, Value.int IntKind.u8 0, Value.int IntKind.u8 0, Value.int IntKind.u8 0, Value.int IntKind.u8 0, Value.int IntKind.u8 0, Value.int IntKind.u8 0, Value.int IntKind.u8 0, Value.int IntKind.u8 0, Value.int IntKind.u8 0, Value.int IntKind.u8 0, Value.int IntKind.u8 0, Value.int IntKind.u8 0, Value.int IntKind.u8 0, Value.int IntKind.u8 0, Value.int IntKind.u8 0, Value.int IntKind.u8 0, Value.int IntKind.u8 0, Value.int IntKind.u8 0, Value.int IntKind.u8 0, Value.int IntKind.u8 0, Value.int IntKind.u8 0, Value.int IntKind.u8 0, Value.int IntKind.u8 0, Value.int IntKind.u8 0, Value.int IntKind.u8 0, Value.int IntKind.u8 0, Value.int IntKind.u8 0, Value.int IntKind.u8 0, Value.int IntKind.u8 0, Value.int IntKind.u8 0, Value.int IntKind.u8 0, Value.int IntKind.u8 0, Value.int IntKind.u8 0, Value.int IntKind.u8 0, Value.int IntKind.u8 0, Value.int IntKind.u8 0, Value.int IntKind.u8 0, Value.int IntKind.u8 0, Value.int IntKind.u8 0, Value.int IntKind.u8 0, Value.int IntKind.u8 0, Value.int IntKind.u8 0, Value.int IntKind.u8 0, Value.int IntKind.u8 0, Value.int IntKind.u8 0, Value.int IntKind.u8 0, Value.int IntKind.u8 0] 29) (.cells #[Value.int IntKind.u8 0, Value.int IntKind.u8 0, Value.int IntKind.u8 0, Value.int IntKind.u8 0, Value.int IntKind.u8 0, Value.int IntKind.u8 0, Value.int IntKind.u8 0, Value.int IntKind.u8 0, Value.int IntKind.u8 0, Value.int IntKind.u8 0, Value.int IntKind.u8 0, Value.int IntKind.u8 0, Value.int IntKind.u8 0, Value.int IntKind.u8 0, Value.int IntKind.u8 0, Value.int IntKind.u8 0, Value.int IntKind.u8 0, Value.int IntKind.u8 0, Value.int IntKind.u8 0, Value.int IntKind.u8 0, Value.int IntKind.u8 0, Value.int IntKind.u8 0, Value.int IntKind.u8 0, Value.int IntKind.u8 0, Value.int IntKind.u8 0, Value.int IntKind.u8 0, Value.int IntKind.u8 0, Value.int IntKind.u8 0, Value.int IntKind.u8 0, Value.int IntKind.u8 0, Value.int IntKind.u8 0, Value.int IntKind.u8 0, Value.int IntKind.u8 0, Value.int IntKind.u8 0, Value.int IntKind.u8 0, Value.int IntKind.u8 0, Value.int IntKind.u8 0, Value.int IntKind.u8 0, Value.int IntKind.u8 0, Value.int IntKind.u8 0, Value.int IntKind.u8 0, Value.int IntKind.u8 0, Value.int IntKind.u8 0, Value.int IntKind.u8 0, Value.int IntKind.u8 0, Value.int IntKind.u8 0, Value.int IntKind.u8 0, Value.int IntKind.u8 0, Value.int IntKind.u8 0, Value.int IntKind.u8 0, Value.int IntKind.u8 0, Value.int IntKind.u8 0, Value.int IntKind.u8 0, Value.int IntKind.u8 0, Value.int IntKind.u8 0, Value.int IntKind.u8 0, Value.int IntKind.u8 0, Value.int IntKind.u8 0, Value.int IntKind.u8 0, Value.int IntKind.u8 0, Value.int IntKind.u8 0, Value.int IntKind.u8 0, Value.int IntKind.u8 0, Value.int IntKind.u8 0] 31) (.cells (prR (x) (m) (a)).toArray 29) (.cells (sgR (r) (s)).toArray 31) (by kernel_rfl) (by kernel_rfl) (by kernel_rfl) (by kernel_rfl) rfl rfl rfl rfl (by decide) rfl rfl (fun _ _ => by kernel_rfl) (fun _ _ => by kernel_rfl) ?_
  apply Exists.intro
  refine ⟨fun U hU f hf hcl => ?_, fun k j W hc => ?_, fun k j W hc => ?_, fun k2 j2 w2 hb2 hk2 hj2 hn2 hc2 hd2 => ?_⟩
  · skip
    have ra_seed_0 := fun nx => (Kn.rng (s1.out.up (hf nx).out) 0 rfl : (f nx).rangeAt (w.heap.size) 0 (bR (n)))
    have KT := fun nx => HK.out.up (b1.out.trans ((hf nx).out.mono b1.out.size)) HK.out.pos
    have BV := fun nx => HV.out.up (b1.out.trans ((hf nx).out.mono b1.out.size)) (Nat.le_refl _)
    clear hf
    simp only [List.take_succ_cons, List.take_zero]
    repeat (first | (refine I.quiet_load rfl 22 _ rfl (w.heap.size) 0 rfl (bR (n)) _ (fun W hW => by obtain ⟨nx, rfl⟩ := hW; exact ra_seed_0 nx) Tryd.underlying22 rfl (info_bR (n)) ?_; simp only [Act.put, List.setIfInBounds_toArray, List.set_cons_succ, List.set_cons_zero]) | go_big_quiet_step (first | (go_at_call 7; exact (NW _ (KT _)).mono fun e w'' ⟨he, hb⟩ => ⟨he, hcl.out _ _ hb⟩) | (go_at_call 8; exact (SG _ (BV _) (KT _)).mono fun e w'' ⟨he, hb⟩ => ⟨he, hcl.out _ _ hb⟩)))
    exact wpQuiet_nil rfl
  · exact st_obj (zs := pairZ) (cs := (prR (x) (m) (a))) hc.out rfl rfl rfl (by rw [(prR_length (x) (m) (a)), pairZ_length]) (info_prR (x) (m) (a)) (prR_one (x) (m) (a))
  · exact st_obj (zs := sgZ) (cs := (sgR (r) (s))) hc.out rfl rfl rfl (by rw [(sgR_length (r) (s)), sgZ_length]) (info_sgR (r) (s)) (sgR_one (r) (s))
  simp only [Act.put, List.setIfInBounds_toArray, List.set_cons_succ, List.set_cons_zero]
  have z2 := b1.out.size
  have g2 : w.heap.size ≤ k2 := Nat.le_trans b1.out.size hk2
  have gj2 : w.heap.size ≤ j2 := Nat.le_trans b1.out.size hj2
  have s2 : Hid (Kn w2 [(k2, (prR (x) (m) (a))), (j2, (sgR (r) (s))), (w.heap.size, (bR (n)))]) := s1.out.two hb2.out hk2 hj2 hn2.out hc2.out hd2.out
  have b2 : Hid (Below w.heap.size w w2) := b1.out.trans (hb2.out.mono b1.out.size)
  clear s1 b1 hb2 hc2 hd2 hk2 hj2
  go_wp2_with fail
  refine wp_region_up (by kernel_rfl) (by kernel_rfl) (fun U hU f hf hcl => ?_)
  have ra_k_0 := fun nx => (Kn.rng (s2.out.up (hf nx).out) 0 rfl : (f nx).rangeAt k2 0 (prR (x) (m) (a)))
  have ra_k_1 := fun nx => (Kn.png0 (s2.out.up (hf nx).out) 0 rfl : (f nx).rangeAt k2 0 [Value.int IntKind.u64 x.a, Value.int IntKind.u64 x.b, Value.int IntKind.u64 x.c, Value.int IntKind.u64 x.d])
  have ra_k_2 := fun nx => (Kn.png1 (s2.out.up (hf nx).out) 0 rfl : (f nx).rangeAt k2 4 (bR (m)))
  have ra_k_3 := fun nx => (Kn.png2 (s2.out.up (hf nx).out) 0 rfl : (f nx).rangeAt k2 36 (bR (a)))
  have ra_sg_0 := fun nx => (Kn.rng (s2.out.up (hf nx).out) 1 rfl : (f nx).rangeAt j2 0 (sgR (r) (s)))
  have KT := fun nx => HK.out.up (b2.out.trans ((hf nx).out.mono b2.out.size)) HK.out.pos
  have BV := fun nx => HV.out.up (b2.out.trans ((hf nx).out.mono b2.out.size)) (Nat.le_refl _)
  have BS := fun nx => Kn.by64 (s2.out.up (hf nx).out) 1 rfl
  try simp only [List.append_eq, List.cons_append, List.nil_append]
  repeat (first | (refine quiet_all64 rfl _ rfl j2 rfl ?_; simp only [Act.put, List.setIfInBounds_toArray, List.set_cons_succ, List.set_cons_zero]) | (refine I.quiet_load rfl 29 _ rfl k2 0 rfl (prR (x) (m) (a)) _ (fun W hW => by obtain ⟨nx, rfl⟩ := hW; exact ra_k_0 nx) Tryd.underlying29 rfl (info_prR (x) (m) (a)) ?_; simp only [Act.put, List.setIfInBounds_toArray, List.set_cons_succ, List.set_cons_zero]) | (refine I.quiet_load rfl 27 _ rfl k2 0 rfl [Value.int IntKind.u64 x.a, Value.int IntKind.u64 x.b, Value.int IntKind.u64 x.c, Value.int IntKind.u64 x.d] _ (fun W hW => by obtain ⟨nx, rfl⟩ := hW; exact ra_k_1 nx) Tryd.underlying27 rfl (info_c4 (x)) ?_; simp only [Act.put, List.setIfInBounds_toArray, List.set_cons_succ, List.set_cons_zero]) | (refine I.quiet_load rfl 22 _ rfl k2 4 rfl (bR (m)) _ (fun W hW => by obtain ⟨nx, rfl⟩ := hW; exact ra_k_2 nx) Tryd.underlying22 rfl (info_bR (m)) ?_; simp only [Act.put, List.setIfInBounds_toArray, List.set_cons_succ, List.set_cons_zero]) | (refine I.quiet_load rfl 22 _ rfl k2 36 rfl (bR (a)) _ (fun W hW => by obtain ⟨nx, rfl⟩ := hW; exact ra_k_3 nx) Tryd.underlying22 rfl (info_bR (a)) ?_; simp only [Act.put, List.setIfInBounds_toArray, List.set_cons_succ, List.set_cons_zero]) | (refine I.quiet_load rfl 31 _ rfl j2 0 rfl (sgR (r) (s)) _ (fun W hW => by obtain ⟨nx, rfl⟩ := hW; exact ra_sg_0 nx) Tryd.underlying31 rfl (info_sgR (r) (s)) ?_; simp only [Act.put, List.setIfInBounds_toArray, List.set_cons_succ, List.set_cons_zero]) | go_big_quiet_step (first | (go_at_call 9; exact (VR _ _ (BV _) (BS _) (KT _)).mono fun e w'' ⟨he, hb⟩ => ⟨he, hcl.out _ _ hb⟩)))
  refine wpQuiet_nil ?_
  intro nx
  have hb3 := (hf nx).out
  clear hf hcl
  generalize f nx = w3 at hb3 ⊢
  have s3 : Hid (Kn w3 [(k2, (prR (x) (m) (a))), (j2, (sgR (r) (s))), (w.heap.size, (bR (n)))]) := s2.out.up hb3
  have b3 : Hid (Below w.heap.size w w3) := b2.out.trans (hb3.mono b2.out.size)
  have z3 := b3.out.size
  clear hb3 s2 b2
  go_wp2_with fail
  go_ret
  exact ⟨rfl, b3.out⟩
theorem signs_fun (NC : SgNewC) (SC : SgSignC) (VC : SgVerC) (w : World) (hK : KTab w) : Calls Tryd.prog 6 #[] w fun e w' => e = .returned (.bool true) ∧ Below w.heap.size w w' := by
  have l0 : lowP [] := ⟨by simp, by simp⟩
  have z : (0 : Nat) < 2 ^ 256 := by decide
  refine signs_walk (mskN 0) (pubN 0) (frN 0 []) (bkN 0 []) (nm (secN 0)) (neSg (fr_lt 0 []) (fr_no 0 [])) (NC 0 z) (fun w hK => SC 0 z [] l0 _ w (By.nil w) hK) (fun u w hu hK => ?_) w hK
  have := VC (pubN 0) (pub_lt 0) [] _ l0 (low_sig _ _) _ u w (By.nil w) hu hK
  rw [vr_true] at this
  exact this
theorem signTrue_of (NC : SgNewC) (SC : SgSignC) (VC : SgVerC) (n : Nat) (hn : n < 2 ^ 256) (p : List Nat) (lp : lowP p) (v : Value) (w : World) (hv : By w v p) (hK : KTab w) :
    Calls Tryd.prog 3 #[bV n, v] w fun e w' => e = .returned (.bool true) ∧ Below w.heap.size w w' := by
  refine signTrue_walk n _ _ _ _ _ v p (signs_fun NC SC VC) (NC n hn) (fun w hv hK => SC n hn p lp v w hv hK) (fun u w hv hu hK => ?_) w hv hK
  have := VC (pubN n) (pub_lt n) p _ lp (low_sig _ _) v u w hv hu hK
  rw [vr_true] at this
  exact this
end Go.Proofs.YtfknkfninjjgbaaDoor
