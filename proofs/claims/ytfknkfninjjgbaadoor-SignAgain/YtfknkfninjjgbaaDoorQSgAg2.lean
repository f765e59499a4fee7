/- SignAgain, out of what package sign must keep: another number at the end. -/
import Derived.Test.YtfknkfninjjgbaaDoorQUpQToSgAgain
namespace Go.Proofs.YtfknkfninjjgbaaDoor
open Go.RowKit
attribute [local go_sem] World.cell?_alloc_some cell_alloc2 cell_alloc3 cell_alloc4 frozen?_alloc_cells frozen_out
set_option linter.unusedSimpArgs false
set_option maxRecDepth 20000 in
set_option maxHeartbeats 600000 in
theorem signAgain_3 (d m a r s g : Nat) (x n os fw lm : Nm) (v : Value) (p : List Nat) (c : Int) (hc : c = 0 ∨ c = 1) (en : ∀ w, (binOp .eql 27 (N n) (N ⟨0, 0, 0, 0⟩)).run Tryd.prog w = .ok (.bool false) w)
    (NW : Hid (∀ w, KTab w → Calls Tryd.prog 7 #[bV d] w fun e w' => e = .returned (prV x m a) ∧ Below w.heap.size w w'))
    (SG : Hid (∀ w, By w v p → KTab w → Calls Tryd.prog 8 #[bV d, v] w fun e w' => e = .returned (sgV r s) ∧ Below w.heap.size w w'))
    (OF : ∀ w, Calls Tryd.prog 10 #[.agg (bR (s)).toArray] w fun e w' => e = .returned (N os) ∧ Below w.heap.size w w')
    (AD : ∀ w, Calls Tryd.prog 11 #[N os, N n] w fun e w' => e = .returned (.tuple #[N fw, .int .u64 0]) ∧ Below w.heap.size w w')
    (BY : ∀ w, Calls Tryd.prog 12 #[N fw] w fun e w' => e = .returned (.agg (bR (g)).toArray) ∧ Below w.heap.size w w')
    (VR : Hid (∀ u w, By w v p → By w u (S.by r ++ S.by g) → KTab w → Calls Tryd.prog 9 #[bV a, v, u] w fun e w' => e = .returned (.int .i64 4) ∧ Below w.heap.size w w'))
    (SL : ∀ w, Calls Tryd.prog 15 #[] w fun e w' => e = .returned (N lm) ∧ Below w.heap.size w w')
    (CM : ∀ w, Calls Tryd.prog 14 #[N fw, N lm] w fun e w' => e = .returned (.int .i64 c) ∧ Below w.heap.size w w')
    (w : World) (hv : By w v p) (hT : KTab w) :
    Calls Tryd.prog 5 #[bV d, v, N n] w fun e w' => e = .returned (.bool true) ∧ Below w.heap.size w w' := by
  rcases hc with rfl | rfl
  · have HV : Hid (By w v p) := hv
    have HT : Hid (KTab w) := hT
    clear hv hT
    go_enter Tryd.func5, Tryd.ntmps5
    have s0 : Hid (Kn (kal4 (w.alloc (.cells (bR (d)).toArray 22)) (n)) [(w.heap.size + 1, (c4 (n))), (w.heap.size, (bR (d)))]) := (((Kn.nil w).al (bR (d)) 22 rfl).al (c4 (n)) 27 (by simp))
    have b0 : Hid (Below w.heap.size w (kal4 (w.alloc (.cells (bR (d)).toArray 22)) (n))) := (((Below.refl _ _).alloc (Nat.le_refl _) _).alloc (by simp <;> omega) _)
    go_wp2_with fail
    refine wp_region_vars2 5 (.cells #[Value.int IntKind.u64 0, Value.int IntKind.u64 0, Value.int IntKind.u64 0, Value.int IntKind.u64 0, Value.int IntKind.u8 0, Value.int IntKind.u8 0, Value.int IntKind.u8 0, Value.int IntKind.u8 0, Value.int IntKind.u8 0, Value.int IntKind.u8 0, Value.int IntKind.u8 0, Value.int IntKind.u8 0, Value.int IntKind.u8 0, Value.int IntKind.u8 0, Value.int IntKind.u8 0, Value.int IntKind.u8 0, Value.int IntKind.u8 0, Value.int IntKind.u8 0, Value.int IntKind.u8 0, Value.int IntKind.u8 0, Value.int IntKind.u8 0, Value.int IntKind.u8 0, Value.int IntKind.u8 0, Value.int IntKind.u8 0, Value.int IntKind.u8 0, Value.int IntKind.u8 0, Value.int IntKind.u8 0, Value.int IntKind.u8 0, Value.int IntKind.u8 0, Value.int IntKind.u8 0, Value.int IntKind.u8 0, Value.int IntKind.u8 0, Value.int IntKind.u8 0, Value.int IntKind.u8 0, Value.int IntKind.u8 0, Value.int IntKind.u8 0, Value.int IntKind.u8 0, Value.int IntKind.u8 0, Value.int IntKind.u8 0, Value.int IntKind.u8 0, Value.int IntKind.u8 0, Value.int IntKind.u8 0, Value.int IntKind.u8 0, Value.int IntKind.u8 0, Value.int IntKind.u8 0, Value.int IntKind.u8 0, Value.int IntKind.u8 0, Value.int IntKind.u8 0, Value.int IntKind.u8 0, Value.int IntKind.u8 0, Value.int IntKind.u8 0, Value.int IntKind.u8 0, Value.int IntKind.u8 0, Value.int IntKind.u8 0, Value.int IntKind.u8 0, Value.int IntKind.u8 0, Value.int IntKind.u8 0, Value.int IntKind.u8 0, Value.int IntKind.u8 0, Value.int IntKind.u8 0, Value.int IntKind.u8 0, Value.int IntKind.u8 0, Value.int IntKind.u8 0, Value.int IntKind.u8 0, Value.int IntKind.u8 0, Value.int IntKind.u8 0, Value.int IntKind.u8 0, Value.int IntKind.u8 0] 29) (.cells #[Value.int IntKind.u8 0, Value.int IntKind.u8 0, Value.int IntKind.u8 0, Value.int IntKind.u8 0, Value.int IntKind.u8 0, Value.int IntKind.u8 0, Value.int IntKind.u8 0, Value.int IntKind.u8 0, Value.int IntKind.u8 0, Value.int IntKind.u8 0, Value.int IntKind.u8 0, Value.int IntKind.u8 0, Value.int IntKind.u8 0, Value.int IntKind.u8 0, Value.int IntKind.u8 0, Value.int IntKind.u8 0, Value.int IntKind.u8 0, Value.int IntKind.u8 0, Value.int IntKind.u8 0, Value.int IntKind.u8 0, Value.int IntKind.u8 0, Value.int IntKind.u8 0, Value.int IntKind.u8 0, Value.int IntKind.u8 0, Value.int IntKind.u8 0, Value.int IntKind.u8 0, Value.int IntKind.u8 0, Value.int IntKind.u8 0, Value.int IntKind.u8 0, Value.int IntKind.u8 0, Value.int IntKind.u8 0, Value.int IntKind.u8 0, Value.int IntKind.u8 0, Value.int IntKind.u8 0, Value.int IntKind.u8 0, Value.int IntKind.u8 0, Value.int IntKind.u8 0, Value.int IntKind.u8 0, Value.int IntKind.u8 0, Value.int IntKind.u8 0, Value.int IntKind.u8 0, Value.int IntKind.u8 0, Value.int IntKind.u8 0, Value.int IntKind.u8 0, Value.int IntKind.u8 0, Value.int IntKind.u8 0, Value.int IntKind.u8 0, Value.int IntKind.u8 0, Value.int IntKind.u8 0, Value.int IntKind.u8 0, Value.int IntKind.u8 0, Value.int IntKind.u8 0, Value.int IntKind.u8 0, Value.int IntKind.u8 0, Value.int IntKind.u8 0, Value.int IntKind.u8 0, Value.int IntKind.u8 0, Value.int IntKind.u8 0, Value.int IntKind.u8 0, Value.int IntKind.u8 0, Value.int IntKind.u8 0, Value.int IntKind.u8 0, Value.int IntKind.u8 0, Value.int IntKind.u8 0] 31) (.cells (prR (x) (m) (a)).toArray 29) (.cells (sgR (r) (s)).toArray 31) (by kernel_rfl) (by kernel_rfl) (by kernel_rfl) (by kernel_rfl) rfl rfl rfl rfl (by decide) rfl rfl (fun _ _ => by kernel_rfl) (fun _ _ => by kernel_rfl) ?_
    apply Exists.intro
    refine ⟨fun U hU f hf hcl => ?_, fun k j W hc => ?_, fun k j W hc => ?_, fun k1 j1 w1 hb1 hk1 hj1 hn1 hc1 hd1 => ?_⟩
    · skip
      have ra_seed_0 := fun nx => (Kn.rng (s0.out.up (hf nx).out) 1 rfl : (f nx).rangeAt (w.heap.size) 0 (bR (d)))
      have KT := fun nx => HT.out.up (b0.out.trans ((hf nx).out.mono b0.out.size)) HT.out.pos
      have BV := fun nx => HV.out.up (b0.out.trans ((hf nx).out.mono b0.out.size)) (Nat.le_refl _)
      clear hf
      simp only [List.take_succ_cons, List.take_zero]
      repeat (first | (refine I.quiet_load rfl 22 _ rfl (w.heap.size) 0 rfl (bR (d)) _ (fun W hW => by obtain ⟨nx, rfl⟩ := hW; exact ra_seed_0 nx) Tryd.underlying22 rfl (info_bR (d)) ?_; simp only [Act.put, List.setIfInBounds_toArray, List.set_cons_succ, List.set_cons_zero]) | go_big_quiet_step (first | (go_at_call 7; exact (NW.out _ (KT _)).mono fun e w'' ⟨he, hb⟩ => ⟨he, hcl.out _ _ hb⟩) | (go_at_call 8; exact (SG.out _ (BV _) (KT _)).mono fun e w'' ⟨he, hb⟩ => ⟨he, hcl.out _ _ hb⟩)))
      exact wpQuiet_nil rfl
    · exact st_obj (zs := pairZ) (cs := (prR (x) (m) (a))) hc.out rfl rfl rfl (by rw [(prR_length (x) (m) (a)), pairZ_length]) (info_prR (x) (m) (a)) (prR_one (x) (m) (a))
    · exact st_obj (zs := sgZ) (cs := (sgR (r) (s))) hc.out rfl rfl rfl (by rw [(sgR_length (r) (s)), sgZ_length]) (info_sgR (r) (s)) (sgR_one (r) (s))
    simp only [Act.put, List.setIfInBounds_toArray, List.set_cons_succ, List.set_cons_zero]
    have z1 := b0.out.size
    have g1 : w.heap.size ≤ k1 := Nat.le_trans b0.out.size hk1
    have gj1 : w.heap.size ≤ j1 := Nat.le_trans b0.out.size hj1
    have s1 : Hid (Kn w1 [(k1, (prR (x) (m) (a))), (j1, (sgR (r) (s))), (w.heap.size + 1, (c4 (n))), (w.heap.size, (bR (d)))]) := s0.out.two hb1.out hk1 hj1 hn1.out hc1.out hd1.out
    have b1 : Hid (Below w.heap.size w w1) := b0.out.trans (hb1.out.mono b0.out.size)
    clear s0 b0 hb1 hc1 hd1 hk1 hj1
    have s2 : Hid (Kn (w1.alloc (.cells #[Value.int IntKind.u8 0, Value.int IntKind.u8 0, Value.int IntKind.u8 0, Value.int IntKind.u8 0, Value.int IntKind.u8 0, Value.int IntKind.u8 0, Value.int IntKind.u8 0, Value.int IntKind.u8 0, Value.int IntKind.u8 0, Value.int IntKind.u8 0, Value.int IntKind.u8 0, Value.int IntKind.u8 0, Value.int IntKind.u8 0, Value.int IntKind.u8 0, Value.int IntKind.u8 0, Value.int IntKind.u8 0, Value.int IntKind.u8 0, Value.int IntKind.u8 0, Value.int IntKind.u8 0, Value.int IntKind.u8 0, Value.int IntKind.u8 0, Value.int IntKind.u8 0, Value.int IntKind.u8 0, Value.int IntKind.u8 0, Value.int IntKind.u8 0, Value.int IntKind.u8 0, Value.int IntKind.u8 0, Value.int IntKind.u8 0, Value.int IntKind.u8 0, Value.int IntKind.u8 0, Value.int IntKind.u8 0, Value.int IntKind.u8 0] 22)) [(w1.heap.size, bZ), (k1, (prR (x) (m) (a))), (j1, (sgR (r) (s))), (w.heap.size + 1, (c4 (n))), (w.heap.size, (bR (d)))]) := s1.out.al bZ 22 rfl
    have b2 : Hid (Below w.heap.size w (w1.alloc (.cells #[Value.int IntKind.u8 0, Value.int IntKind.u8 0, Value.int IntKind.u8 0, Value.int IntKind.u8 0, Value.int IntKind.u8 0, Value.int IntKind.u8 0, Value.int IntKind.u8 0, Value.int IntKind.u8 0, Value.int IntKind.u8 0, Value.int IntKind.u8 0, Value.int IntKind.u8 0, Value.int IntKind.u8 0, Value.int IntKind.u8 0, Value.int IntKind.u8 0, Value.int IntKind.u8 0, Value.int IntKind.u8 0, Value.int IntKind.u8 0, Value.int IntKind.u8 0, Value.int IntKind.u8 0, Value.int IntKind.u8 0, Value.int IntKind.u8 0, Value.int IntKind.u8 0, Value.int IntKind.u8 0, Value.int IntKind.u8 0, Value.int IntKind.u8 0, Value.int IntKind.u8 0, Value.int IntKind.u8 0, Value.int IntKind.u8 0, Value.int IntKind.u8 0, Value.int IntKind.u8 0, Value.int IntKind.u8 0, Value.int IntKind.u8 0] 22))) := b1.out.alloc b1.out.size _
    have z2 := b1.out.size
    clear s1 b1
    go_wp2_with (simp only [zero_b32])
    have gb : w.heap.size ≤ w1.heap.size := z2
    refine wp_region_two 0 1 [2] [_] (.slice (some ⟨w1.heap.size, 0, none⟩) 32 32) (.slice (some ⟨j1, 32, none⟩) 32 32) (by kernel_rfl) (by kernel_rfl) (fun _ _ d _ _ h => by cases d <;> exact h) rfl rfl (by kernel_rfl) (by kernel_rfl) rfl rfl (by kernel_rfl) (.inl ⟨rfl, exec_all32 _ rfl _ rfl⟩) (.inl ⟨rfl, exec_from64 _ _ rfl _ rfl rfl⟩) ?_
    intro w3 hb3 hh3
    clear hh3
    simp only [Act.put, List.setIfInBounds_toArray, List.set_cons_succ, List.set_cons_zero, List.getElem_toArray, List.getElem_cons_zero, List.getElem_cons_succ]
    have s3 : Hid (Kn w3 [(w1.heap.size, bZ), (k1, prR x m a), (j1, sgR r s), (w.heap.size + 1, c4 n), (w.heap.size, bR d)]) := s2.out.up hb3.out
    have b3 : Hid (Below w.heap.size w w3) := b2.out.trans (hb3.out.mono b2.out.size)
    clear s2 b2 hb3
    have T3 : Hid (w3.there w1.heap.size 0 (S.by s).length) := by
      have := Kn.there (us := bR 0) s3.out 0 rfl (by rw [bR_length, bZ_length])
      rw [S.by_length]
      rw [bR_length] at this
      exact this
    have R3 : Hid (w3.rangeAt j1 32 ((S.by s).map b8)) := by
      have := (range_app (s3.out.rng 2 rfl : w3.rangeAt j1 0 (bR r ++ bR s))).2
      rw [bR_length, Nat.zero_add] at this
      rw [← S.by_row]
      exact this
    go_wp2_with (refine wp_copyR rfl _ _ rfl w1.heap.size 0 32 32 j1 32 32 32 (S.by s) rfl rfl (by rw [S.by_length]; rfl) R3.out T3.out ?_)
    intro w4 hw4
    have s4 : Hid (Kn w4 [(w1.heap.size, bR s), (k1, prR x m a), (j1, sgR r s), (w.heap.size + 1, c4 n), (w.heap.size, bR d)]) := by
      rw [hw4.out, ← S.by_row]
      exact Kn.put s3.out (by rw [bR_length, bZ_length])
    have b4 : Hid (Below w.heap.size w w4) := by rw [hw4.out]; exact I.below_setCells _ _ _ b3.out gb
    clear hw4 s3 b3 T3 R3
    generalize w1.heap.size = kb at *
    go_wp2_with (first | refine wp_ldW rfl 22 _ rfl kb 0 rfl (bR (s)) _ (Kn.rng s4.out 0 rfl) Tryd.underlying22 rfl (info_bR (s)) ?_)
    refine (OF _).mono ?_
    rintro e w5 ⟨rfl, hb5⟩
    have s5 : Hid (Kn w5 [(kb, (bR (s))), (k1, (prR (x) (m) (a))), (j1, (sgR (r) (s))), (w.heap.size + 1, (c4 (n))), (w.heap.size, (bR (d)))]) := s4.out.up hb5
    have b5 : Hid (Below w.heap.size w w5) := b4.out.trans (hb5.mono b4.out.size)
    have z5 := b5.out.size
    clear hb5 s4 b4
    have s6 : Hid (Kn (kal4 w5 (os)) [(w5.heap.size, (c4 (os))), (kb, (bR (s))), (k1, (prR (x) (m) (a))), (j1, (sgR (r) (s))), (w.heap.size + 1, (c4 (n))), (w.heap.size, (bR (d)))]) := s5.out.al (c4 (os)) 27 rfl
    have b6 : Hid (Below w.heap.size w (kal4 w5 (os))) := b5.out.alloc b5.out.size _
    have z6 := b5.out.size
    clear s5 b5
    have uold_0 : (kal4 w5 (os)).cell? ⟨w5.heap.size, 0, none⟩ = some (.int .u64 (os).a) := Kn.get s6.out 0 0 rfl rfl
    have uold_1 : (kal4 w5 (os)).cell? ⟨w5.heap.size, 1, none⟩ = some (.int .u64 (os).b) := Kn.get s6.out 0 1 rfl rfl
    have uold_2 : (kal4 w5 (os)).cell? ⟨w5.heap.size, 2, none⟩ = some (.int .u64 (os).c) := Kn.get s6.out 0 2 rfl rfl
    have uold_3 : (kal4 w5 (os)).cell? ⟨w5.heap.size, 3, none⟩ = some (.int .u64 (os).d) := Kn.get s6.out 0 3 rfl rfl
    have un_0 : (kal4 w5 (os)).cell? ⟨w.heap.size + 1, 0, none⟩ = some (.int .u64 (n).a) := Kn.get s6.out 4 0 rfl rfl
    have un_1 : (kal4 w5 (os)).cell? ⟨w.heap.size + 1, 1, none⟩ = some (.int .u64 (n).b) := Kn.get s6.out 4 1 rfl rfl
    have un_2 : (kal4 w5 (os)).cell? ⟨w.heap.size + 1, 2, none⟩ = some (.int .u64 (n).c) := Kn.get s6.out 4 2 rfl rfl
    have un_3 : (kal4 w5 (os)).cell? ⟨w.heap.size + 1, 3, none⟩ = some (.int .u64 (n).d) := Kn.get s6.out 4 3 rfl rfl
    go_wp2_with fail
    clear uold_0 uold_1 uold_2 uold_3 un_0 un_1 un_2 un_3
    refine (AD _).mono ?_
    rintro e w7 ⟨rfl, hb7⟩
    have s7 : Hid (Kn w7 [(w5.heap.size, (c4 (os))), (kb, (bR (s))), (k1, (prR (x) (m) (a))), (j1, (sgR (r) (s))), (w.heap.size + 1, (c4 (n))), (w.heap.size, (bR (d)))]) := s6.out.up hb7
    have b7 : Hid (Below w.heap.size w w7) := b6.out.trans (hb7.mono b6.out.size)
    have z7 := b7.out.size
    clear hb7 s6 b6
    have s8 : Hid (Kn (kal4 w7 (fw)) [(w7.heap.size, (c4 (fw))), (w5.heap.size, (c4 (os))), (kb, (bR (s))), (k1, (prR (x) (m) (a))), (j1, (sgR (r) (s))), (w.heap.size + 1, (c4 (n))), (w.heap.size, (bR (d)))]) := s7.out.al (c4 (fw)) 27 rfl
    have b8 : Hid (Below w.heap.size w (kal4 w7 (fw))) := b7.out.alloc b7.out.size _
    have z8 := b7.out.size
    clear s7 b7
    have un_0 : (kal4 w7 (fw)).cell? ⟨w.heap.size + 1, 0, none⟩ = some (.int .u64 (n).a) := Kn.get s8.out 5 0 rfl rfl
    have un_1 : (kal4 w7 (fw)).cell? ⟨w.heap.size + 1, 1, none⟩ = some (.int .u64 (n).b) := Kn.get s8.out 5 1 rfl rfl
    have un_2 : (kal4 w7 (fw)).cell? ⟨w.heap.size + 1, 2, none⟩ = some (.int .u64 (n).c) := Kn.get s8.out 5 2 rfl rfl
    have un_3 : (kal4 w7 (fw)).cell? ⟨w.heap.size + 1, 3, none⟩ = some (.int .u64 (n).d) := Kn.get s8.out 5 3 rfl rfl
    have ufr_0 : (kal4 w7 (fw)).cell? ⟨w7.heap.size, 0, none⟩ = some (.int .u64 (fw).a) := Kn.get s8.out 0 0 rfl rfl
    have ufr_1 : (kal4 w7 (fw)).cell? ⟨w7.heap.size, 1, none⟩ = some (.int .u64 (fw).b) := Kn.get s8.out 0 1 rfl rfl
    have ufr_2 : (kal4 w7 (fw)).cell? ⟨w7.heap.size, 2, none⟩ = some (.int .u64 (fw).c) := Kn.get s8.out 0 2 rfl rfl
    have ufr_3 : (kal4 w7 (fw)).cell? ⟨w7.heap.size, 3, none⟩ = some (.int .u64 (fw).d) := Kn.get s8.out 0 3 rfl rfl
    go_wp2_with fail
    clear un_0 un_1 un_2 un_3 ufr_0 ufr_1 ufr_2 ufr_3
    refine (BY _).mono ?_
    rintro e w9 ⟨rfl, hb9⟩
    have s9 : Hid (Kn w9 [(w7.heap.size, (c4 (fw))), (w5.heap.size, (c4 (os))), (kb, (bR (s))), (k1, (prR (x) (m) (a))), (j1, (sgR (r) (s))), (w.heap.size + 1, (c4 (n))), (w.heap.size, (bR (d)))]) := s8.out.up hb9
    have b9 : Hid (Below w.heap.size w w9) := b8.out.trans (hb9.mono b8.out.size)
    have z9 := b9.out.size
    clear hb9 s8 b8
    have s10x : Hid (Kn w9 [(kb, (bR (s))), (w7.heap.size, (c4 (fw))), (w5.heap.size, (c4 (os))), (k1, (prR (x) (m) (a))), (j1, (sgR (r) (s))), (w.heap.size + 1, (c4 (n))), (w.heap.size, (bR (d)))]) := s9.out.front 2 rfl
    have b10x : Hid (Below w.heap.size w w9) := b9.out
    have TT10 : Hid (w9.there kb 0 (bR (g)).length) := Kn.there s10x.out 0 rfl (by rw [(bR_length (g)), (bR_length (s))])
    go_wp2_with (first | refine I.wp_store_eq rfl 22 _ _ rfl kb 0 (bR (g)) rfl rfl TT10.out (info_bR (g)) (bR_one (g)) ?_)
    intro w10 hw10
    try simp only [Act.put, List.setIfInBounds_toArray, List.set_cons_succ, List.set_cons_zero]
    have s10 : Hid (Kn w10 [(kb, (bR (g))), (w7.heap.size, (c4 (fw))), (w5.heap.size, (c4 (os))), (k1, (prR (x) (m) (a))), (j1, (sgR (r) (s))), (w.heap.size + 1, (c4 (n))), (w.heap.size, (bR (d)))]) := by rw [hw10.out]; exact Kn.put s10x.out (by rw [(bR_length (g)), (bR_length (s))])
    have b10 : Hid (Below w.heap.size w w10) := by rw [hw10.out]; exact I.below_setCells _ _ _ b10x.out (by omega)
    have z10 := b10.out.size
    clear hw10 s10x b10x TT10 s9 b9
    go_wp2_with fail
    have G : Hid _ := s10
    have KU : Hid (∀ W, Below w10.heap.size w10 W → KTab W) := fun W hW => HT.out.up (b10.out.trans (hW.mono b10.out.size)) HT.out.pos
    have VU : Hid (∀ W, Below w10.heap.size w10 W → By W v p) := fun W hW => HV.out.up (b10.out.trans (hW.mono b10.out.size)) (Nat.le_refl _)
    have YF : Hid (∀ W, Below w10.heap.size w10 W → By W (.slice (some ⟨j1, 0, none⟩) 32 64) (S.by r)) := fun W hW => By.front64 ((G.out.up hW).rng 4 rfl : W.rangeAt j1 0 (bR r ++ bR s))
    have YB : Hid (∀ W, Below w10.heap.size w10 W → By W (.slice (some ⟨kb, 0, none⟩) 32 32) (S.by g)) := fun W hW => By.of_rng (Kn.rng (G.out.up hW) 0 rfl)
    have D0 : Below w10.heap.size w10 { w10 with drawn := w10.drawn + 1 } := (Below.refl _ _).drew
    refine wp_region_held (S := fun W => Below w10.heap.size w10 W) (by kernel_rfl) ?_
    refine wpAnyH_take (i := 0) (v := .pointer (some ⟨k1, 36, none⟩)) (fuel := 8) rfl (by kernel_rfl) (by kernel_rfl) (by kernel_rfl) (fun _ _ _ h => h) (Yields.yieldsIf (.inl ⟨rfl, exec_pub2 _ rfl k1 rfl⟩)) D0 ?_
    refine wpAnyH_take (i := 1) (v := bV a) (fuel := 7) rfl (by kernel_rfl) (by kernel_rfl) (by kernel_rfl) (fun _ _ _ h => h) (yieldsIf_load_mid rfl 22 _ rfl k1 36 rfl (bR a) _ (fun W hW => Kn.png2 (G.out.up hW) 3 rfl) Tryd.underlying22 rfl (info_bR a)) D0 ?_
    refine wpAnyH_take (i := 2) (v := v) (fuel := 6) rfl (by kernel_rfl) (by kernel_rfl) (by kernel_rfl) (fun _ _ _ h => h) (Yields.yieldsIf (.inl ⟨rfl, exec_mv' _ rfl rfl⟩)) D0 ?_
    refine wpAnyH_take (i := 3) (v := .slice (some ⟨j1, 0, none⟩) 32 64) (fuel := 5) rfl (by kernel_rfl) (by kernel_rfl) (by kernel_rfl) (fun _ _ _ h => h) (Yields.yieldsIf (.inl ⟨rfl, exec_front64 _ _ rfl j1 rfl rfl⟩)) D0 ?_
    refine wpAnyH_take (i := 5) (v := .slice (some ⟨kb, 0, none⟩) 32 32) (fuel := 4) rfl (by kernel_rfl) (by kernel_rfl) (by kernel_rfl) (fun _ _ _ h => h) (Yields.yieldsIf (.inl ⟨rfl, exec_all32 _ rfl kb rfl⟩)) D0 ?_
    refine wpAnyH_path [4, 6, 7, 8] [_, _, _, _] _ _ _ rfl (by kernel_rfl) ?_
    simp only [Act.put, List.setIfInBounds_toArray, List.set_cons_succ, List.set_cons_zero, List.getElem_toArray, List.getElem_cons_zero, List.getElem_cons_succ]
    refine PathH.step (φ := fun u W => Ob W w10.heap.size u (S.by r)) rfl (yields_call1 cfCl (.tmp 42) _ rfl (.slice (some ⟨j1, 0, none⟩) 32 64) rfl ((cloneB_fun (S.by r) (by rw [S.by_length]; decide) ⟨j1, 0, none⟩ 32 64 _ (YF.out _ D0)).mono fun e w' ⟨⟨u, he, ho⟩, hb⟩ => ⟨u, he, ho, hb⟩)) ?_
    intro v11 w11 o11 hb11
    have S11 : Below w10.heap.size w10 w11 := D0.trans hb11
    refine ⟨S11, ?_⟩
    clear hb11
    simp only [Act.put, List.setIfInBounds_toArray, List.set_cons_succ, List.set_cons_zero]
    refine PathH.appB rfl (.tmp 43) (.tmp 44) rfl w10.heap.size v11 (.slice (some ⟨kb, 0, none⟩) 32 32) (S.by r) (S.by g) w11 rfl o11 (Below.refl _ _) rfl (YB.out _ S11) (by rw [S.by_length, S.by_length]; decide) S11.size ?_
    intro v12 w12 o12 hb12
    have S12 : Below w10.heap.size w10 w12 := S11.trans hb12
    refine ⟨S12, ?_⟩
    clear hb12 o11 S11
    simp only [Act.put, List.setIfInBounds_toArray, List.set_cons_succ, List.set_cons_zero]
    refine PathH.step (φ := (MP.eq (.int .i64 4)).p) rfl (yields_call3 cfVe (.tmp 40) (.tmp 41) (.tmp 45) _ rfl (bV a) v v12 rfl rfl rfl ((VR.out _ _ (VU.out _ S12) o12.by (KU.out _ S12)).mono fun _ w' ⟨he, hb⟩ => ⟨_, he, rfl, hb⟩)) ?_
    intro v13 w13 e13 hb13
    obtain rfl : v13 = .int .i64 4 := e13
    have S13 : Below w10.heap.size w10 w13 := S12.trans (hb13.mono S12.size)
    refine ⟨S13, ?_⟩
    clear hb13 o12 S12
    simp only [Act.put, List.setIfInBounds_toArray, List.set_cons_succ, List.set_cons_zero]
    refine PathH.step (φ := (MP.eq (.int .i64 4)).p) rfl (yields_as (.tmp 46) rfl rfl) ?_
    intro v14 w14 e14 hb14
    obtain rfl : v14 = .int .i64 4 := e14
    have S14 : Below w10.heap.size w10 w14 := S13.trans (hb14.mono S13.size)
    refine ⟨S14, ?_⟩
    have s14 : Hid (Kn w14 [(kb, bR g), (w7.heap.size, c4 fw), (w5.heap.size, c4 os), (k1, prR x m a), (j1, sgR r s), (w.heap.size + 1, c4 n), (w.heap.size, bR d)]) := s10.out.up S14
    have b14 : Hid (Below w.heap.size w w14) := b10.out.trans (S14.mono b10.out.size)
    clear hb14 S13 S14 G KU VU YF YB D0 s10 b10
    unfold PathH
    simp only [Act.put, List.setIfInBounds_toArray, List.set_cons_succ, List.set_cons_zero]
    go_wp2_with fail
    refine wp_region_up (by kernel_rfl) (by kernel_rfl) (fun U hU f hf hcl => ?_)
    have ufr_0 := fun nx => (Kn.get (s14.out.up (hf nx).out) 1 0 rfl rfl : (f nx).cell? ⟨w7.heap.size, 0, none⟩ = some (.int .u64 (fw).a))
    have ufr_1 := fun nx => (Kn.get (s14.out.up (hf nx).out) 1 1 rfl rfl : (f nx).cell? ⟨w7.heap.size, 1, none⟩ = some (.int .u64 (fw).b))
    have ufr_2 := fun nx => (Kn.get (s14.out.up (hf nx).out) 1 2 rfl rfl : (f nx).cell? ⟨w7.heap.size, 2, none⟩ = some (.int .u64 (fw).c))
    have ufr_3 := fun nx => (Kn.get (s14.out.up (hf nx).out) 1 3 rfl rfl : (f nx).cell? ⟨w7.heap.size, 3, none⟩ = some (.int .u64 (fw).d))
    try simp only [List.append_eq, List.cons_append, List.nil_append]
    repeat (go_big_quiet_step (first | (go_at_call 15; exact (SL _).mono fun e w'' ⟨he, hb⟩ => ⟨he, hcl.out _ _ hb⟩) | (go_at_call 14; exact (CM _).mono fun e w'' ⟨he, hb⟩ => ⟨he, hcl.out _ _ hb⟩)))
    refine wpQuiet_nil ?_
    intro nx
    have hb15 := (hf nx).out
    clear hf hcl ufr_0 ufr_1 ufr_2 ufr_3
    generalize f nx = w15 at hb15 ⊢
    have s15 : Hid (Kn w15 [(kb, (bR (g))), (w7.heap.size, (c4 (fw))), (w5.heap.size, (c4 (os))), (k1, (prR (x) (m) (a))), (j1, (sgR (r) (s))), (w.heap.size + 1, (c4 (n))), (w.heap.size, (bR (d)))]) := s14.out.up hb15
    have b15 : Hid (Below w.heap.size w w15) := b14.out.trans (hb15.mono b14.out.size)
    have z15 := b15.out.size
    clear hb15 s14 b14
    go_wp2_with fail
    go_ret
    exact ⟨rfl, b15.out⟩
  · have HV : Hid (By w v p) := hv
    have HT : Hid (KTab w) := hT
    clear hv hT
    go_enter Tryd.func5, Tryd.ntmps5
    have s0 : Hid (Kn (kal4 (w.alloc (.cells (bR (d)).toArray 22)) (n)) [(w.heap.size + 1, (c4 (n))), (w.heap.size, (bR (d)))]) := (((Kn.nil w).al (bR (d)) 22 rfl).al (c4 (n)) 27 (by simp))
    have b0 : Hid (Below w.heap.size w (kal4 (w.alloc (.cells (bR (d)).toArray 22)) (n))) := (((Below.refl _ _).alloc (Nat.le_refl _) _).alloc (by simp <;> omega) _)
    go_wp2_with fail
    refine wp_region_vars2 5 (.cells #[Value.int IntKind.u64 0, Value.int IntKind.u64 0, Value.int IntKind.u64 0, Value.int IntKind.u64 0, Value.int IntKind.u8 0, Value.int IntKind.u8 0, Value.int IntKind.u8 0, Value.int IntKind.u8 0, Value.int IntKind.u8 0, Value.int IntKind.u8 0, Value.int IntKind.u8 0, Value.int IntKind.u8 0, Value.int IntKind.u8 0, Value.int IntKind.u8 0, Value.int IntKind.u8 0, Value.int IntKind.u8 0, Value.int IntKind.u8 0, Value.int IntKind.u8 0, Value.int IntKind.u8 0, Value.int IntKind.u8 0, Value.int IntKind.u8 0, Value.int IntKind.u8 0, Value.int IntKind.u8 0, Value.int IntKind.u8 0, Value.int IntKind.u8 0, Value.int IntKind.u8 0, Value.int IntKind.u8 0, Value.int IntKind.u8 0, Value.int IntKind.u8 0, Value.int IntKind.u8 0, Value.int IntKind.u8 0, Value.int IntKind.u8 0, Value.int IntKind.u8 0, Value.int IntKind.u8 0, Value.int IntKind.u8 0, Value.int IntKind.u8 0, Value.int IntKind.u8 0, Value.int IntKind.u8 0, Value.int IntKind.u8 0, Value.int IntKind.u8 0, Value.int IntKind.u8 0, Value.int IntKind.u8 0, Value.int IntKind.u8 0, Value.int IntKind.u8 0, Value.int IntKind.u8 0, Value.int IntKind.u8 0, Value.int IntKind.u8 0, Value.int IntKind.u8 0, Value.int IntKind.u8 0, Value.int IntKind.u8 0, Value.int IntKind.u8 0, Value.int IntKind.u8 0, Value.int IntKind.u8 0, Value.int IntKind.u8 0, Value.int IntKind.u8 0, Value.int IntKind.u8 0, Value.int IntKind.u8 0, Value.int IntKind.u8 0, Value.int IntKind.u8 0, Value.int IntKind.u8 0, Value.int IntKind.u8 0, Value.int IntKind.u8 0, Value.int IntKind.u8 0, Value.int IntKind.u8 0, Value.int IntKind.u8 0, Value.int IntKind.u8 0, Value.int IntKind.u8 0, Value.int IntKind.u8 0] 29) (.cells #[Value.int IntKind.u8 0, Value.int IntKind.u8 0, Value.int IntKind.u8 0, Value.int IntKind.u8 0, Value.int IntKind.u8 0, Value.int IntKind.u8 0, Value.int IntKind.u8 0, Value.int IntKind.u8 0, Value.int IntKind.u8 0, Value.int IntKind.u8 0, Value.int IntKind.u8 0, Value.int IntKind.u8 0, Value.int IntKind.u8 0, Value.int IntKind.u8 0, Value.int IntKind.u8 0, Value.int IntKind.u8 0, Value.int IntKind.u8 0, Value.int IntKind.u8 0, Value.int IntKind.u8 0, Value.int IntKind.u8 0, Value.int IntKind.u8 0, Value.int IntKind.u8 0, Value.int IntKind.u8 0, Value.int IntKind.u8 0, Value.int IntKind.u8 0, Value.int IntKind.u8 0, Value.int IntKind.u8 0, Value.int IntKind.u8 0, Value.int IntKind.u8 0, Value.int IntKind.u8 0, Value.int IntKind.u8 0, Value.int IntKind.u8 0, Value.int IntKind.u8 0, Value.int IntKind.u8 0, Value.int IntKind.u8 0, Value.int IntKind.u8 0, Value.int IntKind.u8 0, Value.int IntKind.u8 0, Value.int IntKind.u8 0, Value.int IntKind.u8 0, Value.int IntKind.u8 0, Value.int IntKind.u8 0, Value.int IntKind.u8 0, Value.int IntKind.u8 0, Value.int IntKind.u8 0, Value.int IntKind.u8 0, Value.int IntKind.u8 0, Value.int IntKind.u8 0, Value.int IntKind.u8 0, Value.int IntKind.u8 0, Value.int IntKind.u8 0, Value.int IntKind.u8 0, Value.int IntKind.u8 0, Value.int IntKind.u8 0, Value.int IntKind.u8 0, Value.int IntKind.u8 0, Value.int IntKind.u8 0, Value.int IntKind.u8 0, Value.int IntKind.u8 0, Value.int IntKind.u8 0, Value.int IntKind.u8 0, Value.int IntKind.u8 0, Value.int IntKind.u8 0, Value.int IntKind.u8 0] 31) (.cells (prR (x) (m) (a)).toArray 29) (.cells (sgR (r) (s)).toArray 31) (by kernel_rfl) (by kernel_rfl) (by kernel_rfl) (by kernel_rfl) rfl rfl rfl rfl (by decide) rfl rfl (fun _ _ => by kernel_rfl) (fun _ _ => by kernel_rfl) ?_
    apply Exists.intro
    refine ⟨fun U hU f hf hcl => ?_, fun k j W hc => ?_, fun k j W hc => ?_, fun k1 j1 w1 hb1 hk1 hj1 hn1 hc1 hd1 => ?_⟩
    · skip
      have ra_seed_0 := fun nx => (Kn.rng (s0.out.up (hf nx).out) 1 rfl : (f nx).rangeAt (w.heap.size) 0 (bR (d)))
      have KT := fun nx => HT.out.up (b0.out.trans ((hf nx).out.mono b0.out.size)) HT.out.pos
      have BV := fun nx => HV.out.up (b0.out.trans ((hf nx).out.mono b0.out.size)) (Nat.le_refl _)
      clear hf
      simp only [List.take_succ_cons, List.take_zero]
      repeat (first | (refine I.quiet_load rfl 22 _ rfl (w.heap.size) 0 rfl (bR (d)) _ (fun W hW => by obtain ⟨nx, rfl⟩ := hW; exact ra_seed_0 nx) Tryd.underlying22 rfl (info_bR (d)) ?_; simp only [Act.put, List.setIfInBounds_toArray, List.set_cons_succ, List.set_cons_zero]) | go_big_quiet_step (first | (go_at_call 7; exact (NW.out _ (KT _)).mono fun e w'' ⟨he, hb⟩ => ⟨he, hcl.out _ _ hb⟩) | (go_at_call 8; exact (SG.out _ (BV _) (KT _)).mono fun e w'' ⟨he, hb⟩ => ⟨he, hcl.out _ _ hb⟩)))
      exact wpQuiet_nil rfl
    · exact st_obj (zs := pairZ) (cs := (prR (x) (m) (a))) hc.out rfl rfl rfl (by rw [(prR_length (x) (m) (a)), pairZ_length]) (info_prR (x) (m) (a)) (prR_one (x) (m) (a))
    · exact st_obj (zs := sgZ) (cs := (sgR (r) (s))) hc.out rfl rfl rfl (by rw [(sgR_length (r) (s)), sgZ_length]) (info_sgR (r) (s)) (sgR_one (r) (s))
    simp only [Act.put, List.setIfInBounds_toArray, List.set_cons_succ, List.set_cons_zero]
    have z1 := b0.out.size
    have g1 : w.heap.size ≤ k1 := Nat.le_trans b0.out.size hk1
    have gj1 : w.heap.size ≤ j1 := Nat.le_trans b0.out.size hj1
    have s1 : Hid (Kn w1 [(k1, (prR (x) (m) (a))), (j1, (sgR (r) (s))), (w.heap.size + 1, (c4 (n))), (w.heap.size, (bR (d)))]) := s0.out.two hb1.out hk1 hj1 hn1.out hc1.out hd1.out
    have b1 : Hid (Below w.heap.size w w1) := b0.out.trans (hb1.out.mono b0.out.size)
    clear s0 b0 hb1 hc1 hd1 hk1 hj1
    have s2 : Hid (Kn (w1.alloc (.cells #[Value.int IntKind.u8 0, Value.int IntKind.u8 0, Value.int IntKind.u8 0, Value.int IntKind.u8 0, Value.int IntKind.u8 0, Value.int IntKind.u8 0, Value.int IntKind.u8 0, Value.int IntKind.u8 0, Value.int IntKind.u8 0, Value.int IntKind.u8 0, Value.int IntKind.u8 0, Value.int IntKind.u8 0, Value.int IntKind.u8 0, Value.int IntKind.u8 0, Value.int IntKind.u8 0, Value.int IntKind.u8 0, Value.int IntKind.u8 0, Value.int IntKind.u8 0, Value.int IntKind.u8 0, Value.int IntKind.u8 0, Value.int IntKind.u8 0, Value.int IntKind.u8 0, Value.int IntKind.u8 0, Value.int IntKind.u8 0, Value.int IntKind.u8 0, Value.int IntKind.u8 0, Value.int IntKind.u8 0, Value.int IntKind.u8 0, Value.int IntKind.u8 0, Value.int IntKind.u8 0, Value.int IntKind.u8 0, Value.int IntKind.u8 0] 22)) [(w1.heap.size, bZ), (k1, (prR (x) (m) (a))), (j1, (sgR (r) (s))), (w.heap.size + 1, (c4 (n))), (w.heap.size, (bR (d)))]) := s1.out.al bZ 22 rfl
    have b2 : Hid (Below w.heap.size w (w1.alloc (.cells #[Value.int IntKind.u8 0, Value.int IntKind.u8 0, Value.int IntKind.u8 0, Value.int IntKind.u8 0, Value.int IntKind.u8 0, Value.int IntKind.u8 0, Value.int IntKind.u8 0, Value.int IntKind.u8 0, Value.int IntKind.u8 0, Value.int IntKind.u8 0, Value.int IntKind.u8 0, Value.int IntKind.u8 0, Value.int IntKind.u8 0, Value.int IntKind.u8 0, Value.int IntKind.u8 0, Value.int IntKind.u8 0, Value.int IntKind.u8 0, Value.int IntKind.u8 0, Value.int IntKind.u8 0, Value.int IntKind.u8 0, Value.int IntKind.u8 0, Value.int IntKind.u8 0, Value.int IntKind.u8 0, Value.int IntKind.u8 0, Value.int IntKind.u8 0, Value.int IntKind.u8 0, Value.int IntKind.u8 0, Value.int IntKind.u8 0, Value.int IntKind.u8 0, Value.int IntKind.u8 0, Value.int IntKind.u8 0, Value.int IntKind.u8 0] 22))) := b1.out.alloc b1.out.size _
    have z2 := b1.out.size
    clear s1 b1
    go_wp2_with (simp only [zero_b32])
    have gb : w.heap.size ≤ w1.heap.size := z2
    refine wp_region_two 0 1 [2] [_] (.slice (some ⟨w1.heap.size, 0, none⟩) 32 32) (.slice (some ⟨j1, 32, none⟩) 32 32) (by kernel_rfl) (by kernel_rfl) (fun _ _ d _ _ h => by cases d <;> exact h) rfl rfl (by kernel_rfl) (by kernel_rfl) rfl rfl (by kernel_rfl) (.inl ⟨rfl, exec_all32 _ rfl _ rfl⟩) (.inl ⟨rfl, exec_from64 _ _ rfl _ rfl rfl⟩) ?_
    intro w3 hb3 hh3
    clear hh3
    simp only [Act.put, List.setIfInBounds_toArray, List.set_cons_succ, List.set_cons_zero, List.getElem_toArray, List.getElem_cons_zero, List.getElem_cons_succ]
    have s3 : Hid (Kn w3 [(w1.heap.size, bZ), (k1, prR x m a), (j1, sgR r s), (w.heap.size + 1, c4 n), (w.heap.size, bR d)]) := s2.out.up hb3.out
    have b3 : Hid (Below w.heap.size w w3) := b2.out.trans (hb3.out.mono b2.out.size)
    clear s2 b2 hb3
    have T3 : Hid (w3.there w1.heap.size 0 (S.by s).length) := by
      have := Kn.there (us := bR 0) s3.out 0 rfl (by rw [bR_length, bZ_length])
      rw [S.by_length]
      rw [bR_length] at this
      exact this
    have R3 : Hid (w3.rangeAt j1 32 ((S.by s).map b8)) := by
      have := (range_app (s3.out.rng 2 rfl : w3.rangeAt j1 0 (bR r ++ bR s))).2
      rw [bR_length, Nat.zero_add] at this
      rw [← S.by_row]
      exact this
    go_wp2_with (refine wp_copyR rfl _ _ rfl w1.heap.size 0 32 32 j1 32 32 32 (S.by s) rfl rfl (by rw [S.by_length]; rfl) R3.out T3.out ?_)
    intro w4 hw4
    have s4 : Hid (Kn w4 [(w1.heap.size, bR s), (k1, prR x m a), (j1, sgR r s), (w.heap.size + 1, c4 n), (w.heap.size, bR d)]) := by
      rw [hw4.out, ← S.by_row]
      exact Kn.put s3.out (by rw [bR_length, bZ_length])
    have b4 : Hid (Below w.heap.size w w4) := by rw [hw4.out]; exact I.below_setCells _ _ _ b3.out gb
    clear hw4 s3 b3 T3 R3
    generalize w1.heap.size = kb at *
    go_wp2_with (first | refine wp_ldW rfl 22 _ rfl kb 0 rfl (bR (s)) _ (Kn.rng s4.out 0 rfl) Tryd.underlying22 rfl (info_bR (s)) ?_)
    refine (OF _).mono ?_
    rintro e w5 ⟨rfl, hb5⟩
    have s5 : Hid (Kn w5 [(kb, (bR (s))), (k1, (prR (x) (m) (a))), (j1, (sgR (r) (s))), (w.heap.size + 1, (c4 (n))), (w.heap.size, (bR (d)))]) := s4.out.up hb5
    have b5 : Hid (Below w.heap.size w w5) := b4.out.trans (hb5.mono b4.out.size)
    have z5 := b5.out.size
    clear hb5 s4 b4
    have s6 : Hid (Kn (kal4 w5 (os)) [(w5.heap.size, (c4 (os))), (kb, (bR (s))), (k1, (prR (x) (m) (a))), (j1, (sgR (r) (s))), (w.heap.size + 1, (c4 (n))), (w.heap.size, (bR (d)))]) := s5.out.al (c4 (os)) 27 rfl
    have b6 : Hid (Below w.heap.size w (kal4 w5 (os))) := b5.out.alloc b5.out.size _
    have z6 := b5.out.size
    clear s5 b5
    have uold_0 : (kal4 w5 (os)).cell? ⟨w5.heap.size, 0, none⟩ = some (.int .u64 (os).a) := Kn.get s6.out 0 0 rfl rfl
    have uold_1 : (kal4 w5 (os)).cell? ⟨w5.heap.size, 1, none⟩ = some (.int .u64 (os).b) := Kn.get s6.out 0 1 rfl rfl
    have uold_2 : (kal4 w5 (os)).cell? ⟨w5.heap.size, 2, none⟩ = some (.int .u64 (os).c) := Kn.get s6.out 0 2 rfl rfl
    have uold_3 : (kal4 w5 (os)).cell? ⟨w5.heap.size, 3, none⟩ = some (.int .u64 (os).d) := Kn.get s6.out 0 3 rfl rfl
    have un_0 : (kal4 w5 (os)).cell? ⟨w.heap.size + 1, 0, none⟩ = some (.int .u64 (n).a) := Kn.get s6.out 4 0 rfl rfl
    have un_1 : (kal4 w5 (os)).cell? ⟨w.heap.size + 1, 1, none⟩ = some (.int .u64 (n).b) := Kn.get s6.out 4 1 rfl rfl
    have un_2 : (kal4 w5 (os)).cell? ⟨w.heap.size + 1, 2, none⟩ = some (.int .u64 (n).c) := Kn.get s6.out 4 2 rfl rfl
    have un_3 : (kal4 w5 (os)).cell? ⟨w.heap.size + 1, 3, none⟩ = some (.int .u64 (n).d) := Kn.get s6.out 4 3 rfl rfl
    go_wp2_with fail
    clear uold_0 uold_1 uold_2 uold_3 un_0 un_1 un_2 un_3
    refine (AD _).mono ?_
    rintro e w7 ⟨rfl, hb7⟩
    have s7 : Hid (Kn w7 [(w5.heap.size, (c4 (os))), (kb, (bR (s))), (k1, (prR (x) (m) (a))), (j1, (sgR (r) (s))), (w.heap.size + 1, (c4 (n))), (w.heap.size, (bR (d)))]) := s6.out.up hb7
    have b7 : Hid (Below w.heap.size w w7) := b6.out.trans (hb7.mono b6.out.size)
    have z7 := b7.out.size
    clear hb7 s6 b6
    have s8 : Hid (Kn (kal4 w7 (fw)) [(w7.heap.size, (c4 (fw))), (w5.heap.size, (c4 (os))), (kb, (bR (s))), (k1, (prR (x) (m) (a))), (j1, (sgR (r) (s))), (w.heap.size + 1, (c4 (n))), (w.heap.size, (bR (d)))]) := s7.out.al (c4 (fw)) 27 rfl
    have b8 : Hid (Below w.heap.size w (kal4 w7 (fw))) := b7.out.alloc b7.out.size _
    have z8 := b7.out.size
    clear s7 b7
    have un_0 : (kal4 w7 (fw)).cell? ⟨w.heap.size + 1, 0, none⟩ = some (.int .u64 (n).a) := Kn.get s8.out 5 0 rfl rfl
    have un_1 : (kal4 w7 (fw)).cell? ⟨w.heap.size + 1, 1, none⟩ = some (.int .u64 (n).b) := Kn.get s8.out 5 1 rfl rfl
    have un_2 : (kal4 w7 (fw)).cell? ⟨w.heap.size + 1, 2, none⟩ = some (.int .u64 (n).c) := Kn.get s8.out 5 2 rfl rfl
    have un_3 : (kal4 w7 (fw)).cell? ⟨w.heap.size + 1, 3, none⟩ = some (.int .u64 (n).d) := Kn.get s8.out 5 3 rfl rfl
    have ufr_0 : (kal4 w7 (fw)).cell? ⟨w7.heap.size, 0, none⟩ = some (.int .u64 (fw).a) := Kn.get s8.out 0 0 rfl rfl
    have ufr_1 : (kal4 w7 (fw)).cell? ⟨w7.heap.size, 1, none⟩ = some (.int .u64 (fw).b) := Kn.get s8.out 0 1 rfl rfl
    have ufr_2 : (kal4 w7 (fw)).cell? ⟨w7.heap.size, 2, none⟩ = some (.int .u64 (fw).c) := Kn.get s8.out 0 2 rfl rfl
    have ufr_3 : (kal4 w7 (fw)).cell? ⟨w7.heap.size, 3, none⟩ = some (.int .u64 (fw).d) := Kn.get s8.out 0 3 rfl rfl
    go_wp2_with fail
    clear un_0 un_1 un_2 un_3 ufr_0 ufr_1 ufr_2 ufr_3
    refine (BY _).mono ?_
    rintro e w9 ⟨rfl, hb9⟩
    have s9 : Hid (Kn w9 [(w7.heap.size, (c4 (fw))), (w5.heap.size, (c4 (os))), (kb, (bR (s))), (k1, (prR (x) (m) (a))), (j1, (sgR (r) (s))), (w.heap.size + 1, (c4 (n))), (w.heap.size, (bR (d)))]) := s8.out.up hb9
    have b9 : Hid (Below w.heap.size w w9) := b8.out.trans (hb9.mono b8.out.size)
    have z9 := b9.out.size
    clear hb9 s8 b8
    have s10x : Hid (Kn w9 [(kb, (bR (s))), (w7.heap.size, (c4 (fw))), (w5.heap.size, (c4 (os))), (k1, (prR (x) (m) (a))), (j1, (sgR (r) (s))), (w.heap.size + 1, (c4 (n))), (w.heap.size, (bR (d)))]) := s9.out.front 2 rfl
    have b10x : Hid (Below w.heap.size w w9) := b9.out
    have TT10 : Hid (w9.there kb 0 (bR (g)).length) := Kn.there s10x.out 0 rfl (by rw [(bR_length (g)), (bR_length (s))])
    go_wp2_with (first | refine I.wp_store_eq rfl 22 _ _ rfl kb 0 (bR (g)) rfl rfl TT10.out (info_bR (g)) (bR_one (g)) ?_)
    intro w10 hw10
    try simp only [Act.put, List.setIfInBounds_toArray, List.set_cons_succ, List.set_cons_zero]
    have s10 : Hid (Kn w10 [(kb, (bR (g))), (w7.heap.size, (c4 (fw))), (w5.heap.size, (c4 (os))), (k1, (prR (x) (m) (a))), (j1, (sgR (r) (s))), (w.heap.size + 1, (c4 (n))), (w.heap.size, (bR (d)))]) := by rw [hw10.out]; exact Kn.put s10x.out (by rw [(bR_length (g)), (bR_length (s))])
    have b10 : Hid (Below w.heap.size w w10) := by rw [hw10.out]; exact I.below_setCells _ _ _ b10x.out (by omega)
    have z10 := b10.out.size
    clear hw10 s10x b10x TT10 s9 b9
    go_wp2_with fail
    have G : Hid _ := s10
    have KU : Hid (∀ W, Below w10.heap.size w10 W → KTab W) := fun W hW => HT.out.up (b10.out.trans (hW.mono b10.out.size)) HT.out.pos
    have VU : Hid (∀ W, Below w10.heap.size w10 W → By W v p) := fun W hW => HV.out.up (b10.out.trans (hW.mono b10.out.size)) (Nat.le_refl _)
    have YF : Hid (∀ W, Below w10.heap.size w10 W → By W (.slice (some ⟨j1, 0, none⟩) 32 64) (S.by r)) := fun W hW => By.front64 ((G.out.up hW).rng 4 rfl : W.rangeAt j1 0 (bR r ++ bR s))
    have YB : Hid (∀ W, Below w10.heap.size w10 W → By W (.slice (some ⟨kb, 0, none⟩) 32 32) (S.by g)) := fun W hW => By.of_rng (Kn.rng (G.out.up hW) 0 rfl)
    have D0 : Below w10.heap.size w10 { w10 with drawn := w10.drawn + 1 } := (Below.refl _ _).drew
    refine wp_region_held (S := fun W => Below w10.heap.size w10 W) (by kernel_rfl) ?_
    refine wpAnyH_take (i := 0) (v := .pointer (some ⟨k1, 36, none⟩)) (fuel := 8) rfl (by kernel_rfl) (by kernel_rfl) (by kernel_rfl) (fun _ _ _ h => h) (Yields.yieldsIf (.inl ⟨rfl, exec_pub2 _ rfl k1 rfl⟩)) D0 ?_
    refine wpAnyH_take (i := 1) (v := bV a) (fuel := 7) rfl (by kernel_rfl) (by kernel_rfl) (by kernel_rfl) (fun _ _ _ h => h) (yieldsIf_load_mid rfl 22 _ rfl k1 36 rfl (bR a) _ (fun W hW => Kn.png2 (G.out.up hW) 3 rfl) Tryd.underlying22 rfl (info_bR a)) D0 ?_
    refine wpAnyH_take (i := 2) (v := v) (fuel := 6) rfl (by kernel_rfl) (by kernel_rfl) (by kernel_rfl) (fun _ _ _ h => h) (Yields.yieldsIf (.inl ⟨rfl, exec_mv' _ rfl rfl⟩)) D0 ?_
    refine wpAnyH_take (i := 3) (v := .slice (some ⟨j1, 0, none⟩) 32 64) (fuel := 5) rfl (by kernel_rfl) (by kernel_rfl) (by kernel_rfl) (fun _ _ _ h => h) (Yields.yieldsIf (.inl ⟨rfl, exec_front64 _ _ rfl j1 rfl rfl⟩)) D0 ?_
    refine wpAnyH_take (i := 5) (v := .slice (some ⟨kb, 0, none⟩) 32 32) (fuel := 4) rfl (by kernel_rfl) (by kernel_rfl) (by kernel_rfl) (fun _ _ _ h => h) (Yields.yieldsIf (.inl ⟨rfl, exec_all32 _ rfl kb rfl⟩)) D0 ?_
    refine wpAnyH_path [4, 6, 7, 8] [_, _, _, _] _ _ _ rfl (by kernel_rfl) ?_
    simp only [Act.put, List.setIfInBounds_toArray, List.set_cons_succ, List.set_cons_zero, List.getElem_toArray, List.getElem_cons_zero, List.getElem_cons_succ]
    refine PathH.step (φ := fun u W => Ob W w10.heap.size u (S.by r)) rfl (yields_call1 cfCl (.tmp 42) _ rfl (.slice (some ⟨j1, 0, none⟩) 32 64) rfl ((cloneB_fun (S.by r) (by rw [S.by_length]; decide) ⟨j1, 0, none⟩ 32 64 _ (YF.out _ D0)).mono fun e w' ⟨⟨u, he, ho⟩, hb⟩ => ⟨u, he, ho, hb⟩)) ?_
    intro v11 w11 o11 hb11
    have S11 : Below w10.heap.size w10 w11 := D0.trans hb11
    refine ⟨S11, ?_⟩
    clear hb11
    simp only [Act.put, List.setIfInBounds_toArray, List.set_cons_succ, List.set_cons_zero]
    refine PathH.appB rfl (.tmp 43) (.tmp 44) rfl w10.heap.size v11 (.slice (some ⟨kb, 0, none⟩) 32 32) (S.by r) (S.by g) w11 rfl o11 (Below.refl _ _) rfl (YB.out _ S11) (by rw [S.by_length, S.by_length]; decide) S11.size ?_
    intro v12 w12 o12 hb12
    have S12 : Below w10.heap.size w10 w12 := S11.trans hb12
    refine ⟨S12, ?_⟩
    clear hb12 o11 S11
    simp only [Act.put, List.setIfInBounds_toArray, List.set_cons_succ, List.set_cons_zero]
    refine PathH.step (φ := (MP.eq (.int .i64 4)).p) rfl (yields_call3 cfVe (.tmp 40) (.tmp 41) (.tmp 45) _ rfl (bV a) v v12 rfl rfl rfl ((VR.out _ _ (VU.out _ S12) o12.by (KU.out _ S12)).mono fun _ w' ⟨he, hb⟩ => ⟨_, he, rfl, hb⟩)) ?_
    intro v13 w13 e13 hb13
    obtain rfl : v13 = .int .i64 4 := e13
    have S13 : Below w10.heap.size w10 w13 := S12.trans (hb13.mono S12.size)
    refine ⟨S13, ?_⟩
    clear hb13 o12 S12
    simp only [Act.put, List.setIfInBounds_toArray, List.set_cons_succ, List.set_cons_zero]
    refine PathH.step (φ := (MP.eq (.int .i64 4)).p) rfl (yields_as (.tmp 46) rfl rfl) ?_
    intro v14 w14 e14 hb14
    obtain rfl : v14 = .int .i64 4 := e14
    have S14 : Below w10.heap.size w10 w14 := S13.trans (hb14.mono S13.size)
    refine ⟨S14, ?_⟩
    have s14 : Hid (Kn w14 [(kb, bR g), (w7.heap.size, c4 fw), (w5.heap.size, c4 os), (k1, prR x m a), (j1, sgR r s), (w.heap.size + 1, c4 n), (w.heap.size, bR d)]) := s10.out.up S14
    have b14 : Hid (Below w.heap.size w w14) := b10.out.trans (S14.mono b10.out.size)
    clear hb14 S13 S14 G KU VU YF YB D0 s10 b10
    unfold PathH
    simp only [Act.put, List.setIfInBounds_toArray, List.set_cons_succ, List.set_cons_zero]
    go_wp2_with fail
    refine wp_region_up (by kernel_rfl) (by kernel_rfl) (fun U hU f hf hcl => ?_)
    have ufr_0 := fun nx => (Kn.get (s14.out.up (hf nx).out) 1 0 rfl rfl : (f nx).cell? ⟨w7.heap.size, 0, none⟩ = some (.int .u64 (fw).a))
    have ufr_1 := fun nx => (Kn.get (s14.out.up (hf nx).out) 1 1 rfl rfl : (f nx).cell? ⟨w7.heap.size, 1, none⟩ = some (.int .u64 (fw).b))
    have ufr_2 := fun nx => (Kn.get (s14.out.up (hf nx).out) 1 2 rfl rfl : (f nx).cell? ⟨w7.heap.size, 2, none⟩ = some (.int .u64 (fw).c))
    have ufr_3 := fun nx => (Kn.get (s14.out.up (hf nx).out) 1 3 rfl rfl : (f nx).cell? ⟨w7.heap.size, 3, none⟩ = some (.int .u64 (fw).d))
    try simp only [List.append_eq, List.cons_append, List.nil_append]
    repeat (go_big_quiet_step (first | (go_at_call 15; exact (SL _).mono fun e w'' ⟨he, hb⟩ => ⟨he, hcl.out _ _ hb⟩) | (go_at_call 14; exact (CM _).mono fun e w'' ⟨he, hb⟩ => ⟨he, hcl.out _ _ hb⟩)))
    refine wpQuiet_nil ?_
    intro nx
    have hb15 := (hf nx).out
    clear hf hcl ufr_0 ufr_1 ufr_2 ufr_3
    generalize f nx = w15 at hb15 ⊢
    have s15 : Hid (Kn w15 [(kb, (bR (g))), (w7.heap.size, (c4 (fw))), (w5.heap.size, (c4 (os))), (k1, (prR (x) (m) (a))), (j1, (sgR (r) (s))), (w.heap.size + 1, (c4 (n))), (w.heap.size, (bR (d)))]) := s14.out.up hb15
    have b15 : Hid (Below w.heap.size w w15) := b14.out.trans (hb15.mono b14.out.size)
    have z15 := b15.out.size
    clear hb15 s14 b14
    go_wp2_with fail
    go_ret
    exact ⟨rfl, b15.out⟩
set_option maxRecDepth 20000 in
set_option maxHeartbeats 600000 in
theorem signAgain_4 (d m a r s g : Nat) (x n os fw lm : Nm) (v : Value) (p : List Nat)  (en : ∀ w, (binOp .eql 27 (N n) (N ⟨0, 0, 0, 0⟩)).run Tryd.prog w = .ok (.bool false) w)
    (NW : Hid (∀ w, KTab w → Calls Tryd.prog 7 #[bV d] w fun e w' => e = .returned (prV x m a) ∧ Below w.heap.size w w'))
    (SG : Hid (∀ w, By w v p → KTab w → Calls Tryd.prog 8 #[bV d, v] w fun e w' => e = .returned (sgV r s) ∧ Below w.heap.size w w'))
    (OF : ∀ w, Calls Tryd.prog 10 #[.agg (bR (s)).toArray] w fun e w' => e = .returned (N os) ∧ Below w.heap.size w w')
    (AD : ∀ w, Calls Tryd.prog 11 #[N os, N n] w fun e w' => e = .returned (.tuple #[N fw, .int .u64 0]) ∧ Below w.heap.size w w')
    (BY : ∀ w, Calls Tryd.prog 12 #[N fw] w fun e w' => e = .returned (.agg (bR (g)).toArray) ∧ Below w.heap.size w w')
    (VR : Hid (∀ u w, By w v p → By w u (S.by r ++ S.by g) → KTab w → Calls Tryd.prog 9 #[bV a, v, u] w fun e w' => e = .returned (.int .i64 5) ∧ Below w.heap.size w w'))
    (SL : ∀ w, Calls Tryd.prog 15 #[] w fun e w' => e = .returned (N lm) ∧ Below w.heap.size w w')
    (CM : ∀ w, Calls Tryd.prog 14 #[N fw, N lm] w fun e w' => e = .returned (.int .i64 (-1)) ∧ Below w.heap.size w w')
    (w : World) (hv : By w v p) (hT : KTab w) :
    Calls Tryd.prog 5 #[bV d, v, N n] w fun e w' => e = .returned (.bool true) ∧ Below w.heap.size w w' := by
  have HV : Hid (By w v p) := hv
  have HT : Hid (KTab w) := hT
  clear hv hT
  go_enter Tryd.func5, Tryd.ntmps5
  have s0 : Hid (Kn (kal4 (w.alloc (.cells (bR (d)).toArray 22)) (n)) [(w.heap.size + 1, (c4 (n))), (w.heap.size, (bR (d)))]) := (((Kn.nil w).al (bR (d)) 22 rfl).al (c4 (n)) 27 (by simp))
  have b0 : Hid (Below w.heap.size w (kal4 (w.alloc (.cells (bR (d)).toArray 22)) (n))) := (((Below.refl _ _).alloc (Nat.le_refl _) _).alloc (by simp <;> omega) _)
  go_wp2_with fail
  refine wp_region_vars2 5 (.cells #[Value.int IntKind.u64 0, Value.int IntKind.u64 0, Value.int IntKind.u64 0, Value.int IntKind.u64 0, Value.int IntKind.u8 0, Value.int IntKind.u8 0, Value.int IntKind.u8 0, Value.int IntKind.u8 0, Value.int IntKind.u8 0, Value.int IntKind.u8 0, Value.int IntKind.u8 0, Value.int IntKind.u8 0, Value.int IntKind.u8 0, Value.int IntKind.u8 0, Value.int IntKind.u8 0, Value.int IntKind.u8 0, Value.int IntKind.u8 0, Value.int IntKind.u8 0, Value.int IntKind.u8 0, Value.int IntKind.u8 0, Value.int IntKind.u8 0, Value.int IntKind.u8 0, Value.int IntKind.u8 0, Value.int IntKind.u8 0, Value.int IntKind.u8 0, Value.int IntKind.u8 0, Value.int IntKind.u8 0, Value.int IntKind.u8 0, Value.int IntKind.u8 0, Value.int IntKind.u8 0, Value.int IntKind.u8 0, Value.int IntKind.u8 0, Value.int IntKind.u8 0, Value.int IntKind.u8 0, Value.int IntKind.u8 0, Value.int IntKind.u8 0, Value.int IntKind.u8 0, Value.int IntKind.u8 0, Value.int IntKind.u8 0, Value.int IntKind.u8 0, Value.int IntKind.u8 0, Value.int IntKind.u8 0, Value.int IntKind.u8 0, Value.int IntKind.u8 0, Value.int IntKind.u8 0, Value.int IntKind.u8 0, Value.int IntKind.u8 0, Value.int IntKind.u8 0, Value.int IntKind.u8 0, Value.int IntKind.u8 0, Value.int IntKind.u8 0, Value.int IntKind.u8 0, Value.int IntKind.u8 0, Value.int IntKind.u8 0, Value.int IntKind.u8 0, Value.int IntKind.u8 0, Value.int IntKind.u8 0, Value.int IntKind.u8 0, Value.int IntKind.u8 0, Value.int IntKind.u8 0, Value.int IntKind.u8 0, Value.int IntKind.u8 0, Value.int IntKind.u8 0, Value.int IntKind.u8 0, Value.int IntKind.u8 0, Value.int IntKind.u8 0, Value.int IntKind.u8 0, Value.int IntKind.u8 0] 29) (.cells #[Value.int IntKind.u8 0, Value.int IntKind.u8 0, Value.int IntKind.u8 0, Value.int IntKind.u8 0, Value.int IntKind.u8 0, Value.int IntKind.u8 0, Value.int IntKind.u8 0, Value.int IntKind.u8 0, Value.int IntKind.u8 0, Value.int IntKind.u8 0, Value.int IntKind.u8 0, Value.int IntKind.u8 0, Value.int IntKind.u8 0, Value.int IntKind.u8 0, Value.int IntKind.u8 0, Value.int IntKind.u8 0, Value.int IntKind.u8 0, Value.int IntKind.u8 0, Value.int IntKind.u8 0, Value.int IntKind.u8 0, Value.int IntKind.u8 0, Value.int IntKind.u8 0, Value.int IntKind.u8 0, Value.int IntKind.u8 0, Value.int IntKind.u8 0, Value.int IntKind.u8 0, Value.int IntKind.u8 0, Value.int IntKind.u8 0, Value.int IntKind.u8 0, Value.int IntKind.u8 0, Value.int IntKind.u8 0, Value.int IntKind.u8 0, Value.int IntKind.u8 0, Value.int IntKind.u8 0, Value.int IntKind.u8 0, Value.int IntKind.u8 0, Value.int IntKind.u8 0, Value.int IntKind.u8 0, Value.int IntKind.u8 0, Value.int IntKind.u8 0, Value.int IntKind.u8 0, Value.int IntKind.u8 0, Value.int IntKind.u8 0, Value.int IntKind.u8 0, Value.int IntKind.u8 0, Value.int IntKind.u8 0, Value.int IntKind.u8 0, Value.int IntKind.u8 0, Value.int IntKind.u8 0, Value.int IntKind.u8 0, Value.int IntKind.u8 0, Value.int IntKind.u8 0, Value.int IntKind.u8 0, Value.int IntKind.u8 0, Value.int IntKind.u8 0, Value.int IntKind.u8 0, Value.int IntKind.u8 0, Value.int IntKind.u8 0, Value.int IntKind.u8 0, Value.int IntKind.u8 0, Value.int IntKind.u8 0, Value.int IntKind.u8 0, Value.int IntKind.u8 0, Value.int IntKind.u8 0] 31) (.cells (prR (x) (m) (a)).toArray 29) (.cells (sgR (r) (s)).toArray 31) (by kernel_rfl) (by kernel_rfl) (by kernel_rfl) (by kernel_rfl) rfl rfl rfl rfl (by decide) rfl rfl (fun _ _ => by kernel_rfl) (fun _ _ => by kernel_rfl) ?_
  apply Exists.intro
  refine ⟨fun U hU f hf hcl => ?_, fun k j W hc => ?_, fun k j W hc => ?_, fun k1 j1 w1 hb1 hk1 hj1 hn1 hc1 hd1 => ?_⟩
  · skip
    have ra_seed_0 := fun nx => (Kn.rng (s0.out.up (hf nx).out) 1 rfl : (f nx).rangeAt (w.heap.size) 0 (bR (d)))
    have KT := fun nx => HT.out.up (b0.out.trans ((hf nx).out.mono b0.out.size)) HT.out.pos
    have BV := fun nx => HV.out.up (b0.out.trans ((hf nx).out.mono b0.out.size)) (Nat.le_refl _)
    clear hf
    simp only [List.take_succ_cons, List.take_zero]
    repeat (first | (refine I.quiet_load rfl 22 _ rfl (w.heap.size) 0 rfl (bR (d)) _ (fun W hW => by obtain ⟨nx, rfl⟩ := hW; exact ra_seed_0 nx) Tryd.underlying22 rfl (info_bR (d)) ?_; simp only [Act.put, List.setIfInBounds_toArray, List.set_cons_succ, List.set_cons_zero]) | go_big_quiet_step (first | (go_at_call 7; exact (NW.out _ (KT _)).mono fun e w'' ⟨he, hb⟩ => ⟨he, hcl.out _ _ hb⟩) | (go_at_call 8; exact (SG.out _ (BV _) (KT _)).mono fun e w'' ⟨he, hb⟩ => ⟨he, hcl.out _ _ hb⟩)))
    exact wpQuiet_nil rfl
  · exact st_obj (zs := pairZ) (cs := (prR (x) (m) (a))) hc.out rfl rfl rfl (by rw [(prR_length (x) (m) (a)), pairZ_length]) (info_prR (x) (m) (a)) (prR_one (x) (m) (a))
  · exact st_obj (zs := sgZ) (cs := (sgR (r) (s))) hc.out rfl rfl rfl (by rw [(sgR_length (r) (s)), sgZ_length]) (info_sgR (r) (s)) (sgR_one (r) (s))
  simp only [Act.put, List.setIfInBounds_toArray, List.set_cons_succ, List.set_cons_zero]
  have z1 := b0.out.size
  have g1 : w.heap.size ≤ k1 := Nat.le_trans b0.out.size hk1
  have gj1 : w.heap.size ≤ j1 := Nat.le_trans b0.out.size hj1
  have s1 : Hid (Kn w1 [(k1, (prR (x) (m) (a))), (j1, (sgR (r) (s))), (w.heap.size + 1, (c4 (n))), (w.heap.size, (bR (d)))]) := s0.out.two hb1.out hk1 hj1 hn1.out hc1.out hd1.out
  have b1 : Hid (Below w.heap.size w w1) := b0.out.trans (hb1.out.mono b0.out.size)
  clear s0 b0 hb1 hc1 hd1 hk1 hj1
  have s2 : Hid (Kn (w1.alloc (.cells #[Value.int IntKind.u8 0, Value.int IntKind.u8 0, Value.int IntKind.u8 0, Value.int IntKind.u8 0, Value.int IntKind.u8 0, Value.int IntKind.u8 0, Value.int IntKind.u8 0, Value.int IntKind.u8 0, Value.int IntKind.u8 0, Value.int IntKind.u8 0, Value.int IntKind.u8 0, Value.int IntKind.u8 0, Value.int IntKind.u8 0, Value.int IntKind.u8 0, Value.int IntKind.u8 0, Value.int IntKind.u8 0, Value.int IntKind.u8 0, Value.int IntKind.u8 0, Value.int IntKind.u8 0, Value.int IntKind.u8 0, Value.int IntKind.u8 0, Value.int IntKind.u8 0, Value.int IntKind.u8 0, Value.int IntKind.u8 0, Value.int IntKind.u8 0, Value.int IntKind.u8 0, Value.int IntKind.u8 0, Value.int IntKind.u8 0, Value.int IntKind.u8 0, Value.int IntKind.u8 0, Value.int IntKind.u8 0, Value.int IntKind.u8 0] 22)) [(w1.heap.size, bZ), (k1, (prR (x) (m) (a))), (j1, (sgR (r) (s))), (w.heap.size + 1, (c4 (n))), (w.heap.size, (bR (d)))]) := s1.out.al bZ 22 rfl
  have b2 : Hid (Below w.heap.size w (w1.alloc (.cells #[Value.int IntKind.u8 0, Value.int IntKind.u8 0, Value.int IntKind.u8 0, Value.int IntKind.u8 0, Value.int IntKind.u8 0, Value.int IntKind.u8 0, Value.int IntKind.u8 0, Value.int IntKind.u8 0, Value.int IntKind.u8 0, Value.int IntKind.u8 0, Value.int IntKind.u8 0, Value.int IntKind.u8 0, Value.int IntKind.u8 0, Value.int IntKind.u8 0, Value.int IntKind.u8 0, Value.int IntKind.u8 0, Value.int IntKind.u8 0, Value.int IntKind.u8 0, Value.int IntKind.u8 0, Value.int IntKind.u8 0, Value.int IntKind.u8 0, Value.int IntKind.u8 0, Value.int IntKind.u8 0, Value.int IntKind.u8 0, Value.int IntKind.u8 0, Value.int IntKind.u8 0, Value.int IntKind.u8 0, Value.int IntKind.u8 0, Value.int IntKind.u8 0, Value.int IntKind.u8 0, Value.int IntKind.u8 0, Value.int IntKind.u8 0] 22))) := b1.out.alloc b1.out.size _
  have z2 := b1.out.size
  clear s1 b1
  go_wp2_with (simp only [zero_b32])
  have gb : w.heap.size ≤ w1.heap.size := z2
  refine wp_region_two 0 1 [2] [_] (.slice (some ⟨w1.heap.size, 0, none⟩) 32 32) (.slice (some ⟨j1, 32, none⟩) 32 32) (by kernel_rfl) (by kernel_rfl) (fun _ _ d _ _ h => by cases d <;> exact h) rfl rfl (by kernel_rfl) (by kernel_rfl) rfl rfl (by kernel_rfl) (.inl ⟨rfl, exec_all32 _ rfl _ rfl⟩) (.inl ⟨rfl, exec_from64 _ _ rfl _ rfl rfl⟩) ?_
  intro w3 hb3 hh3
  clear hh3
  simp only [Act.put, List.setIfInBounds_toArray, List.set_cons_succ, List.set_cons_zero, List.getElem_toArray, List.getElem_cons_zero, List.getElem_cons_succ]
  have s3 : Hid (Kn w3 [(w1.heap.size, bZ), (k1, prR x m a), (j1, sgR r s), (w.heap.size + 1, c4 n), (w.heap.size, bR d)]) := s2.out.up hb3.out
  have b3 : Hid (Below w.heap.size w w3) := b2.out.trans (hb3.out.mono b2.out.size)
  clear s2 b2 hb3
  have T3 : Hid (w3.there w1.heap.size 0 (S.by s).length) := by
    have := Kn.there (us := bR 0) s3.out 0 rfl (by rw [bR_length, bZ_length])
    rw [S.by_length]
    rw [bR_length] at this
    exact this
  have R3 : Hid (w3.rangeAt j1 32 ((S.by s).map b8)) := by
    have := (range_app (s3.out.rng 2 rfl : w3.rangeAt j1 0 (bR r ++ bR s))).2
    rw [bR_length, Nat.zero_add] at this
    rw [← S.by_row]
    exact this
  go_wp2_with (refine wp_copyR rfl _ _ rfl w1.heap.size 0 32 32 j1 32 32 32 (S.by s) rfl rfl (by rw [S.by_length]; rfl) R3.out T3.out ?_)
  intro w4 hw4
  have s4 : Hid (Kn w4 [(w1.heap.size, bR s), (k1, prR x m a), (j1, sgR r s), (w.heap.size + 1, c4 n), (w.heap.size, bR d)]) := by
    rw [hw4.out, ← S.by_row]
    exact Kn.put s3.out (by rw [bR_length, bZ_length])
  have b4 : Hid (Below w.heap.size w w4) := by rw [hw4.out]; exact I.below_setCells _ _ _ b3.out gb
  clear hw4 s3 b3 T3 R3
  generalize w1.heap.size = kb at *
  go_wp2_with (first | refine wp_ldW rfl 22 _ rfl kb 0 rfl (bR (s)) _ (Kn.rng s4.out 0 rfl) Tryd.underlying22 rfl (info_bR (s)) ?_)
  refine (OF _).mono ?_
  rintro e w5 ⟨rfl, hb5⟩
  have s5 : Hid (Kn w5 [(kb, (bR (s))), (k1, (prR (x) (m) (a))), (j1, (sgR (r) (s))), (w.heap.size + 1, (c4 (n))), (w.heap.size, (bR (d)))]) := s4.out.up hb5
  have b5 : Hid (Below w.heap.size w w5) := b4.out.trans (hb5.mono b4.out.size)
  have z5 := b5.out.size
  clear hb5 s4 b4
  have s6 : Hid (Kn (kal4 w5 (os)) [(w5.heap.size, (c4 (os))), (kb, (bR (s))), (k1, (prR (x) (m) (a))), (j1, (sgR (r) (s))), (w.heap.size + 1, (c4 (n))), (w.heap.size, (bR (d)))]) := s5.out.al (c4 (os)) 27 rfl
  have b6 : Hid (Below w.heap.size w (kal4 w5 (os))) := b5.out.alloc b5.out.size _
  have z6 := b5.out.size
  clear s5 b5
  have uold_0 : (kal4 w5 (os)).cell? ⟨w5.heap.size, 0, none⟩ = some (.int .u64 (os).a) := Kn.get s6.out 0 0 rfl rfl
  have uold_1 : (kal4 w5 (os)).cell? ⟨w5.heap.size, 1, none⟩ = some (.int .u64 (os).b) := Kn.get s6.out 0 1 rfl rfl
  have uold_2 : (kal4 w5 (os)).cell? ⟨w5.heap.size, 2, none⟩ = some (.int .u64 (os).c) := Kn.get s6.out 0 2 rfl rfl
  have uold_3 : (kal4 w5 (os)).cell? ⟨w5.heap.size, 3, none⟩ = some (.int .u64 (os).d) := Kn.get s6.out 0 3 rfl rfl
  have un_0 : (kal4 w5 (os)).cell? ⟨w.heap.size + 1, 0, none⟩ = some (.int .u64 (n).a) := Kn.get s6.out 4 0 rfl rfl
  have un_1 : (kal4 w5 (os)).cell? ⟨w.heap.size + 1, 1, none⟩ = some (.int .u64 (n).b) := Kn.get s6.out 4 1 rfl rfl
  have un_2 : (kal4 w5 (os)).cell? ⟨w.heap.size + 1, 2, none⟩ = some (.int .u64 (n).c) := Kn.get s6.out 4 2 rfl rfl
  have un_3 : (kal4 w5 (os)).cell? ⟨w.heap.size + 1, 3, none⟩ = some (.int .u64 (n).d) := Kn.get s6.out 4 3 rfl rfl
  go_wp2_with fail
  clear uold_0 uold_1 uold_2 uold_3 un_0 un_1 un_2 un_3
  refine (AD _).mono ?_
  rintro e w7 ⟨rfl, hb7⟩
  have s7 : Hid (Kn w7 [(w5.heap.size, (c4 (os))), (kb, (bR (s))), (k1, (prR (x) (m) (a))), (j1, (sgR (r) (s))), (w.heap.size + 1, (c4 (n))), (w.heap.size, (bR (d)))]) := s6.out.up hb7
  have b7 : Hid (Below w.heap.size w w7) := b6.out.trans (hb7.mono b6.out.size)
  have z7 := b7.out.size
  clear hb7 s6 b6
  have s8 : Hid (Kn (kal4 w7 (fw)) [(w7.heap.size, (c4 (fw))), (w5.heap.size, (c4 (os))), (kb, (bR (s))), (k1, (prR (x) (m) (a))), (j1, (sgR (r) (s))), (w.heap.size + 1, (c4 (n))), (w.heap.size, (bR (d)))]) := s7.out.al (c4 (fw)) 27 rfl
  have b8 : Hid (Below w.heap.size w (kal4 w7 (fw))) := b7.out.alloc b7.out.size _
  have z8 := b7.out.size
  clear s7 b7
  have un_0 : (kal4 w7 (fw)).cell? ⟨w.heap.size + 1, 0, none⟩ = some (.int .u64 (n).a) := Kn.get s8.out 5 0 rfl rfl
  have un_1 : (kal4 w7 (fw)).cell? ⟨w.heap.size + 1, 1, none⟩ = some (.int .u64 (n).b) := Kn.get s8.out 5 1 rfl rfl
  have un_2 : (kal4 w7 (fw)).cell? ⟨w.heap.size + 1, 2, none⟩ = some (.int .u64 (n).c) := Kn.get s8.out 5 2 rfl rfl
  have un_3 : (kal4 w7 (fw)).cell? ⟨w.heap.size + 1, 3, none⟩ = some (.int .u64 (n).d) := Kn.get s8.out 5 3 rfl rfl
  have ufr_0 : (kal4 w7 (fw)).cell? ⟨w7.heap.size, 0, none⟩ = some (.int .u64 (fw).a) := Kn.get s8.out 0 0 rfl rfl
  have ufr_1 : (kal4 w7 (fw)).cell? ⟨w7.heap.size, 1, none⟩ = some (.int .u64 (fw).b) := Kn.get s8.out 0 1 rfl rfl
  have ufr_2 : (kal4 w7 (fw)).cell? ⟨w7.heap.size, 2, none⟩ = some (.int .u64 (fw).c) := Kn.get s8.out 0 2 rfl rfl
  have ufr_3 : (kal4 w7 (fw)).cell? ⟨w7.heap.size, 3, none⟩ = some (.int .u64 (fw).d) := Kn.get s8.out 0 3 rfl rfl
  go_wp2_with fail
  clear un_0 un_1 un_2 un_3 ufr_0 ufr_1 ufr_2 ufr_3
  refine (BY _).mono ?_
  rintro e w9 ⟨rfl, hb9⟩
  have s9 : Hid (Kn w9 [(w7.heap.size, (c4 (fw))), (w5.heap.size, (c4 (os))), (kb, (bR (s))), (k1, (prR (x) (m) (a))), (j1, (sgR (r) (s))), (w.heap.size + 1, (c4 (n))), (w.heap.size, (bR (d)))]) := s8.out.up hb9
  have b9 : Hid (Below w.heap.size w w9) := b8.out.trans (hb9.mono b8.out.size)
  have z9 := b9.out.size
  clear hb9 s8 b8
  have s10x : Hid (Kn w9 [(kb, (bR (s))), (w7.heap.size, (c4 (fw))), (w5.heap.size, (c4 (os))), (k1, (prR (x) (m) (a))), (j1, (sgR (r) (s))), (w.heap.size + 1, (c4 (n))), (w.heap.size, (bR (d)))]) := s9.out.front 2 rfl
  have b10x : Hid (Below w.heap.size w w9) := b9.out
  have TT10 : Hid (w9.there kb 0 (bR (g)).length) := Kn.there s10x.out 0 rfl (by rw [(bR_length (g)), (bR_length (s))])
  go_wp2_with (first | refine I.wp_store_eq rfl 22 _ _ rfl kb 0 (bR (g)) rfl rfl TT10.out (info_bR (g)) (bR_one (g)) ?_)
  intro w10 hw10
  try simp only [Act.put, List.setIfInBounds_toArray, List.set_cons_succ, List.set_cons_zero]
  have s10 : Hid (Kn w10 [(kb, (bR (g))), (w7.heap.size, (c4 (fw))), (w5.heap.size, (c4 (os))), (k1, (prR (x) (m) (a))), (j1, (sgR (r) (s))), (w.heap.size + 1, (c4 (n))), (w.heap.size, (bR (d)))]) := by rw [hw10.out]; exact Kn.put s10x.out (by rw [(bR_length (g)), (bR_length (s))])
  have b10 : Hid (Below w.heap.size w w10) := by rw [hw10.out]; exact I.below_setCells _ _ _ b10x.out (by omega)
  have z10 := b10.out.size
  clear hw10 s10x b10x TT10 s9 b9
  go_wp2_with fail
  have G : Hid _ := s10
  have KU : Hid (∀ W, Below w10.heap.size w10 W → KTab W) := fun W hW => HT.out.up (b10.out.trans (hW.mono b10.out.size)) HT.out.pos
  have VU : Hid (∀ W, Below w10.heap.size w10 W → By W v p) := fun W hW => HV.out.up (b10.out.trans (hW.mono b10.out.size)) (Nat.le_refl _)
  have YF : Hid (∀ W, Below w10.heap.size w10 W → By W (.slice (some ⟨j1, 0, none⟩) 32 64) (S.by r)) := fun W hW => By.front64 ((G.out.up hW).rng 4 rfl : W.rangeAt j1 0 (bR r ++ bR s))
  have YB : Hid (∀ W, Below w10.heap.size w10 W → By W (.slice (some ⟨kb, 0, none⟩) 32 32) (S.by g)) := fun W hW => By.of_rng (Kn.rng (G.out.up hW) 0 rfl)
  have D0 : Below w10.heap.size w10 { w10 with drawn := w10.drawn + 1 } := (Below.refl _ _).drew
  refine wp_region_held (S := fun W => Below w10.heap.size w10 W) (by kernel_rfl) ?_
  refine wpAnyH_take (i := 0) (v := .pointer (some ⟨k1, 36, none⟩)) (fuel := 8) rfl (by kernel_rfl) (by kernel_rfl) (by kernel_rfl) (fun _ _ _ h => h) (Yields.yieldsIf (.inl ⟨rfl, exec_pub2 _ rfl k1 rfl⟩)) D0 ?_
  refine wpAnyH_take (i := 1) (v := bV a) (fuel := 7) rfl (by kernel_rfl) (by kernel_rfl) (by kernel_rfl) (fun _ _ _ h => h) (yieldsIf_load_mid rfl 22 _ rfl k1 36 rfl (bR a) _ (fun W hW => Kn.png2 (G.out.up hW) 3 rfl) Tryd.underlying22 rfl (info_bR a)) D0 ?_
  refine wpAnyH_take (i := 2) (v := v) (fuel := 6) rfl (by kernel_rfl) (by kernel_rfl) (by kernel_rfl) (fun _ _ _ h => h) (Yields.yieldsIf (.inl ⟨rfl, exec_mv' _ rfl rfl⟩)) D0 ?_
  refine wpAnyH_take (i := 3) (v := .slice (some ⟨j1, 0, none⟩) 32 64) (fuel := 5) rfl (by kernel_rfl) (by kernel_rfl) (by kernel_rfl) (fun _ _ _ h => h) (Yields.yieldsIf (.inl ⟨rfl, exec_front64 _ _ rfl j1 rfl rfl⟩)) D0 ?_
  refine wpAnyH_take (i := 5) (v := .slice (some ⟨kb, 0, none⟩) 32 32) (fuel := 4) rfl (by kernel_rfl) (by kernel_rfl) (by kernel_rfl) (fun _ _ _ h => h) (Yields.yieldsIf (.inl ⟨rfl, exec_all32 _ rfl kb rfl⟩)) D0 ?_
  refine wpAnyH_path [4, 6, 7, 8] [_, _, _, _] _ _ _ rfl (by kernel_rfl) ?_
  simp only [Act.put, List.setIfInBounds_toArray, List.set_cons_succ, List.set_cons_zero, List.getElem_toArray, List.getElem_cons_zero, List.getElem_cons_succ]
  refine PathH.step (φ := fun u W => Ob W w10.heap.size u (S.by r)) rfl (yields_call1 cfCl (.tmp 42) _ rfl (.slice (some ⟨j1, 0, none⟩) 32 64) rfl ((cloneB_fun (S.by r) (by rw [S.by_length]; decide) ⟨j1, 0, none⟩ 32 64 _ (YF.out _ D0)).mono fun e w' ⟨⟨u, he, ho⟩, hb⟩ => ⟨u, he, ho, hb⟩)) ?_
  intro v11 w11 o11 hb11
  have S11 : Below w10.heap.size w10 w11 := D0.trans hb11
  refine ⟨S11, ?_⟩
  clear hb11
  simp only [Act.put, List.setIfInBounds_toArray, List.set_cons_succ, List.set_cons_zero]
  refine PathH.appB rfl (.tmp 43) (.tmp 44) rfl w10.heap.size v11 (.slice (some ⟨kb, 0, none⟩) 32 32) (S.by r) (S.by g) w11 rfl o11 (Below.refl _ _) rfl (YB.out _ S11) (by rw [S.by_length, S.by_length]; decide) S11.size ?_
  intro v12 w12 o12 hb12
  have S12 : Below w10.heap.size w10 w12 := S11.trans hb12
  refine ⟨S12, ?_⟩
  clear hb12 o11 S11
  simp only [Act.put, List.setIfInBounds_toArray, List.set_cons_succ, List.set_cons_zero]
  refine PathH.step (φ := (MP.eq (.int .i64 5)).p) rfl (yields_call3 cfVe (.tmp 40) (.tmp 41) (.tmp 45) _ rfl (bV a) v v12 rfl rfl rfl ((VR.out _ _ (VU.out _ S12) o12.by (KU.out _ S12)).mono fun _ w' ⟨he, hb⟩ => ⟨_, he, rfl, hb⟩)) ?_
  intro v13 w13 e13 hb13
  obtain rfl : v13 = .int .i64 5 := e13
  have S13 : Below w10.heap.size w10 w13 := S12.trans (hb13.mono S12.size)
  refine ⟨S13, ?_⟩
  clear hb13 o12 S12
  simp only [Act.put, List.setIfInBounds_toArray, List.set_cons_succ, List.set_cons_zero]
  refine PathH.step (φ := (MP.eq (.int .i64 5)).p) rfl (yields_as (.tmp 46) rfl rfl) ?_
  intro v14 w14 e14 hb14
  obtain rfl : v14 = .int .i64 5 := e14
  have S14 : Below w10.heap.size w10 w14 := S13.trans (hb14.mono S13.size)
  refine ⟨S14, ?_⟩
  have s14 : Hid (Kn w14 [(kb, bR g), (w7.heap.size, c4 fw), (w5.heap.size, c4 os), (k1, prR x m a), (j1, sgR r s), (w.heap.size + 1, c4 n), (w.heap.size, bR d)]) := s10.out.up S14
  have b14 : Hid (Below w.heap.size w w14) := b10.out.trans (S14.mono b10.out.size)
  clear hb14 S13 S14 G KU VU YF YB D0 s10 b10
  unfold PathH
  simp only [Act.put, List.setIfInBounds_toArray, List.set_cons_succ, List.set_cons_zero]
  go_wp2_with fail
  refine wp_region_up (by kernel_rfl) (by kernel_rfl) (fun U hU f hf hcl => ?_)
  have ufr_0 := fun nx => (Kn.get (s14.out.up (hf nx).out) 1 0 rfl rfl : (f nx).cell? ⟨w7.heap.size, 0, none⟩ = some (.int .u64 (fw).a))
  have ufr_1 := fun nx => (Kn.get (s14.out.up (hf nx).out) 1 1 rfl rfl : (f nx).cell? ⟨w7.heap.size, 1, none⟩ = some (.int .u64 (fw).b))
  have ufr_2 := fun nx => (Kn.get (s14.out.up (hf nx).out) 1 2 rfl rfl : (f nx).cell? ⟨w7.heap.size, 2, none⟩ = some (.int .u64 (fw).c))
  have ufr_3 := fun nx => (Kn.get (s14.out.up (hf nx).out) 1 3 rfl rfl : (f nx).cell? ⟨w7.heap.size, 3, none⟩ = some (.int .u64 (fw).d))
  try simp only [List.append_eq, List.cons_append, List.nil_append]
  repeat (go_big_quiet_step (first | (go_at_call 15; exact (SL _).mono fun e w'' ⟨he, hb⟩ => ⟨he, hcl.out _ _ hb⟩) | (go_at_call 14; exact (CM _).mono fun e w'' ⟨he, hb⟩ => ⟨he, hcl.out _ _ hb⟩)))
  refine wpQuiet_nil ?_
  intro nx
  have hb15 := (hf nx).out
  clear hf hcl ufr_0 ufr_1 ufr_2 ufr_3
  generalize f nx = w15 at hb15 ⊢
  have s15 : Hid (Kn w15 [(kb, (bR (g))), (w7.heap.size, (c4 (fw))), (w5.heap.size, (c4 (os))), (k1, (prR (x) (m) (a))), (j1, (sgR (r) (s))), (w.heap.size + 1, (c4 (n))), (w.heap.size, (bR (d)))]) := s14.out.up hb15
  have b15 : Hid (Below w.heap.size w w15) := b14.out.trans (hb15.mono b14.out.size)
  have z15 := b15.out.size
  clear hb15 s14 b14
  go_wp2_with fail
  go_ret
  exact ⟨rfl, b15.out⟩
theorem cmpAg {a b : Nat} (ha : a < 2 ^ 256) (hb : b < 2 ^ 256) : cmpV (nm a) (nm b) = if a < b then -1 else if b < a then 1 else 0 := by
  have e1 : (nm a).val = (a : Int) := by rw [← Nm.nat_cast (nm_ok a), nm_nat ha]
  have e2 : (nm b).val = (b : Int) := by rw [← Nm.nat_cast (nm_ok b), nm_nat hb]
  unfold cmpV
  rw [e1, e2]
  simp only [Int.ofNat_lt]
theorem signAgain_of (NC : SgNewC) (SC : SgSignC) (VC : SgVerC) (d : Nat) (hd : d < 2 ^ 256) (p : List Nat) (lp : lowP p) (v : Value) (n : Nm) (on : n.ok) (w : World) (hv : By w v p) (hT : KTab w) :
    Calls Tryd.prog 5 #[bV d, v, N n] w fun e w' => e = .returned (.bool true) ∧ Below w.heap.size w w' := by
  have NW : Hid (∀ w, KTab w → Calls Tryd.prog 7 #[bV d] w fun e w' => e = .returned (prV (nm (secN d)) (mskN d) (pubN d)) ∧ Below w.heap.size w w') := fun w hT => NC d hd w hT
  have SG : Hid (∀ w, By w v p → KTab w → Calls Tryd.prog 8 #[bV d, v] w fun e w' => e = .returned (sgV (frN d p) (bkN d p)) ∧ Below w.heap.size w w') := fun w hv hT => SC d hd p lp v w hv hT
  have OF := of_n (bkN d p) (bk_lt d p)
  have AD := add_nat (nm (bkN d p)) n (nm_ok _) on
  rw [nm_nat (bk_lt d p)] at AD
  have h0 := vr_true d p
  rw [vr_two _ _ (fr_lt d p) (bk_lt d p)] at h0
  have ln := Nm.nat_lt on
  have lb := bk_lt d p
  have V : ∀ g, g < 2 ^ 256 → ∀ u w, By w v p → By w u (S.by (frN d p) ++ S.by g) → KTab w → Calls Tryd.prog 9 #[bV (pubN d), v, u] w fun e w' => e = .returned (.int .i64 ((Sg.ver chN (pubN d) p (frN d p) g : Nat) : Int)) ∧ Below w.heap.size w w' := fun g hg u w hv hu hT => by
    have := VC (pubN d) (pub_lt d) p _ lp (low_sig (frN d p) g) v u w hv hu hT
    rwa [vr_two _ _ (fr_lt d p) hg] at this
  by_cases hc : 2 ^ 256 ≤ bkN d p + n.nat
  · have e1 : (bkN d p + n.nat) / 2 ^ 256 = 1 := by
      have p2 : (2 : Nat) ^ 256 = 115792089237316195423570985008687907853269984665640564039457584007913129639936 := by decide
      rw [p2] at *
      omega
    rw [e1] at AD
    exact signAgain_1 d _ _ _ _ _ n _ _ v p NW SG OF AD w hv hT
  · have lt : bkN d p + n.nat < 2 ^ 256 := by omega
    rw [Nat.div_eq_of_lt lt, Nat.mod_eq_of_lt lt] at AD
    by_cases hn : n = ⟨0, 0, 0, 0⟩
    · subst hn
      exact signAgain_2 d _ _ _ _ _ _ _ _ v p (fun w => by rw [eqN, Nm.beq_self]) NW SG OF AD w hv hT
    · have en : ∀ w, (binOp .eql 27 (N n) (N ⟨0, 0, 0, 0⟩)).run Tryd.prog w = .ok (.bool false) w := fun w => by rw [eqN, Nm.beq_ne hn]
      have hz : n.nat ≠ 0 := fun e => hn ((Nm.eq_nm on e).trans (by
        unfold nm Nm.of
        congr 1))
      have BY := bytes_n (bkN d p + n.nat) lt
      have CM := cmp_fun (nm (bkN d p + n.nat)) (nm Cv.ord) (nm_ok _) (nm_ok _)
      have VR := V _ lt
      by_cases ho : bkN d p + n.nat < Cv.ord
      · rw [Sg.ver_other h0 ho (by omega)] at VR
        rw [show cmpV (nm (bkN d p + n.nat)) (nm Cv.ord) = -1 by rw [cmpAg lt ord_lt, if_pos ho]] at CM
        exact signAgain_4 d _ _ _ _ _ _ n _ _ _ v p en NW SG OF AD BY VR sLC CM w hv hT
      · rw [Sg.ver_large (by omega)] at VR
        rw [cmpAg lt ord_lt, if_neg ho] at CM
        exact signAgain_3 d _ _ _ _ _ _ n _ _ _ v p (if Cv.ord < bkN d p + n.nat then 1 else 0) (by split <;> simp) en NW SG OF AD BY VR sLC CM w hv hT
end Go.Proofs.YtfknkfninjjgbaaDoor
