/- The contract of a ring's Pow: a^n modulo m. -/
import Derived.Test.YtkgfeacednomfaaRingV
import Derived.Test.YtkgfeacednomfaaLenW
import Derived.Test.YtkgfeacednomfaaBit
import Derived.LoopN
import Derived.Test.YtkgfeacednomfaaUpV
namespace Go.Proofs.Ytkgfeacednomfaa
open Go.RowKit
attribute [local go_sem] World.cell?_alloc_some frozen?_alloc_cells frozen_out
set_option maxHeartbeats 2000000 in
theorem ringPow_walk (k : Nat) (m iv on tw a n base p : Nm) (L : Nat) (hL : L ≤ 256) (pk sq ul uh vl vh : Nat → Nm) (bt : Nat → Int)
    (SI : ∀ w, RingAt w k m iv on tw → Calls Try.prog 37 #[rp k, N a] w fun e w' => e = .returned (N base) ∧ Below w.heap.size w w')
    (SN : ∀ w, Calls Try.prog 23 #[N n] w fun e w' => e = .returned (.int .i64 (L : Int)) ∧ Below w.heap.size w w')
    (S1 : ∀ i, i < L → ∀ w, Calls Try.prog 17 #[N (pk (i + 1)), N (pk (i + 1))] w fun e w' => e = .returned (Wv (ul i) (uh i)) ∧ Below w.heap.size w w')
    (F1 : ∀ i, i < L → ∀ w, RingAt w k m iv on tw → Calls Try.prog 71 #[rp k, Wv (ul i) (uh i)] w fun e w' => e = .returned (N (sq i)) ∧ Below w.heap.size w w')
    (SB : ∀ i, i < L → ∀ w, Calls Try.prog 22 #[N n, .int .i64 i] w fun e w' => e = .returned (.int .u64 (bt i)) ∧ Below w.heap.size w w')
    (S2 : ∀ i, i < L → ∀ w, Calls Try.prog 17 #[N (sq i), N base] w fun e w' => e = .returned (Wv (vl i) (vh i)) ∧ Below w.heap.size w w')
    (F2 : ∀ i, i < L → bt i = 1 → ∀ w, RingAt w k m iv on tw → Calls Try.prog 71 #[rp k, Wv (vl i) (vh i)] w fun e w' => e = .returned (N (pk i)) ∧ Below w.heap.size w w')
    (P0 : ∀ i, i < L → bt i ≠ 1 → sq i = pk i) (PL : pk L = on)
    (F3 : ∀ w, RingAt w k m iv on tw → Calls Try.prog 71 #[rp k, Wv (pk 0) ⟨0, 0, 0, 0⟩] w fun e w' => e = .returned (N p) ∧ Below w.heap.size w w')
    (w : World) (hR : Hid (RingAt w k m iv on tw)) :
    Calls Try.prog 35 #[rp k, N a, N n] w fun e w' => e = .returned (N p) ∧ Below w.heap.size w w' := by
  have PL' : Hid _ := PL
  have P0' : Hid _ := P0
  clear PL P0
  go_enter Try.func35, Try.ntmps35
  have s0 : Hid (Kn (kz4 (kal4 (kal4 w (a)) (n))) [(w.heap.size + 1 + 1, zz4), (w.heap.size + 1, (c4 (n))), (w.heap.size, (c4 (a)))]) := ((((Kn.nil w).al (c4 (a)) 24 rfl).al (c4 (n)) 24 (by simp)).al zz4 24 (by simp))
  have b0 : Hid (Below w.heap.size w (kz4 (kal4 (kal4 w (a)) (n)))) := ((((Below.refl _ _).alloc (Nat.le_refl _) _).alloc (by simp <;> omega) _).alloc (by simp <;> omega) _)
  go_wp2_with fail
  refine wp_region_vars2 7 (.cells #[.int .u64 0, .int .u64 0, .int .u64 0, .int .u64 0] 24) (.cells #[.int .u64 0, .int .u64 0, .int .u64 0, .int .u64 0] 24) (.cells #[.int .u64 (base).a, .int .u64 (base).b, .int .u64 (base).c, .int .u64 (base).d] 24) (.cells #[.int .u64 (on).a, .int .u64 (on).b, .int .u64 (on).c, .int .u64 (on).d] 24) (by kernel_rfl) (by kernel_rfl) (by kernel_rfl) (by kernel_rfl) rfl rfl rfl rfl (by decide) rfl rfl (fun _ _ => by kernel_rfl) (fun _ _ => by kernel_rfl) ?_
  apply Exists.intro
  refine ⟨fun U hU f hf hcl => ?_, fun k j W hc => ?_, fun k j W hc => ?_, fun k1 j1 w1 hb1 hk1 hj1 hn1 hc1 hd1 => ?_⟩
  · skip
    have ua_0 := fun nx => (Kn.get (s0.out.up (hf nx).out) 2 0 rfl rfl : (f nx).cell? ⟨w.heap.size, 0, none⟩ = some (.int .u64 (a).a))
    have ua_1 := fun nx => (Kn.get (s0.out.up (hf nx).out) 2 1 rfl rfl : (f nx).cell? ⟨w.heap.size, 1, none⟩ = some (.int .u64 (a).b))
    have ua_2 := fun nx => (Kn.get (s0.out.up (hf nx).out) 2 2 rfl rfl : (f nx).cell? ⟨w.heap.size, 2, none⟩ = some (.int .u64 (a).c))
    have ua_3 := fun nx => (Kn.get (s0.out.up (hf nx).out) 2 3 rfl rfl : (f nx).cell? ⟨w.heap.size, 3, none⟩ = some (.int .u64 (a).d))
    have RR := fun nx => (hR.out.up ((b0.out).trans ((hf nx).out.mono b0.out.size)) : RingAt (f nx) _ _ _ _ _)
    have ron_a := fun nx => (RR nx).on.a
    have ron_b := fun nx => (RR nx).on.b
    have ron_c := fun nx => (RR nx).on.c
    have ron_d := fun nx => (RR nx).on.d
    clear hf
    simp only [List.take_succ_cons, List.take_zero]
    repeat (go_big_quiet_step (first | (go_at_call 37; exact (SI _ (RR _)).mono fun e w'' ⟨he, hb⟩ => ⟨he, hcl.out _ _ hb⟩)))
    exact wpQuiet_nil rfl
  · obtain ⟨c0, c1, c2, c3, cz⟩ := cells4 hc.out
    exact ⟨(st4 W k (base)), by simp [execOp, go_sem, c0, c1, c2, c3, cz], by first | exact heap_st4 hc.out _ | exact heap_st8 hc.out _ _, fun hk => by first | exact below_st4 (Below.refl _ _) hk | exact below_st8 (Below.refl _ _) hk, fun b hb => by first | exact heap_st4_ne hb | exact heap_st8_ne hb⟩
  · obtain ⟨c0, c1, c2, c3, cz⟩ := cells4 hc.out
    exact ⟨(st4 W j (on)), by simp [execOp, go_sem, c0, c1, c2, c3, cz], by first | exact heap_st4 hc.out _ | exact heap_st8 hc.out _ _, fun hk => by first | exact below_st4 (Below.refl _ _) hk | exact below_st8 (Below.refl _ _) hk, fun b hb => by first | exact heap_st4_ne hb | exact heap_st8_ne hb⟩
  simp only [Act.put, List.setIfInBounds_toArray, List.set_cons_succ, List.set_cons_zero]
  have z1 := b0.out.size
  have g1 : w.heap.size ≤ k1 := Nat.le_trans b0.out.size hk1
  have gj1 : w.heap.size ≤ j1 := Nat.le_trans b0.out.size hj1
  have s1 : Hid (Kn w1 [(k1, (c4 (base))), (j1, (c4 (on))), (w.heap.size + 1 + 1, zz4), (w.heap.size + 1, (c4 (n))), (w.heap.size, (c4 (a)))]) := s0.out.two hb1.out hk1 hj1 hn1.out hc1.out hd1.out
  have b1 : Hid (Below w.heap.size w w1) := b0.out.trans (hb1.out.mono b0.out.size)
  clear s0 b0 hb1 hc1 hd1 hk1 hj1
  have un_0 : w1.cell? ⟨w.heap.size + 1, 0, none⟩ = some (.int .u64 (n).a) := Kn.get s1.out 3 0 rfl rfl
  have un_1 : w1.cell? ⟨w.heap.size + 1, 1, none⟩ = some (.int .u64 (n).b) := Kn.get s1.out 3 1 rfl rfl
  have un_2 : w1.cell? ⟨w.heap.size + 1, 2, none⟩ = some (.int .u64 (n).c) := Kn.get s1.out 3 2 rfl rfl
  have un_3 : w1.cell? ⟨w.heap.size + 1, 3, none⟩ = some (.int .u64 (n).d) := Kn.get s1.out 3 3 rfl rfl
  go_wp2_with fail
  clear un_0 un_1 un_2 un_3
  refine (SN _).mono ?_
  rintro e w2 ⟨rfl, hb2⟩
  have s2 : Hid (Kn w2 [(k1, (c4 (base))), (j1, (c4 (on))), (w.heap.size + 1 + 1, zz4), (w.heap.size + 1, (c4 (n))), (w.heap.size, (c4 (a)))]) := s1.out.up hb2
  have b2 : Hid (Below w.heap.size w w2) := b1.out.trans (hb2.mono b1.out.size)
  have z2 := b2.out.size
  clear hb2 s1 b1
  go_wp2_with fail
  have l1 : (L : Int) ≤ 256 := by omega
  replace s2 : Hid (Kn w2 [(j1, (c4 (on))), (k1, (c4 (base))), (w.heap.size + 1 + 1, zz4), (w.heap.size + 1, (c4 (n))), (w.heap.size, (c4 (a)))]) := s2.out.front 1 rfl
  have s3 : Hid (Kn w2 [(j1, c4 (pk L)), (k1, c4 base), (w.heap.size + 1 + 1, zz4), (w.heap.size + 1, c4 n), (w.heap.size, c4 a)]) := by rw [PL'.out]; exact s2
  clear s2
  go_loopw [9] (fun i w' => ∃ q : Nat, q ≤ L ∧ i = .int .i64 ((q : Int) - 1) ∧ Hid (Kn w' [(j1, c4 (pk q)), (k1, c4 base), (w.heap.size + 1 + 1, zz4), (w.heap.size + 1, c4 n), (w.heap.size, c4 a)]) ∧ Hid (Below w.heap.size w w')) (fun i _ => (intOf i + 1).toNat)
  case atStart => exact ⟨L, Nat.le_refl _, by go_num, s3, b2⟩
  case round =>
    clear s3 b2
    obtain ⟨q, hq, rfl, s1, b1⟩ := hrel
    by_cases h0 : 0 < q
    · obtain ⟨i, rfl⟩ : ∃ i, q = i + 1 := ⟨q - 1, by omega⟩
      rw [show ((i + 1 : Nat) : Int) - 1 = i by omega]
      have i0 : (i : Int) ≥ 0 := by omega
      have i1 : (i : Int) < 256 := by omega
      have T1 := S1 i (by omega)
      have G1 := F1 i (by omega)
      have TB := SB i (by omega)
      have T2 := S2 i (by omega)
      have G2 : Hid _ := F2 i (by omega)
      have Q0 : Hid _ := P0'.out i (by omega)
      have KP : Hid (∀ W, Kn W [(j1, c4 (pk i)), (k1, c4 base), (w.heap.size + 1 + 1, zz4), (w.heap.size + 1, c4 n), (w.heap.size, c4 a)] → Kn W [(j1, c4 (pk i)), (k1, c4 base), (w.heap.size + 1 + 1, zz4), (w.heap.size + 1, c4 n), (w.heap.size, c4 a)]) := fun _ h => h
      clear S1 F1 SB S2 F2 P0'
      generalize pk (i + 1) = x at *
      generalize sq i = y at *
      generalize bt i = c at *
      have upw_0 : wr.cell? ⟨j1, 0, none⟩ = some (.int .u64 (x).a) := Kn.get s1.out 0 0 rfl rfl
      have upw_1 : wr.cell? ⟨j1, 1, none⟩ = some (.int .u64 (x).b) := Kn.get s1.out 0 1 rfl rfl
      have upw_2 : wr.cell? ⟨j1, 2, none⟩ = some (.int .u64 (x).c) := Kn.get s1.out 0 2 rfl rfl
      have upw_3 : wr.cell? ⟨j1, 3, none⟩ = some (.int .u64 (x).d) := Kn.get s1.out 0 3 rfl rfl
      go_wp2_with fail
      clear upw_0 upw_1 upw_2 upw_3
      refine (T1 _).mono ?_
      rintro e w2 ⟨rfl, hb2⟩
      have s2 : Hid (Kn w2 [(j1, (c4 (x))), (k1, (c4 (base))), (w.heap.size + 1 + 1, zz4), (w.heap.size + 1, (c4 (n))), (w.heap.size, (c4 (a)))]) := s1.out.up hb2
      have b2 : Hid (Below w.heap.size w w2) := b1.out.trans (hb2.mono b1.out.size)
      have z2 := b2.out.size
      clear hb2 s1 b1
      go_wp2_with fail
      refine (G1 _ (hR.out.up b2.out)).mono ?_
      rintro e w3 ⟨rfl, hb3⟩
      have s3 : Hid (Kn w3 [(j1, (c4 (x))), (k1, (c4 (base))), (w.heap.size + 1 + 1, zz4), (w.heap.size + 1, (c4 (n))), (w.heap.size, (c4 (a)))]) := s2.out.up hb3
      have b3 : Hid (Below w.heap.size w w3) := b2.out.trans (hb3.mono b2.out.size)
      have z3 := b3.out.size
      clear hb3 s2 b2
      have upwo_0 : w3.cell? ⟨j1, 0, none⟩ = some (.int .u64 (x).a) := Kn.get s3.out 0 0 rfl rfl
      have upwo_1 : w3.cell? ⟨j1, 1, none⟩ = some (.int .u64 (x).b) := Kn.get s3.out 0 1 rfl rfl
      have upwo_2 : w3.cell? ⟨j1, 2, none⟩ = some (.int .u64 (x).c) := Kn.get s3.out 0 2 rfl rfl
      have upwo_3 : w3.cell? ⟨j1, 3, none⟩ = some (.int .u64 (x).d) := Kn.get s3.out 0 3 rfl rfl
      have upwo_z : ∀ j, w3.frozen? ⟨j1, j, none⟩ = false := Kn.fz s3.out 0 rfl
      have s4 : Hid (Kn (st4 w3 j1 (y)) [(j1, (c4 (y))), (k1, (c4 (base))), (w.heap.size + 1 + 1, zz4), (w.heap.size + 1, (c4 (n))), (w.heap.size, (c4 (a)))]) := Kn.st4 (L := [(k1, (c4 (base))), (w.heap.size + 1 + 1, zz4), (w.heap.size + 1, (c4 (n))), (w.heap.size, (c4 (a)))]) (s3.out.front 0 rfl) (y)
      have b4 : Hid (Below w.heap.size w (st4 w3 j1 (y))) := below_st4 b3.out (by omega)
      clear s3 b3
      have un_0 : (st4 w3 j1 (y)).cell? ⟨w.heap.size + 1, 0, none⟩ = some (.int .u64 (n).a) := Kn.get s4.out 3 0 rfl rfl
      have un_1 : (st4 w3 j1 (y)).cell? ⟨w.heap.size + 1, 1, none⟩ = some (.int .u64 (n).b) := Kn.get s4.out 3 1 rfl rfl
      have un_2 : (st4 w3 j1 (y)).cell? ⟨w.heap.size + 1, 2, none⟩ = some (.int .u64 (n).c) := Kn.get s4.out 3 2 rfl rfl
      have un_3 : (st4 w3 j1 (y)).cell? ⟨w.heap.size + 1, 3, none⟩ = some (.int .u64 (n).d) := Kn.get s4.out 3 3 rfl rfl
      go_wp2_with fail
      clear upwo_0 upwo_1 upwo_2 upwo_3 upwo_z un_0 un_1 un_2 un_3
      refine (TB _).mono ?_
      rintro e w5 ⟨rfl, hb5⟩
      have s5 : Hid (Kn w5 [(j1, (c4 (y))), (k1, (c4 (base))), (w.heap.size + 1 + 1, zz4), (w.heap.size + 1, (c4 (n))), (w.heap.size, (c4 (a)))]) := s4.out.up hb5
      have b5 : Hid (Below w.heap.size w w5) := b4.out.trans (hb5.mono b4.out.size)
      have z5 := b5.out.size
      clear hb5 s4 b4
      by_cases hc : c = 1
      · have G3 := G2.out hc
        have C1 : Hid _ := hc
        subst hc
        have upw_0 : w5.cell? ⟨j1, 0, none⟩ = some (.int .u64 (y).a) := Kn.get s5.out 0 0 rfl rfl
        have upw_1 : w5.cell? ⟨j1, 1, none⟩ = some (.int .u64 (y).b) := Kn.get s5.out 0 1 rfl rfl
        have upw_2 : w5.cell? ⟨j1, 2, none⟩ = some (.int .u64 (y).c) := Kn.get s5.out 0 2 rfl rfl
        have upw_3 : w5.cell? ⟨j1, 3, none⟩ = some (.int .u64 (y).d) := Kn.get s5.out 0 3 rfl rfl
        have ubase_0 : w5.cell? ⟨k1, 0, none⟩ = some (.int .u64 (base).a) := Kn.get s5.out 1 0 rfl rfl
        have ubase_1 : w5.cell? ⟨k1, 1, none⟩ = some (.int .u64 (base).b) := Kn.get s5.out 1 1 rfl rfl
        have ubase_2 : w5.cell? ⟨k1, 2, none⟩ = some (.int .u64 (base).c) := Kn.get s5.out 1 2 rfl rfl
        have ubase_3 : w5.cell? ⟨k1, 3, none⟩ = some (.int .u64 (base).d) := Kn.get s5.out 1 3 rfl rfl
        go_wp2_with fail
        clear upw_0 upw_1 upw_2 upw_3 ubase_0 ubase_1 ubase_2 ubase_3
        refine (T2 _).mono ?_
        rintro e w6 ⟨rfl, hb6⟩
        have s6 : Hid (Kn w6 [(j1, (c4 (y))), (k1, (c4 (base))), (w.heap.size + 1 + 1, zz4), (w.heap.size + 1, (c4 (n))), (w.heap.size, (c4 (a)))]) := s5.out.up hb6
        have b6 : Hid (Below w.heap.size w w6) := b5.out.trans (hb6.mono b5.out.size)
        have z6 := b6.out.size
        clear hb6 s5 b5
        go_wp2_with fail
        refine (G3 _ (hR.out.up b6.out)).mono ?_
        rintro e w7 ⟨rfl, hb7⟩
        have s7 : Hid (Kn w7 [(j1, (c4 (y))), (k1, (c4 (base))), (w.heap.size + 1 + 1, zz4), (w.heap.size + 1, (c4 (n))), (w.heap.size, (c4 (a)))]) := s6.out.up hb7
        have b7 : Hid (Below w.heap.size w w7) := b6.out.trans (hb7.mono b6.out.size)
        have z7 := b7.out.size
        clear hb7 s6 b6
        have upwo_0 : w7.cell? ⟨j1, 0, none⟩ = some (.int .u64 (y).a) := Kn.get s7.out 0 0 rfl rfl
        have upwo_1 : w7.cell? ⟨j1, 1, none⟩ = some (.int .u64 (y).b) := Kn.get s7.out 0 1 rfl rfl
        have upwo_2 : w7.cell? ⟨j1, 2, none⟩ = some (.int .u64 (y).c) := Kn.get s7.out 0 2 rfl rfl
        have upwo_3 : w7.cell? ⟨j1, 3, none⟩ = some (.int .u64 (y).d) := Kn.get s7.out 0 3 rfl rfl
        have upwo_z : ∀ j, w7.frozen? ⟨j1, j, none⟩ = false := Kn.fz s7.out 0 rfl
        have s8 : Hid (Kn (st4 w7 j1 (pk i)) [(j1, (c4 (pk i))), (k1, (c4 (base))), (w.heap.size + 1 + 1, zz4), (w.heap.size + 1, (c4 (n))), (w.heap.size, (c4 (a)))]) := Kn.st4 (L := [(k1, (c4 (base))), (w.heap.size + 1 + 1, zz4), (w.heap.size + 1, (c4 (n))), (w.heap.size, (c4 (a)))]) (s7.out.front 0 rfl) (pk i)
        have b8 : Hid (Below w.heap.size w (st4 w7 j1 (pk i))) := below_st4 b7.out (by omega)
        clear s7 b7
        go_wp2_with fail
        clear upwo_0 upwo_1 upwo_2 upwo_3 upwo_z
        go_roundw
        case rel => exact ⟨i, by omega, by go_num, s8, b8⟩
        case measure => simp [intOf]
      · have hc' : (c == 1) = false := beq_eq_false_iff_ne.2 hc
        go_wp2_with fail
        go_roundw
        case rel => exact ⟨i, by omega, by go_num, by rw [← Q0.out hc]; exact s5, b5⟩
        case measure => simp [intOf]
    · have q0 : q = 0 := by omega
      subst q0
      have upw_0 : wr.cell? ⟨j1, 0, none⟩ = some (.int .u64 (pk 0).a) := Kn.get s1.out 0 0 rfl rfl
      have upw_1 : wr.cell? ⟨j1, 1, none⟩ = some (.int .u64 (pk 0).b) := Kn.get s1.out 0 1 rfl rfl
      have upw_2 : wr.cell? ⟨j1, 2, none⟩ = some (.int .u64 (pk 0).c) := Kn.get s1.out 0 2 rfl rfl
      have upw_3 : wr.cell? ⟨j1, 3, none⟩ = some (.int .u64 (pk 0).d) := Kn.get s1.out 0 3 rfl rfl
      go_wp2_with fail
      clear upw_0 upw_1 upw_2 upw_3
      refine (wideOf_fun (pk 0) ⟨0, 0, 0, 0⟩ _).mono ?_
      rintro e w2 ⟨rfl, hb2⟩
      have s2 : Hid (Kn w2 [(j1, (c4 (pk 0))), (k1, (c4 (base))), (w.heap.size + 1 + 1, zz4), (w.heap.size + 1, (c4 (n))), (w.heap.size, (c4 (a)))]) := s1.out.up hb2
      have b2 : Hid (Below w.heap.size w w2) := b1.out.trans (hb2.mono b1.out.size)
      have z2 := b2.out.size
      clear hb2 s1 b1
      go_wp2_with fail
      refine (F3 _ (hR.out.up b2.out)).mono ?_
      rintro e w3 ⟨rfl, hb3⟩
      have s3 : Hid (Kn w3 [(j1, (c4 (pk 0))), (k1, (c4 (base))), (w.heap.size + 1 + 1, zz4), (w.heap.size + 1, (c4 (n))), (w.heap.size, (c4 (a)))]) := s2.out.up hb3
      have b3 : Hid (Below w.heap.size w w3) := b2.out.trans (hb3.mono b2.out.size)
      have z3 := b3.out.size
      clear hb3 s2 b2
      have uro_0 : w3.cell? ⟨w.heap.size + 1 + 1, 0, none⟩ = some (.int .u64 0) := Kn.get s3.out 2 0 rfl rfl
      have uro_1 : w3.cell? ⟨w.heap.size + 1 + 1, 1, none⟩ = some (.int .u64 0) := Kn.get s3.out 2 1 rfl rfl
      have uro_2 : w3.cell? ⟨w.heap.size + 1 + 1, 2, none⟩ = some (.int .u64 0) := Kn.get s3.out 2 2 rfl rfl
      have uro_3 : w3.cell? ⟨w.heap.size + 1 + 1, 3, none⟩ = some (.int .u64 0) := Kn.get s3.out 2 3 rfl rfl
      have uro_z : ∀ j, w3.frozen? ⟨w.heap.size + 1 + 1, j, none⟩ = false := Kn.fz s3.out 2 rfl
      have s4 : Hid (Kn (st4 w3 (w.heap.size + 1 + 1) (p)) [(w.heap.size + 1 + 1, (c4 (p))), (j1, (c4 (pk 0))), (k1, (c4 (base))), (w.heap.size + 1, (c4 (n))), (w.heap.size, (c4 (a)))]) := Kn.st4 (L := [(j1, (c4 (pk 0))), (k1, (c4 (base))), (w.heap.size + 1, (c4 (n))), (w.heap.size, (c4 (a)))]) (s3.out.front 2 rfl) (p)
      have b4 : Hid (Below w.heap.size w (st4 w3 (w.heap.size + 1 + 1) (p))) := below_st4 b3.out (by omega)
      clear s3 b3
      go_wp2_with fail
      clear uro_0 uro_1 uro_2 uro_3 uro_z
      have urr_0 : (st4 w3 (w.heap.size + 1 + 1) (p)).cell? ⟨w.heap.size + 1 + 1, 0, none⟩ = some (.int .u64 (p).a) := Kn.get s4.out 0 0 rfl rfl
      have urr_1 : (st4 w3 (w.heap.size + 1 + 1) (p)).cell? ⟨w.heap.size + 1 + 1, 1, none⟩ = some (.int .u64 (p).b) := Kn.get s4.out 0 1 rfl rfl
      have urr_2 : (st4 w3 (w.heap.size + 1 + 1) (p)).cell? ⟨w.heap.size + 1 + 1, 2, none⟩ = some (.int .u64 (p).c) := Kn.get s4.out 0 2 rfl rfl
      have urr_3 : (st4 w3 (w.heap.size + 1 + 1) (p)).cell? ⟨w.heap.size + 1 + 1, 3, none⟩ = some (.int .u64 (p).d) := Kn.get s4.out 0 3 rfl rfl
      refine bodyPost_ret (v := N p) ?_ rfl ⟨rfl, b4.out⟩
      show (results Try.f35 _).run Try.prog (st4 w3 (w.heap.size + 1 + 1) (p)) = .ok _ (st4 w3 (w.heap.size + 1 + 1) (p))
      clear s4 b4
      generalize (st4 w3 (w.heap.size + 1 + 1) (p)) = W9 at *
      simp [results, Try.results35, go_sem, urr_0, urr_1, urr_2, urr_3]
theorem out_prod {m : Nat} (odd : m % 2 = 1) (x y : Nat) : P.out m (x * 2 ^ 256 % m * (y * 2 ^ 256 % m)) = x * y * 2 ^ 256 % m := by
  rw [P.out_mul odd, Nat.mul_mod, Nat.mod_mod, ← Nat.mul_mod, Nat.mul_assoc]
theorem lenN_256 {n : Nm} (on : n.ok) : lenN n.val.toNat ≤ 256 := lenN_le.2 (Nm.nat_lt on)
theorem ringPow_fun {k : Nat} {m iv : Nm} (R : RingOK m iv) (a n : Nm) (oa : a.ok) (on : n.ok) (w : World) (hR : Rg w k m iv) :
    Calls Try.prog 35 #[rp k, N a, N n] w fun e w' => e = .returned (N (nm (a.nat ^ n.nat % m.nat))) ∧ Below w.heap.size w w' := by
  have hm : 0 < m.nat := by have := R.big; omega
  have pn : ∀ x, (nm (x * 2 ^ 256 % m.nat)).nat = x * 2 ^ 256 % m.nat := fun x => nm_nat (mod_ok R.om hm _)
  have sqv : ∀ x y, P.out m.nat ((nm (x * 2 ^ 256 % m.nat)).nat * (nm (y * 2 ^ 256 % m.nat)).nat) = x * y * 2 ^ 256 % m.nat := fun x y => by rw [pn, pn, out_prod R.odd]
  have lt : ∀ x, (nm (x * 2 ^ 256 % m.nat)).nat < m.nat := fun x => by rw [pn]; exact Nat.mod_lt _ hm
  have bitv : ∀ i : Nat, n.val / 2 ^ i % 2 = ((n.nat / 2 ^ i % 2 : Nat) : Int) := fun i => by
    rw [← Nm.nat_cast on, Int.natCast_emod, Int.natCast_ediv, Int.natCast_pow]
    rfl
  have up : ∀ i, n.nat / 2 ^ i = n.nat / 2 ^ (i + 1) + n.nat / 2 ^ (i + 1) + n.nat / 2 ^ i % 2 := fun i => by
    rw [Nat.pow_succ, ← Nat.div_div_eq_div_mul]
    omega
  have F3 := fun w hR => foldOne_fun (k := k) R (nm (2 ^ 256 % m.nat)) (nm (2 ^ 256 * 2 ^ 256 % m.nat)) (nm (a.nat ^ (n.nat / 2 ^ 0) * 2 ^ 256 % m.nat)) (nm_ok _) w hR
  have e3 : P.out m.nat (nm (a.nat ^ (n.nat / 2 ^ 0) * 2 ^ 256 % m.nat)).nat = a.nat ^ n.nat % m.nat := by rw [pn, P.out_mod, P.out_in R.odd, Nat.pow_zero, Nat.div_one]
  rw [e3] at F3
  refine ringPow_walk k m iv _ _ a n (nm (a.nat * 2 ^ 256 % m.nat)) _ (lenN n.val.toNat) (lenN_256 on) (fun i => nm (a.nat ^ (n.nat / 2 ^ i) * 2 ^ 256 % m.nat))
    (fun i => nm (a.nat ^ (n.nat / 2 ^ (i + 1)) * a.nat ^ (n.nat / 2 ^ (i + 1)) * 2 ^ 256 % m.nat)) _ _ _ _ (fun i => n.val / 2 ^ i % 2)
    (in_fun R a oa) (len_fun n on) (fun i _ => mul_V _ _ (nm_ok _) (nm_ok _)) (fun i _ w hR => ?_) (fun i hi => bit_fun n on i (by have := lenN_256 on; omega)) (fun i _ => mul_V _ _ (nm_ok _) (nm_ok _)) (fun i _ hb w hR => ?_) (fun i _ hb => ?_) ?_ ?_ w hR
  · have := foldMul_fun (k := k) R (nm (2 ^ 256 % m.nat)) (nm (2 ^ 256 * 2 ^ 256 % m.nat)) (nm (a.nat ^ (n.nat / 2 ^ (i + 1)) * 2 ^ 256 % m.nat)) (nm (a.nat ^ (n.nat / 2 ^ (i + 1)) * 2 ^ 256 % m.nat)) (nm_ok _) (nm_ok _) (lt _) w hR
    rw [sqv] at this
    exact this
  · have := foldMul_fun (k := k) R (nm (2 ^ 256 % m.nat)) (nm (2 ^ 256 * 2 ^ 256 % m.nat)) (nm (a.nat ^ (n.nat / 2 ^ (i + 1)) * a.nat ^ (n.nat / 2 ^ (i + 1)) * 2 ^ 256 % m.nat)) (nm (a.nat * 2 ^ 256 % m.nat)) (nm_ok _) (nm_ok _) (lt _) w hR
    rw [sqv] at this
    have b1 : n.nat / 2 ^ i % 2 = 1 := by have := bitv i; omega
    have e := up i
    rw [b1] at e
    rw [show a.nat ^ (n.nat / 2 ^ i) = a.nat ^ (n.nat / 2 ^ (i + 1)) * a.nat ^ (n.nat / 2 ^ (i + 1)) * a.nat by rw [e, Nat.pow_succ, Nat.pow_add]]
    exact this
  · have b0 : n.nat / 2 ^ i % 2 = 0 := by have := bitv i; omega
    have e := up i
    rw [b0, Nat.add_zero] at e
    show nm _ = nm _
    rw [← Nat.pow_add, ← e]
  · show nm _ = nm _
    have : n.nat / 2 ^ lenN n.val.toNat = 0 := Nat.div_eq_of_lt (lenN_le.1 (Nat.le_refl _))
    rw [this, Nat.pow_zero, Nat.one_mul]
  · exact F3
end Go.Proofs.Ytkgfeacednomfaa
