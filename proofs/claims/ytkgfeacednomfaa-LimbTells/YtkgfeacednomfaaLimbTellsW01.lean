/- LimbTells returns true: the walk (carry 0, borrow 1). -/
import Derived.Test.YtkgfeacednomfaaLimbTellsB
namespace Go.Proofs.Ytkgfeacednomfaa
open Go.RowKit
open Go.ChangeShapes Go.WideShapes Go.ChangeAt
attribute [local go_sem] World.cell?_alloc_some cell_alloc2 cell_alloc3 cell_alloc4 frozen?_alloc_cells frozen_out YieldsP execOp
attribute [local simp] MP.eq_p MP.sl_p MP.sl2_p
set_option linter.unusedSimpArgs false
set_option maxRecDepth 20000 in
set_option maxHeartbeats 4000000 in
theorem limbTells_walk01 (a b s d lo hi sh pk : Nm) (X Y Z : Nat) (SV : Nat → Nat → Nat) (S0 : ∀ m, SV 0 m = 0)  (BV LN : Nat → Nat) (B0 : BV 0 = 0) (L0 : LN 0 = 0) (B2 : BV 256 ≤ 1) (i c o1 o2 : Int) (c0 : 0 ≤ c) (i8 : -9223372036854775808 ≤ i) (i9 : i ≤ 9223372036854775807) (g1 : ¬ o1 ≥ 0) (g2 : o2 < 0)
    (OA : Hid (∀ w, Calls Try.prog 9 #[N a] w fun e w' => (∃ v', e = .returned v' ∧ Sl w' v' (P.dg X)) ∧ Below w.heap.size w w'))
    (OB : Hid (∀ w, Calls Try.prog 9 #[N b] w fun e w' => (∃ v', e = .returned v' ∧ Sl w' v' (P.dg Y)) ∧ Below w.heap.size w w'))
    (PS : Hid (∀ u0 u1 w, Sl w u0 (P.dg X) → Sl w u1 (P.dg Y) → Calls Try.prog 10 #[u0, u1] w fun e w' => (∃ v', e = .returned v' ∧ Sl w' v' (P.dg (X + Y))) ∧ Below w.heap.size w w'))
    (O1 : Hid (∀ u0 u1 w, Sl w u0 (P.dg (X + Y)) → Sl w u1 (P.dg (2 ^ 256)) → Calls Try.prog 11 #[u0, u1] w fun e w' => e = .returned (.int .i64 o1) ∧ Below w.heap.size w w'))
    (O2 : Hid (∀ u0 u1 w, Sl w u0 (P.dg X) → Sl w u1 (P.dg Y) → Calls Try.prog 11 #[u0, u1] w fun e w' => e = .returned (.int .i64 o2) ∧ Below w.heap.size w w'))
    (AD : Hid (∀ w, Calls Try.prog 13 #[N a, N b] w fun e w' => e = .returned (.tuple #[N s, .int .u64 0]) ∧ Below w.heap.size w w'))
    (SB : Hid (∀ w, Calls Try.prog 14 #[N a, N b] w fun e w' => e = .returned (.tuple #[N d, .int .u64 1]) ∧ Below w.heap.size w w'))
    (TS : Hid (∀ u0 w, Sl w u0 (P.dg (X + Y)) → Calls Try.prog 15 #[u0] w fun e w' => e = .returned (N s) ∧ Below w.heap.size w w'))
    (PX : Hid (∀ u0 u1 w, Sl w u0 (P.dg X) → Sl w u1 (P.dg (2 ^ 256)) → Calls Try.prog 10 #[u0, u1] w fun e w' => (∃ v', e = .returned v' ∧ Sl w' v' (P.dg (X + 2 ^ 256))) ∧ Below w.heap.size w w'))
    (MN : Hid (∀ u0 u1 w, Sl w u0 (P.dg (X + 2 ^ 256)) → Sl w u1 (P.dg Y) → Calls Try.prog 16 #[u0, u1] w fun e w' => (∃ v', e = .returned v' ∧ Sl w' v' (P.dg (X + 2 ^ 256 - Y))) ∧ Below w.heap.size w w'))
    (TD : Hid (∀ u0 w, Sl w u0 (P.dg (X + 2 ^ 256 - Y)) → Calls Try.prog 15 #[u0] w fun e w' => e = .returned (N d) ∧ Below w.heap.size w w'))
    (MU : Hid (∀ w, Calls Try.prog 17 #[N a, N b] w fun e w' => e = .returned (Wv lo hi) ∧ Below w.heap.size w w'))
    (TI : Hid (∀ u0 u1 w, Sl w u0 (P.dg X) → Sl w u1 (P.dg Y) → Calls Try.prog 19 #[u0, u1] w fun e w' => (∃ v', e = .returned v' ∧ Sl w' v' (P.dg (X * Y))) ∧ Below w.heap.size w w'))
    (TW : Hid (∀ u0 w, Sl w u0 (P.dg (X * Y)) → Calls Try.prog 18 #[u0] w fun e w' => e = .returned (Wv lo hi) ∧ Below w.heap.size w w'))
    (CM : Hid (∀ w, Calls Try.prog 20 #[N a, N b] w fun e w' => e = .returned (.int .i64 o2) ∧ Below w.heap.size w w'))
    (BI : Hid (∀ w, Calls Try.prog 22 #[N a, .int .i64 i] w fun e w' => e = .returned (.int .u64 ((BV 256 : Nat) : Int)) ∧ Below w.heap.size w w'))
    (LG : Hid (∀ w, Calls Try.prog 23 #[N a] w fun e w' => e = .returned (.int .i64 ((LN 256 : Nat) : Int)) ∧ Below w.heap.size w w'))
    (B1 : Hid (∀ k : Nat, k < 256 → (i = (k : Int) → BV (k + 1) = X / 2 ^ k % 2) ∧ (i ≠ (k : Int) → BV (k + 1) = BV k)))
    (L1 : Hid (∀ k : Nat, k < 256 → (X / 2 ^ k % 2 = 1 → LN (k + 1) = k + 1) ∧ (X / 2 ^ k % 2 ≠ 1 → LN (k + 1) = LN k)))
    (S1 : Hid (∀ k j : Nat, k < 256 → j < 256 → -255 ≤ i → i ≤ 255 → (k : Int) + i = (j : Int) → ∀ m, m < 256 → SV (k + 1) m = if m = j then X / 2 ^ k % 2 else SV k m))
    (S2 : Hid (∀ k : Nat, k < 256 → ¬ (-255 ≤ i ∧ i ≤ 255 ∧ 0 ≤ (k : Int) + i ∧ (k : Int) + i < 256) → ∀ m, m < 256 → SV (k + 1) m = SV k m))
    (OF : Hid (∀ B (bs : List Nat) w, (∀ m, m < 256 → bs.getD m 0 = SV 256 m) → (∀ j, j < 256 → w.cell? ⟨B, j, none⟩ = some (.int .i64 ((bs.getD j 0 : Nat) : Int))) → Calls Try.prog 25 #[.slice (some ⟨B, 0, none⟩) 256 256] w fun e w' => (∃ v', e = .returned v' ∧ Sl w' v' (P.dg Z)) ∧ Below w.heap.size w w'))
    (TZ : Hid (∀ u0 w, Sl w u0 (P.dg Z) → Calls Try.prog 15 #[u0] w fun e w' => e = .returned (N sh) ∧ Below w.heap.size w w'))
    (SH : Hid (∀ w, Calls Try.prog 24 #[N a, .int .i64 i] w fun e w' => e = .returned (N sh) ∧ Below w.heap.size w w'))
    (PK : Hid (∀ w, Calls Try.prog 26 #[.int .u64 c, N a, N b] w fun e w' => e = .returned (N pk) ∧ Below w.heap.size w w'))
    (PE : Hid (pk = if c % 2 = 1 then b else a))
    (BT : Hid (∀ u w, Sl w u (P.dg X) → Calls Try.prog 21 #[u, .int .i64 256] w fun e w' => (e = .returned (.slice (some ⟨w.heap.size, 0, none⟩) 256 256) ∧ ∀ j, j < 256 → w'.cell? ⟨w.heap.size, j, none⟩ = some (.int .i64 ((X / 2 ^ j % 2 : Nat) : Int))) ∧ Below w.heap.size w w'))
    (w : World) :
    Calls Try.prog 3 #[N a, N b, .int .i64 i, .int .u64 c] w fun e w' => e = .returned (.bool true) ∧ Below w.heap.size w w' := by
  have e1 := neN s s
  have e2 := neN d d
  have e3 := neW lo hi lo hi
  rw [Nm.beq_self] at e1 e2
  rw [Nm.beq_self, Nm.beq_self] at e3
  go_enter Try.func3, Try.ntmps3
  have s0 : Hid (Kn (kal4 (kal4 w (a)) (b)) [(w.heap.size + 1, (c4 (b))), (w.heap.size, (c4 (a)))]) := (((Kn.nil w).al (c4 (a)) 24 rfl).al (c4 (b)) 24 (by simp))
  have b0 : Hid (Below w.heap.size w (kal4 (kal4 w (a)) (b))) := (((Below.refl _ _).alloc (Nat.le_refl _) _).alloc (by simp <;> omega) _)
  go_wp2_with fail
  refine wp_region_monoE [MP.eq (N (a)), MP.sl (P.dg X), MP.eq (N (b)), MP.sl (P.dg Y), MP.sl (P.dg X), MP.sl (P.dg Y)] (by kernel_rfl) (by kernel_rfl) rfl ?_
  apply Exists.intro
  refine ⟨fun vals => ?_, ?_, fun vals1 w1 hb1 hF => ?_⟩
  · simp only [putsV, dstL, List.length_cons, List.length_nil, Nat.zero_add, Nat.reduceAdd, List.getElem?_cons_zero, List.getElem?_cons_succ, Option.bind_some, Act.put, List.setIfInBounds_toArray, List.set_cons_succ, List.set_cons_zero]
    rfl
  · refine ⟨?_, ?_, ?_, ?_, ?_, ?_, trivial⟩
    · intro vals W hW hw hd
      simp [Region.binds] at hd
      have u0 := Kn.get (s0.out.up hW.out) 1 0 rfl rfl
      have u1 := Kn.get (s0.out.up hW.out) 1 1 rfl rfl
      have u2 := Kn.get (s0.out.up hW.out) 1 2 rfl rfl
      have u3 := Kn.get (s0.out.up hW.out) 1 3 rfl rfl
      refine ⟨by first | rfl | simp [Region.wanted, yielded, hd], ?_⟩
      simp [go_sem, u0, u1, u2, u3]
      exact Below.refl _ _
    · intro vals W hW hw hd
      simp [Region.binds] at hd
      refine ⟨by first | rfl | simp [Region.wanted, yielded, hd], ?_⟩
      simp [go_sem, hd]
      exact (OA.out _).mono fun e w' ⟨⟨v', he, hs⟩, hb⟩ => ⟨v', he, hs, hb⟩
    · intro vals W hW hw hd
      simp [Region.binds] at hd
      have u0 := Kn.get (s0.out.up hW.out) 0 0 rfl rfl
      have u1 := Kn.get (s0.out.up hW.out) 0 1 rfl rfl
      have u2 := Kn.get (s0.out.up hW.out) 0 2 rfl rfl
      have u3 := Kn.get (s0.out.up hW.out) 0 3 rfl rfl
      refine ⟨by first | rfl | simp [Region.wanted, yielded, hd], ?_⟩
      simp [go_sem, u0, u1, u2, u3]
      exact Below.refl _ _
    · intro vals W hW hw hd
      simp [Region.binds] at hd
      refine ⟨by first | rfl | simp [Region.wanted, yielded, hd], ?_⟩
      simp [go_sem, hd]
      exact (OB.out _).mono fun e w' ⟨⟨v', he, hs⟩, hb⟩ => ⟨v', he, hs, hb⟩
    · intro vals W hW hw hd
      simp [Region.binds] at hd
      refine ⟨by first | rfl | simp [Region.wanted, yielded, hd], ?_⟩
      simp [go_sem]
      exact ⟨by simp [hd], Below.refl _ _⟩
    · intro vals W hW hw hd
      simp [Region.binds] at hd
      refine ⟨by first | rfl | simp [Region.wanted, yielded, hd], ?_⟩
      simp [go_sem]
      exact ⟨by simp [hd], Below.refl _ _⟩
  obtain ⟨f0, f1, f2, f3, f4, f5, _⟩ := hF
  have s1 : Hid (Kn w1 [(w.heap.size + 1, (c4 (b))), (w.heap.size, (c4 (a)))]) := s0.out.up hb1.out
  have b1 : Hid (Below w.heap.size w w1) := b0.out.trans (hb1.out.mono b0.out.size)
  have z1 := b1.out.size
  clear hb1 s0 b0
  have Sx : Hid (Sl w1 (vals1 4) (P.dg X)) := f4
  have Sy : Hid (Sl w1 (vals1 5) (P.dg Y)) := f5
  clear f0 f1 f2 f3 f4 f5
  go_wp2_with fail
  refine (PS.out _ _ _ Sx.out Sy.out).mono ?_
  rintro e w2 ⟨⟨v2, rfl, h2⟩, hb2⟩
  replace Sx : Hid (Sl w2 (vals1 4) (P.dg X)) := Sl.up (xs := (P.dg X)) Sx.out hb2
  replace Sy : Hid (Sl w2 (vals1 5) (P.dg Y)) := Sl.up (xs := (P.dg Y)) Sy.out hb2
  have s2 : Hid (Kn w2 [(w.heap.size + 1, (c4 (b))), (w.heap.size, (c4 (a)))]) := s1.out.up hb2
  have b2 : Hid (Below w.heap.size w w2) := b1.out.trans (hb2.mono b1.out.size)
  have z2 := b2.out.size
  clear hb2 s1 b1
  have Ssum : Hid (Sl w2 v2 (P.dg (X + Y))) := h2
  clear h2
  go_wp2_with fail
  refine (twoTo_fun _).mono ?_
  rintro e w3 ⟨⟨v3, rfl, h3⟩, hb3⟩
  replace Sx : Hid (Sl w3 (vals1 4) (P.dg X)) := Sl.up (xs := (P.dg X)) Sx.out hb3
  replace Sy : Hid (Sl w3 (vals1 5) (P.dg Y)) := Sl.up (xs := (P.dg Y)) Sy.out hb3
  replace Ssum : Hid (Sl w3 v2 (P.dg (X + Y))) := Sl.up (xs := (P.dg (X + Y))) Ssum.out hb3
  have s3 : Hid (Kn w3 [(w.heap.size + 1, (c4 (b))), (w.heap.size, (c4 (a)))]) := s2.out.up hb3
  have b3 : Hid (Below w.heap.size w w3) := b2.out.trans (hb3.mono b2.out.size)
  have z3 := b3.out.size
  clear hb3 s2 b2
  have Stwo : Hid (Sl w3 v3 (P.dg (2 ^ 256))) := h3
  clear h3
  go_wp2_with fail
  refine (O1.out _ _ _ Ssum.out Stwo.out).mono ?_
  rintro e w4 ⟨rfl, hb4⟩
  replace Sx : Hid (Sl w4 (vals1 4) (P.dg X)) := Sl.up (xs := (P.dg X)) Sx.out hb4
  replace Sy : Hid (Sl w4 (vals1 5) (P.dg Y)) := Sl.up (xs := (P.dg Y)) Sy.out hb4
  replace Ssum : Hid (Sl w4 v2 (P.dg (X + Y))) := Sl.up (xs := (P.dg (X + Y))) Ssum.out hb4
  replace Stwo : Hid (Sl w4 v3 (P.dg (2 ^ 256))) := Sl.up (xs := (P.dg (2 ^ 256))) Stwo.out hb4
  have s4 : Hid (Kn w4 [(w.heap.size + 1, (c4 (b))), (w.heap.size, (c4 (a)))]) := s3.out.up hb4
  have b4 : Hid (Below w.heap.size w w4) := b3.out.trans (hb4.mono b3.out.size)
  have z4 := b4.out.size
  clear hb4 s3 b3
  go_wp2_with fail
  refine (O2.out _ _ _ Sx.out Sy.out).mono ?_
  rintro e w5 ⟨rfl, hb5⟩
  replace Sx : Hid (Sl w5 (vals1 4) (P.dg X)) := Sl.up (xs := (P.dg X)) Sx.out hb5
  replace Sy : Hid (Sl w5 (vals1 5) (P.dg Y)) := Sl.up (xs := (P.dg Y)) Sy.out hb5
  replace Ssum : Hid (Sl w5 v2 (P.dg (X + Y))) := Sl.up (xs := (P.dg (X + Y))) Ssum.out hb5
  replace Stwo : Hid (Sl w5 v3 (P.dg (2 ^ 256))) := Sl.up (xs := (P.dg (2 ^ 256))) Stwo.out hb5
  have s5 : Hid (Kn w5 [(w.heap.size + 1, (c4 (b))), (w.heap.size, (c4 (a)))]) := s4.out.up hb5
  have b5 : Hid (Below w.heap.size w w5) := b4.out.trans (hb5.mono b4.out.size)
  have z5 := b5.out.size
  clear hb5 s4 b4
  have ua_0 : w5.cell? ⟨w.heap.size, 0, none⟩ = some (.int .u64 (a).a) := Kn.get s5.out 1 0 rfl rfl
  have ua_1 : w5.cell? ⟨w.heap.size, 1, none⟩ = some (.int .u64 (a).b) := Kn.get s5.out 1 1 rfl rfl
  have ua_2 : w5.cell? ⟨w.heap.size, 2, none⟩ = some (.int .u64 (a).c) := Kn.get s5.out 1 2 rfl rfl
  have ua_3 : w5.cell? ⟨w.heap.size, 3, none⟩ = some (.int .u64 (a).d) := Kn.get s5.out 1 3 rfl rfl
  have ub_0 : w5.cell? ⟨w.heap.size + 1, 0, none⟩ = some (.int .u64 (b).a) := Kn.get s5.out 0 0 rfl rfl
  have ub_1 : w5.cell? ⟨w.heap.size + 1, 1, none⟩ = some (.int .u64 (b).b) := Kn.get s5.out 0 1 rfl rfl
  have ub_2 : w5.cell? ⟨w.heap.size + 1, 2, none⟩ = some (.int .u64 (b).c) := Kn.get s5.out 0 2 rfl rfl
  have ub_3 : w5.cell? ⟨w.heap.size + 1, 3, none⟩ = some (.int .u64 (b).d) := Kn.get s5.out 0 3 rfl rfl
  go_wp2_with fail
  clear ua_0 ua_1 ua_2 ua_3 ub_0 ub_1 ub_2 ub_3
  refine (AD.out _).mono ?_
  rintro e w6 ⟨rfl, hb6⟩
  replace Sx : Hid (Sl w6 (vals1 4) (P.dg X)) := Sl.up (xs := (P.dg X)) Sx.out hb6
  replace Sy : Hid (Sl w6 (vals1 5) (P.dg Y)) := Sl.up (xs := (P.dg Y)) Sy.out hb6
  replace Ssum : Hid (Sl w6 v2 (P.dg (X + Y))) := Sl.up (xs := (P.dg (X + Y))) Ssum.out hb6
  replace Stwo : Hid (Sl w6 v3 (P.dg (2 ^ 256))) := Sl.up (xs := (P.dg (2 ^ 256))) Stwo.out hb6
  have s6 : Hid (Kn w6 [(w.heap.size + 1, (c4 (b))), (w.heap.size, (c4 (a)))]) := s5.out.up hb6
  have b6 : Hid (Below w.heap.size w w6) := b5.out.trans (hb6.mono b5.out.size)
  have z6 := b6.out.size
  clear hb6 s5 b5
  have ua_0 : w6.cell? ⟨w.heap.size, 0, none⟩ = some (.int .u64 (a).a) := Kn.get s6.out 1 0 rfl rfl
  have ua_1 : w6.cell? ⟨w.heap.size, 1, none⟩ = some (.int .u64 (a).b) := Kn.get s6.out 1 1 rfl rfl
  have ua_2 : w6.cell? ⟨w.heap.size, 2, none⟩ = some (.int .u64 (a).c) := Kn.get s6.out 1 2 rfl rfl
  have ua_3 : w6.cell? ⟨w.heap.size, 3, none⟩ = some (.int .u64 (a).d) := Kn.get s6.out 1 3 rfl rfl
  have ub_0 : w6.cell? ⟨w.heap.size + 1, 0, none⟩ = some (.int .u64 (b).a) := Kn.get s6.out 0 0 rfl rfl
  have ub_1 : w6.cell? ⟨w.heap.size + 1, 1, none⟩ = some (.int .u64 (b).b) := Kn.get s6.out 0 1 rfl rfl
  have ub_2 : w6.cell? ⟨w.heap.size + 1, 2, none⟩ = some (.int .u64 (b).c) := Kn.get s6.out 0 2 rfl rfl
  have ub_3 : w6.cell? ⟨w.heap.size + 1, 3, none⟩ = some (.int .u64 (b).d) := Kn.get s6.out 0 3 rfl rfl
  have s7 : Hid (Kn (kal4 w6 (s)) [(w6.heap.size, (c4 (s))), (w.heap.size + 1, (c4 (b))), (w.heap.size, (c4 (a)))]) := s6.out.al (c4 (s)) 24 rfl
  have b7 : Hid (Below w.heap.size w (kal4 w6 (s))) := b6.out.alloc b6.out.size _
  have z7 := b6.out.size
  replace Sx : Hid (Sl (kal4 w6 (s)) (vals1 4) (P.dg X)) := Sl.up (xs := (P.dg X)) Sx.out ((Below.refl _ _).alloc (Nat.le_refl _) _)
  replace Sy : Hid (Sl (kal4 w6 (s)) (vals1 5) (P.dg Y)) := Sl.up (xs := (P.dg Y)) Sy.out ((Below.refl _ _).alloc (Nat.le_refl _) _)
  replace Ssum : Hid (Sl (kal4 w6 (s)) v2 (P.dg (X + Y))) := Sl.up (xs := (P.dg (X + Y))) Ssum.out ((Below.refl _ _).alloc (Nat.le_refl _) _)
  replace Stwo : Hid (Sl (kal4 w6 (s)) v3 (P.dg (2 ^ 256))) := Sl.up (xs := (P.dg (2 ^ 256))) Stwo.out ((Below.refl _ _).alloc (Nat.le_refl _) _)
  clear s6 b6
  go_wp2_with fail
  clear ua_0 ua_1 ua_2 ua_3 ub_0 ub_1 ub_2 ub_3
  refine (SB.out _).mono ?_
  rintro e w8 ⟨rfl, hb8⟩
  replace Sx : Hid (Sl w8 (vals1 4) (P.dg X)) := Sl.up (xs := (P.dg X)) Sx.out hb8
  replace Sy : Hid (Sl w8 (vals1 5) (P.dg Y)) := Sl.up (xs := (P.dg Y)) Sy.out hb8
  replace Ssum : Hid (Sl w8 v2 (P.dg (X + Y))) := Sl.up (xs := (P.dg (X + Y))) Ssum.out hb8
  replace Stwo : Hid (Sl w8 v3 (P.dg (2 ^ 256))) := Sl.up (xs := (P.dg (2 ^ 256))) Stwo.out hb8
  have s8 : Hid (Kn w8 [(w6.heap.size, (c4 (s))), (w.heap.size + 1, (c4 (b))), (w.heap.size, (c4 (a)))]) := s7.out.up hb8
  have b8 : Hid (Below w.heap.size w w8) := b7.out.trans (hb8.mono b7.out.size)
  have z8 := b8.out.size
  clear hb8 s7 b7
  have s9 : Hid (Kn (kal4 w8 (d)) [(w8.heap.size, (c4 (d))), (w6.heap.size, (c4 (s))), (w.heap.size + 1, (c4 (b))), (w.heap.size, (c4 (a)))]) := s8.out.al (c4 (d)) 24 rfl
  have b9 : Hid (Below w.heap.size w (kal4 w8 (d))) := b8.out.alloc b8.out.size _
  have z9 := b8.out.size
  replace Sx : Hid (Sl (kal4 w8 (d)) (vals1 4) (P.dg X)) := Sl.up (xs := (P.dg X)) Sx.out ((Below.refl _ _).alloc (Nat.le_refl _) _)
  replace Sy : Hid (Sl (kal4 w8 (d)) (vals1 5) (P.dg Y)) := Sl.up (xs := (P.dg Y)) Sy.out ((Below.refl _ _).alloc (Nat.le_refl _) _)
  replace Ssum : Hid (Sl (kal4 w8 (d)) v2 (P.dg (X + Y))) := Sl.up (xs := (P.dg (X + Y))) Ssum.out ((Below.refl _ _).alloc (Nat.le_refl _) _)
  replace Stwo : Hid (Sl (kal4 w8 (d)) v3 (P.dg (2 ^ 256))) := Sl.up (xs := (P.dg (2 ^ 256))) Stwo.out ((Below.refl _ _).alloc (Nat.le_refl _) _)
  clear s8 b8
  go_wp2_with fail
  refine wp_region_monoE [MP.eq (N (s)), MP.sl (P.dg (X + Y)), MP.eq (N s), MP.eq (.bool false), MP.eq (.bool false), MP.eq (.int .u64 0), MP.eq (.int .u64 0), MP.eq (.bool false), MP.eq (.bool false), MP.eq (.bool false), MP.eq (N (d)), MP.sl (P.dg X), MP.sl (P.dg (2 ^ 256)), MP.sl (P.dg (X + 2 ^ 256)), MP.sl (P.dg Y), MP.sl (P.dg (X + 2 ^ 256 - Y)), MP.eq (N d), MP.eq (.bool false), MP.eq (.bool false), MP.eq (.bool false), MP.eq (.int .u64 1), MP.eq (.int .u64 1), MP.eq (.bool false), MP.eq (.bool false)] (by kernel_rfl) (by kernel_rfl) rfl ?_
  apply Exists.intro
  refine ⟨fun vals => ?_, ?_, fun vals10 w10 hb10 hF => ?_⟩
  · simp only [putsV, dstL, List.length_cons, List.length_nil, Nat.zero_add, Nat.reduceAdd, List.getElem?_cons_zero, List.getElem?_cons_succ, Option.bind_some, Act.put, List.setIfInBounds_toArray, List.set_cons_succ, List.set_cons_zero]
    rfl
  · refine ⟨?_, ?_, ?_, ?_, ?_, ?_, ?_, ?_, ?_, ?_, ?_, ?_, ?_, ?_, ?_, ?_, ?_, ?_, ?_, ?_, ?_, ?_, ?_, ?_, trivial⟩
    · intro vals W hW hw hd
      simp [Region.binds] at hd
      have u0 := Kn.get (s9.out.up hW.out) 1 0 rfl rfl
      have u1 := Kn.get (s9.out.up hW.out) 1 1 rfl rfl
      have u2 := Kn.get (s9.out.up hW.out) 1 2 rfl rfl
      have u3 := Kn.get (s9.out.up hW.out) 1 3 rfl rfl
      refine ⟨by first | rfl | simp [Region.wanted, yielded, hd], ?_⟩
      simp [go_sem, u0, u1, u2, u3]
      exact Below.refl _ _
    · intro vals W hW hw hd
      simp [Region.binds] at hd
      refine ⟨by first | rfl | simp [Region.wanted, yielded, hd], ?_⟩
      simp [go_sem]
      exact ⟨Sl.up (xs := (P.dg (X + Y))) Ssum.out hW.out, Below.refl _ _⟩
    · intro vals W hW hw hd
      simp [Region.binds] at hd
      refine ⟨by first | rfl | simp [Region.wanted, yielded, hd], ?_⟩
      simp [go_sem]
      exact (TS.out _ _ (by simp [hd])).mono fun e w' ⟨he, hb⟩ => ⟨_, he, rfl, hb⟩
    · intro vals W hW hw hd
      simp [Region.binds] at hd
      refine ⟨by first | rfl | simp [Region.wanted, yielded, hd], ?_⟩
      simp [go_sem, hd, e1]
      exact Below.refl _ _
    · intro vals W hW hw hd
      simp [Region.binds] at hd
      refine ⟨by first | rfl | simp [Region.wanted, yielded, hd], ?_⟩
      simp [go_sem, hd]
      exact Below.refl _ _
    · intro vals W hW hw hd
      simp [Region.binds] at hd
      refine ⟨by first | rfl | simp [Region.wanted, yielded, hd], ?_⟩
      simp [go_sem]
      exact Below.refl _ _
    · intro vals W hW hw hd
      simp [Region.binds] at hd
      refine ⟨by first | rfl | simp [Region.wanted, yielded, hd], ?_⟩
      simp [go_sem]
      exact Below.refl _ _
    · intro vals W hW hw hd
      simp [Region.binds] at hd
      refine ⟨by first | rfl | simp [Region.wanted, yielded, hd], ?_⟩
      simp [go_sem, hd]
      exact Below.refl _ _
    · intro vals W hW hw hd
      simp [Region.binds] at hd
      refine ⟨by first | rfl | simp [Region.wanted, yielded, hd], ?_⟩
      simp [go_sem, hd]
      exact Below.refl _ _
    · intro vals W hW hw hd
      simp [Region.binds] at hd
      refine ⟨by first | rfl | simp [Region.wanted, yielded, hd], ?_⟩
      simp [go_sem, hd]
      exact Below.refl _ _
    · intro vals W hW hw hd
      simp [Region.binds] at hd
      have u0 := Kn.get (s9.out.up hW.out) 0 0 rfl rfl
      have u1 := Kn.get (s9.out.up hW.out) 0 1 rfl rfl
      have u2 := Kn.get (s9.out.up hW.out) 0 2 rfl rfl
      have u3 := Kn.get (s9.out.up hW.out) 0 3 rfl rfl
      refine ⟨by first | rfl | simp [Region.wanted, yielded, hd], ?_⟩
      simp [go_sem, u0, u1, u2, u3]
      exact Below.refl _ _
    · intro vals W hW hw hd
      simp [Region.binds] at hd
      refine ⟨by first | rfl | simp [Region.wanted, yielded, hd], ?_⟩
      simp [go_sem]
      exact ⟨Sl.up (xs := (P.dg X)) Sx.out hW.out, Below.refl _ _⟩
    · intro vals W hW hw hd
      simp [Region.binds] at hd
      refine ⟨by first | rfl | simp [Region.wanted, yielded, hd], ?_⟩
      simp [go_sem]
      exact (twoTo_fun _).mono fun e w' ⟨⟨v', he, hs⟩, hb⟩ => ⟨v', he, hs, hb⟩
    · intro vals W hW hw hd
      simp [Region.binds] at hd
      refine ⟨by first | rfl | simp [Region.wanted, yielded, hd], ?_⟩
      simp [go_sem]
      exact (PX.out _ _ _ (by simp [hd]) (by simp [hd])).mono fun e w' ⟨⟨v', he, hs⟩, hb⟩ => ⟨v', he, hs, hb⟩
    · intro vals W hW hw hd
      simp [Region.binds] at hd
      refine ⟨by first | rfl | simp [Region.wanted, yielded, hd], ?_⟩
      simp [go_sem]
      exact ⟨Sl.up (xs := (P.dg Y)) Sy.out hW.out, Below.refl _ _⟩
    · intro vals W hW hw hd
      simp [Region.binds] at hd
      refine ⟨by first | rfl | simp [Region.wanted, yielded, hd], ?_⟩
      simp [go_sem]
      exact (MN.out _ _ _ (by simp [hd]) (by simp [hd])).mono fun e w' ⟨⟨v', he, hs⟩, hb⟩ => ⟨v', he, hs, hb⟩
    · intro vals W hW hw hd
      simp [Region.binds] at hd
      refine ⟨by first | rfl | simp [Region.wanted, yielded, hd], ?_⟩
      simp [go_sem]
      exact (TD.out _ _ (by simp [hd])).mono fun e w' ⟨he, hb⟩ => ⟨_, he, rfl, hb⟩
    · intro vals W hW hw hd
      simp [Region.binds] at hd
      refine ⟨by first | rfl | simp [Region.wanted, yielded, hd], ?_⟩
      simp [go_sem, hd, e2]
      exact Below.refl _ _
    · intro vals W hW hw hd
      simp [Region.binds] at hd
      refine ⟨by first | rfl | simp [Region.wanted, yielded, hd], ?_⟩
      simp [go_sem, hd]
      exact Below.refl _ _
    · intro vals W hW hw hd
      simp [Region.binds] at hd
      refine ⟨by first | rfl | simp [Region.wanted, yielded, hd], ?_⟩
      simp [go_sem, hd]
      exact Below.refl _ _
    · intro vals W hW hw hd
      simp [Region.binds] at hd
      refine ⟨by first | rfl | simp [Region.wanted, yielded, hd], ?_⟩
      simp [go_sem]
      exact Below.refl _ _
    · intro vals W hW hw hd
      simp [Region.binds] at hd
      refine ⟨by first | rfl | simp [Region.wanted, yielded, hd], ?_⟩
      simp [go_sem]
      exact Below.refl _ _
    · intro vals W hW hw hd
      simp [Region.binds] at hd
      refine ⟨by first | rfl | simp [Region.wanted, yielded, hd], ?_⟩
      simp [go_sem, hd]
      exact Below.refl _ _
    · intro vals W hW hw hd
      simp [Region.binds] at hd
      refine ⟨by first | rfl | simp [Region.wanted, yielded, hd], ?_⟩
      simp [go_sem, hd]
      exact Below.refl _ _
  obtain ⟨f0, f1, f2, f3, f4, f5, f6, f7, f8, f9, f10, f11, f12, f13, f14, f15, f16, f17, f18, f19, f20, f21, f22, f23, _⟩ := hF
  have s10 : Hid (Kn w10 [(w8.heap.size, (c4 (d))), (w6.heap.size, (c4 (s))), (w.heap.size + 1, (c4 (b))), (w.heap.size, (c4 (a)))]) := s9.out.up hb10.out
  have b10 : Hid (Below w.heap.size w w10) := b9.out.trans (hb10.out.mono b9.out.size)
  have z10 := b10.out.size
  replace Sx : Hid (Sl w10 (vals1 4) (P.dg X)) := Sl.up (xs := (P.dg X)) Sx.out hb10.out
  replace Sy : Hid (Sl w10 (vals1 5) (P.dg Y)) := Sl.up (xs := (P.dg Y)) Sy.out hb10.out
  replace Ssum : Hid (Sl w10 v2 (P.dg (X + Y))) := Sl.up (xs := (P.dg (X + Y))) Ssum.out hb10.out
  replace Stwo : Hid (Sl w10 v3 (P.dg (2 ^ 256))) := Sl.up (xs := (P.dg (2 ^ 256))) Stwo.out hb10.out
  clear hb10 s9 b9
  have e23 := f23
  simp only [MP.eq_p] at e23
  clear f0 f1 f2 f3 f4 f5 f6 f7 f8 f9 f10 f11 f12 f13 f14 f15 f16 f17 f18 f19 f20 f21 f22 f23
  rw [e23]
  have ua_0 : w10.cell? ⟨w.heap.size, 0, none⟩ = some (.int .u64 (a).a) := Kn.get s10.out 3 0 rfl rfl
  have ua_1 : w10.cell? ⟨w.heap.size, 1, none⟩ = some (.int .u64 (a).b) := Kn.get s10.out 3 1 rfl rfl
  have ua_2 : w10.cell? ⟨w.heap.size, 2, none⟩ = some (.int .u64 (a).c) := Kn.get s10.out 3 2 rfl rfl
  have ua_3 : w10.cell? ⟨w.heap.size, 3, none⟩ = some (.int .u64 (a).d) := Kn.get s10.out 3 3 rfl rfl
  have ub_0 : w10.cell? ⟨w.heap.size + 1, 0, none⟩ = some (.int .u64 (b).a) := Kn.get s10.out 2 0 rfl rfl
  have ub_1 : w10.cell? ⟨w.heap.size + 1, 1, none⟩ = some (.int .u64 (b).b) := Kn.get s10.out 2 1 rfl rfl
  have ub_2 : w10.cell? ⟨w.heap.size + 1, 2, none⟩ = some (.int .u64 (b).c) := Kn.get s10.out 2 2 rfl rfl
  have ub_3 : w10.cell? ⟨w.heap.size + 1, 3, none⟩ = some (.int .u64 (b).d) := Kn.get s10.out 2 3 rfl rfl
  go_wp2_with fail
  clear ua_0 ua_1 ua_2 ua_3 ub_0 ub_1 ub_2 ub_3
  refine (MU.out _).mono ?_
  rintro e w11 ⟨rfl, hb11⟩
  replace Sx : Hid (Sl w11 (vals1 4) (P.dg X)) := Sl.up (xs := (P.dg X)) Sx.out hb11
  replace Sy : Hid (Sl w11 (vals1 5) (P.dg Y)) := Sl.up (xs := (P.dg Y)) Sy.out hb11
  replace Ssum : Hid (Sl w11 v2 (P.dg (X + Y))) := Sl.up (xs := (P.dg (X + Y))) Ssum.out hb11
  replace Stwo : Hid (Sl w11 v3 (P.dg (2 ^ 256))) := Sl.up (xs := (P.dg (2 ^ 256))) Stwo.out hb11
  have s11 : Hid (Kn w11 [(w8.heap.size, (c4 (d))), (w6.heap.size, (c4 (s))), (w.heap.size + 1, (c4 (b))), (w.heap.size, (c4 (a)))]) := s10.out.up hb11
  have b11 : Hid (Below w.heap.size w w11) := b10.out.trans (hb11.mono b10.out.size)
  have z11 := b11.out.size
  clear hb11 s10 b10
  go_wp2_with fail
  refine (TI.out _ _ _ Sx.out Sy.out).mono ?_
  rintro e w12 ⟨⟨v5, rfl, h5⟩, hb12⟩
  replace Sx : Hid (Sl w12 (vals1 4) (P.dg X)) := Sl.up (xs := (P.dg X)) Sx.out hb12
  replace Sy : Hid (Sl w12 (vals1 5) (P.dg Y)) := Sl.up (xs := (P.dg Y)) Sy.out hb12
  replace Ssum : Hid (Sl w12 v2 (P.dg (X + Y))) := Sl.up (xs := (P.dg (X + Y))) Ssum.out hb12
  replace Stwo : Hid (Sl w12 v3 (P.dg (2 ^ 256))) := Sl.up (xs := (P.dg (2 ^ 256))) Stwo.out hb12
  have s12 : Hid (Kn w12 [(w8.heap.size, (c4 (d))), (w6.heap.size, (c4 (s))), (w.heap.size + 1, (c4 (b))), (w.heap.size, (c4 (a)))]) := s11.out.up hb12
  have b12 : Hid (Below w.heap.size w w12) := b11.out.trans (hb12.mono b11.out.size)
  have z12 := b12.out.size
  clear hb12 s11 b11
  have Spr : Hid (Sl w12 v5 (P.dg (X * Y))) := h5
  clear h5
  go_wp2_with fail
  refine (TW.out _ _ Spr.out).mono ?_
  rintro e w13 ⟨rfl, hb13⟩
  replace Sx : Hid (Sl w13 (vals1 4) (P.dg X)) := Sl.up (xs := (P.dg X)) Sx.out hb13
  replace Sy : Hid (Sl w13 (vals1 5) (P.dg Y)) := Sl.up (xs := (P.dg Y)) Sy.out hb13
  replace Ssum : Hid (Sl w13 v2 (P.dg (X + Y))) := Sl.up (xs := (P.dg (X + Y))) Ssum.out hb13
  replace Stwo : Hid (Sl w13 v3 (P.dg (2 ^ 256))) := Sl.up (xs := (P.dg (2 ^ 256))) Stwo.out hb13
  replace Spr : Hid (Sl w13 v5 (P.dg (X * Y))) := Sl.up (xs := (P.dg (X * Y))) Spr.out hb13
  have s13 : Hid (Kn w13 [(w8.heap.size, (c4 (d))), (w6.heap.size, (c4 (s))), (w.heap.size + 1, (c4 (b))), (w.heap.size, (c4 (a)))]) := s12.out.up hb13
  have b13 : Hid (Below w.heap.size w w13) := b12.out.trans (hb13.mono b12.out.size)
  have z13 := b13.out.size
  clear hb13 s12 b12
  have ua_0 : w13.cell? ⟨w.heap.size, 0, none⟩ = some (.int .u64 (a).a) := Kn.get s13.out 3 0 rfl rfl
  have ua_1 : w13.cell? ⟨w.heap.size, 1, none⟩ = some (.int .u64 (a).b) := Kn.get s13.out 3 1 rfl rfl
  have ua_2 : w13.cell? ⟨w.heap.size, 2, none⟩ = some (.int .u64 (a).c) := Kn.get s13.out 3 2 rfl rfl
  have ua_3 : w13.cell? ⟨w.heap.size, 3, none⟩ = some (.int .u64 (a).d) := Kn.get s13.out 3 3 rfl rfl
  have ub_0 : w13.cell? ⟨w.heap.size + 1, 0, none⟩ = some (.int .u64 (b).a) := Kn.get s13.out 2 0 rfl rfl
  have ub_1 : w13.cell? ⟨w.heap.size + 1, 1, none⟩ = some (.int .u64 (b).b) := Kn.get s13.out 2 1 rfl rfl
  have ub_2 : w13.cell? ⟨w.heap.size + 1, 2, none⟩ = some (.int .u64 (b).c) := Kn.get s13.out 2 2 rfl rfl
  have ub_3 : w13.cell? ⟨w.heap.size + 1, 3, none⟩ = some (.int .u64 (b).d) := Kn.get s13.out 2 3 rfl rfl
  go_wp2_with fail
  clear ua_0 ua_1 ua_2 ua_3 ub_0 ub_1 ub_2 ub_3
  refine (CM.out _).mono ?_
  rintro e w14 ⟨rfl, hb14⟩
  replace Sx : Hid (Sl w14 (vals1 4) (P.dg X)) := Sl.up (xs := (P.dg X)) Sx.out hb14
  replace Sy : Hid (Sl w14 (vals1 5) (P.dg Y)) := Sl.up (xs := (P.dg Y)) Sy.out hb14
  replace Ssum : Hid (Sl w14 v2 (P.dg (X + Y))) := Sl.up (xs := (P.dg (X + Y))) Ssum.out hb14
  replace Stwo : Hid (Sl w14 v3 (P.dg (2 ^ 256))) := Sl.up (xs := (P.dg (2 ^ 256))) Stwo.out hb14
  replace Spr : Hid (Sl w14 v5 (P.dg (X * Y))) := Sl.up (xs := (P.dg (X * Y))) Spr.out hb14
  have s14 : Hid (Kn w14 [(w8.heap.size, (c4 (d))), (w6.heap.size, (c4 (s))), (w.heap.size + 1, (c4 (b))), (w.heap.size, (c4 (a)))]) := s13.out.up hb14
  have b14 : Hid (Below w.heap.size w w14) := b13.out.trans (hb14.mono b13.out.size)
  have z14 := b14.out.size
  clear hb14 s13 b13
  go_wp2_with fail
  refine (O2.out _ _ _ Sx.out Sy.out).mono ?_
  rintro e w15 ⟨rfl, hb15⟩
  replace Sx : Hid (Sl w15 (vals1 4) (P.dg X)) := Sl.up (xs := (P.dg X)) Sx.out hb15
  replace Sy : Hid (Sl w15 (vals1 5) (P.dg Y)) := Sl.up (xs := (P.dg Y)) Sy.out hb15
  replace Ssum : Hid (Sl w15 v2 (P.dg (X + Y))) := Sl.up (xs := (P.dg (X + Y))) Ssum.out hb15
  replace Stwo : Hid (Sl w15 v3 (P.dg (2 ^ 256))) := Sl.up (xs := (P.dg (2 ^ 256))) Stwo.out hb15
  replace Spr : Hid (Sl w15 v5 (P.dg (X * Y))) := Sl.up (xs := (P.dg (X * Y))) Spr.out hb15
  have s15 : Hid (Kn w15 [(w8.heap.size, (c4 (d))), (w6.heap.size, (c4 (s))), (w.heap.size + 1, (c4 (b))), (w.heap.size, (c4 (a)))]) := s14.out.up hb15
  have b15 : Hid (Below w.heap.size w w15) := b14.out.trans (hb15.mono b14.out.size)
  have z15 := b15.out.size
  clear hb15 s14 b14
  go_wp2_with fail
  replace s15 : Hid (Kn w15 [(w8.heap.size, (c4 (d))), (w.heap.size + 1, (c4 (b))), (w.heap.size, (c4 (a)))]) := s15.out.drop 1
  replace s15 : Hid (Kn w15 [(w.heap.size + 1, (c4 (b))), (w.heap.size, (c4 (a)))]) := s15.out.drop 0
  refine (BT.out _ _ Sx.out).mono ?_
  rintro e w16 ⟨⟨rfl, c1⟩, hb16⟩
  replace Sx : Hid (Sl w16 (vals1 4) (P.dg X)) := Sl.up (xs := (P.dg X)) Sx.out hb16
  replace Sy : Hid (Sl w16 (vals1 5) (P.dg Y)) := Sl.up (xs := (P.dg Y)) Sy.out hb16
  replace Ssum : Hid (Sl w16 v2 (P.dg (X + Y))) := Sl.up (xs := (P.dg (X + Y))) Ssum.out hb16
  replace Stwo : Hid (Sl w16 v3 (P.dg (2 ^ 256))) := Sl.up (xs := (P.dg (2 ^ 256))) Stwo.out hb16
  replace Spr : Hid (Sl w16 v5 (P.dg (X * Y))) := Sl.up (xs := (P.dg (X * Y))) Spr.out hb16
  have s16 : Hid (Kn w16 [(w.heap.size + 1, (c4 (b))), (w.heap.size, (c4 (a)))]) := s15.out.up hb16
  have b16 : Hid (Below w.heap.size w w16) := b15.out.trans (hb16.mono b15.out.size)
  have z16 := b16.out.size
  clear hb16 s15 b15
  have C1 : Hid (∀ j, j < 256 → w16.cell? ⟨w15.heap.size, j, none⟩ = some (.int .i64 ((X / 2 ^ j % 2 : Nat) : Int))) := c1
  clear c1 Sx Sy Ssum Stwo Spr
  generalize w15.heap.size = B at *
  go_wp2_with fail
  go_loopw [19, 20, 99] (fun bt n ix wr => ∃ (k : Nat), k ≤ 256 ∧ ix = .int .i64 k ∧ bt = .int .i64 ((BV k : Nat) : Int) ∧ n = .int .i64 ((LN k : Nat) : Int) ∧ Hid (∀ j, j < 256 → wr.cell? ⟨B, j, none⟩ = some (.int .i64 ((X / 2 ^ j % 2 : Nat) : Int))) ∧ Hid (Kn wr [(w.heap.size + 1, c4 b), (w.heap.size, c4 a)]) ∧ Hid (Below w.heap.size w wr)) (fun _ _ ix _ => 256 - (intOf ix).toNat)
  case atStart => exact ⟨0, by omega, rfl, by rw [B0]; rfl, by rw [L0]; rfl, C1, s16, b16⟩
  case round =>
    clear s16 b16 C1
    obtain ⟨k, hk, rfl, rfl, rfl, C1, s20, b20⟩ := hrel
    by_cases h1 : k < 256
    · have i1 : (k : Int) < 256 := by omega
      have k0 : (0 : Int) ≤ (k : Int) := by omega
      by_cases ht : X / 2 ^ k % 2 = 1
      · have cb1 : wr.cell? ⟨B, k, none⟩ = some (.int .i64 1) := by rw [C1.out k h1, ht]; rfl
        have HL : Hid _ := (L1.out k h1).1 ht
        have HT : Hid _ := ht
        clear ht
        by_cases hq : i = (k : Int)
        · have HB : Hid _ := (B1.out k h1).1 hq
          go_wp2_with fail
          go_roundw
          case rel => exact ⟨k + 1, by omega, by go_num, by rw [HB.out, HT.out]; rfl, by rw [HL.out]; go_num, C1, s20, b20⟩
          case measure => simp [intOf]; omega
        · have HB : Hid _ := (B1.out k h1).2 hq
          have hq' : ¬ (k : Int) = i := fun h => hq h.symm
          go_wp2_with fail
          go_roundw
          case rel => exact ⟨k + 1, by omega, by go_num, by rw [HB.out], by rw [HL.out]; go_num, C1, s20, b20⟩
          case measure => simp [intOf]; omega
      · have z : X / 2 ^ k % 2 = 0 := by have := Nat.mod_lt (X / 2 ^ k) (show 0 < 2 by decide); omega
        have cb1 : wr.cell? ⟨B, k, none⟩ = some (.int .i64 0) := by rw [C1.out k h1, z]; rfl
        have HL : Hid _ := (L1.out k h1).2 ht
        have HT : Hid _ := z
        clear ht z
        by_cases hq : i = (k : Int)
        · have HB : Hid _ := (B1.out k h1).1 hq
          go_wp2_with fail
          go_roundw
          case rel => exact ⟨k + 1, by omega, by go_num, by rw [HB.out, HT.out]; rfl, by rw [HL.out], C1, s20, b20⟩
          case measure => simp [intOf]; omega
        · have HB : Hid _ := (B1.out k h1).2 hq
          have hq' : ¬ (k : Int) = i := fun h => hq h.symm
          go_wp2_with fail
          go_roundw
          case rel => exact ⟨k + 1, by omega, by go_num, by rw [HB.out], by rw [HL.out], C1, s20, b20⟩
          case measure => simp [intOf]; omega
    · have i1 : ¬ (k : Int) < 256 := by omega
      have k256 : k = 256 := by omega
      subst k256
      clear hk h1
      have bv0 : (0 : Int) ≤ ((BV 256 : Nat) : Int) := by omega
      have bv1 : ((BV 256 : Nat) : Int) ≤ 1 := by omega
      generalize BV 256 = tb at *
      generalize LN 256 = tl at *
      have ua_0 : wr.cell? ⟨w.heap.size, 0, none⟩ = some (.int .u64 (a).a) := Kn.get s20.out 1 0 rfl rfl
      have ua_1 : wr.cell? ⟨w.heap.size, 1, none⟩ = some (.int .u64 (a).b) := Kn.get s20.out 1 1 rfl rfl
      have ua_2 : wr.cell? ⟨w.heap.size, 2, none⟩ = some (.int .u64 (a).c) := Kn.get s20.out 1 2 rfl rfl
      have ua_3 : wr.cell? ⟨w.heap.size, 3, none⟩ = some (.int .u64 (a).d) := Kn.get s20.out 1 3 rfl rfl
      go_wp2_with fail
      clear ua_0 ua_1 ua_2 ua_3
      refine (BI.out _).mono ?_
      rintro e w21 ⟨rfl, hb21⟩
      have s21 : Hid (Kn w21 [(w.heap.size + 1, c4 b), (w.heap.size, c4 a)]) := s20.out.up hb21
      have b21 : Hid (Below w.heap.size w w21) := b20.out.trans (hb21.mono b20.out.size)
      have C21 : Hid (∀ j, j < 256 → w21.cell? ⟨B, j, none⟩ = some (.int .i64 ((X / 2 ^ j % 2 : Nat) : Int))) := cells_up (f := fun j => .int .i64 ((X / 2 ^ j % 2 : Nat) : Int)) C1.out hb21
      clear hb21 s20 b20 C1
      have ua_0 : w21.cell? ⟨w.heap.size, 0, none⟩ = some (.int .u64 (a).a) := Kn.get s21.out 1 0 rfl rfl
      have ua_1 : w21.cell? ⟨w.heap.size, 1, none⟩ = some (.int .u64 (a).b) := Kn.get s21.out 1 1 rfl rfl
      have ua_2 : w21.cell? ⟨w.heap.size, 2, none⟩ = some (.int .u64 (a).c) := Kn.get s21.out 1 2 rfl rfl
      have ua_3 : w21.cell? ⟨w.heap.size, 3, none⟩ = some (.int .u64 (a).d) := Kn.get s21.out 1 3 rfl rfl
      go_wp2_with fail
      clear ua_0 ua_1 ua_2 ua_3
      refine (LG.out _).mono ?_
      rintro e w22 ⟨rfl, hb22⟩
      have s22 : Hid (Kn w22 [(w.heap.size + 1, c4 b), (w.heap.size, c4 a)]) := s21.out.up hb22
      have b22 : Hid (Below w.heap.size w w22) := b21.out.trans (hb22.mono b21.out.size)
      have C22 : Hid (∀ j, j < 256 → w22.cell? ⟨B, j, none⟩ = some (.int .i64 ((X / 2 ^ j % 2 : Nat) : Int))) := cells_up (f := fun j => .int .i64 ((X / 2 ^ j % 2 : Nat) : Int)) C21.out hb22
      clear hb22 s21 b21 C21
      go_wp2_with (at_make; refine wp_mk rfl _ _ rfl w22.heap.size 256 _ _ rfl rfl (by decide) (by decide) (by decide) (Nat.le_refl _) ?_)
      intro w23 o23 hb23
      have C2 : Hid _ := C22.out
      have O2' : Hid (Ow w23 w22.heap.size (.slice (some ⟨w22.heap.size, 0, none⟩) 256 256) (List.replicate 256 0)) := o23
      have b23 : Hid (Below w22.heap.size w22 w23) := hb23
      clear o23 hb23 C22
      have e4 := eqN sh sh
      have e5 := eqN pk pk
      rw [Nm.beq_self] at e4 e5
      go_wp2_with fail
      go_loopw [128] (fun ix wr => ∃ (k : Nat) (os : List Nat), k ≤ 256 ∧ ix = .int .i64 k ∧ os.length = 256 ∧ Hid (∀ m, m < 256 → os.getD m 0 = SV k m) ∧ Hid (Ow wr w22.heap.size (.slice (some ⟨w22.heap.size, 0, none⟩) 256 256) os) ∧ Hid (Below w22.heap.size w22 wr)) (fun ix _ => 256 - (intOf ix).toNat)
      case atStart =>
        refine ⟨0, List.replicate 256 0, by omega, rfl, by simp, ?_, O2', b23⟩
        exact (fun m hm => by rw [S0, List.getD_eq_getElem?_getD, List.getElem?_replicate, if_pos hm]; rfl : ∀ m, m < 256 → (List.replicate 256 0).getD m 0 = SV 0 m)
      case round =>
        clear O2' b23
        obtain ⟨k, os, hk, rfl, hlen, HV, ho, hb⟩ := hrel
        by_cases h1 : k < 256
        · have i1 : (k : Int) < 256 := by omega
          have k0 : (0 : Int) ≤ (k : Int) := by omega
          have cb1 := (hb.out.cell (p := ⟨B, k, none⟩) (lt_of_cell (C2.out k h1))).trans (C2.out k h1)
          have SS1 : Hid _ := S1.out k
          have SS2 : Hid _ := S2.out k h1
          generalize X / 2 ^ k % 2 = t at *
          by_cases p1 : i ≥ -255
          · by_cases p2 : i ≤ 255
            · by_cases p3 : (k : Int) + i ≥ 0
              · by_cases p4 : (k : Int) + i < 256
                · obtain ⟨j, KJ⟩ : ∃ j : Nat, (k : Int) + i = (j : Int) := ⟨((k : Int) + i).toNat, by omega⟩
                  have j1 : (j : Int) < 256 := by omega
                  have j0 : (j : Int) ≥ 0 := by omega
                  have HS : Hid _ := SS1.out j h1 (by omega) p1 p2 KJ
                  clear p3 p4
                  obtain ⟨d3, d4⟩ := Ow.cell ho.out hlen.symm j (by omega)
                  go_wp2_with fail
                  go_roundw
                  case rel =>
                    have SS := Ow.set ho.out hlen.symm (Nat.le_refl _) j t _ rfl
                    refine ⟨k + 1, os.set j t, by omega, by go_num, by rw [List.length_set]; exact hlen, ?_, SS.1, hb.out.trans SS.2⟩
                    refine (fun m hm => ?_ : ∀ m, m < 256 → (os.set j t).getD m 0 = SV (k + 1) m)
                    rw [HS.out m hm]
                    by_cases e : m = j
                    · subst e
                      rw [if_pos rfl, List.getD_eq_getElem?_getD, List.getElem?_set_self (by omega)]
                      rfl
                    · rw [if_neg e, List.getD_eq_getElem?_getD, List.getElem?_set_ne (Ne.symm e), ← List.getD_eq_getElem?_getD, HV.out m hm]
                  case measure => simp [intOf]; omega
                · have HS : Hid _ := SS2.out (by omega)
                  go_wp2_with fail
                  go_roundw
                  case rel => exact ⟨k + 1, os, by omega, by go_num, hlen, (fun m hm => by rw [HS.out m hm]; exact HV.out m hm : ∀ m, m < 256 → os.getD m 0 = SV (k + 1) m), ho, hb⟩
                  case measure => simp [intOf]; omega
              · have HS : Hid _ := SS2.out (by omega)
                go_wp2_with fail
                go_roundw
                case rel => exact ⟨k + 1, os, by omega, by go_num, hlen, (fun m hm => by rw [HS.out m hm]; exact HV.out m hm : ∀ m, m < 256 → os.getD m 0 = SV (k + 1) m), ho, hb⟩
                case measure => simp [intOf]; omega
            · have HS : Hid _ := SS2.out (by omega)
              go_wp2_with fail
              go_roundw
              case rel => exact ⟨k + 1, os, by omega, by go_num, hlen, (fun m hm => by rw [HS.out m hm]; exact HV.out m hm : ∀ m, m < 256 → os.getD m 0 = SV (k + 1) m), ho, hb⟩
              case measure => simp [intOf]; omega
          · have HS : Hid _ := SS2.out (by omega)
            go_wp2_with fail
            go_roundw
            case rel => exact ⟨k + 1, os, by omega, by go_num, hlen, (fun m hm => by rw [HS.out m hm]; exact HV.out m hm : ∀ m, m < 256 → os.getD m 0 = SV (k + 1) m), ho, hb⟩
            case measure => simp [intOf]; omega
        · have i1 : ¬ (k : Int) < 256 := by omega
          have k256 : k = 256 := by omega
          subst k256
          clear hk h1 C2
          have s30 : Hid (Kn wr [(w.heap.size + 1, c4 b), (w.heap.size, c4 a)]) := s22.out.up hb.out
          have b30 : Hid (Below w.heap.size w wr) := b22.out.trans (hb.out.mono b22.out.size)
          have C3 : Hid (∀ j, j < 256 → wr.cell? ⟨w22.heap.size, j, none⟩ = some (.int .i64 ((os.getD j 0 : Nat) : Int))) := (fun j hj => (Ow.cell ho.out hlen.symm j (by omega)).1 : ∀ j, j < 256 → wr.cell? ⟨w22.heap.size, j, none⟩ = some (.int .i64 ((os.getD j 0 : Nat) : Int)))
          clear ho hb s22 b22
          generalize w22.heap.size = B3 at *
          by_cases hc : c % 2 = 1
          · have hc' : c.tmod 2 = 1 := by rw [Int.tmod_eq_emod_of_nonneg c0]; exact hc
            have pe := PE.out.symm
            rw [if_pos hc] at pe
            subst pe
            have C4 : Hid _ := cells_up (f := fun j => .int .i64 ((os.getD j 0 : Nat) : Int)) (w1 := kal4 wr b) C3.out ((Below.refl _ _).alloc (Nat.le_refl _) _)
            clear C3
            have ua_0 : wr.cell? ⟨w.heap.size, 0, none⟩ = some (.int .u64 (a).a) := Kn.get s30.out 1 0 rfl rfl
            have ua_1 : wr.cell? ⟨w.heap.size, 1, none⟩ = some (.int .u64 (a).b) := Kn.get s30.out 1 1 rfl rfl
            have ua_2 : wr.cell? ⟨w.heap.size, 2, none⟩ = some (.int .u64 (a).c) := Kn.get s30.out 1 2 rfl rfl
            have ua_3 : wr.cell? ⟨w.heap.size, 3, none⟩ = some (.int .u64 (a).d) := Kn.get s30.out 1 3 rfl rfl
            have ub_0 : wr.cell? ⟨w.heap.size + 1, 0, none⟩ = some (.int .u64 (b).a) := Kn.get s30.out 0 0 rfl rfl
            have ub_1 : wr.cell? ⟨w.heap.size + 1, 1, none⟩ = some (.int .u64 (b).b) := Kn.get s30.out 0 1 rfl rfl
            have ub_2 : wr.cell? ⟨w.heap.size + 1, 2, none⟩ = some (.int .u64 (b).c) := Kn.get s30.out 0 2 rfl rfl
            have ub_3 : wr.cell? ⟨w.heap.size + 1, 3, none⟩ = some (.int .u64 (b).d) := Kn.get s30.out 0 3 rfl rfl
            have s31 : Hid (Kn (kal4 wr (b)) [(wr.heap.size, (c4 (b))), (w.heap.size + 1, (c4 (b))), (w.heap.size, (c4 (a)))]) := s30.out.al (c4 (b)) 24 rfl
            have b31 : Hid (Below w.heap.size w (kal4 wr (b))) := b30.out.alloc b30.out.size _
            have z31 := b30.out.size
            clear s30 b30
            go_wp2_with fail
            clear ua_0 ua_1 ua_2 ua_3 ub_0 ub_1 ub_2 ub_3
            refine wp_region_monoE [MP.eq (N (a)), MP.eq (.int .i64 i), MP.eq (N sh), MP.eq (.slice (some ⟨B3, 0, none⟩) 256 256), MP.sl (P.dg Z), MP.eq (N sh), MP.eq (.bool true), MP.eq (.bool true), MP.eq (.int .u64 c), MP.eq (N (a)), MP.eq (N (b)), MP.eq (N b), MP.eq (N (b)), MP.eq (.bool true), MP.eq (.bool true), MP.eq (.bool true)] (by kernel_rfl) (by kernel_rfl) rfl ?_
            apply Exists.intro
            refine ⟨fun vals => ?_, ?_, fun vals32 w32 hb32 hF => ?_⟩
            · simp only [putsV, dstL, List.length_cons, List.length_nil, Nat.zero_add, Nat.reduceAdd, List.getElem?_cons_zero, List.getElem?_cons_succ, Option.bind_some, Act.put, List.setIfInBounds_toArray, List.set_cons_succ, List.set_cons_zero]
              rfl
            · refine ⟨?_, ?_, ?_, ?_, ?_, ?_, ?_, ?_, ?_, ?_, ?_, ?_, ?_, ?_, ?_, ?_, trivial⟩
              · intro vals W hW hw hd
                simp [Region.binds] at hd
                have u0 := Kn.get (s31.out.up hW.out) 2 0 rfl rfl
                have u1 := Kn.get (s31.out.up hW.out) 2 1 rfl rfl
                have u2 := Kn.get (s31.out.up hW.out) 2 2 rfl rfl
                have u3 := Kn.get (s31.out.up hW.out) 2 3 rfl rfl
                refine ⟨by first | rfl | simp [Region.wanted, yielded, hd], ?_⟩
                simp [go_sem, u0, u1, u2, u3]
                exact Below.refl _ _
              · intro vals W hW hw hd
                simp [Region.binds] at hd
                refine ⟨by first | rfl | simp [Region.wanted, yielded, hd], ?_⟩
                simp [go_sem]
                exact Below.refl _ _
              · intro vals W hW hw hd
                simp [Region.binds] at hd
                refine ⟨by first | rfl | simp [Region.wanted, yielded, hd], ?_⟩
                simp [go_sem, hd]
                exact (SH.out _).mono fun e w' ⟨he, hb⟩ => ⟨_, he, rfl, hb⟩
              · intro vals W hW hw hd
                simp [Region.binds] at hd
                refine ⟨by first | rfl | simp [Region.wanted, yielded, hd], ?_⟩
                simp [go_sem]
                exact Below.refl _ _
              · intro vals W hW hw hd
                simp [Region.binds] at hd
                refine ⟨by first | rfl | simp [Region.wanted, yielded, hd], ?_⟩
                simp [go_sem, hd]
                exact (OF.out _ os _ HV.out (cells_up (f := fun j => .int .i64 ((os.getD j 0 : Nat) : Int)) C4.out hW.out)).mono fun e w' ⟨⟨v', he, hs⟩, hb⟩ => ⟨v', he, hs, hb⟩
              · intro vals W hW hw hd
                simp [Region.binds] at hd
                refine ⟨by first | rfl | simp [Region.wanted, yielded, hd], ?_⟩
                simp [go_sem]
                exact (TZ.out _ _ (by simp [hd])).mono fun e w' ⟨he, hb⟩ => ⟨_, he, rfl, hb⟩
              · intro vals W hW hw hd
                simp [Region.binds] at hd
                refine ⟨by first | rfl | simp [Region.wanted, yielded, hd], ?_⟩
                simp [go_sem, hd, e4]
                exact Below.refl _ _
              · intro vals W hW hw hd
                simp [Region.binds] at hd
                refine ⟨by first | rfl | simp [Region.wanted, yielded, hd], ?_⟩
                simp [go_sem, hd]
                exact Below.refl _ _
              · intro vals W hW hw hd
                simp [Region.binds] at hd
                refine ⟨by first | rfl | simp [Region.wanted, yielded, hd], ?_⟩
                simp [go_sem]
                exact Below.refl _ _
              · intro vals W hW hw hd
                simp [Region.binds] at hd
                have u0 := Kn.get (s31.out.up hW.out) 2 0 rfl rfl
                have u1 := Kn.get (s31.out.up hW.out) 2 1 rfl rfl
                have u2 := Kn.get (s31.out.up hW.out) 2 2 rfl rfl
                have u3 := Kn.get (s31.out.up hW.out) 2 3 rfl rfl
                refine ⟨by first | rfl | simp [Region.wanted, yielded, hd], ?_⟩
                simp [go_sem, u0, u1, u2, u3]
                exact Below.refl _ _
              · intro vals W hW hw hd
                simp [Region.binds] at hd
                have u0 := Kn.get (s31.out.up hW.out) 1 0 rfl rfl
                have u1 := Kn.get (s31.out.up hW.out) 1 1 rfl rfl
                have u2 := Kn.get (s31.out.up hW.out) 1 2 rfl rfl
                have u3 := Kn.get (s31.out.up hW.out) 1 3 rfl rfl
                refine ⟨by first | rfl | simp [Region.wanted, yielded, hd], ?_⟩
                simp [go_sem, u0, u1, u2, u3]
                exact Below.refl _ _
              · intro vals W hW hw hd
                simp [Region.binds] at hd
                refine ⟨by first | rfl | simp [Region.wanted, yielded, hd], ?_⟩
                simp [go_sem, hd]
                exact (PK.out _).mono fun e w' ⟨he, hb⟩ => ⟨_, he, rfl, hb⟩
              · intro vals W hW hw hd
                simp [Region.binds] at hd
                have u0 := Kn.get (s31.out.up hW.out) 0 0 rfl rfl
                have u1 := Kn.get (s31.out.up hW.out) 0 1 rfl rfl
                have u2 := Kn.get (s31.out.up hW.out) 0 2 rfl rfl
                have u3 := Kn.get (s31.out.up hW.out) 0 3 rfl rfl
                refine ⟨by first | rfl | simp [Region.wanted, yielded, hd], ?_⟩
                simp [go_sem, u0, u1, u2, u3]
                exact Below.refl _ _
              · intro vals W hW hw hd
                simp [Region.binds] at hd
                refine ⟨by first | rfl | simp [Region.wanted, yielded, hd], ?_⟩
                simp [go_sem, hd, e5]
                exact Below.refl _ _
              · intro vals W hW hw hd
                simp [Region.binds] at hd
                refine ⟨by first | rfl | simp [Region.wanted, yielded, hd], ?_⟩
                simp [go_sem, hd]
                exact Below.refl _ _
              · intro vals W hW hw hd
                simp [Region.binds] at hd
                refine ⟨by first | rfl | simp [Region.wanted, yielded, hd], ?_⟩
                simp [go_sem, hd]
                exact Below.refl _ _
            obtain ⟨f0, f1, f2, f3, f4, f5, f6, f7, f8, f9, f10, f11, f12, f13, f14, f15, _⟩ := hF
            have s32 : Hid (Kn w32 [(wr.heap.size, (c4 (b))), (w.heap.size + 1, (c4 (b))), (w.heap.size, (c4 (a)))]) := s31.out.up hb32.out
            have b32 : Hid (Below w.heap.size w w32) := b31.out.trans (hb32.out.mono b31.out.size)
            have z32 := b32.out.size
            clear hb32 s31 b31
            have e15 := f15
            simp only [MP.eq_p] at e15
            clear f0 f1 f2 f3 f4 f5 f6 f7 f8 f9 f10 f11 f12 f13 f14 f15
            rw [e15]
            go_wp2_with fail
            go_ret
            exact ⟨rfl, b32.out⟩
          · have hc' : ¬ c.tmod 2 = 1 := by rw [Int.tmod_eq_emod_of_nonneg c0]; exact hc
            have pe := PE.out.symm
            rw [if_neg hc] at pe
            subst pe
            have C4 : Hid _ := cells_up (f := fun j => .int .i64 ((os.getD j 0 : Nat) : Int)) (w1 := kal4 wr a) C3.out ((Below.refl _ _).alloc (Nat.le_refl _) _)
            clear C3
            have ua_0 : wr.cell? ⟨w.heap.size, 0, none⟩ = some (.int .u64 (a).a) := Kn.get s30.out 1 0 rfl rfl
            have ua_1 : wr.cell? ⟨w.heap.size, 1, none⟩ = some (.int .u64 (a).b) := Kn.get s30.out 1 1 rfl rfl
            have ua_2 : wr.cell? ⟨w.heap.size, 2, none⟩ = some (.int .u64 (a).c) := Kn.get s30.out 1 2 rfl rfl
            have ua_3 : wr.cell? ⟨w.heap.size, 3, none⟩ = some (.int .u64 (a).d) := Kn.get s30.out 1 3 rfl rfl
            have ub_0 : wr.cell? ⟨w.heap.size + 1, 0, none⟩ = some (.int .u64 (b).a) := Kn.get s30.out 0 0 rfl rfl
            have ub_1 : wr.cell? ⟨w.heap.size + 1, 1, none⟩ = some (.int .u64 (b).b) := Kn.get s30.out 0 1 rfl rfl
            have ub_2 : wr.cell? ⟨w.heap.size + 1, 2, none⟩ = some (.int .u64 (b).c) := Kn.get s30.out 0 2 rfl rfl
            have ub_3 : wr.cell? ⟨w.heap.size + 1, 3, none⟩ = some (.int .u64 (b).d) := Kn.get s30.out 0 3 rfl rfl
            have s31 : Hid (Kn (kal4 wr (a)) [(wr.heap.size, (c4 (a))), (w.heap.size + 1, (c4 (b))), (w.heap.size, (c4 (a)))]) := s30.out.al (c4 (a)) 24 rfl
            have b31 : Hid (Below w.heap.size w (kal4 wr (a))) := b30.out.alloc b30.out.size _
            have z31 := b30.out.size
            clear s30 b30
            go_wp2_with fail
            clear ua_0 ua_1 ua_2 ua_3 ub_0 ub_1 ub_2 ub_3
            refine wp_region_monoE [MP.eq (N (a)), MP.eq (.int .i64 i), MP.eq (N sh), MP.eq (.slice (some ⟨B3, 0, none⟩) 256 256), MP.sl (P.dg Z), MP.eq (N sh), MP.eq (.bool true), MP.eq (.bool true), MP.eq (.int .u64 c), MP.eq (N (a)), MP.eq (N (b)), MP.eq (N a), MP.eq (N (a)), MP.eq (.bool true), MP.eq (.bool true), MP.eq (.bool true)] (by kernel_rfl) (by kernel_rfl) rfl ?_
            apply Exists.intro
            refine ⟨fun vals => ?_, ?_, fun vals32 w32 hb32 hF => ?_⟩
            · simp only [putsV, dstL, List.length_cons, List.length_nil, Nat.zero_add, Nat.reduceAdd, List.getElem?_cons_zero, List.getElem?_cons_succ, Option.bind_some, Act.put, List.setIfInBounds_toArray, List.set_cons_succ, List.set_cons_zero]
              rfl
            · refine ⟨?_, ?_, ?_, ?_, ?_, ?_, ?_, ?_, ?_, ?_, ?_, ?_, ?_, ?_, ?_, ?_, trivial⟩
              · intro vals W hW hw hd
                simp [Region.binds] at hd
                have u0 := Kn.get (s31.out.up hW.out) 2 0 rfl rfl
                have u1 := Kn.get (s31.out.up hW.out) 2 1 rfl rfl
                have u2 := Kn.get (s31.out.up hW.out) 2 2 rfl rfl
                have u3 := Kn.get (s31.out.up hW.out) 2 3 rfl rfl
                refine ⟨by first | rfl | simp [Region.wanted, yielded, hd], ?_⟩
                simp [go_sem, u0, u1, u2, u3]
                exact Below.refl _ _
              · intro vals W hW hw hd
                simp [Region.binds] at hd
                refine ⟨by first | rfl | simp [Region.wanted, yielded, hd], ?_⟩
                simp [go_sem]
                exact Below.refl _ _
              · intro vals W hW hw hd
                simp [Region.binds] at hd
                refine ⟨by first | rfl | simp [Region.wanted, yielded, hd], ?_⟩
                simp [go_sem, hd]
                exact (SH.out _).mono fun e w' ⟨he, hb⟩ => ⟨_, he, rfl, hb⟩
              · intro vals W hW hw hd
                simp [Region.binds] at hd
                refine ⟨by first | rfl | simp [Region.wanted, yielded, hd], ?_⟩
                simp [go_sem]
                exact Below.refl _ _
              · intro vals W hW hw hd
                simp [Region.binds] at hd
                refine ⟨by first | rfl | simp [Region.wanted, yielded, hd], ?_⟩
                simp [go_sem, hd]
                exact (OF.out _ os _ HV.out (cells_up (f := fun j => .int .i64 ((os.getD j 0 : Nat) : Int)) C4.out hW.out)).mono fun e w' ⟨⟨v', he, hs⟩, hb⟩ => ⟨v', he, hs, hb⟩
              · intro vals W hW hw hd
                simp [Region.binds] at hd
                refine ⟨by first | rfl | simp [Region.wanted, yielded, hd], ?_⟩
                simp [go_sem]
                exact (TZ.out _ _ (by simp [hd])).mono fun e w' ⟨he, hb⟩ => ⟨_, he, rfl, hb⟩
              · intro vals W hW hw hd
                simp [Region.binds] at hd
                refine ⟨by first | rfl | simp [Region.wanted, yielded, hd], ?_⟩
                simp [go_sem, hd, e4]
                exact Below.refl _ _
              · intro vals W hW hw hd
                simp [Region.binds] at hd
                refine ⟨by first | rfl | simp [Region.wanted, yielded, hd], ?_⟩
                simp [go_sem, hd]
                exact Below.refl _ _
              · intro vals W hW hw hd
                simp [Region.binds] at hd
                refine ⟨by first | rfl | simp [Region.wanted, yielded, hd], ?_⟩
                simp [go_sem]
                exact Below.refl _ _
              · intro vals W hW hw hd
                simp [Region.binds] at hd
                have u0 := Kn.get (s31.out.up hW.out) 2 0 rfl rfl
                have u1 := Kn.get (s31.out.up hW.out) 2 1 rfl rfl
                have u2 := Kn.get (s31.out.up hW.out) 2 2 rfl rfl
                have u3 := Kn.get (s31.out.up hW.out) 2 3 rfl rfl
                refine ⟨by first | rfl | simp [Region.wanted, yielded, hd], ?_⟩
                simp [go_sem, u0, u1, u2, u3]
                exact Below.refl _ _
              · intro vals W hW hw hd
                simp [Region.binds] at hd
                have u0 := Kn.get (s31.out.up hW.out) 1 0 rfl rfl
                have u1 := Kn.get (s31.out.up hW.out) 1 1 rfl rfl
                have u2 := Kn.get (s31.out.up hW.out) 1 2 rfl rfl
                have u3 := Kn.get (s31.out.up hW.out) 1 3 rfl rfl
                refine ⟨by first | rfl | simp [Region.wanted, yielded, hd], ?_⟩
                simp [go_sem, u0, u1, u2, u3]
                exact Below.refl _ _
              · intro vals W hW hw hd
                simp [Region.binds] at hd
                refine ⟨by first | rfl | simp [Region.wanted, yielded, hd], ?_⟩
                simp [go_sem, hd]
                exact (PK.out _).mono fun e w' ⟨he, hb⟩ => ⟨_, he, rfl, hb⟩
              · intro vals W hW hw hd
                simp [Region.binds] at hd
                have u0 := Kn.get (s31.out.up hW.out) 0 0 rfl rfl
                have u1 := Kn.get (s31.out.up hW.out) 0 1 rfl rfl
                have u2 := Kn.get (s31.out.up hW.out) 0 2 rfl rfl
                have u3 := Kn.get (s31.out.up hW.out) 0 3 rfl rfl
                refine ⟨by first | rfl | simp [Region.wanted, yielded, hd], ?_⟩
                simp [go_sem, u0, u1, u2, u3]
                exact Below.refl _ _
              · intro vals W hW hw hd
                simp [Region.binds] at hd
                refine ⟨by first | rfl | simp [Region.wanted, yielded, hd], ?_⟩
                simp [go_sem, hd, e5]
                exact Below.refl _ _
              · intro vals W hW hw hd
                simp [Region.binds] at hd
                refine ⟨by first | rfl | simp [Region.wanted, yielded, hd], ?_⟩
                simp [go_sem, hd]
                exact Below.refl _ _
              · intro vals W hW hw hd
                simp [Region.binds] at hd
                refine ⟨by first | rfl | simp [Region.wanted, yielded, hd], ?_⟩
                simp [go_sem, hd]
                exact Below.refl _ _
            obtain ⟨f0, f1, f2, f3, f4, f5, f6, f7, f8, f9, f10, f11, f12, f13, f14, f15, _⟩ := hF
            have s32 : Hid (Kn w32 [(wr.heap.size, (c4 (a))), (w.heap.size + 1, (c4 (b))), (w.heap.size, (c4 (a)))]) := s31.out.up hb32.out
            have b32 : Hid (Below w.heap.size w w32) := b31.out.trans (hb32.out.mono b31.out.size)
            have z32 := b32.out.size
            clear hb32 s31 b31
            have e15 := f15
            simp only [MP.eq_p] at e15
            clear f0 f1 f2 f3 f4 f5 f6 f7 f8 f9 f10 f11 f12 f13 f14 f15
            rw [e15]
            go_wp2_with fail
            go_ret
            exact ⟨rfl, b32.out⟩
end Go.Proofs.Ytkgfeacednomfaa
