/- CurveClosed, out of what package curve must keep. -/
import Derived.Test.YtbninaelmbkboaaCrvGroup
namespace Go.Proofs.Ytbninaelmbkboaa
open Go.RowKit
attribute [local go_sem] World.cell?_alloc_some cell_alloc2 cell_alloc3 cell_alloc4 frozen?_alloc_cells frozen_out
set_option linter.unusedSimpArgs false
set_option maxHeartbeats 1000000 in
theorem pointed_walk (bx by_ zx zy tx ty : Nm) (e1 : ∀ w, (binOp .neq 26 (Wv tx ty) (Wv zx zy)).run Try.prog w = .ok (.bool true) w)
    (B1 : ∀ w, Calls Try.prog 14 #[] w fun e w' => e = .returned (Wv bx by_) ∧ Below w.heap.size w w')
    (O1 : ∀ w, Calls Try.prog 12 #[Wv bx by_] w fun e w' => e = .returned (.bool true) ∧ Below w.heap.size w w')
    (Z0 : ∀ w, Calls Try.prog 13 #[] w fun e w' => e = .returned (Wv zx zy) ∧ Below w.heap.size w w')
    (O2 : ∀ w, Calls Try.prog 12 #[Wv zx zy] w fun e w' => e = .returned (.bool true) ∧ Below w.heap.size w w')
    (T1 : ∀ w, Calls Try.prog 33 #[N ⟨8, 0, 0, 0⟩, Wv bx by_] w fun e w' => e = .returned (Wv tx ty) ∧ Below w.heap.size w w')
    (w : World) :
    Calls Try.prog 29 #[] w fun e w' => e = .returned (.bool true) ∧ Below w.heap.size w w' := by
  go_enter Try.func29, Try.ntmps29
  have s0 : Hid (Kn w []) := (Kn.nil w)
  have b0 : Hid (Below w.heap.size w w) := (Below.refl _ _)
  go_wp2_with fail
  refine (B1 _).mono ?_
  rintro e w1 ⟨rfl, hb1⟩
  have s1 : Hid (Kn w1 []) := s0.out.up hb1
  have b1 : Hid (Below w.heap.size w w1) := b0.out.trans (hb1.mono b0.out.size)
  have z1 := b1.out.size
  clear hb1 s0 b0
  have s2 : Hid (Kn (kalP w1 (bx) (by_)) [(w1.heap.size, (c8 (bx) (by_)))]) := s1.out.al (c8 (bx) (by_)) 26 rfl
  have b2 : Hid (Below w.heap.size w (kalP w1 (bx) (by_))) := b1.out.alloc b1.out.size _
  have z2 := b1.out.size
  clear s1 b1
  have ub_0 : (kalP w1 (bx) (by_)).cell? ⟨w1.heap.size, 0, none⟩ = some (.int .u64 (bx).a) := Kn.get s2.out 0 0 rfl rfl
  have ub_1 : (kalP w1 (bx) (by_)).cell? ⟨w1.heap.size, 1, none⟩ = some (.int .u64 (bx).b) := Kn.get s2.out 0 1 rfl rfl
  have ub_2 : (kalP w1 (bx) (by_)).cell? ⟨w1.heap.size, 2, none⟩ = some (.int .u64 (bx).c) := Kn.get s2.out 0 2 rfl rfl
  have ub_3 : (kalP w1 (bx) (by_)).cell? ⟨w1.heap.size, 3, none⟩ = some (.int .u64 (bx).d) := Kn.get s2.out 0 3 rfl rfl
  have ub_4 : (kalP w1 (bx) (by_)).cell? ⟨w1.heap.size, 4, none⟩ = some (.int .u64 (by_).a) := Kn.get s2.out 0 4 rfl rfl
  have ub_5 : (kalP w1 (bx) (by_)).cell? ⟨w1.heap.size, 5, none⟩ = some (.int .u64 (by_).b) := Kn.get s2.out 0 5 rfl rfl
  have ub_6 : (kalP w1 (bx) (by_)).cell? ⟨w1.heap.size, 6, none⟩ = some (.int .u64 (by_).c) := Kn.get s2.out 0 6 rfl rfl
  have ub_7 : (kalP w1 (bx) (by_)).cell? ⟨w1.heap.size, 7, none⟩ = some (.int .u64 (by_).d) := Kn.get s2.out 0 7 rfl rfl
  go_wp2_with fail
  clear ub_0 ub_1 ub_2 ub_3 ub_4 ub_5 ub_6 ub_7
  refine (O1 _).mono ?_
  rintro e w3 ⟨rfl, hb3⟩
  have s3 : Hid (Kn w3 [(w1.heap.size, (c8 (bx) (by_)))]) := s2.out.up hb3
  have b3 : Hid (Below w.heap.size w w3) := b2.out.trans (hb3.mono b2.out.size)
  have z3 := b3.out.size
  clear hb3 s2 b2
  go_wp2_with fail
  refine (Z0 _).mono ?_
  rintro e w4 ⟨rfl, hb4⟩
  have s4 : Hid (Kn w4 [(w1.heap.size, (c8 (bx) (by_)))]) := s3.out.up hb4
  have b4 : Hid (Below w.heap.size w w4) := b3.out.trans (hb4.mono b3.out.size)
  have z4 := b4.out.size
  clear hb4 s3 b3
  go_wp2_with fail
  refine (O2 _).mono ?_
  rintro e w5 ⟨rfl, hb5⟩
  have s5 : Hid (Kn w5 [(w1.heap.size, (c8 (bx) (by_)))]) := s4.out.up hb5
  have b5 : Hid (Below w.heap.size w w5) := b4.out.trans (hb5.mono b4.out.size)
  have z5 := b5.out.size
  clear hb5 s4 b4
  have ub_0 : w5.cell? ⟨w1.heap.size, 0, none⟩ = some (.int .u64 (bx).a) := Kn.get s5.out 0 0 rfl rfl
  have ub_1 : w5.cell? ⟨w1.heap.size, 1, none⟩ = some (.int .u64 (bx).b) := Kn.get s5.out 0 1 rfl rfl
  have ub_2 : w5.cell? ⟨w1.heap.size, 2, none⟩ = some (.int .u64 (bx).c) := Kn.get s5.out 0 2 rfl rfl
  have ub_3 : w5.cell? ⟨w1.heap.size, 3, none⟩ = some (.int .u64 (bx).d) := Kn.get s5.out 0 3 rfl rfl
  have ub_4 : w5.cell? ⟨w1.heap.size, 4, none⟩ = some (.int .u64 (by_).a) := Kn.get s5.out 0 4 rfl rfl
  have ub_5 : w5.cell? ⟨w1.heap.size, 5, none⟩ = some (.int .u64 (by_).b) := Kn.get s5.out 0 5 rfl rfl
  have ub_6 : w5.cell? ⟨w1.heap.size, 6, none⟩ = some (.int .u64 (by_).c) := Kn.get s5.out 0 6 rfl rfl
  have ub_7 : w5.cell? ⟨w1.heap.size, 7, none⟩ = some (.int .u64 (by_).d) := Kn.get s5.out 0 7 rfl rfl
  go_wp2_with fail
  clear ub_0 ub_1 ub_2 ub_3 ub_4 ub_5 ub_6 ub_7
  refine (T1 _).mono ?_
  rintro e w6 ⟨rfl, hb6⟩
  have s6 : Hid (Kn w6 [(w1.heap.size, (c8 (bx) (by_)))]) := s5.out.up hb6
  have b6 : Hid (Below w.heap.size w w6) := b5.out.trans (hb6.mono b5.out.size)
  have z6 := b6.out.size
  clear hb6 s5 b5
  go_wp2_with fail
  refine (Z0 _).mono ?_
  rintro e w7 ⟨rfl, hb7⟩
  have s7 : Hid (Kn w7 [(w1.heap.size, (c8 (bx) (by_)))]) := s6.out.up hb7
  have b7 : Hid (Below w.heap.size w w7) := b6.out.trans (hb7.mono b6.out.size)
  have z7 := b7.out.size
  clear hb7 s6 b6
  go_wp2_with fail
  go_ret
  exact ⟨rfl, b7.out⟩
theorem feight_ok : (⟨8, 0, 0, 0⟩ : Nm).ok := by constructor <;> (constructor <;> decide)
theorem pv_ne {P Q : Cv.Pt} (hP : Cv.On P) (hQ : Cv.On Q) (h : P ≠ Q) (w : World) : (binOp .neq 26 (pv P) (pv Q)).run Try.prog w = .ok (.bool true) w := by
  rw [neP]
  have : (Nm.beq (nm P.1) (nm Q.1) && Nm.beq (nm P.2) (nm Q.2)) = false := by
    refine Bool.eq_false_iff.2 fun e => h ?_
    rw [Bool.and_eq_true] at e
    have l : ∀ {n : Nat}, n < F.p → n < 2 ^ 256 := fun h => Nat.lt_trans h F.p_lt
    have e1 := congrArg Nm.nat (Nm.beq_iff.1 e.1)
    have e2 := congrArg Nm.nat (Nm.beq_iff.1 e.2)
    rw [nm_nat (l hP.1), nm_nat (l hQ.1)] at e1
    rw [nm_nat (l hP.2.1), nm_nat (l hQ.2.1)] at e2
    exact Prod.ext e1 e2
  rw [this]
  rfl
theorem pointed_fun (CO : COnC) (CZ : CZeroC) (CB : CBaseC) (CT : CTimesC) (w : World) : Calls Try.prog 29 #[] w fun e w' => e = .returned (.bool true) ∧ Below w.heap.size w w' := by
  refine pointed_walk _ _ _ _ _ _ (pv_ne (Cv.times_on Cv.base_on 8) Cv.zero_on fun e => ?_) CB (CO.1 _ Cv.base_on) CZ (CO.1 _ Cv.zero_on) (times_fun CT ⟨8, 0, 0, 0⟩ feight_ok _ Cv.base_on) w
  exact absurd ((Cv.base_iff 8).1 e) (by decide)
set_option maxHeartbeats 1000000 in
theorem curveClosed_1 (px py qx qy n : Nm)
    (CV : ∀ w, Calls Try.prog 29 #[] w fun e w' => e = .returned (.bool true) ∧ Below w.heap.size w w')
    (O1 : ∀ w, Calls Try.prog 12 #[Wv px py] w fun e w' => e = .returned (.bool false) ∧ Below w.heap.size w w')
    (w : World) :
    Calls Try.prog 6 #[Wv px py, Wv qx qy, N n] w fun e w' => e = .returned (.bool true) ∧ Below w.heap.size w w' := by
  go_enter Try.func6, Try.ntmps6
  have s0 : Hid (Kn (kal4 (kalP (kalP w (px) (py)) (qx) (qy)) (n)) [(w.heap.size + 1 + 1, (c4 (n))), (w.heap.size + 1, (c8 (qx) (qy))), (w.heap.size, (c8 (px) (py)))]) := ((((Kn.nil w).al (c8 (px) (py)) 26 rfl).al (c8 (qx) (qy)) 26 (by simp)).al (c4 (n)) 24 (by simp))
  have b0 : Hid (Below w.heap.size w (kal4 (kalP (kalP w (px) (py)) (qx) (qy)) (n))) := ((((Below.refl _ _).alloc (Nat.le_refl _) _).alloc (by simp <;> omega) _).alloc (by simp <;> omega) _)
  go_wp2_with fail
  refine (CV _).mono ?_
  rintro e w1 ⟨rfl, hb1⟩
  have s1 : Hid (Kn w1 [(w.heap.size + 1 + 1, (c4 (n))), (w.heap.size + 1, (c8 (qx) (qy))), (w.heap.size, (c8 (px) (py)))]) := s0.out.up hb1
  have b1 : Hid (Below w.heap.size w w1) := b0.out.trans (hb1.mono b0.out.size)
  have z1 := b1.out.size
  clear hb1 s0 b0
  have up_0 : w1.cell? ⟨w.heap.size, 0, none⟩ = some (.int .u64 (px).a) := Kn.get s1.out 2 0 rfl rfl
  have up_1 : w1.cell? ⟨w.heap.size, 1, none⟩ = some (.int .u64 (px).b) := Kn.get s1.out 2 1 rfl rfl
  have up_2 : w1.cell? ⟨w.heap.size, 2, none⟩ = some (.int .u64 (px).c) := Kn.get s1.out 2 2 rfl rfl
  have up_3 : w1.cell? ⟨w.heap.size, 3, none⟩ = some (.int .u64 (px).d) := Kn.get s1.out 2 3 rfl rfl
  have up_4 : w1.cell? ⟨w.heap.size, 4, none⟩ = some (.int .u64 (py).a) := Kn.get s1.out 2 4 rfl rfl
  have up_5 : w1.cell? ⟨w.heap.size, 5, none⟩ = some (.int .u64 (py).b) := Kn.get s1.out 2 5 rfl rfl
  have up_6 : w1.cell? ⟨w.heap.size, 6, none⟩ = some (.int .u64 (py).c) := Kn.get s1.out 2 6 rfl rfl
  have up_7 : w1.cell? ⟨w.heap.size, 7, none⟩ = some (.int .u64 (py).d) := Kn.get s1.out 2 7 rfl rfl
  go_wp2_with fail
  clear up_0 up_1 up_2 up_3 up_4 up_5 up_6 up_7
  refine (O1 _).mono ?_
  rintro e w2 ⟨rfl, hb2⟩
  have s2 : Hid (Kn w2 [(w.heap.size + 1 + 1, (c4 (n))), (w.heap.size + 1, (c8 (qx) (qy))), (w.heap.size, (c8 (px) (py)))]) := s1.out.up hb2
  have b2 : Hid (Below w.heap.size w w2) := b1.out.trans (hb2.mono b1.out.size)
  have z2 := b2.out.size
  clear hb2 s1 b1
  go_wp2_with fail
  go_ret
  exact ⟨rfl, b2.out⟩
set_option maxHeartbeats 1000000 in
theorem curveClosed_2 (px py qx qy n : Nm)
    (CV : ∀ w, Calls Try.prog 29 #[] w fun e w' => e = .returned (.bool true) ∧ Below w.heap.size w w')
    (O1 : ∀ w, Calls Try.prog 12 #[Wv px py] w fun e w' => e = .returned (.bool true) ∧ Below w.heap.size w w')
    (O2 : ∀ w, Calls Try.prog 12 #[Wv qx qy] w fun e w' => e = .returned (.bool false) ∧ Below w.heap.size w w')
    (w : World) :
    Calls Try.prog 6 #[Wv px py, Wv qx qy, N n] w fun e w' => e = .returned (.bool true) ∧ Below w.heap.size w w' := by
  go_enter Try.func6, Try.ntmps6
  have s0 : Hid (Kn (kal4 (kalP (kalP w (px) (py)) (qx) (qy)) (n)) [(w.heap.size + 1 + 1, (c4 (n))), (w.heap.size + 1, (c8 (qx) (qy))), (w.heap.size, (c8 (px) (py)))]) := ((((Kn.nil w).al (c8 (px) (py)) 26 rfl).al (c8 (qx) (qy)) 26 (by simp)).al (c4 (n)) 24 (by simp))
  have b0 : Hid (Below w.heap.size w (kal4 (kalP (kalP w (px) (py)) (qx) (qy)) (n))) := ((((Below.refl _ _).alloc (Nat.le_refl _) _).alloc (by simp <;> omega) _).alloc (by simp <;> omega) _)
  go_wp2_with fail
  refine (CV _).mono ?_
  rintro e w1 ⟨rfl, hb1⟩
  have s1 : Hid (Kn w1 [(w.heap.size + 1 + 1, (c4 (n))), (w.heap.size + 1, (c8 (qx) (qy))), (w.heap.size, (c8 (px) (py)))]) := s0.out.up hb1
  have b1 : Hid (Below w.heap.size w w1) := b0.out.trans (hb1.mono b0.out.size)
  have z1 := b1.out.size
  clear hb1 s0 b0
  have up_0 : w1.cell? ⟨w.heap.size, 0, none⟩ = some (.int .u64 (px).a) := Kn.get s1.out 2 0 rfl rfl
  have up_1 : w1.cell? ⟨w.heap.size, 1, none⟩ = some (.int .u64 (px).b) := Kn.get s1.out 2 1 rfl rfl
  have up_2 : w1.cell? ⟨w.heap.size, 2, none⟩ = some (.int .u64 (px).c) := Kn.get s1.out 2 2 rfl rfl
  have up_3 : w1.cell? ⟨w.heap.size, 3, none⟩ = some (.int .u64 (px).d) := Kn.get s1.out 2 3 rfl rfl
  have up_4 : w1.cell? ⟨w.heap.size, 4, none⟩ = some (.int .u64 (py).a) := Kn.get s1.out 2 4 rfl rfl
  have up_5 : w1.cell? ⟨w.heap.size, 5, none⟩ = some (.int .u64 (py).b) := Kn.get s1.out 2 5 rfl rfl
  have up_6 : w1.cell? ⟨w.heap.size, 6, none⟩ = some (.int .u64 (py).c) := Kn.get s1.out 2 6 rfl rfl
  have up_7 : w1.cell? ⟨w.heap.size, 7, none⟩ = some (.int .u64 (py).d) := Kn.get s1.out 2 7 rfl rfl
  go_wp2_with fail
  clear up_0 up_1 up_2 up_3 up_4 up_5 up_6 up_7
  refine (O1 _).mono ?_
  rintro e w2 ⟨rfl, hb2⟩
  have s2 : Hid (Kn w2 [(w.heap.size + 1 + 1, (c4 (n))), (w.heap.size + 1, (c8 (qx) (qy))), (w.heap.size, (c8 (px) (py)))]) := s1.out.up hb2
  have b2 : Hid (Below w.heap.size w w2) := b1.out.trans (hb2.mono b1.out.size)
  have z2 := b2.out.size
  clear hb2 s1 b1
  have uq_0 : w2.cell? ⟨w.heap.size + 1, 0, none⟩ = some (.int .u64 (qx).a) := Kn.get s2.out 1 0 rfl rfl
  have uq_1 : w2.cell? ⟨w.heap.size + 1, 1, none⟩ = some (.int .u64 (qx).b) := Kn.get s2.out 1 1 rfl rfl
  have uq_2 : w2.cell? ⟨w.heap.size + 1, 2, none⟩ = some (.int .u64 (qx).c) := Kn.get s2.out 1 2 rfl rfl
  have uq_3 : w2.cell? ⟨w.heap.size + 1, 3, none⟩ = some (.int .u64 (qx).d) := Kn.get s2.out 1 3 rfl rfl
  have uq_4 : w2.cell? ⟨w.heap.size + 1, 4, none⟩ = some (.int .u64 (qy).a) := Kn.get s2.out 1 4 rfl rfl
  have uq_5 : w2.cell? ⟨w.heap.size + 1, 5, none⟩ = some (.int .u64 (qy).b) := Kn.get s2.out 1 5 rfl rfl
  have uq_6 : w2.cell? ⟨w.heap.size + 1, 6, none⟩ = some (.int .u64 (qy).c) := Kn.get s2.out 1 6 rfl rfl
  have uq_7 : w2.cell? ⟨w.heap.size + 1, 7, none⟩ = some (.int .u64 (qy).d) := Kn.get s2.out 1 7 rfl rfl
  go_wp2_with fail
  clear uq_0 uq_1 uq_2 uq_3 uq_4 uq_5 uq_6 uq_7
  refine (O2 _).mono ?_
  rintro e w3 ⟨rfl, hb3⟩
  have s3 : Hid (Kn w3 [(w.heap.size + 1 + 1, (c4 (n))), (w.heap.size + 1, (c8 (qx) (qy))), (w.heap.size, (c8 (px) (py)))]) := s2.out.up hb3
  have b3 : Hid (Below w.heap.size w w3) := b2.out.trans (hb3.mono b2.out.size)
  have z3 := b3.out.size
  clear hb3 s2 b2
  go_wp2_with fail
  go_ret
  exact ⟨rfl, b3.out⟩
set_option maxHeartbeats 1000000 in
theorem curveClosed_3 (px py qx qy n sx sy tx ty : Nm)
    (CV : ∀ w, Calls Try.prog 29 #[] w fun e w' => e = .returned (.bool true) ∧ Below w.heap.size w w')
    (O1 : ∀ w, Calls Try.prog 12 #[Wv px py] w fun e w' => e = .returned (.bool true) ∧ Below w.heap.size w w')
    (O2 : ∀ w, Calls Try.prog 12 #[Wv qx qy] w fun e w' => e = .returned (.bool true) ∧ Below w.heap.size w w')
    (A1 : ∀ w, Calls Try.prog 10 #[Wv px py, Wv qx qy] w fun e w' => e = .returned (.tuple #[Wv sx sy, .int .i64 0]) ∧ Below w.heap.size w w')
    (T1 : ∀ w, Calls Try.prog 22 #[N n, Wv px py] w fun e w' => e = .returned (.tuple #[Wv tx ty, .int .i64 0]) ∧ Below w.heap.size w w')
    (O3 : ∀ w, Calls Try.prog 12 #[Wv sx sy] w fun e w' => e = .returned (.bool true) ∧ Below w.heap.size w w')
    (O4 : ∀ w, Calls Try.prog 12 #[Wv tx ty] w fun e w' => e = .returned (.bool true) ∧ Below w.heap.size w w')
    (w : World) :
    Calls Try.prog 6 #[Wv px py, Wv qx qy, N n] w fun e w' => e = .returned (.bool true) ∧ Below w.heap.size w w' := by
  go_enter Try.func6, Try.ntmps6
  have s0 : Hid (Kn (kal4 (kalP (kalP w (px) (py)) (qx) (qy)) (n)) [(w.heap.size + 1 + 1, (c4 (n))), (w.heap.size + 1, (c8 (qx) (qy))), (w.heap.size, (c8 (px) (py)))]) := ((((Kn.nil w).al (c8 (px) (py)) 26 rfl).al (c8 (qx) (qy)) 26 (by simp)).al (c4 (n)) 24 (by simp))
  have b0 : Hid (Below w.heap.size w (kal4 (kalP (kalP w (px) (py)) (qx) (qy)) (n))) := ((((Below.refl _ _).alloc (Nat.le_refl _) _).alloc (by simp <;> omega) _).alloc (by simp <;> omega) _)
  go_wp2_with fail
  refine (CV _).mono ?_
  rintro e w1 ⟨rfl, hb1⟩
  have s1 : Hid (Kn w1 [(w.heap.size + 1 + 1, (c4 (n))), (w.heap.size + 1, (c8 (qx) (qy))), (w.heap.size, (c8 (px) (py)))]) := s0.out.up hb1
  have b1 : Hid (Below w.heap.size w w1) := b0.out.trans (hb1.mono b0.out.size)
  have z1 := b1.out.size
  clear hb1 s0 b0
  have up_0 : w1.cell? ⟨w.heap.size, 0, none⟩ = some (.int .u64 (px).a) := Kn.get s1.out 2 0 rfl rfl
  have up_1 : w1.cell? ⟨w.heap.size, 1, none⟩ = some (.int .u64 (px).b) := Kn.get s1.out 2 1 rfl rfl
  have up_2 : w1.cell? ⟨w.heap.size, 2, none⟩ = some (.int .u64 (px).c) := Kn.get s1.out 2 2 rfl rfl
  have up_3 : w1.cell? ⟨w.heap.size, 3, none⟩ = some (.int .u64 (px).d) := Kn.get s1.out 2 3 rfl rfl
  have up_4 : w1.cell? ⟨w.heap.size, 4, none⟩ = some (.int .u64 (py).a) := Kn.get s1.out 2 4 rfl rfl
  have up_5 : w1.cell? ⟨w.heap.size, 5, none⟩ = some (.int .u64 (py).b) := Kn.get s1.out 2 5 rfl rfl
  have up_6 : w1.cell? ⟨w.heap.size, 6, none⟩ = some (.int .u64 (py).c) := Kn.get s1.out 2 6 rfl rfl
  have up_7 : w1.cell? ⟨w.heap.size, 7, none⟩ = some (.int .u64 (py).d) := Kn.get s1.out 2 7 rfl rfl
  go_wp2_with fail
  clear up_0 up_1 up_2 up_3 up_4 up_5 up_6 up_7
  refine (O1 _).mono ?_
  rintro e w2 ⟨rfl, hb2⟩
  have s2 : Hid (Kn w2 [(w.heap.size + 1 + 1, (c4 (n))), (w.heap.size + 1, (c8 (qx) (qy))), (w.heap.size, (c8 (px) (py)))]) := s1.out.up hb2
  have b2 : Hid (Below w.heap.size w w2) := b1.out.trans (hb2.mono b1.out.size)
  have z2 := b2.out.size
  clear hb2 s1 b1
  have uq_0 : w2.cell? ⟨w.heap.size + 1, 0, none⟩ = some (.int .u64 (qx).a) := Kn.get s2.out 1 0 rfl rfl
  have uq_1 : w2.cell? ⟨w.heap.size + 1, 1, none⟩ = some (.int .u64 (qx).b) := Kn.get s2.out 1 1 rfl rfl
  have uq_2 : w2.cell? ⟨w.heap.size + 1, 2, none⟩ = some (.int .u64 (qx).c) := Kn.get s2.out 1 2 rfl rfl
  have uq_3 : w2.cell? ⟨w.heap.size + 1, 3, none⟩ = some (.int .u64 (qx).d) := Kn.get s2.out 1 3 rfl rfl
  have uq_4 : w2.cell? ⟨w.heap.size + 1, 4, none⟩ = some (.int .u64 (qy).a) := Kn.get s2.out 1 4 rfl rfl
  have uq_5 : w2.cell? ⟨w.heap.size + 1, 5, none⟩ = some (.int .u64 (qy).b) := Kn.get s2.out 1 5 rfl rfl
  have uq_6 : w2.cell? ⟨w.heap.size + 1, 6, none⟩ = some (.int .u64 (qy).c) := Kn.get s2.out 1 6 rfl rfl
  have uq_7 : w2.cell? ⟨w.heap.size + 1, 7, none⟩ = some (.int .u64 (qy).d) := Kn.get s2.out 1 7 rfl rfl
  go_wp2_with fail
  clear uq_0 uq_1 uq_2 uq_3 uq_4 uq_5 uq_6 uq_7
  refine (O2 _).mono ?_
  rintro e w3 ⟨rfl, hb3⟩
  have s3 : Hid (Kn w3 [(w.heap.size + 1 + 1, (c4 (n))), (w.heap.size + 1, (c8 (qx) (qy))), (w.heap.size, (c8 (px) (py)))]) := s2.out.up hb3
  have b3 : Hid (Below w.heap.size w w3) := b2.out.trans (hb3.mono b2.out.size)
  have z3 := b3.out.size
  clear hb3 s2 b2
  have up_0 : w3.cell? ⟨w.heap.size, 0, none⟩ = some (.int .u64 (px).a) := Kn.get s3.out 2 0 rfl rfl
  have up_1 : w3.cell? ⟨w.heap.size, 1, none⟩ = some (.int .u64 (px).b) := Kn.get s3.out 2 1 rfl rfl
  have up_2 : w3.cell? ⟨w.heap.size, 2, none⟩ = some (.int .u64 (px).c) := Kn.get s3.out 2 2 rfl rfl
  have up_3 : w3.cell? ⟨w.heap.size, 3, none⟩ = some (.int .u64 (px).d) := Kn.get s3.out 2 3 rfl rfl
  have up_4 : w3.cell? ⟨w.heap.size, 4, none⟩ = some (.int .u64 (py).a) := Kn.get s3.out 2 4 rfl rfl
  have up_5 : w3.cell? ⟨w.heap.size, 5, none⟩ = some (.int .u64 (py).b) := Kn.get s3.out 2 5 rfl rfl
  have up_6 : w3.cell? ⟨w.heap.size, 6, none⟩ = some (.int .u64 (py).c) := Kn.get s3.out 2 6 rfl rfl
  have up_7 : w3.cell? ⟨w.heap.size, 7, none⟩ = some (.int .u64 (py).d) := Kn.get s3.out 2 7 rfl rfl
  have uq_0 : w3.cell? ⟨w.heap.size + 1, 0, none⟩ = some (.int .u64 (qx).a) := Kn.get s3.out 1 0 rfl rfl
  have uq_1 : w3.cell? ⟨w.heap.size + 1, 1, none⟩ = some (.int .u64 (qx).b) := Kn.get s3.out 1 1 rfl rfl
  have uq_2 : w3.cell? ⟨w.heap.size + 1, 2, none⟩ = some (.int .u64 (qx).c) := Kn.get s3.out 1 2 rfl rfl
  have uq_3 : w3.cell? ⟨w.heap.size + 1, 3, none⟩ = some (.int .u64 (qx).d) := Kn.get s3.out 1 3 rfl rfl
  have uq_4 : w3.cell? ⟨w.heap.size + 1, 4, none⟩ = some (.int .u64 (qy).a) := Kn.get s3.out 1 4 rfl rfl
  have uq_5 : w3.cell? ⟨w.heap.size + 1, 5, none⟩ = some (.int .u64 (qy).b) := Kn.get s3.out 1 5 rfl rfl
  have uq_6 : w3.cell? ⟨w.heap.size + 1, 6, none⟩ = some (.int .u64 (qy).c) := Kn.get s3.out 1 6 rfl rfl
  have uq_7 : w3.cell? ⟨w.heap.size + 1, 7, none⟩ = some (.int .u64 (qy).d) := Kn.get s3.out 1 7 rfl rfl
  go_wp2_with fail
  clear up_0 up_1 up_2 up_3 up_4 up_5 up_6 up_7 uq_0 uq_1 uq_2 uq_3 uq_4 uq_5 uq_6 uq_7
  refine (A1 _).mono ?_
  rintro e w4 ⟨rfl, hb4⟩
  have s4 : Hid (Kn w4 [(w.heap.size + 1 + 1, (c4 (n))), (w.heap.size + 1, (c8 (qx) (qy))), (w.heap.size, (c8 (px) (py)))]) := s3.out.up hb4
  have b4 : Hid (Below w.heap.size w w4) := b3.out.trans (hb4.mono b3.out.size)
  have z4 := b4.out.size
  clear hb4 s3 b3
  have s5 : Hid (Kn (kalP w4 (sx) (sy)) [(w4.heap.size, (c8 (sx) (sy))), (w.heap.size + 1 + 1, (c4 (n))), (w.heap.size + 1, (c8 (qx) (qy))), (w.heap.size, (c8 (px) (py)))]) := s4.out.al (c8 (sx) (sy)) 26 rfl
  have b5 : Hid (Below w.heap.size w (kalP w4 (sx) (sy))) := b4.out.alloc b4.out.size _
  have z5 := b4.out.size
  clear s4 b4
  have un_0 : (kalP w4 (sx) (sy)).cell? ⟨w.heap.size + 1 + 1, 0, none⟩ = some (.int .u64 (n).a) := Kn.get s5.out 1 0 rfl rfl
  have un_1 : (kalP w4 (sx) (sy)).cell? ⟨w.heap.size + 1 + 1, 1, none⟩ = some (.int .u64 (n).b) := Kn.get s5.out 1 1 rfl rfl
  have un_2 : (kalP w4 (sx) (sy)).cell? ⟨w.heap.size + 1 + 1, 2, none⟩ = some (.int .u64 (n).c) := Kn.get s5.out 1 2 rfl rfl
  have un_3 : (kalP w4 (sx) (sy)).cell? ⟨w.heap.size + 1 + 1, 3, none⟩ = some (.int .u64 (n).d) := Kn.get s5.out 1 3 rfl rfl
  have up_0 : (kalP w4 (sx) (sy)).cell? ⟨w.heap.size, 0, none⟩ = some (.int .u64 (px).a) := Kn.get s5.out 3 0 rfl rfl
  have up_1 : (kalP w4 (sx) (sy)).cell? ⟨w.heap.size, 1, none⟩ = some (.int .u64 (px).b) := Kn.get s5.out 3 1 rfl rfl
  have up_2 : (kalP w4 (sx) (sy)).cell? ⟨w.heap.size, 2, none⟩ = some (.int .u64 (px).c) := Kn.get s5.out 3 2 rfl rfl
  have up_3 : (kalP w4 (sx) (sy)).cell? ⟨w.heap.size, 3, none⟩ = some (.int .u64 (px).d) := Kn.get s5.out 3 3 rfl rfl
  have up_4 : (kalP w4 (sx) (sy)).cell? ⟨w.heap.size, 4, none⟩ = some (.int .u64 (py).a) := Kn.get s5.out 3 4 rfl rfl
  have up_5 : (kalP w4 (sx) (sy)).cell? ⟨w.heap.size, 5, none⟩ = some (.int .u64 (py).b) := Kn.get s5.out 3 5 rfl rfl
  have up_6 : (kalP w4 (sx) (sy)).cell? ⟨w.heap.size, 6, none⟩ = some (.int .u64 (py).c) := Kn.get s5.out 3 6 rfl rfl
  have up_7 : (kalP w4 (sx) (sy)).cell? ⟨w.heap.size, 7, none⟩ = some (.int .u64 (py).d) := Kn.get s5.out 3 7 rfl rfl
  go_wp2_with fail
  clear un_0 un_1 un_2 un_3 up_0 up_1 up_2 up_3 up_4 up_5 up_6 up_7
  refine (T1 _).mono ?_
  rintro e w6 ⟨rfl, hb6⟩
  have s6 : Hid (Kn w6 [(w4.heap.size, (c8 (sx) (sy))), (w.heap.size + 1 + 1, (c4 (n))), (w.heap.size + 1, (c8 (qx) (qy))), (w.heap.size, (c8 (px) (py)))]) := s5.out.up hb6
  have b6 : Hid (Below w.heap.size w w6) := b5.out.trans (hb6.mono b5.out.size)
  have z6 := b6.out.size
  clear hb6 s5 b5
  have s7 : Hid (Kn (kalP w6 (tx) (ty)) [(w6.heap.size, (c8 (tx) (ty))), (w4.heap.size, (c8 (sx) (sy))), (w.heap.size + 1 + 1, (c4 (n))), (w.heap.size + 1, (c8 (qx) (qy))), (w.heap.size, (c8 (px) (py)))]) := s6.out.al (c8 (tx) (ty)) 26 rfl
  have b7 : Hid (Below w.heap.size w (kalP w6 (tx) (ty))) := b6.out.alloc b6.out.size _
  have z7 := b6.out.size
  clear s6 b6
  have us_0 : (kalP w6 (tx) (ty)).cell? ⟨w4.heap.size, 0, none⟩ = some (.int .u64 (sx).a) := Kn.get s7.out 1 0 rfl rfl
  have us_1 : (kalP w6 (tx) (ty)).cell? ⟨w4.heap.size, 1, none⟩ = some (.int .u64 (sx).b) := Kn.get s7.out 1 1 rfl rfl
  have us_2 : (kalP w6 (tx) (ty)).cell? ⟨w4.heap.size, 2, none⟩ = some (.int .u64 (sx).c) := Kn.get s7.out 1 2 rfl rfl
  have us_3 : (kalP w6 (tx) (ty)).cell? ⟨w4.heap.size, 3, none⟩ = some (.int .u64 (sx).d) := Kn.get s7.out 1 3 rfl rfl
  have us_4 : (kalP w6 (tx) (ty)).cell? ⟨w4.heap.size, 4, none⟩ = some (.int .u64 (sy).a) := Kn.get s7.out 1 4 rfl rfl
  have us_5 : (kalP w6 (tx) (ty)).cell? ⟨w4.heap.size, 5, none⟩ = some (.int .u64 (sy).b) := Kn.get s7.out 1 5 rfl rfl
  have us_6 : (kalP w6 (tx) (ty)).cell? ⟨w4.heap.size, 6, none⟩ = some (.int .u64 (sy).c) := Kn.get s7.out 1 6 rfl rfl
  have us_7 : (kalP w6 (tx) (ty)).cell? ⟨w4.heap.size, 7, none⟩ = some (.int .u64 (sy).d) := Kn.get s7.out 1 7 rfl rfl
  go_wp2_with fail
  clear us_0 us_1 us_2 us_3 us_4 us_5 us_6 us_7
  refine (O3 _).mono ?_
  rintro e w8 ⟨rfl, hb8⟩
  have s8 : Hid (Kn w8 [(w6.heap.size, (c8 (tx) (ty))), (w4.heap.size, (c8 (sx) (sy))), (w.heap.size + 1 + 1, (c4 (n))), (w.heap.size + 1, (c8 (qx) (qy))), (w.heap.size, (c8 (px) (py)))]) := s7.out.up hb8
  have b8 : Hid (Below w.heap.size w w8) := b7.out.trans (hb8.mono b7.out.size)
  have z8 := b8.out.size
  clear hb8 s7 b7
  have ut_0 : w8.cell? ⟨w6.heap.size, 0, none⟩ = some (.int .u64 (tx).a) := Kn.get s8.out 0 0 rfl rfl
  have ut_1 : w8.cell? ⟨w6.heap.size, 1, none⟩ = some (.int .u64 (tx).b) := Kn.get s8.out 0 1 rfl rfl
  have ut_2 : w8.cell? ⟨w6.heap.size, 2, none⟩ = some (.int .u64 (tx).c) := Kn.get s8.out 0 2 rfl rfl
  have ut_3 : w8.cell? ⟨w6.heap.size, 3, none⟩ = some (.int .u64 (tx).d) := Kn.get s8.out 0 3 rfl rfl
  have ut_4 : w8.cell? ⟨w6.heap.size, 4, none⟩ = some (.int .u64 (ty).a) := Kn.get s8.out 0 4 rfl rfl
  have ut_5 : w8.cell? ⟨w6.heap.size, 5, none⟩ = some (.int .u64 (ty).b) := Kn.get s8.out 0 5 rfl rfl
  have ut_6 : w8.cell? ⟨w6.heap.size, 6, none⟩ = some (.int .u64 (ty).c) := Kn.get s8.out 0 6 rfl rfl
  have ut_7 : w8.cell? ⟨w6.heap.size, 7, none⟩ = some (.int .u64 (ty).d) := Kn.get s8.out 0 7 rfl rfl
  go_wp2_with fail
  clear ut_0 ut_1 ut_2 ut_3 ut_4 ut_5 ut_6 ut_7
  refine (O4 _).mono ?_
  rintro e w9 ⟨rfl, hb9⟩
  have s9 : Hid (Kn w9 [(w6.heap.size, (c8 (tx) (ty))), (w4.heap.size, (c8 (sx) (sy))), (w.heap.size + 1 + 1, (c4 (n))), (w.heap.size + 1, (c8 (qx) (qy))), (w.heap.size, (c8 (px) (py)))]) := s8.out.up hb9
  have b9 : Hid (Below w.heap.size w w9) := b8.out.trans (hb9.mono b8.out.size)
  have z9 := b9.out.size
  clear hb9 s8 b8
  go_wp2_with fail
  go_ret
  exact ⟨rfl, b9.out⟩
theorem curveClosed_of (CO : COnC) (CZ : CZeroC) (CB : CBaseC) (CA : CAddC) (CT : CTimesC) (px py qx qy n : Nm) (a1 : px.ok) (a2 : py.ok) (a3 : qx.ok) (a4 : qy.ok) (on : n.ok) (w : World) :
    Calls Try.prog 6 #[Wv px py, Wv qx qy, N n] w fun e w' => e = .returned (.bool true) ∧ Below w.heap.size w w' := by
  have CV := pointed_fun CO CZ CB CT
  by_cases hP : Cv.On (px.nat, py.nat)
  · have O1 := CO.1 _ hP
    by_cases hQ : Cv.On (qx.nat, qy.nat)
    · rw [pv_of a1 a2, pv_of a3 a4]
      exact curveClosed_3 _ _ _ _ n _ _ _ _ CV O1 (CO.1 _ hQ) (CA _ _ hP hQ) (CT n _ on hP) (CO.1 _ (Cv.closed hP hQ)) (CO.1 _ (Cv.times_on hP _)) w
    · rw [pv_of a1 a2]
      exact curveClosed_2 _ _ qx qy n CV O1 (CO.2 qx qy a3 a4 hQ) w
  · exact curveClosed_1 px py qx qy n CV (CO.2 px py a1 a2 hP) w
end Go.Proofs.Ytbninaelmbkboaa
