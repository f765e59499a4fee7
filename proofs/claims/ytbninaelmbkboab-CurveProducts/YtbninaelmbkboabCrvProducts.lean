/- CurveProducts, out of what package curve must keep. -/
import Derived.Test.YtbninaelmbkboabCrvSums
import Derived.Test.YtbninaelmbkboabMulW
import Derived.Test.YtbninaelmbkboabHalf
namespace Go.Proofs.Ytbninaelmbkboab
open Go.RowKit
attribute [local go_sem] World.cell?_alloc_some cell_alloc2 cell_alloc3 cell_alloc4 frozen?_alloc_cells frozen_out
set_option linter.unusedSimpArgs false
set_option maxHeartbeats 1000000 in
theorem curveProducts_1 (m n px py l h : Nm)
    (CV : ∀ w, Calls Try.prog 7 #[] w fun e w' => e = .returned (.bool true) ∧ Below w.heap.size w w')
    (MU : ∀ w, Calls Try.prog 8 #[N m, N n] w fun e w' => e = .returned (Wv l h) ∧ Below w.heap.size w w')
    (O1 : ∀ w, Calls Try.prog 9 #[Wv px py] w fun e w' => e = .returned (.bool false) ∧ Below w.heap.size w w')
    (w : World) :
    Calls Try.prog 3 #[N m, N n, Wv px py] w fun e w' => e = .returned (.bool true) ∧ Below w.heap.size w w' := by
  go_enter Try.func3, Try.ntmps3
  have s0 : Hid (Kn (kalP (kal4 (kal4 w (m)) (n)) (px) (py)) [(w.heap.size + 1 + 1, (c8 (px) (py))), (w.heap.size + 1, (c4 (n))), (w.heap.size, (c4 (m)))]) := ((((Kn.nil w).al (c4 (m)) 24 rfl).al (c4 (n)) 24 (by simp)).al (c8 (px) (py)) 26 (by simp))
  have b0 : Hid (Below w.heap.size w (kalP (kal4 (kal4 w (m)) (n)) (px) (py))) := ((((Below.refl _ _).alloc (Nat.le_refl _) _).alloc (by simp <;> omega) _).alloc (by simp <;> omega) _)
  go_wp2_with fail
  refine (CV _).mono ?_
  rintro e w1 ⟨rfl, hb1⟩
  have s1 : Hid (Kn w1 [(w.heap.size + 1 + 1, (c8 (px) (py))), (w.heap.size + 1, (c4 (n))), (w.heap.size, (c4 (m)))]) := s0.out.up hb1
  have b1 : Hid (Below w.heap.size w w1) := b0.out.trans (hb1.mono b0.out.size)
  have z1 := b1.out.size
  clear hb1 s0 b0
  have um_0 : w1.cell? ⟨w.heap.size, 0, none⟩ = some (.int .u64 (m).a) := Kn.get s1.out 2 0 rfl rfl
  have um_1 : w1.cell? ⟨w.heap.size, 1, none⟩ = some (.int .u64 (m).b) := Kn.get s1.out 2 1 rfl rfl
  have um_2 : w1.cell? ⟨w.heap.size, 2, none⟩ = some (.int .u64 (m).c) := Kn.get s1.out 2 2 rfl rfl
  have um_3 : w1.cell? ⟨w.heap.size, 3, none⟩ = some (.int .u64 (m).d) := Kn.get s1.out 2 3 rfl rfl
  have un_0 : w1.cell? ⟨w.heap.size + 1, 0, none⟩ = some (.int .u64 (n).a) := Kn.get s1.out 1 0 rfl rfl
  have un_1 : w1.cell? ⟨w.heap.size + 1, 1, none⟩ = some (.int .u64 (n).b) := Kn.get s1.out 1 1 rfl rfl
  have un_2 : w1.cell? ⟨w.heap.size + 1, 2, none⟩ = some (.int .u64 (n).c) := Kn.get s1.out 1 2 rfl rfl
  have un_3 : w1.cell? ⟨w.heap.size + 1, 3, none⟩ = some (.int .u64 (n).d) := Kn.get s1.out 1 3 rfl rfl
  go_wp2_with fail
  clear um_0 um_1 um_2 um_3 un_0 un_1 un_2 un_3
  refine (MU _).mono ?_
  rintro e w2 ⟨rfl, hb2⟩
  have s2 : Hid (Kn w2 [(w.heap.size + 1 + 1, (c8 (px) (py))), (w.heap.size + 1, (c4 (n))), (w.heap.size, (c4 (m)))]) := s1.out.up hb2
  have b2 : Hid (Below w.heap.size w w2) := b1.out.trans (hb2.mono b1.out.size)
  have z2 := b2.out.size
  clear hb2 s1 b1
  have s3 : Hid (Kn (kal8 w2 (l) (h)) [(w2.heap.size, (c8 (l) (h))), (w.heap.size + 1 + 1, (c8 (px) (py))), (w.heap.size + 1, (c4 (n))), (w.heap.size, (c4 (m)))]) := s2.out.al (c8 (l) (h)) 29 rfl
  have b3 : Hid (Below w.heap.size w (kal8 w2 (l) (h))) := b2.out.alloc b2.out.size _
  have z3 := b2.out.size
  clear s2 b2
  have up_0 : (kal8 w2 (l) (h)).cell? ⟨w.heap.size + 1 + 1, 0, none⟩ = some (.int .u64 (px).a) := Kn.get s3.out 1 0 rfl rfl
  have up_1 : (kal8 w2 (l) (h)).cell? ⟨w.heap.size + 1 + 1, 1, none⟩ = some (.int .u64 (px).b) := Kn.get s3.out 1 1 rfl rfl
  have up_2 : (kal8 w2 (l) (h)).cell? ⟨w.heap.size + 1 + 1, 2, none⟩ = some (.int .u64 (px).c) := Kn.get s3.out 1 2 rfl rfl
  have up_3 : (kal8 w2 (l) (h)).cell? ⟨w.heap.size + 1 + 1, 3, none⟩ = some (.int .u64 (px).d) := Kn.get s3.out 1 3 rfl rfl
  have up_4 : (kal8 w2 (l) (h)).cell? ⟨w.heap.size + 1 + 1, 4, none⟩ = some (.int .u64 (py).a) := Kn.get s3.out 1 4 rfl rfl
  have up_5 : (kal8 w2 (l) (h)).cell? ⟨w.heap.size + 1 + 1, 5, none⟩ = some (.int .u64 (py).b) := Kn.get s3.out 1 5 rfl rfl
  have up_6 : (kal8 w2 (l) (h)).cell? ⟨w.heap.size + 1 + 1, 6, none⟩ = some (.int .u64 (py).c) := Kn.get s3.out 1 6 rfl rfl
  have up_7 : (kal8 w2 (l) (h)).cell? ⟨w.heap.size + 1 + 1, 7, none⟩ = some (.int .u64 (py).d) := Kn.get s3.out 1 7 rfl rfl
  go_wp2_with fail
  clear up_0 up_1 up_2 up_3 up_4 up_5 up_6 up_7
  refine (O1 _).mono ?_
  rintro e w4 ⟨rfl, hb4⟩
  have s4 : Hid (Kn w4 [(w2.heap.size, (c8 (l) (h))), (w.heap.size + 1 + 1, (c8 (px) (py))), (w.heap.size + 1, (c4 (n))), (w.heap.size, (c4 (m)))]) := s3.out.up hb4
  have b4 : Hid (Below w.heap.size w w4) := b3.out.trans (hb4.mono b3.out.size)
  have z4 := b4.out.size
  clear hb4 s3 b3
  go_wp2_with fail
  go_ret
  exact ⟨rfl, b4.out⟩
set_option maxHeartbeats 1000000 in
theorem curveProducts_2 (m n px py l h : Nm) (hz : Nm.beq h ⟨0, 0, 0, 0⟩ = false)
    (CV : ∀ w, Calls Try.prog 7 #[] w fun e w' => e = .returned (.bool true) ∧ Below w.heap.size w w')
    (MU : ∀ w, Calls Try.prog 8 #[N m, N n] w fun e w' => e = .returned (Wv l h) ∧ Below w.heap.size w w')
    (O1 : ∀ w, Calls Try.prog 9 #[Wv px py] w fun e w' => e = .returned (.bool true) ∧ Below w.heap.size w w')
    (HI : ∀ w, Calls Try.prog 10 #[Wv l h] w fun e w' => e = .returned (N h) ∧ Below w.heap.size w w')
    (w : World) :
    Calls Try.prog 3 #[N m, N n, Wv px py] w fun e w' => e = .returned (.bool true) ∧ Below w.heap.size w w' := by
  have e1 := neN h ⟨0, 0, 0, 0⟩
  rw [hz] at e1
  go_enter Try.func3, Try.ntmps3
  have s0 : Hid (Kn (kalP (kal4 (kal4 w (m)) (n)) (px) (py)) [(w.heap.size + 1 + 1, (c8 (px) (py))), (w.heap.size + 1, (c4 (n))), (w.heap.size, (c4 (m)))]) := ((((Kn.nil w).al (c4 (m)) 24 rfl).al (c4 (n)) 24 (by simp)).al (c8 (px) (py)) 26 (by simp))
  have b0 : Hid (Below w.heap.size w (kalP (kal4 (kal4 w (m)) (n)) (px) (py))) := ((((Below.refl _ _).alloc (Nat.le_refl _) _).alloc (by simp <;> omega) _).alloc (by simp <;> omega) _)
  go_wp2_with fail
  refine (CV _).mono ?_
  rintro e w1 ⟨rfl, hb1⟩
  have s1 : Hid (Kn w1 [(w.heap.size + 1 + 1, (c8 (px) (py))), (w.heap.size + 1, (c4 (n))), (w.heap.size, (c4 (m)))]) := s0.out.up hb1
  have b1 : Hid (Below w.heap.size w w1) := b0.out.trans (hb1.mono b0.out.size)
  have z1 := b1.out.size
  clear hb1 s0 b0
  have um_0 : w1.cell? ⟨w.heap.size, 0, none⟩ = some (.int .u64 (m).a) := Kn.get s1.out 2 0 rfl rfl
  have um_1 : w1.cell? ⟨w.heap.size, 1, none⟩ = some (.int .u64 (m).b) := Kn.get s1.out 2 1 rfl rfl
  have um_2 : w1.cell? ⟨w.heap.size, 2, none⟩ = some (.int .u64 (m).c) := Kn.get s1.out 2 2 rfl rfl
  have um_3 : w1.cell? ⟨w.heap.size, 3, none⟩ = some (.int .u64 (m).d) := Kn.get s1.out 2 3 rfl rfl
  have un_0 : w1.cell? ⟨w.heap.size + 1, 0, none⟩ = some (.int .u64 (n).a) := Kn.get s1.out 1 0 rfl rfl
  have un_1 : w1.cell? ⟨w.heap.size + 1, 1, none⟩ = some (.int .u64 (n).b) := Kn.get s1.out 1 1 rfl rfl
  have un_2 : w1.cell? ⟨w.heap.size + 1, 2, none⟩ = some (.int .u64 (n).c) := Kn.get s1.out 1 2 rfl rfl
  have un_3 : w1.cell? ⟨w.heap.size + 1, 3, none⟩ = some (.int .u64 (n).d) := Kn.get s1.out 1 3 rfl rfl
  go_wp2_with fail
  clear um_0 um_1 um_2 um_3 un_0 un_1 un_2 un_3
  refine (MU _).mono ?_
  rintro e w2 ⟨rfl, hb2⟩
  have s2 : Hid (Kn w2 [(w.heap.size + 1 + 1, (c8 (px) (py))), (w.heap.size + 1, (c4 (n))), (w.heap.size, (c4 (m)))]) := s1.out.up hb2
  have b2 : Hid (Below w.heap.size w w2) := b1.out.trans (hb2.mono b1.out.size)
  have z2 := b2.out.size
  clear hb2 s1 b1
  have s3 : Hid (Kn (kal8 w2 (l) (h)) [(w2.heap.size, (c8 (l) (h))), (w.heap.size + 1 + 1, (c8 (px) (py))), (w.heap.size + 1, (c4 (n))), (w.heap.size, (c4 (m)))]) := s2.out.al (c8 (l) (h)) 29 rfl
  have b3 : Hid (Below w.heap.size w (kal8 w2 (l) (h))) := b2.out.alloc b2.out.size _
  have z3 := b2.out.size
  clear s2 b2
  have up_0 : (kal8 w2 (l) (h)).cell? ⟨w.heap.size + 1 + 1, 0, none⟩ = some (.int .u64 (px).a) := Kn.get s3.out 1 0 rfl rfl
  have up_1 : (kal8 w2 (l) (h)).cell? ⟨w.heap.size + 1 + 1, 1, none⟩ = some (.int .u64 (px).b) := Kn.get s3.out 1 1 rfl rfl
  have up_2 : (kal8 w2 (l) (h)).cell? ⟨w.heap.size + 1 + 1, 2, none⟩ = some (.int .u64 (px).c) := Kn.get s3.out 1 2 rfl rfl
  have up_3 : (kal8 w2 (l) (h)).cell? ⟨w.heap.size + 1 + 1, 3, none⟩ = some (.int .u64 (px).d) := Kn.get s3.out 1 3 rfl rfl
  have up_4 : (kal8 w2 (l) (h)).cell? ⟨w.heap.size + 1 + 1, 4, none⟩ = some (.int .u64 (py).a) := Kn.get s3.out 1 4 rfl rfl
  have up_5 : (kal8 w2 (l) (h)).cell? ⟨w.heap.size + 1 + 1, 5, none⟩ = some (.int .u64 (py).b) := Kn.get s3.out 1 5 rfl rfl
  have up_6 : (kal8 w2 (l) (h)).cell? ⟨w.heap.size + 1 + 1, 6, none⟩ = some (.int .u64 (py).c) := Kn.get s3.out 1 6 rfl rfl
  have up_7 : (kal8 w2 (l) (h)).cell? ⟨w.heap.size + 1 + 1, 7, none⟩ = some (.int .u64 (py).d) := Kn.get s3.out 1 7 rfl rfl
  go_wp2_with fail
  clear up_0 up_1 up_2 up_3 up_4 up_5 up_6 up_7
  refine (O1 _).mono ?_
  rintro e w4 ⟨rfl, hb4⟩
  have s4 : Hid (Kn w4 [(w2.heap.size, (c8 (l) (h))), (w.heap.size + 1 + 1, (c8 (px) (py))), (w.heap.size + 1, (c4 (n))), (w.heap.size, (c4 (m)))]) := s3.out.up hb4
  have b4 : Hid (Below w.heap.size w w4) := b3.out.trans (hb4.mono b3.out.size)
  have z4 := b4.out.size
  clear hb4 s3 b3
  have uw_0 : w4.cell? ⟨w2.heap.size, 0, none⟩ = some (.int .u64 (l).a) := Kn.get s4.out 0 0 rfl rfl
  have uw_1 : w4.cell? ⟨w2.heap.size, 1, none⟩ = some (.int .u64 (l).b) := Kn.get s4.out 0 1 rfl rfl
  have uw_2 : w4.cell? ⟨w2.heap.size, 2, none⟩ = some (.int .u64 (l).c) := Kn.get s4.out 0 2 rfl rfl
  have uw_3 : w4.cell? ⟨w2.heap.size, 3, none⟩ = some (.int .u64 (l).d) := Kn.get s4.out 0 3 rfl rfl
  have uw_4 : w4.cell? ⟨w2.heap.size, 4, none⟩ = some (.int .u64 (h).a) := Kn.get s4.out 0 4 rfl rfl
  have uw_5 : w4.cell? ⟨w2.heap.size, 5, none⟩ = some (.int .u64 (h).b) := Kn.get s4.out 0 5 rfl rfl
  have uw_6 : w4.cell? ⟨w2.heap.size, 6, none⟩ = some (.int .u64 (h).c) := Kn.get s4.out 0 6 rfl rfl
  have uw_7 : w4.cell? ⟨w2.heap.size, 7, none⟩ = some (.int .u64 (h).d) := Kn.get s4.out 0 7 rfl rfl
  go_wp2_with fail
  clear uw_0 uw_1 uw_2 uw_3 uw_4 uw_5 uw_6 uw_7
  refine (HI _).mono ?_
  rintro e w5 ⟨rfl, hb5⟩
  have s5 : Hid (Kn w5 [(w2.heap.size, (c8 (l) (h))), (w.heap.size + 1 + 1, (c8 (px) (py))), (w.heap.size + 1, (c4 (n))), (w.heap.size, (c4 (m)))]) := s4.out.up hb5
  have b5 : Hid (Below w.heap.size w w5) := b4.out.trans (hb5.mono b4.out.size)
  have z5 := b5.out.size
  clear hb5 s4 b4
  go_wp2_with fail
  go_ret
  exact ⟨rfl, b5.out⟩
set_option maxHeartbeats 4000000 in
theorem curveProducts_3 (m n px py l h ax ay gx gy : Nm) (hz : Nm.beq h ⟨0, 0, 0, 0⟩ = true) (g1 : ∀ w, (binOp .eql 26 (Wv gx gy) (Wv gx gy)).run Try.prog w = .ok (.bool true) w)
    (CV : ∀ w, Calls Try.prog 7 #[] w fun e w' => e = .returned (.bool true) ∧ Below w.heap.size w w')
    (MU : ∀ w, Calls Try.prog 8 #[N m, N n] w fun e w' => e = .returned (Wv l h) ∧ Below w.heap.size w w')
    (O1 : ∀ w, Calls Try.prog 9 #[Wv px py] w fun e w' => e = .returned (.bool true) ∧ Below w.heap.size w w')
    (HI : ∀ w, Calls Try.prog 10 #[Wv l h] w fun e w' => e = .returned (N h) ∧ Below w.heap.size w w')
    (LO : ∀ w, Calls Try.prog 12 #[Wv l h] w fun e w' => e = .returned (N l) ∧ Below w.heap.size w w')
    (T1 : ∀ w, Calls Try.prog 11 #[N n, Wv px py] w fun e w' => e = .returned (Wv ax ay) ∧ Below w.heap.size w w')
    (T2 : ∀ w, Calls Try.prog 11 #[N m, Wv ax ay] w fun e w' => e = .returned (Wv gx gy) ∧ Below w.heap.size w w')
    (T3 : ∀ w, Calls Try.prog 11 #[N l, Wv px py] w fun e w' => e = .returned (Wv gx gy) ∧ Below w.heap.size w w')
    (w : World) :
    Calls Try.prog 3 #[N m, N n, Wv px py] w fun e w' => e = .returned (.bool true) ∧ Below w.heap.size w w' := by
  have e1 := neN h ⟨0, 0, 0, 0⟩
  rw [hz] at e1
  go_enter Try.func3, Try.ntmps3
  have s0 : Hid (Kn (kalP (kal4 (kal4 w (m)) (n)) (px) (py)) [(w.heap.size + 1 + 1, (c8 (px) (py))), (w.heap.size + 1, (c4 (n))), (w.heap.size, (c4 (m)))]) := ((((Kn.nil w).al (c4 (m)) 24 rfl).al (c4 (n)) 24 (by simp)).al (c8 (px) (py)) 26 (by simp))
  have b0 : Hid (Below w.heap.size w (kalP (kal4 (kal4 w (m)) (n)) (px) (py))) := ((((Below.refl _ _).alloc (Nat.le_refl _) _).alloc (by simp <;> omega) _).alloc (by simp <;> omega) _)
  go_wp2_with fail
  refine (CV _).mono ?_
  rintro e w1 ⟨rfl, hb1⟩
  have s1 : Hid (Kn w1 [(w.heap.size + 1 + 1, (c8 (px) (py))), (w.heap.size + 1, (c4 (n))), (w.heap.size, (c4 (m)))]) := s0.out.up hb1
  have b1 : Hid (Below w.heap.size w w1) := b0.out.trans (hb1.mono b0.out.size)
  have z1 := b1.out.size
  clear hb1 s0 b0
  have um_0 : w1.cell? ⟨w.heap.size, 0, none⟩ = some (.int .u64 (m).a) := Kn.get s1.out 2 0 rfl rfl
  have um_1 : w1.cell? ⟨w.heap.size, 1, none⟩ = some (.int .u64 (m).b) := Kn.get s1.out 2 1 rfl rfl
  have um_2 : w1.cell? ⟨w.heap.size, 2, none⟩ = some (.int .u64 (m).c) := Kn.get s1.out 2 2 rfl rfl
  have um_3 : w1.cell? ⟨w.heap.size, 3, none⟩ = some (.int .u64 (m).d) := Kn.get s1.out 2 3 rfl rfl
  have un_0 : w1.cell? ⟨w.heap.size + 1, 0, none⟩ = some (.int .u64 (n).a) := Kn.get s1.out 1 0 rfl rfl
  have un_1 : w1.cell? ⟨w.heap.size + 1, 1, none⟩ = some (.int .u64 (n).b) := Kn.get s1.out 1 1 rfl rfl
  have un_2 : w1.cell? ⟨w.heap.size + 1, 2, none⟩ = some (.int .u64 (n).c) := Kn.get s1.out 1 2 rfl rfl
  have un_3 : w1.cell? ⟨w.heap.size + 1, 3, none⟩ = some (.int .u64 (n).d) := Kn.get s1.out 1 3 rfl rfl
  go_wp2_with fail
  clear um_0 um_1 um_2 um_3 un_0 un_1 un_2 un_3
  refine (MU _).mono ?_
  rintro e w2 ⟨rfl, hb2⟩
  have s2 : Hid (Kn w2 [(w.heap.size + 1 + 1, (c8 (px) (py))), (w.heap.size + 1, (c4 (n))), (w.heap.size, (c4 (m)))]) := s1.out.up hb2
  have b2 : Hid (Below w.heap.size w w2) := b1.out.trans (hb2.mono b1.out.size)
  have z2 := b2.out.size
  clear hb2 s1 b1
  have s3 : Hid (Kn (kal8 w2 (l) (h)) [(w2.heap.size, (c8 (l) (h))), (w.heap.size + 1 + 1, (c8 (px) (py))), (w.heap.size + 1, (c4 (n))), (w.heap.size, (c4 (m)))]) := s2.out.al (c8 (l) (h)) 29 rfl
  have b3 : Hid (Below w.heap.size w (kal8 w2 (l) (h))) := b2.out.alloc b2.out.size _
  have z3 := b2.out.size
  clear s2 b2
  have up_0 : (kal8 w2 (l) (h)).cell? ⟨w.heap.size + 1 + 1, 0, none⟩ = some (.int .u64 (px).a) := Kn.get s3.out 1 0 rfl rfl
  have up_1 : (kal8 w2 (l) (h)).cell? ⟨w.heap.size + 1 + 1, 1, none⟩ = some (.int .u64 (px).b) := Kn.get s3.out 1 1 rfl rfl
  have up_2 : (kal8 w2 (l) (h)).cell? ⟨w.heap.size + 1 + 1, 2, none⟩ = some (.int .u64 (px).c) := Kn.get s3.out 1 2 rfl rfl
  have up_3 : (kal8 w2 (l) (h)).cell? ⟨w.heap.size + 1 + 1, 3, none⟩ = some (.int .u64 (px).d) := Kn.get s3.out 1 3 rfl rfl
  have up_4 : (kal8 w2 (l) (h)).cell? ⟨w.heap.size + 1 + 1, 4, none⟩ = some (.int .u64 (py).a) := Kn.get s3.out 1 4 rfl rfl
  have up_5 : (kal8 w2 (l) (h)).cell? ⟨w.heap.size + 1 + 1, 5, none⟩ = some (.int .u64 (py).b) := Kn.get s3.out 1 5 rfl rfl
  have up_6 : (kal8 w2 (l) (h)).cell? ⟨w.heap.size + 1 + 1, 6, none⟩ = some (.int .u64 (py).c) := Kn.get s3.out 1 6 rfl rfl
  have up_7 : (kal8 w2 (l) (h)).cell? ⟨w.heap.size + 1 + 1, 7, none⟩ = some (.int .u64 (py).d) := Kn.get s3.out 1 7 rfl rfl
  go_wp2_with fail
  clear up_0 up_1 up_2 up_3 up_4 up_5 up_6 up_7
  refine (O1 _).mono ?_
  rintro e w4 ⟨rfl, hb4⟩
  have s4 : Hid (Kn w4 [(w2.heap.size, (c8 (l) (h))), (w.heap.size + 1 + 1, (c8 (px) (py))), (w.heap.size + 1, (c4 (n))), (w.heap.size, (c4 (m)))]) := s3.out.up hb4
  have b4 : Hid (Below w.heap.size w w4) := b3.out.trans (hb4.mono b3.out.size)
  have z4 := b4.out.size
  clear hb4 s3 b3
  have uw_0 : w4.cell? ⟨w2.heap.size, 0, none⟩ = some (.int .u64 (l).a) := Kn.get s4.out 0 0 rfl rfl
  have uw_1 : w4.cell? ⟨w2.heap.size, 1, none⟩ = some (.int .u64 (l).b) := Kn.get s4.out 0 1 rfl rfl
  have uw_2 : w4.cell? ⟨w2.heap.size, 2, none⟩ = some (.int .u64 (l).c) := Kn.get s4.out 0 2 rfl rfl
  have uw_3 : w4.cell? ⟨w2.heap.size, 3, none⟩ = some (.int .u64 (l).d) := Kn.get s4.out 0 3 rfl rfl
  have uw_4 : w4.cell? ⟨w2.heap.size, 4, none⟩ = some (.int .u64 (h).a) := Kn.get s4.out 0 4 rfl rfl
  have uw_5 : w4.cell? ⟨w2.heap.size, 5, none⟩ = some (.int .u64 (h).b) := Kn.get s4.out 0 5 rfl rfl
  have uw_6 : w4.cell? ⟨w2.heap.size, 6, none⟩ = some (.int .u64 (h).c) := Kn.get s4.out 0 6 rfl rfl
  have uw_7 : w4.cell? ⟨w2.heap.size, 7, none⟩ = some (.int .u64 (h).d) := Kn.get s4.out 0 7 rfl rfl
  go_wp2_with fail
  clear uw_0 uw_1 uw_2 uw_3 uw_4 uw_5 uw_6 uw_7
  refine (HI _).mono ?_
  rintro e w5 ⟨rfl, hb5⟩
  have s5 : Hid (Kn w5 [(w2.heap.size, (c8 (l) (h))), (w.heap.size + 1 + 1, (c8 (px) (py))), (w.heap.size + 1, (c4 (n))), (w.heap.size, (c4 (m)))]) := s4.out.up hb5
  have b5 : Hid (Below w.heap.size w w5) := b4.out.trans (hb5.mono b4.out.size)
  have z5 := b5.out.size
  clear hb5 s4 b4
  go_wp2_with fail
  refine wp_region_up (by kernel_rfl) (by kernel_rfl) (fun U hU f hf hcl => ?_)
  have um_0 := fun nx => (Kn.get (s5.out.up (hf nx).out) 3 0 rfl rfl : (f nx).cell? ⟨w.heap.size, 0, none⟩ = some (.int .u64 (m).a))
  have um_1 := fun nx => (Kn.get (s5.out.up (hf nx).out) 3 1 rfl rfl : (f nx).cell? ⟨w.heap.size, 1, none⟩ = some (.int .u64 (m).b))
  have um_2 := fun nx => (Kn.get (s5.out.up (hf nx).out) 3 2 rfl rfl : (f nx).cell? ⟨w.heap.size, 2, none⟩ = some (.int .u64 (m).c))
  have um_3 := fun nx => (Kn.get (s5.out.up (hf nx).out) 3 3 rfl rfl : (f nx).cell? ⟨w.heap.size, 3, none⟩ = some (.int .u64 (m).d))
  have un_0 := fun nx => (Kn.get (s5.out.up (hf nx).out) 2 0 rfl rfl : (f nx).cell? ⟨w.heap.size + 1, 0, none⟩ = some (.int .u64 (n).a))
  have un_1 := fun nx => (Kn.get (s5.out.up (hf nx).out) 2 1 rfl rfl : (f nx).cell? ⟨w.heap.size + 1, 1, none⟩ = some (.int .u64 (n).b))
  have un_2 := fun nx => (Kn.get (s5.out.up (hf nx).out) 2 2 rfl rfl : (f nx).cell? ⟨w.heap.size + 1, 2, none⟩ = some (.int .u64 (n).c))
  have un_3 := fun nx => (Kn.get (s5.out.up (hf nx).out) 2 3 rfl rfl : (f nx).cell? ⟨w.heap.size + 1, 3, none⟩ = some (.int .u64 (n).d))
  have up_0 := fun nx => (Kn.get (s5.out.up (hf nx).out) 1 0 rfl rfl : (f nx).cell? ⟨w.heap.size + 1 + 1, 0, none⟩ = some (.int .u64 (px).a))
  have up_1 := fun nx => (Kn.get (s5.out.up (hf nx).out) 1 1 rfl rfl : (f nx).cell? ⟨w.heap.size + 1 + 1, 1, none⟩ = some (.int .u64 (px).b))
  have up_2 := fun nx => (Kn.get (s5.out.up (hf nx).out) 1 2 rfl rfl : (f nx).cell? ⟨w.heap.size + 1 + 1, 2, none⟩ = some (.int .u64 (px).c))
  have up_3 := fun nx => (Kn.get (s5.out.up (hf nx).out) 1 3 rfl rfl : (f nx).cell? ⟨w.heap.size + 1 + 1, 3, none⟩ = some (.int .u64 (px).d))
  have up_4 := fun nx => (Kn.get (s5.out.up (hf nx).out) 1 4 rfl rfl : (f nx).cell? ⟨w.heap.size + 1 + 1, 4, none⟩ = some (.int .u64 (py).a))
  have up_5 := fun nx => (Kn.get (s5.out.up (hf nx).out) 1 5 rfl rfl : (f nx).cell? ⟨w.heap.size + 1 + 1, 5, none⟩ = some (.int .u64 (py).b))
  have up_6 := fun nx => (Kn.get (s5.out.up (hf nx).out) 1 6 rfl rfl : (f nx).cell? ⟨w.heap.size + 1 + 1, 6, none⟩ = some (.int .u64 (py).c))
  have up_7 := fun nx => (Kn.get (s5.out.up (hf nx).out) 1 7 rfl rfl : (f nx).cell? ⟨w.heap.size + 1 + 1, 7, none⟩ = some (.int .u64 (py).d))
  have uw_0 := fun nx => (Kn.get (s5.out.up (hf nx).out) 0 0 rfl rfl : (f nx).cell? ⟨w2.heap.size, 0, none⟩ = some (.int .u64 (l).a))
  have uw_1 := fun nx => (Kn.get (s5.out.up (hf nx).out) 0 1 rfl rfl : (f nx).cell? ⟨w2.heap.size, 1, none⟩ = some (.int .u64 (l).b))
  have uw_2 := fun nx => (Kn.get (s5.out.up (hf nx).out) 0 2 rfl rfl : (f nx).cell? ⟨w2.heap.size, 2, none⟩ = some (.int .u64 (l).c))
  have uw_3 := fun nx => (Kn.get (s5.out.up (hf nx).out) 0 3 rfl rfl : (f nx).cell? ⟨w2.heap.size, 3, none⟩ = some (.int .u64 (l).d))
  have uw_4 := fun nx => (Kn.get (s5.out.up (hf nx).out) 0 4 rfl rfl : (f nx).cell? ⟨w2.heap.size, 4, none⟩ = some (.int .u64 (h).a))
  have uw_5 := fun nx => (Kn.get (s5.out.up (hf nx).out) 0 5 rfl rfl : (f nx).cell? ⟨w2.heap.size, 5, none⟩ = some (.int .u64 (h).b))
  have uw_6 := fun nx => (Kn.get (s5.out.up (hf nx).out) 0 6 rfl rfl : (f nx).cell? ⟨w2.heap.size, 6, none⟩ = some (.int .u64 (h).c))
  have uw_7 := fun nx => (Kn.get (s5.out.up (hf nx).out) 0 7 rfl rfl : (f nx).cell? ⟨w2.heap.size, 7, none⟩ = some (.int .u64 (h).d))
  try simp only [List.append_eq, List.cons_append, List.nil_append]
  repeat (go_big_quiet_step (first | (go_at_call_of 11 [Value.agg #[Value.int IntKind.u64 n.a, Value.int IntKind.u64 n.b, Value.int IntKind.u64 n.c, Value.int IntKind.u64 n.d], Value.agg #[Value.int IntKind.u64 px.a, Value.int IntKind.u64 px.b, Value.int IntKind.u64 px.c, Value.int IntKind.u64 px.d, Value.int IntKind.u64 py.a, Value.int IntKind.u64 py.b, Value.int IntKind.u64 py.c, Value.int IntKind.u64 py.d]]; exact (T1 _).mono fun e w'' ⟨he, hb⟩ => ⟨he, hcl.out _ _ hb⟩) | (go_at_call_of 11 [Value.agg #[Value.int IntKind.u64 m.a, Value.int IntKind.u64 m.b, Value.int IntKind.u64 m.c, Value.int IntKind.u64 m.d], Wv ax ay]; exact (T2 _).mono fun e w'' ⟨he, hb⟩ => ⟨he, hcl.out _ _ hb⟩) | (go_at_call 12; exact (LO _).mono fun e w'' ⟨he, hb⟩ => ⟨he, hcl.out _ _ hb⟩) | (go_at_call_of 11 [N l, Value.agg #[Value.int IntKind.u64 px.a, Value.int IntKind.u64 px.b, Value.int IntKind.u64 px.c, Value.int IntKind.u64 px.d, Value.int IntKind.u64 py.a, Value.int IntKind.u64 py.b, Value.int IntKind.u64 py.c, Value.int IntKind.u64 py.d]]; exact (T3 _).mono fun e w'' ⟨he, hb⟩ => ⟨he, hcl.out _ _ hb⟩)))
  refine wpQuiet_nil ?_
  intro nx
  have hb6 := (hf nx).out
  clear hf hcl um_0 um_1 um_2 um_3 un_0 un_1 un_2 un_3 up_0 up_1 up_2 up_3 up_4 up_5 up_6 up_7 uw_0 uw_1 uw_2 uw_3 uw_4 uw_5 uw_6 uw_7
  generalize f nx = w6 at hb6 ⊢
  have s6 : Hid (Kn w6 [(w2.heap.size, (c8 (l) (h))), (w.heap.size + 1 + 1, (c8 (px) (py))), (w.heap.size + 1, (c4 (n))), (w.heap.size, (c4 (m)))]) := s5.out.up hb6
  have b6 : Hid (Below w.heap.size w w6) := b5.out.trans (hb6.mono b5.out.size)
  have z6 := b6.out.size
  clear hb6 s5 b5
  go_wp2_with fail
  go_ret
  exact ⟨rfl, b6.out⟩
theorem curveProducts_of (CO : COnC) (CB : CBaseC) (CT : CTimesC) (m n px py : Nm) (om : m.ok) (on : n.ok) (a1 : px.ok) (a2 : py.ok) (w : World) :
    Calls Try.prog 3 #[N m, N n, Wv px py] w fun e w' => e = .returned (.bool true) ∧ Below w.heap.size w w' := by
  have CV := curves_fun CB CO
  have MU := mul_fun m n om on
  by_cases hP : Cv.On (px.nat, py.nat)
  · have O1 := CO.1 _ hP
    rw [pv_of a1 a2]
    cases hz : Nm.beq (mulH m n) ⟨0, 0, 0, 0⟩ with
    | false => exact curveProducts_2 m n _ _ _ _ hz CV MU O1 (high_fun _ _) w
    | true =>
      have e := mul_val om on
      rw [Nm.beq_iff.1 hz, show (⟨0, 0, 0, 0⟩ : Nm).val = 0 from rfl, Int.mul_zero, Int.add_zero] at e
      have en : (mulL m n).nat = m.nat * n.nat := by
        have h1 := Nm.nat_cast (mulL_ok m n); have h2 := Nm.nat_cast om; have h3 := Nm.nat_cast on
        rw [← h1, ← h2, ← h3, ← Int.natCast_mul] at e
        exact Int.ofNat.inj e
      have T3 := times_fun CT (mulL m n) (mulL_ok m n) _ hP
      rw [en, Cv.times_mul hP] at T3
      exact curveProducts_3 m n _ _ _ _ _ _ _ _ hz (eqP_self _ _) CV MU O1 (high_fun _ _) (low_fun _ _) (times_fun CT n on _ hP) (times_fun CT m om _ (Cv.times_on hP _)) T3 w
  · exact curveProducts_1 m n px py _ _ CV MU (CO.2 px py a1 a2 hP) w
end Go.Proofs.Ytbninaelmbkboab
