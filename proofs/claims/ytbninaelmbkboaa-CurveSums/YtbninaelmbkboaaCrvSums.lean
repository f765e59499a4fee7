/- CurveSums, out of what package curve must keep. -/
import Derived.Test.YtbninaelmbkboaaCrvClosed
namespace Go.Proofs.Ytbninaelmbkboaa
open Go.RowKit
attribute [local go_sem] World.cell?_alloc_some cell_alloc2 cell_alloc3 cell_alloc4 frozen?_alloc_cells frozen_out
set_option linter.unusedSimpArgs false
set_option maxHeartbeats 1000000 in
theorem curveSums_1 (m n px py qx qy : Nm)
    (CV : ∀ w, Calls Try.prog 30 #[] w fun e w' => e = .returned (.bool true) ∧ Below w.heap.size w w')
    (O1 : ∀ w, Calls Try.prog 12 #[Wv px py] w fun e w' => e = .returned (.bool false) ∧ Below w.heap.size w w')
    (w : World) :
    Calls Try.prog 8 #[N m, N n, Wv px py, Wv qx qy] w fun e w' => e = .returned (.bool true) ∧ Below w.heap.size w w' := by
  go_enter Try.func8, Try.ntmps8
  have s0 : Hid (Kn (kalP (kalP (kal4 (kal4 w (m)) (n)) (px) (py)) (qx) (qy)) [(w.heap.size + 1 + 1 + 1, (c8 (qx) (qy))), (w.heap.size + 1 + 1, (c8 (px) (py))), (w.heap.size + 1, (c4 (n))), (w.heap.size, (c4 (m)))]) := (((((Kn.nil w).al (c4 (m)) 24 rfl).al (c4 (n)) 24 (by simp)).al (c8 (px) (py)) 26 (by simp)).al (c8 (qx) (qy)) 26 (by simp))
  have b0 : Hid (Below w.heap.size w (kalP (kalP (kal4 (kal4 w (m)) (n)) (px) (py)) (qx) (qy))) := (((((Below.refl _ _).alloc (Nat.le_refl _) _).alloc (by simp <;> omega) _).alloc (by simp <;> omega) _).alloc (by simp <;> omega) _)
  go_wp2_with fail
  refine (CV _).mono ?_
  rintro e w1 ⟨rfl, hb1⟩
  have s1 : Hid (Kn w1 [(w.heap.size + 1 + 1 + 1, (c8 (qx) (qy))), (w.heap.size + 1 + 1, (c8 (px) (py))), (w.heap.size + 1, (c4 (n))), (w.heap.size, (c4 (m)))]) := s0.out.up hb1
  have b1 : Hid (Below w.heap.size w w1) := b0.out.trans (hb1.mono b0.out.size)
  have z1 := b1.out.size
  clear hb1 s0 b0
  have up_0 : w1.cell? ⟨w.heap.size + 1 + 1, 0, none⟩ = some (.int .u64 (px).a) := Kn.get s1.out 1 0 rfl rfl
  have up_1 : w1.cell? ⟨w.heap.size + 1 + 1, 1, none⟩ = some (.int .u64 (px).b) := Kn.get s1.out 1 1 rfl rfl
  have up_2 : w1.cell? ⟨w.heap.size + 1 + 1, 2, none⟩ = some (.int .u64 (px).c) := Kn.get s1.out 1 2 rfl rfl
  have up_3 : w1.cell? ⟨w.heap.size + 1 + 1, 3, none⟩ = some (.int .u64 (px).d) := Kn.get s1.out 1 3 rfl rfl
  have up_4 : w1.cell? ⟨w.heap.size + 1 + 1, 4, none⟩ = some (.int .u64 (py).a) := Kn.get s1.out 1 4 rfl rfl
  have up_5 : w1.cell? ⟨w.heap.size + 1 + 1, 5, none⟩ = some (.int .u64 (py).b) := Kn.get s1.out 1 5 rfl rfl
  have up_6 : w1.cell? ⟨w.heap.size + 1 + 1, 6, none⟩ = some (.int .u64 (py).c) := Kn.get s1.out 1 6 rfl rfl
  have up_7 : w1.cell? ⟨w.heap.size + 1 + 1, 7, none⟩ = some (.int .u64 (py).d) := Kn.get s1.out 1 7 rfl rfl
  go_wp2_with fail
  clear up_0 up_1 up_2 up_3 up_4 up_5 up_6 up_7
  refine (O1 _).mono ?_
  rintro e w2 ⟨rfl, hb2⟩
  have s2 : Hid (Kn w2 [(w.heap.size + 1 + 1 + 1, (c8 (qx) (qy))), (w.heap.size + 1 + 1, (c8 (px) (py))), (w.heap.size + 1, (c4 (n))), (w.heap.size, (c4 (m)))]) := s1.out.up hb2
  have b2 : Hid (Below w.heap.size w w2) := b1.out.trans (hb2.mono b1.out.size)
  have z2 := b2.out.size
  clear hb2 s1 b1
  go_wp2_with fail
  go_ret
  exact ⟨rfl, b2.out⟩
set_option maxHeartbeats 1000000 in
theorem curveSums_2 (m n px py qx qy : Nm)
    (CV : ∀ w, Calls Try.prog 30 #[] w fun e w' => e = .returned (.bool true) ∧ Below w.heap.size w w')
    (O1 : ∀ w, Calls Try.prog 12 #[Wv px py] w fun e w' => e = .returned (.bool true) ∧ Below w.heap.size w w')
    (O2 : ∀ w, Calls Try.prog 12 #[Wv qx qy] w fun e w' => e = .returned (.bool false) ∧ Below w.heap.size w w')
    (w : World) :
    Calls Try.prog 8 #[N m, N n, Wv px py, Wv qx qy] w fun e w' => e = .returned (.bool true) ∧ Below w.heap.size w w' := by
  go_enter Try.func8, Try.ntmps8
  have s0 : Hid (Kn (kalP (kalP (kal4 (kal4 w (m)) (n)) (px) (py)) (qx) (qy)) [(w.heap.size + 1 + 1 + 1, (c8 (qx) (qy))), (w.heap.size + 1 + 1, (c8 (px) (py))), (w.heap.size + 1, (c4 (n))), (w.heap.size, (c4 (m)))]) := (((((Kn.nil w).al (c4 (m)) 24 rfl).al (c4 (n)) 24 (by simp)).al (c8 (px) (py)) 26 (by simp)).al (c8 (qx) (qy)) 26 (by simp))
  have b0 : Hid (Below w.heap.size w (kalP (kalP (kal4 (kal4 w (m)) (n)) (px) (py)) (qx) (qy))) := (((((Below.refl _ _).alloc (Nat.le_refl _) _).alloc (by simp <;> omega) _).alloc (by simp <;> omega) _).alloc (by simp <;> omega) _)
  go_wp2_with fail
  refine (CV _).mono ?_
  rintro e w1 ⟨rfl, hb1⟩
  have s1 : Hid (Kn w1 [(w.heap.size + 1 + 1 + 1, (c8 (qx) (qy))), (w.heap.size + 1 + 1, (c8 (px) (py))), (w.heap.size + 1, (c4 (n))), (w.heap.size, (c4 (m)))]) := s0.out.up hb1
  have b1 : Hid (Below w.heap.size w w1) := b0.out.trans (hb1.mono b0.out.size)
  have z1 := b1.out.size
  clear hb1 s0 b0
  have up_0 : w1.cell? ⟨w.heap.size + 1 + 1, 0, none⟩ = some (.int .u64 (px).a) := Kn.get s1.out 1 0 rfl rfl
  have up_1 : w1.cell? ⟨w.heap.size + 1 + 1, 1, none⟩ = some (.int .u64 (px).b) := Kn.get s1.out 1 1 rfl rfl
  have up_2 : w1.cell? ⟨w.heap.size + 1 + 1, 2, none⟩ = some (.int .u64 (px).c) := Kn.get s1.out 1 2 rfl rfl
  have up_3 : w1.cell? ⟨w.heap.size + 1 + 1, 3, none⟩ = some (.int .u64 (px).d) := Kn.get s1.out 1 3 rfl rfl
  have up_4 : w1.cell? ⟨w.heap.size + 1 + 1, 4, none⟩ = some (.int .u64 (py).a) := Kn.get s1.out 1 4 rfl rfl
  have up_5 : w1.cell? ⟨w.heap.size + 1 + 1, 5, none⟩ = some (.int .u64 (py).b) := Kn.get s1.out 1 5 rfl rfl
  have up_6 : w1.cell? ⟨w.heap.size + 1 + 1, 6, none⟩ = some (.int .u64 (py).c) := Kn.get s1.out 1 6 rfl rfl
  have up_7 : w1.cell? ⟨w.heap.size + 1 + 1, 7, none⟩ = some (.int .u64 (py).d) := Kn.get s1.out 1 7 rfl rfl
  go_wp2_with fail
  clear up_0 up_1 up_2 up_3 up_4 up_5 up_6 up_7
  refine (O1 _).mono ?_
  rintro e w2 ⟨rfl, hb2⟩
  have s2 : Hid (Kn w2 [(w.heap.size + 1 + 1 + 1, (c8 (qx) (qy))), (w.heap.size + 1 + 1, (c8 (px) (py))), (w.heap.size + 1, (c4 (n))), (w.heap.size, (c4 (m)))]) := s1.out.up hb2
  have b2 : Hid (Below w.heap.size w w2) := b1.out.trans (hb2.mono b1.out.size)
  have z2 := b2.out.size
  clear hb2 s1 b1
  have uq_0 : w2.cell? ⟨w.heap.size + 1 + 1 + 1, 0, none⟩ = some (.int .u64 (qx).a) := Kn.get s2.out 0 0 rfl rfl
  have uq_1 : w2.cell? ⟨w.heap.size + 1 + 1 + 1, 1, none⟩ = some (.int .u64 (qx).b) := Kn.get s2.out 0 1 rfl rfl
  have uq_2 : w2.cell? ⟨w.heap.size + 1 + 1 + 1, 2, none⟩ = some (.int .u64 (qx).c) := Kn.get s2.out 0 2 rfl rfl
  have uq_3 : w2.cell? ⟨w.heap.size + 1 + 1 + 1, 3, none⟩ = some (.int .u64 (qx).d) := Kn.get s2.out 0 3 rfl rfl
  have uq_4 : w2.cell? ⟨w.heap.size + 1 + 1 + 1, 4, none⟩ = some (.int .u64 (qy).a) := Kn.get s2.out 0 4 rfl rfl
  have uq_5 : w2.cell? ⟨w.heap.size + 1 + 1 + 1, 5, none⟩ = some (.int .u64 (qy).b) := Kn.get s2.out 0 5 rfl rfl
  have uq_6 : w2.cell? ⟨w.heap.size + 1 + 1 + 1, 6, none⟩ = some (.int .u64 (qy).c) := Kn.get s2.out 0 6 rfl rfl
  have uq_7 : w2.cell? ⟨w.heap.size + 1 + 1 + 1, 7, none⟩ = some (.int .u64 (qy).d) := Kn.get s2.out 0 7 rfl rfl
  go_wp2_with fail
  clear uq_0 uq_1 uq_2 uq_3 uq_4 uq_5 uq_6 uq_7
  refine (O2 _).mono ?_
  rintro e w3 ⟨rfl, hb3⟩
  have s3 : Hid (Kn w3 [(w.heap.size + 1 + 1 + 1, (c8 (qx) (qy))), (w.heap.size + 1 + 1, (c8 (px) (py))), (w.heap.size + 1, (c4 (n))), (w.heap.size, (c4 (m)))]) := s2.out.up hb3
  have b3 : Hid (Below w.heap.size w w3) := b2.out.trans (hb3.mono b2.out.size)
  have z3 := b3.out.size
  clear hb3 s2 b2
  go_wp2_with fail
  go_ret
  exact ⟨rfl, b3.out⟩
set_option maxHeartbeats 4000000 in
theorem curveSums_3 (m n px py qx qy s sx sy ux uy bx by_ cx cy zx zy : Nm) (c : Int) (hc : (c == 0) = false)
    (e1 : ∀ w, (binOp .eql 26 (Wv ux uy) (Wv ux uy)).run Try.prog w = .ok (.bool true) w) (e2 : ∀ w, (binOp .eql 26 (Wv px py) (Wv px py)).run Try.prog w = .ok (.bool true) w) (e3 : ∀ w, (binOp .eql 26 (Wv zx zy) (Wv zx zy)).run Try.prog w = .ok (.bool true) w)
    (CV : ∀ w, Calls Try.prog 30 #[] w fun e w' => e = .returned (.bool true) ∧ Below w.heap.size w w')
    (O1 : ∀ w, Calls Try.prog 12 #[Wv px py] w fun e w' => e = .returned (.bool true) ∧ Below w.heap.size w w')
    (O2 : ∀ w, Calls Try.prog 12 #[Wv qx qy] w fun e w' => e = .returned (.bool true) ∧ Below w.heap.size w w')
    (SA : ∀ w, Calls Try.prog 32 #[N m, N n] w fun e w' => e = .returned (.tuple #[N s, .int .u64 c]) ∧ Below w.heap.size w w')
    (S1 : ∀ w, Calls Try.prog 31 #[Wv px py, Wv qx qy] w fun e w' => e = .returned (Wv sx sy) ∧ Below w.heap.size w w')
    (T1 : ∀ w, Calls Try.prog 33 #[N n, Wv sx sy] w fun e w' => e = .returned (Wv ux uy) ∧ Below w.heap.size w w')
    (T2 : ∀ w, Calls Try.prog 33 #[N n, Wv px py] w fun e w' => e = .returned (Wv bx by_) ∧ Below w.heap.size w w')
    (T3 : ∀ w, Calls Try.prog 33 #[N n, Wv qx qy] w fun e w' => e = .returned (Wv cx cy) ∧ Below w.heap.size w w')
    (S2 : ∀ w, Calls Try.prog 31 #[Wv bx by_, Wv cx cy] w fun e w' => e = .returned (Wv ux uy) ∧ Below w.heap.size w w')
    (T4 : ∀ w, Calls Try.prog 33 #[N ⟨1, 0, 0, 0⟩, Wv px py] w fun e w' => e = .returned (Wv px py) ∧ Below w.heap.size w w')
    (T5 : ∀ w, Calls Try.prog 33 #[N ⟨0, 0, 0, 0⟩, Wv px py] w fun e w' => e = .returned (Wv zx zy) ∧ Below w.heap.size w w')
    (Z0 : ∀ w, Calls Try.prog 13 #[] w fun e w' => e = .returned (Wv zx zy) ∧ Below w.heap.size w w')
    (w : World) :
    Calls Try.prog 8 #[N m, N n, Wv px py, Wv qx qy] w fun e w' => e = .returned (.bool true) ∧ Below w.heap.size w w' := by
  go_enter Try.func8, Try.ntmps8
  have s0 : Hid (Kn (kalP (kalP (kal4 (kal4 w (m)) (n)) (px) (py)) (qx) (qy)) [(w.heap.size + 1 + 1 + 1, (c8 (qx) (qy))), (w.heap.size + 1 + 1, (c8 (px) (py))), (w.heap.size + 1, (c4 (n))), (w.heap.size, (c4 (m)))]) := (((((Kn.nil w).al (c4 (m)) 24 rfl).al (c4 (n)) 24 (by simp)).al (c8 (px) (py)) 26 (by simp)).al (c8 (qx) (qy)) 26 (by simp))
  have b0 : Hid (Below w.heap.size w (kalP (kalP (kal4 (kal4 w (m)) (n)) (px) (py)) (qx) (qy))) := (((((Below.refl _ _).alloc (Nat.le_refl _) _).alloc (by simp <;> omega) _).alloc (by simp <;> omega) _).alloc (by simp <;> omega) _)
  go_wp2_with fail
  refine (CV _).mono ?_
  rintro e w1 ⟨rfl, hb1⟩
  have s1 : Hid (Kn w1 [(w.heap.size + 1 + 1 + 1, (c8 (qx) (qy))), (w.heap.size + 1 + 1, (c8 (px) (py))), (w.heap.size + 1, (c4 (n))), (w.heap.size, (c4 (m)))]) := s0.out.up hb1
  have b1 : Hid (Below w.heap.size w w1) := b0.out.trans (hb1.mono b0.out.size)
  have z1 := b1.out.size
  clear hb1 s0 b0
  have up_0 : w1.cell? ⟨w.heap.size + 1 + 1, 0, none⟩ = some (.int .u64 (px).a) := Kn.get s1.out 1 0 rfl rfl
  have up_1 : w1.cell? ⟨w.heap.size + 1 + 1, 1, none⟩ = some (.int .u64 (px).b) := Kn.get s1.out 1 1 rfl rfl
  have up_2 : w1.cell? ⟨w.heap.size + 1 + 1, 2, none⟩ = some (.int .u64 (px).c) := Kn.get s1.out 1 2 rfl rfl
  have up_3 : w1.cell? ⟨w.heap.size + 1 + 1, 3, none⟩ = some (.int .u64 (px).d) := Kn.get s1.out 1 3 rfl rfl
  have up_4 : w1.cell? ⟨w.heap.size + 1 + 1, 4, none⟩ = some (.int .u64 (py).a) := Kn.get s1.out 1 4 rfl rfl
  have up_5 : w1.cell? ⟨w.heap.size + 1 + 1, 5, none⟩ = some (.int .u64 (py).b) := Kn.get s1.out 1 5 rfl rfl
  have up_6 : w1.cell? ⟨w.heap.size + 1 + 1, 6, none⟩ = some (.int .u64 (py).c) := Kn.get s1.out 1 6 rfl rfl
  have up_7 : w1.cell? ⟨w.heap.size + 1 + 1, 7, none⟩ = some (.int .u64 (py).d) := Kn.get s1.out 1 7 rfl rfl
  go_wp2_with fail
  clear up_0 up_1 up_2 up_3 up_4 up_5 up_6 up_7
  refine (O1 _).mono ?_
  rintro e w2 ⟨rfl, hb2⟩
  have s2 : Hid (Kn w2 [(w.heap.size + 1 + 1 + 1, (c8 (qx) (qy))), (w.heap.size + 1 + 1, (c8 (px) (py))), (w.heap.size + 1, (c4 (n))), (w.heap.size, (c4 (m)))]) := s1.out.up hb2
  have b2 : Hid (Below w.heap.size w w2) := b1.out.trans (hb2.mono b1.out.size)
  have z2 := b2.out.size
  clear hb2 s1 b1
  have uq_0 : w2.cell? ⟨w.heap.size + 1 + 1 + 1, 0, none⟩ = some (.int .u64 (qx).a) := Kn.get s2.out 0 0 rfl rfl
  have uq_1 : w2.cell? ⟨w.heap.size + 1 + 1 + 1, 1, none⟩ = some (.int .u64 (qx).b) := Kn.get s2.out 0 1 rfl rfl
  have uq_2 : w2.cell? ⟨w.heap.size + 1 + 1 + 1, 2, none⟩ = some (.int .u64 (qx).c) := Kn.get s2.out 0 2 rfl rfl
  have uq_3 : w2.cell? ⟨w.heap.size + 1 + 1 + 1, 3, none⟩ = some (.int .u64 (qx).d) := Kn.get s2.out 0 3 rfl rfl
  have uq_4 : w2.cell? ⟨w.heap.size + 1 + 1 + 1, 4, none⟩ = some (.int .u64 (qy).a) := Kn.get s2.out 0 4 rfl rfl
  have uq_5 : w2.cell? ⟨w.heap.size + 1 + 1 + 1, 5, none⟩ = some (.int .u64 (qy).b) := Kn.get s2.out 0 5 rfl rfl
  have uq_6 : w2.cell? ⟨w.heap.size + 1 + 1 + 1, 6, none⟩ = some (.int .u64 (qy).c) := Kn.get s2.out 0 6 rfl rfl
  have uq_7 : w2.cell? ⟨w.heap.size + 1 + 1 + 1, 7, none⟩ = some (.int .u64 (qy).d) := Kn.get s2.out 0 7 rfl rfl
  go_wp2_with fail
  clear uq_0 uq_1 uq_2 uq_3 uq_4 uq_5 uq_6 uq_7
  refine (O2 _).mono ?_
  rintro e w3 ⟨rfl, hb3⟩
  have s3 : Hid (Kn w3 [(w.heap.size + 1 + 1 + 1, (c8 (qx) (qy))), (w.heap.size + 1 + 1, (c8 (px) (py))), (w.heap.size + 1, (c4 (n))), (w.heap.size, (c4 (m)))]) := s2.out.up hb3
  have b3 : Hid (Below w.heap.size w w3) := b2.out.trans (hb3.mono b2.out.size)
  have z3 := b3.out.size
  clear hb3 s2 b2
  have um_0 : w3.cell? ⟨w.heap.size, 0, none⟩ = some (.int .u64 (m).a) := Kn.get s3.out 3 0 rfl rfl
  have um_1 : w3.cell? ⟨w.heap.size, 1, none⟩ = some (.int .u64 (m).b) := Kn.get s3.out 3 1 rfl rfl
  have um_2 : w3.cell? ⟨w.heap.size, 2, none⟩ = some (.int .u64 (m).c) := Kn.get s3.out 3 2 rfl rfl
  have um_3 : w3.cell? ⟨w.heap.size, 3, none⟩ = some (.int .u64 (m).d) := Kn.get s3.out 3 3 rfl rfl
  have un_0 : w3.cell? ⟨w.heap.size + 1, 0, none⟩ = some (.int .u64 (n).a) := Kn.get s3.out 2 0 rfl rfl
  have un_1 : w3.cell? ⟨w.heap.size + 1, 1, none⟩ = some (.int .u64 (n).b) := Kn.get s3.out 2 1 rfl rfl
  have un_2 : w3.cell? ⟨w.heap.size + 1, 2, none⟩ = some (.int .u64 (n).c) := Kn.get s3.out 2 2 rfl rfl
  have un_3 : w3.cell? ⟨w.heap.size + 1, 3, none⟩ = some (.int .u64 (n).d) := Kn.get s3.out 2 3 rfl rfl
  go_wp2_with fail
  clear um_0 um_1 um_2 um_3 un_0 un_1 un_2 un_3
  refine (SA _).mono ?_
  rintro e w4 ⟨rfl, hb4⟩
  have s4 : Hid (Kn w4 [(w.heap.size + 1 + 1 + 1, (c8 (qx) (qy))), (w.heap.size + 1 + 1, (c8 (px) (py))), (w.heap.size + 1, (c4 (n))), (w.heap.size, (c4 (m)))]) := s3.out.up hb4
  have b4 : Hid (Below w.heap.size w w4) := b3.out.trans (hb4.mono b3.out.size)
  have z4 := b4.out.size
  clear hb4 s3 b3
  have s5 : Hid (Kn (kal4 w4 (s)) [(w4.heap.size, (c4 (s))), (w.heap.size + 1 + 1 + 1, (c8 (qx) (qy))), (w.heap.size + 1 + 1, (c8 (px) (py))), (w.heap.size + 1, (c4 (n))), (w.heap.size, (c4 (m)))]) := s4.out.al (c4 (s)) 24 rfl
  have b5 : Hid (Below w.heap.size w (kal4 w4 (s))) := b4.out.alloc b4.out.size _
  have z5 := b4.out.size
  clear s4 b4
  go_wp2_with fail
  refine wp_region_up (by kernel_rfl) (by kernel_rfl) (fun U hU f hf hcl => ?_)
  try simp only [List.append_eq, List.cons_append, List.nil_append]
  repeat (go_big_quiet_step (first | fail))
  refine wpQuiet_nil ?_
  intro nx
  have hb6 := (hf nx).out
  clear hf hcl
  generalize f nx = w6 at hb6 ⊢
  have s6 : Hid (Kn w6 [(w4.heap.size, (c4 (s))), (w.heap.size + 1 + 1 + 1, (c8 (qx) (qy))), (w.heap.size + 1 + 1, (c8 (px) (py))), (w.heap.size + 1, (c4 (n))), (w.heap.size, (c4 (m)))]) := s5.out.up hb6
  have b6 : Hid (Below w.heap.size w w6) := b5.out.trans (hb6.mono b5.out.size)
  have z6 := b6.out.size
  clear hb6 s5 b5
  go_wp2_with fail
  refine wp_region_up (by kernel_rfl) (by kernel_rfl) (fun U hU f hf hcl => ?_)
  have un_0 := fun nx => (Kn.get (s6.out.up (hf nx).out) 3 0 rfl rfl : (f nx).cell? ⟨w.heap.size + 1, 0, none⟩ = some (.int .u64 (n).a))
  have un_1 := fun nx => (Kn.get (s6.out.up (hf nx).out) 3 1 rfl rfl : (f nx).cell? ⟨w.heap.size + 1, 1, none⟩ = some (.int .u64 (n).b))
  have un_2 := fun nx => (Kn.get (s6.out.up (hf nx).out) 3 2 rfl rfl : (f nx).cell? ⟨w.heap.size + 1, 2, none⟩ = some (.int .u64 (n).c))
  have un_3 := fun nx => (Kn.get (s6.out.up (hf nx).out) 3 3 rfl rfl : (f nx).cell? ⟨w.heap.size + 1, 3, none⟩ = some (.int .u64 (n).d))
  have up_0 := fun nx => (Kn.get (s6.out.up (hf nx).out) 2 0 rfl rfl : (f nx).cell? ⟨w.heap.size + 1 + 1, 0, none⟩ = some (.int .u64 (px).a))
  have up_1 := fun nx => (Kn.get (s6.out.up (hf nx).out) 2 1 rfl rfl : (f nx).cell? ⟨w.heap.size + 1 + 1, 1, none⟩ = some (.int .u64 (px).b))
  have up_2 := fun nx => (Kn.get (s6.out.up (hf nx).out) 2 2 rfl rfl : (f nx).cell? ⟨w.heap.size + 1 + 1, 2, none⟩ = some (.int .u64 (px).c))
  have up_3 := fun nx => (Kn.get (s6.out.up (hf nx).out) 2 3 rfl rfl : (f nx).cell? ⟨w.heap.size + 1 + 1, 3, none⟩ = some (.int .u64 (px).d))
  have up_4 := fun nx => (Kn.get (s6.out.up (hf nx).out) 2 4 rfl rfl : (f nx).cell? ⟨w.heap.size + 1 + 1, 4, none⟩ = some (.int .u64 (py).a))
  have up_5 := fun nx => (Kn.get (s6.out.up (hf nx).out) 2 5 rfl rfl : (f nx).cell? ⟨w.heap.size + 1 + 1, 5, none⟩ = some (.int .u64 (py).b))
  have up_6 := fun nx => (Kn.get (s6.out.up (hf nx).out) 2 6 rfl rfl : (f nx).cell? ⟨w.heap.size + 1 + 1, 6, none⟩ = some (.int .u64 (py).c))
  have up_7 := fun nx => (Kn.get (s6.out.up (hf nx).out) 2 7 rfl rfl : (f nx).cell? ⟨w.heap.size + 1 + 1, 7, none⟩ = some (.int .u64 (py).d))
  have uq_0 := fun nx => (Kn.get (s6.out.up (hf nx).out) 1 0 rfl rfl : (f nx).cell? ⟨w.heap.size + 1 + 1 + 1, 0, none⟩ = some (.int .u64 (qx).a))
  have uq_1 := fun nx => (Kn.get (s6.out.up (hf nx).out) 1 1 rfl rfl : (f nx).cell? ⟨w.heap.size + 1 + 1 + 1, 1, none⟩ = some (.int .u64 (qx).b))
  have uq_2 := fun nx => (Kn.get (s6.out.up (hf nx).out) 1 2 rfl rfl : (f nx).cell? ⟨w.heap.size + 1 + 1 + 1, 2, none⟩ = some (.int .u64 (qx).c))
  have uq_3 := fun nx => (Kn.get (s6.out.up (hf nx).out) 1 3 rfl rfl : (f nx).cell? ⟨w.heap.size + 1 + 1 + 1, 3, none⟩ = some (.int .u64 (qx).d))
  have uq_4 := fun nx => (Kn.get (s6.out.up (hf nx).out) 1 4 rfl rfl : (f nx).cell? ⟨w.heap.size + 1 + 1 + 1, 4, none⟩ = some (.int .u64 (qy).a))
  have uq_5 := fun nx => (Kn.get (s6.out.up (hf nx).out) 1 5 rfl rfl : (f nx).cell? ⟨w.heap.size + 1 + 1 + 1, 5, none⟩ = some (.int .u64 (qy).b))
  have uq_6 := fun nx => (Kn.get (s6.out.up (hf nx).out) 1 6 rfl rfl : (f nx).cell? ⟨w.heap.size + 1 + 1 + 1, 6, none⟩ = some (.int .u64 (qy).c))
  have uq_7 := fun nx => (Kn.get (s6.out.up (hf nx).out) 1 7 rfl rfl : (f nx).cell? ⟨w.heap.size + 1 + 1 + 1, 7, none⟩ = some (.int .u64 (qy).d))
  try simp only [List.append_eq, List.cons_append, List.nil_append]
  repeat (go_big_quiet_step (first | (go_at_call_of 31 [Value.agg #[Value.int IntKind.u64 px.a, Value.int IntKind.u64 px.b, Value.int IntKind.u64 px.c, Value.int IntKind.u64 px.d, Value.int IntKind.u64 py.a, Value.int IntKind.u64 py.b, Value.int IntKind.u64 py.c, Value.int IntKind.u64 py.d], Value.agg #[Value.int IntKind.u64 qx.a, Value.int IntKind.u64 qx.b, Value.int IntKind.u64 qx.c, Value.int IntKind.u64 qx.d, Value.int IntKind.u64 qy.a, Value.int IntKind.u64 qy.b, Value.int IntKind.u64 qy.c, Value.int IntKind.u64 qy.d]]; exact (S1 _).mono fun e w'' ⟨he, hb⟩ => ⟨he, hcl.out _ _ hb⟩) | (go_at_call_of 33 [Value.agg #[Value.int IntKind.u64 n.a, Value.int IntKind.u64 n.b, Value.int IntKind.u64 n.c, Value.int IntKind.u64 n.d], Wv sx sy]; exact (T1 _).mono fun e w'' ⟨he, hb⟩ => ⟨he, hcl.out _ _ hb⟩) | (go_at_call_of 33 [Value.agg #[Value.int IntKind.u64 n.a, Value.int IntKind.u64 n.b, Value.int IntKind.u64 n.c, Value.int IntKind.u64 n.d], Value.agg #[Value.int IntKind.u64 px.a, Value.int IntKind.u64 px.b, Value.int IntKind.u64 px.c, Value.int IntKind.u64 px.d, Value.int IntKind.u64 py.a, Value.int IntKind.u64 py.b, Value.int IntKind.u64 py.c, Value.int IntKind.u64 py.d]]; exact (T2 _).mono fun e w'' ⟨he, hb⟩ => ⟨he, hcl.out _ _ hb⟩) | (go_at_call_of 33 [Value.agg #[Value.int IntKind.u64 n.a, Value.int IntKind.u64 n.b, Value.int IntKind.u64 n.c, Value.int IntKind.u64 n.d], Value.agg #[Value.int IntKind.u64 qx.a, Value.int IntKind.u64 qx.b, Value.int IntKind.u64 qx.c, Value.int IntKind.u64 qx.d, Value.int IntKind.u64 qy.a, Value.int IntKind.u64 qy.b, Value.int IntKind.u64 qy.c, Value.int IntKind.u64 qy.d]]; exact (T3 _).mono fun e w'' ⟨he, hb⟩ => ⟨he, hcl.out _ _ hb⟩) | (go_at_call_of 31 [Wv bx by_, Wv cx cy]; exact (S2 _).mono fun e w'' ⟨he, hb⟩ => ⟨he, hcl.out _ _ hb⟩) | (go_at_call_of 33 [Value.agg #[Value.int IntKind.u64 1, Value.int IntKind.u64 0, Value.int IntKind.u64 0, Value.int IntKind.u64 0], Value.agg #[Value.int IntKind.u64 px.a, Value.int IntKind.u64 px.b, Value.int IntKind.u64 px.c, Value.int IntKind.u64 px.d, Value.int IntKind.u64 py.a, Value.int IntKind.u64 py.b, Value.int IntKind.u64 py.c, Value.int IntKind.u64 py.d]]; exact (T4 _).mono fun e w'' ⟨he, hb⟩ => ⟨he, hcl.out _ _ hb⟩) | (go_at_call_of 33 [Value.agg #[Value.int IntKind.u64 0, Value.int IntKind.u64 0, Value.int IntKind.u64 0, Value.int IntKind.u64 0], Value.agg #[Value.int IntKind.u64 px.a, Value.int IntKind.u64 px.b, Value.int IntKind.u64 px.c, Value.int IntKind.u64 px.d, Value.int IntKind.u64 py.a, Value.int IntKind.u64 py.b, Value.int IntKind.u64 py.c, Value.int IntKind.u64 py.d]]; exact (T5 _).mono fun e w'' ⟨he, hb⟩ => ⟨he, hcl.out _ _ hb⟩) | (go_at_call 13; exact (Z0 _).mono fun e w'' ⟨he, hb⟩ => ⟨he, hcl.out _ _ hb⟩)))
  refine wpQuiet_nil ?_
  intro nx
  have hb7 := (hf nx).out
  clear hf hcl un_0 un_1 un_2 un_3 up_0 up_1 up_2 up_3 up_4 up_5 up_6 up_7 uq_0 uq_1 uq_2 uq_3 uq_4 uq_5 uq_6 uq_7
  generalize f nx = w7 at hb7 ⊢
  have s7 : Hid (Kn w7 [(w4.heap.size, (c4 (s))), (w.heap.size + 1 + 1 + 1, (c8 (qx) (qy))), (w.heap.size + 1 + 1, (c8 (px) (py))), (w.heap.size + 1, (c4 (n))), (w.heap.size, (c4 (m)))]) := s6.out.up hb7
  have b7 : Hid (Below w.heap.size w w7) := b6.out.trans (hb7.mono b6.out.size)
  have z7 := b7.out.size
  clear hb7 s6 b6
  go_wp2_with fail
  go_ret
  exact ⟨rfl, b7.out⟩
set_option maxHeartbeats 4000000 in
theorem curveSums_4 (m n px py qx qy s sx sy ux uy ax ay bx by_ cx cy gx gy zx zy : Nm) 
    (e1 : ∀ w, (binOp .eql 26 (Wv ux uy) (Wv ux uy)).run Try.prog w = .ok (.bool true) w) (e2 : ∀ w, (binOp .eql 26 (Wv px py) (Wv px py)).run Try.prog w = .ok (.bool true) w) (e3 : ∀ w, (binOp .eql 26 (Wv zx zy) (Wv zx zy)).run Try.prog w = .ok (.bool true) w) (e4 : ∀ w, (binOp .neq 26 (Wv gx gy) (Wv gx gy)).run Try.prog w = .ok (.bool false) w)
    (CV : ∀ w, Calls Try.prog 30 #[] w fun e w' => e = .returned (.bool true) ∧ Below w.heap.size w w')
    (O1 : ∀ w, Calls Try.prog 12 #[Wv px py] w fun e w' => e = .returned (.bool true) ∧ Below w.heap.size w w')
    (O2 : ∀ w, Calls Try.prog 12 #[Wv qx qy] w fun e w' => e = .returned (.bool true) ∧ Below w.heap.size w w')
    (SA : ∀ w, Calls Try.prog 32 #[N m, N n] w fun e w' => e = .returned (.tuple #[N s, .int .u64 0]) ∧ Below w.heap.size w w')
    (T6 : ∀ w, Calls Try.prog 33 #[N s, Wv px py] w fun e w' => e = .returned (Wv gx gy) ∧ Below w.heap.size w w')
    (T7 : ∀ w, Calls Try.prog 33 #[N m, Wv px py] w fun e w' => e = .returned (Wv ax ay) ∧ Below w.heap.size w w')
    (S3 : ∀ w, Calls Try.prog 31 #[Wv ax ay, Wv bx by_] w fun e w' => e = .returned (Wv gx gy) ∧ Below w.heap.size w w')
    (S1 : ∀ w, Calls Try.prog 31 #[Wv px py, Wv qx qy] w fun e w' => e = .returned (Wv sx sy) ∧ Below w.heap.size w w')
    (T1 : ∀ w, Calls Try.prog 33 #[N n, Wv sx sy] w fun e w' => e = .returned (Wv ux uy) ∧ Below w.heap.size w w')
    (T2 : ∀ w, Calls Try.prog 33 #[N n, Wv px py] w fun e w' => e = .returned (Wv bx by_) ∧ Below w.heap.size w w')
    (T3 : ∀ w, Calls Try.prog 33 #[N n, Wv qx qy] w fun e w' => e = .returned (Wv cx cy) ∧ Below w.heap.size w w')
    (S2 : ∀ w, Calls Try.prog 31 #[Wv bx by_, Wv cx cy] w fun e w' => e = .returned (Wv ux uy) ∧ Below w.heap.size w w')
    (T4 : ∀ w, Calls Try.prog 33 #[N ⟨1, 0, 0, 0⟩, Wv px py] w fun e w' => e = .returned (Wv px py) ∧ Below w.heap.size w w')
    (T5 : ∀ w, Calls Try.prog 33 #[N ⟨0, 0, 0, 0⟩, Wv px py] w fun e w' => e = .returned (Wv zx zy) ∧ Below w.heap.size w w')
    (Z0 : ∀ w, Calls Try.prog 13 #[] w fun e w' => e = .returned (Wv zx zy) ∧ Below w.heap.size w w')
    (w : World) :
    Calls Try.prog 8 #[N m, N n, Wv px py, Wv qx qy] w fun e w' => e = .returned (.bool true) ∧ Below w.heap.size w w' := by
  go_enter Try.func8, Try.ntmps8
  have s0 : Hid (Kn (kalP (kalP (kal4 (kal4 w (m)) (n)) (px) (py)) (qx) (qy)) [(w.heap.size + 1 + 1 + 1, (c8 (qx) (qy))), (w.heap.size + 1 + 1, (c8 (px) (py))), (w.heap.size + 1, (c4 (n))), (w.heap.size, (c4 (m)))]) := (((((Kn.nil w).al (c4 (m)) 24 rfl).al (c4 (n)) 24 (by simp)).al (c8 (px) (py)) 26 (by simp)).al (c8 (qx) (qy)) 26 (by simp))
  have b0 : Hid (Below w.heap.size w (kalP (kalP (kal4 (kal4 w (m)) (n)) (px) (py)) (qx) (qy))) := (((((Below.refl _ _).alloc (Nat.le_refl _) _).alloc (by simp <;> omega) _).alloc (by simp <;> omega) _).alloc (by simp <;> omega) _)
  go_wp2_with fail
  refine (CV _).mono ?_
  rintro e w1 ⟨rfl, hb1⟩
  have s1 : Hid (Kn w1 [(w.heap.size + 1 + 1 + 1, (c8 (qx) (qy))), (w.heap.size + 1 + 1, (c8 (px) (py))), (w.heap.size + 1, (c4 (n))), (w.heap.size, (c4 (m)))]) := s0.out.up hb1
  have b1 : Hid (Below w.heap.size w w1) := b0.out.trans (hb1.mono b0.out.size)
  have z1 := b1.out.size
  clear hb1 s0 b0
  have up_0 : w1.cell? ⟨w.heap.size + 1 + 1, 0, none⟩ = some (.int .u64 (px).a) := Kn.get s1.out 1 0 rfl rfl
  have up_1 : w1.cell? ⟨w.heap.size + 1 + 1, 1, none⟩ = some (.int .u64 (px).b) := Kn.get s1.out 1 1 rfl rfl
  have up_2 : w1.cell? ⟨w.heap.size + 1 + 1, 2, none⟩ = some (.int .u64 (px).c) := Kn.get s1.out 1 2 rfl rfl
  have up_3 : w1.cell? ⟨w.heap.size + 1 + 1, 3, none⟩ = some (.int .u64 (px).d) := Kn.get s1.out 1 3 rfl rfl
  have up_4 : w1.cell? ⟨w.heap.size + 1 + 1, 4, none⟩ = some (.int .u64 (py).a) := Kn.get s1.out 1 4 rfl rfl
  have up_5 : w1.cell? ⟨w.heap.size + 1 + 1, 5, none⟩ = some (.int .u64 (py).b) := Kn.get s1.out 1 5 rfl rfl
  have up_6 : w1.cell? ⟨w.heap.size + 1 + 1, 6, none⟩ = some (.int .u64 (py).c) := Kn.get s1.out 1 6 rfl rfl
  have up_7 : w1.cell? ⟨w.heap.size + 1 + 1, 7, none⟩ = some (.int .u64 (py).d) := Kn.get s1.out 1 7 rfl rfl
  go_wp2_with fail
  clear up_0 up_1 up_2 up_3 up_4 up_5 up_6 up_7
  refine (O1 _).mono ?_
  rintro e w2 ⟨rfl, hb2⟩
  have s2 : Hid (Kn w2 [(w.heap.size + 1 + 1 + 1, (c8 (qx) (qy))), (w.heap.size + 1 + 1, (c8 (px) (py))), (w.heap.size + 1, (c4 (n))), (w.heap.size, (c4 (m)))]) := s1.out.up hb2
  have b2 : Hid (Below w.heap.size w w2) := b1.out.trans (hb2.mono b1.out.size)
  have z2 := b2.out.size
  clear hb2 s1 b1
  have uq_0 : w2.cell? ⟨w.heap.size + 1 + 1 + 1, 0, none⟩ = some (.int .u64 (qx).a) := Kn.get s2.out 0 0 rfl rfl
  have uq_1 : w2.cell? ⟨w.heap.size + 1 + 1 + 1, 1, none⟩ = some (.int .u64 (qx).b) := Kn.get s2.out 0 1 rfl rfl
  have uq_2 : w2.cell? ⟨w.heap.size + 1 + 1 + 1, 2, none⟩ = some (.int .u64 (qx).c) := Kn.get s2.out 0 2 rfl rfl
  have uq_3 : w2.cell? ⟨w.heap.size + 1 + 1 + 1, 3, none⟩ = some (.int .u64 (qx).d) := Kn.get s2.out 0 3 rfl rfl
  have uq_4 : w2.cell? ⟨w.heap.size + 1 + 1 + 1, 4, none⟩ = some (.int .u64 (qy).a) := Kn.get s2.out 0 4 rfl rfl
  have uq_5 : w2.cell? ⟨w.heap.size + 1 + 1 + 1, 5, none⟩ = some (.int .u64 (qy).b) := Kn.get s2.out 0 5 rfl rfl
  have uq_6 : w2.cell? ⟨w.heap.size + 1 + 1 + 1, 6, none⟩ = some (.int .u64 (qy).c) := Kn.get s2.out 0 6 rfl rfl
  have uq_7 : w2.cell? ⟨w.heap.size + 1 + 1 + 1, 7, none⟩ = some (.int .u64 (qy).d) := Kn.get s2.out 0 7 rfl rfl
  go_wp2_with fail
  clear uq_0 uq_1 uq_2 uq_3 uq_4 uq_5 uq_6 uq_7
  refine (O2 _).mono ?_
  rintro e w3 ⟨rfl, hb3⟩
  have s3 : Hid (Kn w3 [(w.heap.size + 1 + 1 + 1, (c8 (qx) (qy))), (w.heap.size + 1 + 1, (c8 (px) (py))), (w.heap.size + 1, (c4 (n))), (w.heap.size, (c4 (m)))]) := s2.out.up hb3
  have b3 : Hid (Below w.heap.size w w3) := b2.out.trans (hb3.mono b2.out.size)
  have z3 := b3.out.size
  clear hb3 s2 b2
  have um_0 : w3.cell? ⟨w.heap.size, 0, none⟩ = some (.int .u64 (m).a) := Kn.get s3.out 3 0 rfl rfl
  have um_1 : w3.cell? ⟨w.heap.size, 1, none⟩ = some (.int .u64 (m).b) := Kn.get s3.out 3 1 rfl rfl
  have um_2 : w3.cell? ⟨w.heap.size, 2, none⟩ = some (.int .u64 (m).c) := Kn.get s3.out 3 2 rfl rfl
  have um_3 : w3.cell? ⟨w.heap.size, 3, none⟩ = some (.int .u64 (m).d) := Kn.get s3.out 3 3 rfl rfl
  have un_0 : w3.cell? ⟨w.heap.size + 1, 0, none⟩ = some (.int .u64 (n).a) := Kn.get s3.out 2 0 rfl rfl
  have un_1 : w3.cell? ⟨w.heap.size + 1, 1, none⟩ = some (.int .u64 (n).b) := Kn.get s3.out 2 1 rfl rfl
  have un_2 : w3.cell? ⟨w.heap.size + 1, 2, none⟩ = some (.int .u64 (n).c) := Kn.get s3.out 2 2 rfl rfl
  have un_3 : w3.cell? ⟨w.heap.size + 1, 3, none⟩ = some (.int .u64 (n).d) := Kn.get s3.out 2 3 rfl rfl
  go_wp2_with fail
  clear um_0 um_1 um_2 um_3 un_0 un_1 un_2 un_3
  refine (SA _).mono ?_
  rintro e w4 ⟨rfl, hb4⟩
  have s4 : Hid (Kn w4 [(w.heap.size + 1 + 1 + 1, (c8 (qx) (qy))), (w.heap.size + 1 + 1, (c8 (px) (py))), (w.heap.size + 1, (c4 (n))), (w.heap.size, (c4 (m)))]) := s3.out.up hb4
  have b4 : Hid (Below w.heap.size w w4) := b3.out.trans (hb4.mono b3.out.size)
  have z4 := b4.out.size
  clear hb4 s3 b3
  have s5 : Hid (Kn (kal4 w4 (s)) [(w4.heap.size, (c4 (s))), (w.heap.size + 1 + 1 + 1, (c8 (qx) (qy))), (w.heap.size + 1 + 1, (c8 (px) (py))), (w.heap.size + 1, (c4 (n))), (w.heap.size, (c4 (m)))]) := s4.out.al (c4 (s)) 24 rfl
  have b5 : Hid (Below w.heap.size w (kal4 w4 (s))) := b4.out.alloc b4.out.size _
  have z5 := b4.out.size
  clear s4 b4
  go_wp2_with fail
  refine wp_region_up (by kernel_rfl) (by kernel_rfl) (fun U hU f hf hcl => ?_)
  have us_0 := fun nx => (Kn.get (s5.out.up (hf nx).out) 0 0 rfl rfl : (f nx).cell? ⟨w4.heap.size, 0, none⟩ = some (.int .u64 (s).a))
  have us_1 := fun nx => (Kn.get (s5.out.up (hf nx).out) 0 1 rfl rfl : (f nx).cell? ⟨w4.heap.size, 1, none⟩ = some (.int .u64 (s).b))
  have us_2 := fun nx => (Kn.get (s5.out.up (hf nx).out) 0 2 rfl rfl : (f nx).cell? ⟨w4.heap.size, 2, none⟩ = some (.int .u64 (s).c))
  have us_3 := fun nx => (Kn.get (s5.out.up (hf nx).out) 0 3 rfl rfl : (f nx).cell? ⟨w4.heap.size, 3, none⟩ = some (.int .u64 (s).d))
  have um_0 := fun nx => (Kn.get (s5.out.up (hf nx).out) 4 0 rfl rfl : (f nx).cell? ⟨w.heap.size, 0, none⟩ = some (.int .u64 (m).a))
  have um_1 := fun nx => (Kn.get (s5.out.up (hf nx).out) 4 1 rfl rfl : (f nx).cell? ⟨w.heap.size, 1, none⟩ = some (.int .u64 (m).b))
  have um_2 := fun nx => (Kn.get (s5.out.up (hf nx).out) 4 2 rfl rfl : (f nx).cell? ⟨w.heap.size, 2, none⟩ = some (.int .u64 (m).c))
  have um_3 := fun nx => (Kn.get (s5.out.up (hf nx).out) 4 3 rfl rfl : (f nx).cell? ⟨w.heap.size, 3, none⟩ = some (.int .u64 (m).d))
  have un_0 := fun nx => (Kn.get (s5.out.up (hf nx).out) 3 0 rfl rfl : (f nx).cell? ⟨w.heap.size + 1, 0, none⟩ = some (.int .u64 (n).a))
  have un_1 := fun nx => (Kn.get (s5.out.up (hf nx).out) 3 1 rfl rfl : (f nx).cell? ⟨w.heap.size + 1, 1, none⟩ = some (.int .u64 (n).b))
  have un_2 := fun nx => (Kn.get (s5.out.up (hf nx).out) 3 2 rfl rfl : (f nx).cell? ⟨w.heap.size + 1, 2, none⟩ = some (.int .u64 (n).c))
  have un_3 := fun nx => (Kn.get (s5.out.up (hf nx).out) 3 3 rfl rfl : (f nx).cell? ⟨w.heap.size + 1, 3, none⟩ = some (.int .u64 (n).d))
  have up_0 := fun nx => (Kn.get (s5.out.up (hf nx).out) 2 0 rfl rfl : (f nx).cell? ⟨w.heap.size + 1 + 1, 0, none⟩ = some (.int .u64 (px).a))
  have up_1 := fun nx => (Kn.get (s5.out.up (hf nx).out) 2 1 rfl rfl : (f nx).cell? ⟨w.heap.size + 1 + 1, 1, none⟩ = some (.int .u64 (px).b))
  have up_2 := fun nx => (Kn.get (s5.out.up (hf nx).out) 2 2 rfl rfl : (f nx).cell? ⟨w.heap.size + 1 + 1, 2, none⟩ = some (.int .u64 (px).c))
  have up_3 := fun nx => (Kn.get (s5.out.up (hf nx).out) 2 3 rfl rfl : (f nx).cell? ⟨w.heap.size + 1 + 1, 3, none⟩ = some (.int .u64 (px).d))
  have up_4 := fun nx => (Kn.get (s5.out.up (hf nx).out) 2 4 rfl rfl : (f nx).cell? ⟨w.heap.size + 1 + 1, 4, none⟩ = some (.int .u64 (py).a))
  have up_5 := fun nx => (Kn.get (s5.out.up (hf nx).out) 2 5 rfl rfl : (f nx).cell? ⟨w.heap.size + 1 + 1, 5, none⟩ = some (.int .u64 (py).b))
  have up_6 := fun nx => (Kn.get (s5.out.up (hf nx).out) 2 6 rfl rfl : (f nx).cell? ⟨w.heap.size + 1 + 1, 6, none⟩ = some (.int .u64 (py).c))
  have up_7 := fun nx => (Kn.get (s5.out.up (hf nx).out) 2 7 rfl rfl : (f nx).cell? ⟨w.heap.size + 1 + 1, 7, none⟩ = some (.int .u64 (py).d))
  try simp only [List.append_eq, List.cons_append, List.nil_append]
  repeat (go_big_quiet_step (first | (go_at_call_of 33 [Value.agg #[Value.int IntKind.u64 s.a, Value.int IntKind.u64 s.b, Value.int IntKind.u64 s.c, Value.int IntKind.u64 s.d], Value.agg #[Value.int IntKind.u64 px.a, Value.int IntKind.u64 px.b, Value.int IntKind.u64 px.c, Value.int IntKind.u64 px.d, Value.int IntKind.u64 py.a, Value.int IntKind.u64 py.b, Value.int IntKind.u64 py.c, Value.int IntKind.u64 py.d]]; exact (T6 _).mono fun e w'' ⟨he, hb⟩ => ⟨he, hcl.out _ _ hb⟩) | (go_at_call_of 33 [Value.agg #[Value.int IntKind.u64 m.a, Value.int IntKind.u64 m.b, Value.int IntKind.u64 m.c, Value.int IntKind.u64 m.d], Value.agg #[Value.int IntKind.u64 px.a, Value.int IntKind.u64 px.b, Value.int IntKind.u64 px.c, Value.int IntKind.u64 px.d, Value.int IntKind.u64 py.a, Value.int IntKind.u64 py.b, Value.int IntKind.u64 py.c, Value.int IntKind.u64 py.d]]; exact (T7 _).mono fun e w'' ⟨he, hb⟩ => ⟨he, hcl.out _ _ hb⟩) | (go_at_call_of 33 [Value.agg #[Value.int IntKind.u64 n.a, Value.int IntKind.u64 n.b, Value.int IntKind.u64 n.c, Value.int IntKind.u64 n.d], Value.agg #[Value.int IntKind.u64 px.a, Value.int IntKind.u64 px.b, Value.int IntKind.u64 px.c, Value.int IntKind.u64 px.d, Value.int IntKind.u64 py.a, Value.int IntKind.u64 py.b, Value.int IntKind.u64 py.c, Value.int IntKind.u64 py.d]]; exact (T2 _).mono fun e w'' ⟨he, hb⟩ => ⟨he, hcl.out _ _ hb⟩) | (go_at_call_of 31 [Wv ax ay, Wv bx by_]; exact (S3 _).mono fun e w'' ⟨he, hb⟩ => ⟨he, hcl.out _ _ hb⟩)))
  refine wpQuiet_nil ?_
  intro nx
  have hb6 := (hf nx).out
  clear hf hcl us_0 us_1 us_2 us_3 um_0 um_1 um_2 um_3 un_0 un_1 un_2 un_3 up_0 up_1 up_2 up_3 up_4 up_5 up_6 up_7
  generalize f nx = w6 at hb6 ⊢
  have s6 : Hid (Kn w6 [(w4.heap.size, (c4 (s))), (w.heap.size + 1 + 1 + 1, (c8 (qx) (qy))), (w.heap.size + 1 + 1, (c8 (px) (py))), (w.heap.size + 1, (c4 (n))), (w.heap.size, (c4 (m)))]) := s5.out.up hb6
  have b6 : Hid (Below w.heap.size w w6) := b5.out.trans (hb6.mono b5.out.size)
  have z6 := b6.out.size
  clear hb6 s5 b5
  go_wp2_with fail
  refine wp_region_up (by kernel_rfl) (by kernel_rfl) (fun U hU f hf hcl => ?_)
  have un_0 := fun nx => (Kn.get (s6.out.up (hf nx).out) 3 0 rfl rfl : (f nx).cell? ⟨w.heap.size + 1, 0, none⟩ = some (.int .u64 (n).a))
  have un_1 := fun nx => (Kn.get (s6.out.up (hf nx).out) 3 1 rfl rfl : (f nx).cell? ⟨w.heap.size + 1, 1, none⟩ = some (.int .u64 (n).b))
  have un_2 := fun nx => (Kn.get (s6.out.up (hf nx).out) 3 2 rfl rfl : (f nx).cell? ⟨w.heap.size + 1, 2, none⟩ = some (.int .u64 (n).c))
  have un_3 := fun nx => (Kn.get (s6.out.up (hf nx).out) 3 3 rfl rfl : (f nx).cell? ⟨w.heap.size + 1, 3, none⟩ = some (.int .u64 (n).d))
  have up_0 := fun nx => (Kn.get (s6.out.up (hf nx).out) 2 0 rfl rfl : (f nx).cell? ⟨w.heap.size + 1 + 1, 0, none⟩ = some (.int .u64 (px).a))
  have up_1 := fun nx => (Kn.get (s6.out.up (hf nx).out) 2 1 rfl rfl : (f nx).cell? ⟨w.heap.size + 1 + 1, 1, none⟩ = some (.int .u64 (px).b))
  have up_2 := fun nx => (Kn.get (s6.out.up (hf nx).out) 2 2 rfl rfl : (f nx).cell? ⟨w.heap.size + 1 + 1, 2, none⟩ = some (.int .u64 (px).c))
  have up_3 := fun nx => (Kn.get (s6.out.up (hf nx).out) 2 3 rfl rfl : (f nx).cell? ⟨w.heap.size + 1 + 1, 3, none⟩ = some (.int .u64 (px).d))
  have up_4 := fun nx => (Kn.get (s6.out.up (hf nx).out) 2 4 rfl rfl : (f nx).cell? ⟨w.heap.size + 1 + 1, 4, none⟩ = some (.int .u64 (py).a))
  have up_5 := fun nx => (Kn.get (s6.out.up (hf nx).out) 2 5 rfl rfl : (f nx).cell? ⟨w.heap.size + 1 + 1, 5, none⟩ = some (.int .u64 (py).b))
  have up_6 := fun nx => (Kn.get (s6.out.up (hf nx).out) 2 6 rfl rfl : (f nx).cell? ⟨w.heap.size + 1 + 1, 6, none⟩ = some (.int .u64 (py).c))
  have up_7 := fun nx => (Kn.get (s6.out.up (hf nx).out) 2 7 rfl rfl : (f nx).cell? ⟨w.heap.size + 1 + 1, 7, none⟩ = some (.int .u64 (py).d))
  have uq_0 := fun nx => (Kn.get (s6.out.up (hf nx).out) 1 0 rfl rfl : (f nx).cell? ⟨w.heap.size + 1 + 1 + 1, 0, none⟩ = some (.int .u64 (qx).a))
  have uq_1 := fun nx => (Kn.get (s6.out.up (hf nx).out) 1 1 rfl rfl : (f nx).cell? ⟨w.heap.size + 1 + 1 + 1, 1, none⟩ = some (.int .u64 (qx).b))
  have uq_2 := fun nx => (Kn.get (s6.out.up (hf nx).out) 1 2 rfl rfl : (f nx).cell? ⟨w.heap.size + 1 + 1 + 1, 2, none⟩ = some (.int .u64 (qx).c))
  have uq_3 := fun nx => (Kn.get (s6.out.up (hf nx).out) 1 3 rfl rfl : (f nx).cell? ⟨w.heap.size + 1 + 1 + 1, 3, none⟩ = some (.int .u64 (qx).d))
  have uq_4 := fun nx => (Kn.get (s6.out.up (hf nx).out) 1 4 rfl rfl : (f nx).cell? ⟨w.heap.size + 1 + 1 + 1, 4, none⟩ = some (.int .u64 (qy).a))
  have uq_5 := fun nx => (Kn.get (s6.out.up (hf nx).out) 1 5 rfl rfl : (f nx).cell? ⟨w.heap.size + 1 + 1 + 1, 5, none⟩ = some (.int .u64 (qy).b))
  have uq_6 := fun nx => (Kn.get (s6.out.up (hf nx).out) 1 6 rfl rfl : (f nx).cell? ⟨w.heap.size + 1 + 1 + 1, 6, none⟩ = some (.int .u64 (qy).c))
  have uq_7 := fun nx => (Kn.get (s6.out.up (hf nx).out) 1 7 rfl rfl : (f nx).cell? ⟨w.heap.size + 1 + 1 + 1, 7, none⟩ = some (.int .u64 (qy).d))
  try simp only [List.append_eq, List.cons_append, List.nil_append]
  repeat (go_big_quiet_step (first | (go_at_call_of 31 [Value.agg #[Value.int IntKind.u64 px.a, Value.int IntKind.u64 px.b, Value.int IntKind.u64 px.c, Value.int IntKind.u64 px.d, Value.int IntKind.u64 py.a, Value.int IntKind.u64 py.b, Value.int IntKind.u64 py.c, Value.int IntKind.u64 py.d], Value.agg #[Value.int IntKind.u64 qx.a, Value.int IntKind.u64 qx.b, Value.int IntKind.u64 qx.c, Value.int IntKind.u64 qx.d, Value.int IntKind.u64 qy.a, Value.int IntKind.u64 qy.b, Value.int IntKind.u64 qy.c, Value.int IntKind.u64 qy.d]]; exact (S1 _).mono fun e w'' ⟨he, hb⟩ => ⟨he, hcl.out _ _ hb⟩) | (go_at_call_of 33 [Value.agg #[Value.int IntKind.u64 n.a, Value.int IntKind.u64 n.b, Value.int IntKind.u64 n.c, Value.int IntKind.u64 n.d], Wv sx sy]; exact (T1 _).mono fun e w'' ⟨he, hb⟩ => ⟨he, hcl.out _ _ hb⟩) | (go_at_call_of 33 [Value.agg #[Value.int IntKind.u64 n.a, Value.int IntKind.u64 n.b, Value.int IntKind.u64 n.c, Value.int IntKind.u64 n.d], Value.agg #[Value.int IntKind.u64 px.a, Value.int IntKind.u64 px.b, Value.int IntKind.u64 px.c, Value.int IntKind.u64 px.d, Value.int IntKind.u64 py.a, Value.int IntKind.u64 py.b, Value.int IntKind.u64 py.c, Value.int IntKind.u64 py.d]]; exact (T2 _).mono fun e w'' ⟨he, hb⟩ => ⟨he, hcl.out _ _ hb⟩) | (go_at_call_of 33 [Value.agg #[Value.int IntKind.u64 n.a, Value.int IntKind.u64 n.b, Value.int IntKind.u64 n.c, Value.int IntKind.u64 n.d], Value.agg #[Value.int IntKind.u64 qx.a, Value.int IntKind.u64 qx.b, Value.int IntKind.u64 qx.c, Value.int IntKind.u64 qx.d, Value.int IntKind.u64 qy.a, Value.int IntKind.u64 qy.b, Value.int IntKind.u64 qy.c, Value.int IntKind.u64 qy.d]]; exact (T3 _).mono fun e w'' ⟨he, hb⟩ => ⟨he, hcl.out _ _ hb⟩) | (go_at_call_of 31 [Wv bx by_, Wv cx cy]; exact (S2 _).mono fun e w'' ⟨he, hb⟩ => ⟨he, hcl.out _ _ hb⟩) | (go_at_call_of 33 [Value.agg #[Value.int IntKind.u64 1, Value.int IntKind.u64 0, Value.int IntKind.u64 0, Value.int IntKind.u64 0], Value.agg #[Value.int IntKind.u64 px.a, Value.int IntKind.u64 px.b, Value.int IntKind.u64 px.c, Value.int IntKind.u64 px.d, Value.int IntKind.u64 py.a, Value.int IntKind.u64 py.b, Value.int IntKind.u64 py.c, Value.int IntKind.u64 py.d]]; exact (T4 _).mono fun e w'' ⟨he, hb⟩ => ⟨he, hcl.out _ _ hb⟩) | (go_at_call_of 33 [Value.agg #[Value.int IntKind.u64 0, Value.int IntKind.u64 0, Value.int IntKind.u64 0, Value.int IntKind.u64 0], Value.agg #[Value.int IntKind.u64 px.a, Value.int IntKind.u64 px.b, Value.int IntKind.u64 px.c, Value.int IntKind.u64 px.d, Value.int IntKind.u64 py.a, Value.int IntKind.u64 py.b, Value.int IntKind.u64 py.c, Value.int IntKind.u64 py.d]]; exact (T5 _).mono fun e w'' ⟨he, hb⟩ => ⟨he, hcl.out _ _ hb⟩) | (go_at_call 13; exact (Z0 _).mono fun e w'' ⟨he, hb⟩ => ⟨he, hcl.out _ _ hb⟩)))
  refine wpQuiet_nil ?_
  intro nx
  have hb7 := (hf nx).out
  clear hf hcl un_0 un_1 un_2 un_3 up_0 up_1 up_2 up_3 up_4 up_5 up_6 up_7 uq_0 uq_1 uq_2 uq_3 uq_4 uq_5 uq_6 uq_7
  generalize f nx = w7 at hb7 ⊢
  have s7 : Hid (Kn w7 [(w4.heap.size, (c4 (s))), (w.heap.size + 1 + 1 + 1, (c8 (qx) (qy))), (w.heap.size + 1 + 1, (c8 (px) (py))), (w.heap.size + 1, (c4 (n))), (w.heap.size, (c4 (m)))]) := s6.out.up hb7
  have b7 : Hid (Below w.heap.size w w7) := b6.out.trans (hb7.mono b6.out.size)
  have z7 := b7.out.size
  clear hb7 s6 b6
  go_wp2_with fail
  go_ret
  exact ⟨rfl, b7.out⟩
theorem cone_ok : (⟨1, 0, 0, 0⟩ : Nm).ok := by constructor <;> (constructor <;> decide)
theorem cnil_ok : (⟨0, 0, 0, 0⟩ : Nm).ok := by constructor <;> (constructor <;> decide)
theorem nePs (x y : Nm) (w : World) : (binOp .neq 26 (Wv x y) (Wv x y)).run Try.prog w = .ok (.bool false) w := by rw [neP, Nm.beq_self, Nm.beq_self]; rfl
theorem addS_nat {x y : Nm} (ox : x.ok) (oy : y.ok) (c0 : addC x y = 0) : (addS x y).nat = x.nat + y.nat := by
  have e := add_val' (x := x) (y := y)
  rw [c0, Int.mul_zero, Int.add_zero] at e
  have h1 := Nm.nat_cast (addS_ok x y); have h2 := Nm.nat_cast ox; have h3 := Nm.nat_cast oy
  omega
theorem curveSums_of (CO : COnC) (CZ : CZeroC) (CB : CBaseC) (CA : CAddC) (CT : CTimesC) (m n px py qx qy : Nm) (om : m.ok) (on : n.ok) (a1 : px.ok) (a2 : py.ok) (a3 : qx.ok) (a4 : qy.ok) (w : World) :
    Calls Try.prog 8 #[N m, N n, Wv px py, Wv qx qy] w fun e w' => e = .returned (.bool true) ∧ Below w.heap.size w w' := by
  have CV := curves_fun CB CO
  by_cases hP : Cv.On (px.nat, py.nat)
  · have O1 := CO.1 _ hP
    by_cases hQ : Cv.On (qx.nat, qy.nat)
    · have T1 := times_fun CT n on _ (Cv.closed hP hQ)
      have T2 := times_fun CT n on _ hP
      have T3 := times_fun CT n on _ hQ
      have S2 := sum_fun CA _ _ (Cv.times_on hP n.nat) (Cv.times_on hQ n.nat)
      rw [← Cv.times_sum hP hQ] at S2
      have T4 := times_fun CT ⟨1, 0, 0, 0⟩ cone_ok _ hP
      rw [show (⟨1, 0, 0, 0⟩ : Nm).nat = 1 from rfl, Cv.times_one hP] at T4
      have T5 := times_fun CT ⟨0, 0, 0, 0⟩ cnil_ok _ hP
      rw [show (⟨0, 0, 0, 0⟩ : Nm).nat = 0 from rfl, Cv.times] at T5
      rw [pv_of a1 a2, pv_of a3 a4]
      have SA := add_fun m n om on
      by_cases c0 : addC m n = 0
      · rw [c0] at SA
        have T6 := times_fun CT (addS m n) (addS_ok m n) _ hP
        rw [addS_nat om on c0] at T6
        have S3 := sum_fun CA _ _ (Cv.times_on hP m.nat) (Cv.times_on hP n.nat)
        rw [← Cv.times_add hP] at S3
        exact curveSums_4 m n _ _ _ _ _ _ _ _ _ _ _ _ _ _ _ _ _ _ _ (eqP_self _ _) (eqP_self _ _) (eqP_self _ _) (nePs _ _) CV O1 (CO.1 _ hQ) SA T6 (times_fun CT m om _ hP) S3 (sum_fun CA _ _ hP hQ) T1 T2 T3 S2 T4 T5 CZ w
      · exact curveSums_3 m n _ _ _ _ _ _ _ _ _ _ _ _ _ _ _ _ (beq_eq_false_iff_ne.2 c0) (eqP_self _ _) (eqP_self _ _) (eqP_self _ _) CV O1 (CO.1 _ hQ) SA (sum_fun CA _ _ hP hQ) T1 T2 T3 S2 T4 T5 CZ w
    · rw [pv_of a1 a2]
      exact curveSums_2 m n _ _ qx qy CV O1 (CO.2 qx qy a3 a4 hQ) w
  · exact curveSums_1 m n px py qx qy CV (CO.2 px py a1 a2 hP) w
end Go.Proofs.Ytbninaelmbkboaa
