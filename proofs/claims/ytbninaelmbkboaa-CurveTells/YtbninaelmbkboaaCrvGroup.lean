/- CurveGroup, out of what package curve must keep. -/
import Derived.Test.YtbninaelmbkboaaCrvS
import Derived.Test.YtbninaelmbkboaaUpA
namespace Go.Proofs.Ytbninaelmbkboaa
open Go.RowKit
attribute [local go_sem] World.cell?_alloc_some cell_alloc2 cell_alloc3 cell_alloc4 frozen?_alloc_cells frozen_out
set_option linter.unusedSimpArgs false
set_option maxHeartbeats 1000000 in
theorem curveGroup_1 (px py qx qy rx ry : Nm)
    (CV : ∀ w, Calls Try.prog 30 #[] w fun e w' => e = .returned (.bool true) ∧ Below w.heap.size w w')
    (O1 : ∀ w, Calls Try.prog 12 #[Wv px py] w fun e w' => e = .returned (.bool false) ∧ Below w.heap.size w w')
    (w : World) :
    Calls Try.prog 7 #[Wv px py, Wv qx qy, Wv rx ry] w fun e w' => e = .returned (.bool true) ∧ Below w.heap.size w w' := by
  go_enter Try.func7, Try.ntmps7
  have s0 : Hid (Kn (kalP (kalP (kalP w (px) (py)) (qx) (qy)) (rx) (ry)) [(w.heap.size + 1 + 1, (c8 (rx) (ry))), (w.heap.size + 1, (c8 (qx) (qy))), (w.heap.size, (c8 (px) (py)))]) := ((((Kn.nil w).al (c8 (px) (py)) 26 rfl).al (c8 (qx) (qy)) 26 (by simp)).al (c8 (rx) (ry)) 26 (by simp))
  have b0 : Hid (Below w.heap.size w (kalP (kalP (kalP w (px) (py)) (qx) (qy)) (rx) (ry))) := ((((Below.refl _ _).alloc (Nat.le_refl _) _).alloc (by simp <;> omega) _).alloc (by simp <;> omega) _)
  go_wp2_with fail
  refine (CV _).mono ?_
  rintro e w1 ⟨rfl, hb1⟩
  have s1 : Hid (Kn w1 [(w.heap.size + 1 + 1, (c8 (rx) (ry))), (w.heap.size + 1, (c8 (qx) (qy))), (w.heap.size, (c8 (px) (py)))]) := s0.out.up hb1
  have b1 : Hid (Below w.heap.size w w1) := b0.out.trans (hb1.mono b0.out.size)
  have z1 := b1.out.size
  clear hb1 s0 b0
  have up_0 : w1.cell? ⟨w.heap.size, 0, none⟩ = some (.int .u64 (px).a) := Kn.get s1.out 2 0 rfl rfl
  have up_1 : w1.cell? ⟨w.heap.size, 1, none⟩ = some (.int .u64 (px).b) := Kn.get s1.out 2 1 rfl rfl
  have up_2 : w1.cell? ⟨w.heap.size, 2, none⟩ = some (.int .u64 (px).c) := Kn.get s1.out 2 2 rfl rfl
  have up_3 : w1.cell? ⟨w.heap.size, 3, none⟩ = some (.int .u64 (px).d) := Kn.get s1.out 2 3 rfl rfl
  have up_4 : w1.cell? ⟨w.heap.size, 4, none⟩ = some (.int .u64 (py).a) := Kn.get s1.out 2 4 rfl rfl
  have up_5 : w1.cell? ⟨w.heap.size, 5, none⟩ = some (.int .u64 (py).b) := Kn.get s1.out 2 5 rfl rfl
  have up_6 : w1.cell? ⟨w.heap.size, 6, none⟩ = some (.int .u64 (py).c) := Kn.get s1.out 2 6 rfl rfl
  have up_7 : w1.cell? ⟨w.heap.size, 7, none⟩ = some (.int .u64 (py).d) := Kn.get s1.out 2 7 rfl rfl
  go_wp2_with fail
  clear up_0 up_1 up_2 up_3 up_4 up_5 up_6 up_7
  refine (O1 _).mono ?_
  rintro e w2 ⟨rfl, hb2⟩
  have s2 : Hid (Kn w2 [(w.heap.size + 1 + 1, (c8 (rx) (ry))), (w.heap.size + 1, (c8 (qx) (qy))), (w.heap.size, (c8 (px) (py)))]) := s1.out.up hb2
  have b2 : Hid (Below w.heap.size w w2) := b1.out.trans (hb2.mono b1.out.size)
  have z2 := b2.out.size
  clear hb2 s1 b1
  go_wp2_with fail
  go_ret
  exact ⟨rfl, b2.out⟩
set_option maxHeartbeats 1000000 in
theorem curveGroup_2 (px py qx qy rx ry : Nm)
    (CV : ∀ w, Calls Try.prog 30 #[] w fun e w' => e = .returned (.bool true) ∧ Below w.heap.size w w')
    (O1 : ∀ w, Calls Try.prog 12 #[Wv px py] w fun e w' => e = .returned (.bool true) ∧ Below w.heap.size w w')
    (O2 : ∀ w, Calls Try.prog 12 #[Wv qx qy] w fun e w' => e = .returned (.bool false) ∧ Below w.heap.size w w')
    (w : World) :
    Calls Try.prog 7 #[Wv px py, Wv qx qy, Wv rx ry] w fun e w' => e = .returned (.bool true) ∧ Below w.heap.size w w' := by
  go_enter Try.func7, Try.ntmps7
  have s0 : Hid (Kn (kalP (kalP (kalP w (px) (py)) (qx) (qy)) (rx) (ry)) [(w.heap.size + 1 + 1, (c8 (rx) (ry))), (w.heap.size + 1, (c8 (qx) (qy))), (w.heap.size, (c8 (px) (py)))]) := ((((Kn.nil w).al (c8 (px) (py)) 26 rfl).al (c8 (qx) (qy)) 26 (by simp)).al (c8 (rx) (ry)) 26 (by simp))
  have b0 : Hid (Below w.heap.size w (kalP (kalP (kalP w (px) (py)) (qx) (qy)) (rx) (ry))) := ((((Below.refl _ _).alloc (Nat.le_refl _) _).alloc (by simp <;> omega) _).alloc (by simp <;> omega) _)
  go_wp2_with fail
  refine (CV _).mono ?_
  rintro e w1 ⟨rfl, hb1⟩
  have s1 : Hid (Kn w1 [(w.heap.size + 1 + 1, (c8 (rx) (ry))), (w.heap.size + 1, (c8 (qx) (qy))), (w.heap.size, (c8 (px) (py)))]) := s0.out.up hb1
  have b1 : Hid (Below w.heap.size w w1) := b0.out.trans (hb1.mono b0.out.size)
  have z1 := b1.out.size
  clear hb1 s0 b0
  have up_0 : w1.cell? ⟨w.heap.size, 0, none⟩ = some (.int .u64 (px).a) := Kn.get s1.out 2 0 rfl rfl
  have up_1 : w1.cell? ⟨w.heap.size, 1, none⟩ = some (.int .u64 (px).b) := Kn.get s1.out 2 1 rfl rfl
  have up_2 : w1.cell? ⟨w.heap.size, 2, none⟩ = some (.int .u64 (px).c) := Kn.get s1.out 2 2 rfl rfl
  have up_3 : w1.cell? ⟨w.heap.size, 3, none⟩ = some (.int .u64 (px).d) := Kn.get s1.out 2 3 rfl rfl
  have up_4 : w1.cell? ⟨w.heap.size, 4, none⟩ = some (.int .u64 (py).a) := Kn.get s1.out 2 4 rfl rfl
  have up_5 : w1.cell? ⟨w.heap.size, 5, none⟩ = some (.int .u64 (py).b) := Kn.get s1.out 2 5 rfl rfl
  have up_6 : w1.cell? ⟨w.heap.size, 6, none⟩ = some (.int .u64 (py).c) := Kn.get s1.out 2 6 rfl rfl
  have up_7 : w1.cell? ⟨w.heap.size, 7, none⟩ = some (.int .u64 (py).d) := Kn.get s1.out 2 7 rfl rfl
  go_wp2_with fail
  clear up_0 up_1 up_2 up_3 up_4 up_5 up_6 up_7
  refine (O1 _).mono ?_
  rintro e w2 ⟨rfl, hb2⟩
  have s2 : Hid (Kn w2 [(w.heap.size + 1 + 1, (c8 (rx) (ry))), (w.heap.size + 1, (c8 (qx) (qy))), (w.heap.size, (c8 (px) (py)))]) := s1.out.up hb2
  have b2 : Hid (Below w.heap.size w w2) := b1.out.trans (hb2.mono b1.out.size)
  have z2 := b2.out.size
  clear hb2 s1 b1
  have uq_0 : w2.cell? ⟨w.heap.size + 1, 0, none⟩ = some (.int .u64 (qx).a) := Kn.get s2.out 1 0 rfl rfl
  have uq_1 : w2.cell? ⟨w.heap.size + 1, 1, none⟩ = some (.int .u64 (qx).b) := Kn.get s2.out 1 1 rfl rfl
  have uq_2 : w2.cell? ⟨w.heap.size + 1, 2, none⟩ = some (.int .u64 (qx).c) := Kn.get s2.out 1 2 rfl rfl
  have uq_3 : w2.cell? ⟨w.heap.size + 1, 3, none⟩ = some (.int .u64 (qx).d) := Kn.get s2.out 1 3 rfl rfl
  have uq_4 : w2.cell? ⟨w.heap.size + 1, 4, none⟩ = some (.int .u64 (qy).a) := Kn.get s2.out 1 4 rfl rfl
  have uq_5 : w2.cell? ⟨w.heap.size + 1, 5, none⟩ = some (.int .u64 (qy).b) := Kn.get s2.out 1 5 rfl rfl
  have uq_6 : w2.cell? ⟨w.heap.size + 1, 6, none⟩ = some (.int .u64 (qy).c) := Kn.get s2.out 1 6 rfl rfl
  have uq_7 : w2.cell? ⟨w.heap.size + 1, 7, none⟩ = some (.int .u64 (qy).d) := Kn.get s2.out 1 7 rfl rfl
  go_wp2_with fail
  clear uq_0 uq_1 uq_2 uq_3 uq_4 uq_5 uq_6 uq_7
  refine (O2 _).mono ?_
  rintro e w3 ⟨rfl, hb3⟩
  have s3 : Hid (Kn w3 [(w.heap.size + 1 + 1, (c8 (rx) (ry))), (w.heap.size + 1, (c8 (qx) (qy))), (w.heap.size, (c8 (px) (py)))]) := s2.out.up hb3
  have b3 : Hid (Below w.heap.size w w3) := b2.out.trans (hb3.mono b2.out.size)
  have z3 := b3.out.size
  clear hb3 s2 b2
  go_wp2_with fail
  go_ret
  exact ⟨rfl, b3.out⟩
set_option maxHeartbeats 1000000 in
theorem curveGroup_3 (px py qx qy rx ry : Nm)
    (CV : ∀ w, Calls Try.prog 30 #[] w fun e w' => e = .returned (.bool true) ∧ Below w.heap.size w w')
    (O1 : ∀ w, Calls Try.prog 12 #[Wv px py] w fun e w' => e = .returned (.bool true) ∧ Below w.heap.size w w')
    (O2 : ∀ w, Calls Try.prog 12 #[Wv qx qy] w fun e w' => e = .returned (.bool true) ∧ Below w.heap.size w w')
    (O3 : ∀ w, Calls Try.prog 12 #[Wv rx ry] w fun e w' => e = .returned (.bool false) ∧ Below w.heap.size w w')
    (w : World) :
    Calls Try.prog 7 #[Wv px py, Wv qx qy, Wv rx ry] w fun e w' => e = .returned (.bool true) ∧ Below w.heap.size w w' := by
  go_enter Try.func7, Try.ntmps7
  have s0 : Hid (Kn (kalP (kalP (kalP w (px) (py)) (qx) (qy)) (rx) (ry)) [(w.heap.size + 1 + 1, (c8 (rx) (ry))), (w.heap.size + 1, (c8 (qx) (qy))), (w.heap.size, (c8 (px) (py)))]) := ((((Kn.nil w).al (c8 (px) (py)) 26 rfl).al (c8 (qx) (qy)) 26 (by simp)).al (c8 (rx) (ry)) 26 (by simp))
  have b0 : Hid (Below w.heap.size w (kalP (kalP (kalP w (px) (py)) (qx) (qy)) (rx) (ry))) := ((((Below.refl _ _).alloc (Nat.le_refl _) _).alloc (by simp <;> omega) _).alloc (by simp <;> omega) _)
  go_wp2_with fail
  refine (CV _).mono ?_
  rintro e w1 ⟨rfl, hb1⟩
  have s1 : Hid (Kn w1 [(w.heap.size + 1 + 1, (c8 (rx) (ry))), (w.heap.size + 1, (c8 (qx) (qy))), (w.heap.size, (c8 (px) (py)))]) := s0.out.up hb1
  have b1 : Hid (Below w.heap.size w w1) := b0.out.trans (hb1.mono b0.out.size)
  have z1 := b1.out.size
  clear hb1 s0 b0
  have up_0 : w1.cell? ⟨w.heap.size, 0, none⟩ = some (.int .u64 (px).a) := Kn.get s1.out 2 0 rfl rfl
  have up_1 : w1.cell? ⟨w.heap.size, 1, none⟩ = some (.int .u64 (px).b) := Kn.get s1.out 2 1 rfl rfl
  have up_2 : w1.cell? ⟨w.heap.size, 2, none⟩ = some (.int .u64 (px).c) := Kn.get s1.out 2 2 rfl rfl
  have up_3 : w1.cell? ⟨w.heap.size, 3, none⟩ = some (.int .u64 (px).d) := Kn.get s1.out 2 3 rfl rfl
  have up_4 : w1.cell? ⟨w.heap.size, 4, none⟩ = some (.int .u64 (py).a) := Kn.get s1.out 2 4 rfl rfl
  have up_5 : w1.cell? ⟨w.heap.size, 5, none⟩ = some (.int .u64 (py).b) := Kn.get s1.out 2 5 rfl rfl
  have up_6 : w1.cell? ⟨w.heap.size, 6, none⟩ = some (.int .u64 (py).c) := Kn.get s1.out 2 6 rfl rfl
  have up_7 : w1.cell? ⟨w.heap.size, 7, none⟩ = some (.int .u64 (py).d) := Kn.get s1.out 2 7 rfl rfl
  go_wp2_with fail
  clear up_0 up_1 up_2 up_3 up_4 up_5 up_6 up_7
  refine (O1 _).mono ?_
  rintro e w2 ⟨rfl, hb2⟩
  have s2 : Hid (Kn w2 [(w.heap.size + 1 + 1, (c8 (rx) (ry))), (w.heap.size + 1, (c8 (qx) (qy))), (w.heap.size, (c8 (px) (py)))]) := s1.out.up hb2
  have b2 : Hid (Below w.heap.size w w2) := b1.out.trans (hb2.mono b1.out.size)
  have z2 := b2.out.size
  clear hb2 s1 b1
  have uq_0 : w2.cell? ⟨w.heap.size + 1, 0, none⟩ = some (.int .u64 (qx).a) := Kn.get s2.out 1 0 rfl rfl
  have uq_1 : w2.cell? ⟨w.heap.size + 1, 1, none⟩ = some (.int .u64 (qx).b) := Kn.get s2.out 1 1 rfl rfl
  have uq_2 : w2.cell? ⟨w.heap.size + 1, 2, none⟩ = some (.int .u64 (qx).c) := Kn.get s2.out 1 2 rfl rfl
  have uq_3 : w2.cell? ⟨w.heap.size + 1, 3, none⟩ = some (.int .u64 (qx).d) := Kn.get s2.out 1 3 rfl rfl
  have uq_4 : w2.cell? ⟨w.heap.size + 1, 4, none⟩ = some (.int .u64 (qy).a) := Kn.get s2.out 1 4 rfl rfl
  have uq_5 : w2.cell? ⟨w.heap.size + 1, 5, none⟩ = some (.int .u64 (qy).b) := Kn.get s2.out 1 5 rfl rfl
  have uq_6 : w2.cell? ⟨w.heap.size + 1, 6, none⟩ = some (.int .u64 (qy).c) := Kn.get s2.out 1 6 rfl rfl
  have uq_7 : w2.cell? ⟨w.heap.size + 1, 7, none⟩ = some (.int .u64 (qy).d) := Kn.get s2.out 1 7 rfl rfl
  go_wp2_with fail
  clear uq_0 uq_1 uq_2 uq_3 uq_4 uq_5 uq_6 uq_7
  refine (O2 _).mono ?_
  rintro e w3 ⟨rfl, hb3⟩
  have s3 : Hid (Kn w3 [(w.heap.size + 1 + 1, (c8 (rx) (ry))), (w.heap.size + 1, (c8 (qx) (qy))), (w.heap.size, (c8 (px) (py)))]) := s2.out.up hb3
  have b3 : Hid (Below w.heap.size w w3) := b2.out.trans (hb3.mono b2.out.size)
  have z3 := b3.out.size
  clear hb3 s2 b2
  have ur_0 : w3.cell? ⟨w.heap.size + 1 + 1, 0, none⟩ = some (.int .u64 (rx).a) := Kn.get s3.out 0 0 rfl rfl
  have ur_1 : w3.cell? ⟨w.heap.size + 1 + 1, 1, none⟩ = some (.int .u64 (rx).b) := Kn.get s3.out 0 1 rfl rfl
  have ur_2 : w3.cell? ⟨w.heap.size + 1 + 1, 2, none⟩ = some (.int .u64 (rx).c) := Kn.get s3.out 0 2 rfl rfl
  have ur_3 : w3.cell? ⟨w.heap.size + 1 + 1, 3, none⟩ = some (.int .u64 (rx).d) := Kn.get s3.out 0 3 rfl rfl
  have ur_4 : w3.cell? ⟨w.heap.size + 1 + 1, 4, none⟩ = some (.int .u64 (ry).a) := Kn.get s3.out 0 4 rfl rfl
  have ur_5 : w3.cell? ⟨w.heap.size + 1 + 1, 5, none⟩ = some (.int .u64 (ry).b) := Kn.get s3.out 0 5 rfl rfl
  have ur_6 : w3.cell? ⟨w.heap.size + 1 + 1, 6, none⟩ = some (.int .u64 (ry).c) := Kn.get s3.out 0 6 rfl rfl
  have ur_7 : w3.cell? ⟨w.heap.size + 1 + 1, 7, none⟩ = some (.int .u64 (ry).d) := Kn.get s3.out 0 7 rfl rfl
  go_wp2_with fail
  clear ur_0 ur_1 ur_2 ur_3 ur_4 ur_5 ur_6 ur_7
  refine (O3 _).mono ?_
  rintro e w4 ⟨rfl, hb4⟩
  have s4 : Hid (Kn w4 [(w.heap.size + 1 + 1, (c8 (rx) (ry))), (w.heap.size + 1, (c8 (qx) (qy))), (w.heap.size, (c8 (px) (py)))]) := s3.out.up hb4
  have b4 : Hid (Below w.heap.size w w4) := b3.out.trans (hb4.mono b3.out.size)
  have z4 := b4.out.size
  clear hb4 s3 b3
  go_wp2_with fail
  go_ret
  exact ⟨rfl, b4.out⟩
set_option maxHeartbeats 4000000 in
theorem curveGroup_4 (px py qx qy rx ry sx sy tx ty ux uy mx my zx zy : Nm)
    (e1 : ∀ w, (binOp .eql 26 (Wv sx sy) (Wv sx sy)).run Try.prog w = .ok (.bool true) w) (e2 : ∀ w, (binOp .eql 26 (Wv ux uy) (Wv ux uy)).run Try.prog w = .ok (.bool true) w) (e3 : ∀ w, (binOp .eql 26 (Wv px py) (Wv px py)).run Try.prog w = .ok (.bool true) w) (e4 : ∀ w, (binOp .eql 26 (Wv zx zy) (Wv zx zy)).run Try.prog w = .ok (.bool true) w)
    (CV : ∀ w, Calls Try.prog 30 #[] w fun e w' => e = .returned (.bool true) ∧ Below w.heap.size w w')
    (O1 : ∀ w, Calls Try.prog 12 #[Wv px py] w fun e w' => e = .returned (.bool true) ∧ Below w.heap.size w w')
    (O2 : ∀ w, Calls Try.prog 12 #[Wv qx qy] w fun e w' => e = .returned (.bool true) ∧ Below w.heap.size w w')
    (O3 : ∀ w, Calls Try.prog 12 #[Wv rx ry] w fun e w' => e = .returned (.bool true) ∧ Below w.heap.size w w')
    (NG : ∀ w, Calls Try.prog 11 #[Wv px py] w fun e w' => e = .returned (.tuple #[Wv mx my, .int .i64 0]) ∧ Below w.heap.size w w')
    (S1 : ∀ w, Calls Try.prog 31 #[Wv px py, Wv qx qy] w fun e w' => e = .returned (Wv sx sy) ∧ Below w.heap.size w w')
    (S2 : ∀ w, Calls Try.prog 31 #[Wv qx qy, Wv px py] w fun e w' => e = .returned (Wv sx sy) ∧ Below w.heap.size w w')
    (S3 : ∀ w, Calls Try.prog 31 #[Wv sx sy, Wv rx ry] w fun e w' => e = .returned (Wv ux uy) ∧ Below w.heap.size w w')
    (S4 : ∀ w, Calls Try.prog 31 #[Wv qx qy, Wv rx ry] w fun e w' => e = .returned (Wv tx ty) ∧ Below w.heap.size w w')
    (S5 : ∀ w, Calls Try.prog 31 #[Wv px py, Wv tx ty] w fun e w' => e = .returned (Wv ux uy) ∧ Below w.heap.size w w')
    (Z0 : ∀ w, Calls Try.prog 13 #[] w fun e w' => e = .returned (Wv zx zy) ∧ Below w.heap.size w w')
    (S6 : ∀ w, Calls Try.prog 31 #[Wv px py, Wv zx zy] w fun e w' => e = .returned (Wv px py) ∧ Below w.heap.size w w')
    (S7 : ∀ w, Calls Try.prog 31 #[Wv px py, Wv mx my] w fun e w' => e = .returned (Wv zx zy) ∧ Below w.heap.size w w')
    (w : World) :
    Calls Try.prog 7 #[Wv px py, Wv qx qy, Wv rx ry] w fun e w' => e = .returned (.bool true) ∧ Below w.heap.size w w' := by
  go_enter Try.func7, Try.ntmps7
  have s0 : Hid (Kn (kalP (kalP (kalP w (px) (py)) (qx) (qy)) (rx) (ry)) [(w.heap.size + 1 + 1, (c8 (rx) (ry))), (w.heap.size + 1, (c8 (qx) (qy))), (w.heap.size, (c8 (px) (py)))]) := ((((Kn.nil w).al (c8 (px) (py)) 26 rfl).al (c8 (qx) (qy)) 26 (by simp)).al (c8 (rx) (ry)) 26 (by simp))
  have b0 : Hid (Below w.heap.size w (kalP (kalP (kalP w (px) (py)) (qx) (qy)) (rx) (ry))) := ((((Below.refl _ _).alloc (Nat.le_refl _) _).alloc (by simp <;> omega) _).alloc (by simp <;> omega) _)
  go_wp2_with fail
  refine (CV _).mono ?_
  rintro e w1 ⟨rfl, hb1⟩
  have s1 : Hid (Kn w1 [(w.heap.size + 1 + 1, (c8 (rx) (ry))), (w.heap.size + 1, (c8 (qx) (qy))), (w.heap.size, (c8 (px) (py)))]) := s0.out.up hb1
  have b1 : Hid (Below w.heap.size w w1) := b0.out.trans (hb1.mono b0.out.size)
  have z1 := b1.out.size
  clear hb1 s0 b0
  have up_0 : w1.cell? ⟨w.heap.size, 0, none⟩ = some (.int .u64 (px).a) := Kn.get s1.out 2 0 rfl rfl
  have up_1 : w1.cell? ⟨w.heap.size, 1, none⟩ = some (.int .u64 (px).b) := Kn.get s1.out 2 1 rfl rfl
  have up_2 : w1.cell? ⟨w.heap.size, 2, none⟩ = some (.int .u64 (px).c) := Kn.get s1.out 2 2 rfl rfl
  have up_3 : w1.cell? ⟨w.heap.size, 3, none⟩ = some (.int .u64 (px).d) := Kn.get s1.out 2 3 rfl rfl
  have up_4 : w1.cell? ⟨w.heap.size, 4, none⟩ = some (.int .u64 (py).a) := Kn.get s1.out 2 4 rfl rfl
  have up_5 : w1.cell? ⟨w.heap.size, 5, none⟩ = some (.int .u64 (py).b) := Kn.get s1.out 2 5 rfl rfl
  have up_6 : w1.cell? ⟨w.heap.size, 6, none⟩ = some (.int .u64 (py).c) := Kn.get s1.out 2 6 rfl rfl
  have up_7 : w1.cell? ⟨w.heap.size, 7, none⟩ = some (.int .u64 (py).d) := Kn.get s1.out 2 7 rfl rfl
  go_wp2_with fail
  clear up_0 up_1 up_2 up_3 up_4 up_5 up_6 up_7
  refine (O1 _).mono ?_
  rintro e w2 ⟨rfl, hb2⟩
  have s2 : Hid (Kn w2 [(w.heap.size + 1 + 1, (c8 (rx) (ry))), (w.heap.size + 1, (c8 (qx) (qy))), (w.heap.size, (c8 (px) (py)))]) := s1.out.up hb2
  have b2 : Hid (Below w.heap.size w w2) := b1.out.trans (hb2.mono b1.out.size)
  have z2 := b2.out.size
  clear hb2 s1 b1
  have uq_0 : w2.cell? ⟨w.heap.size + 1, 0, none⟩ = some (.int .u64 (qx).a) := Kn.get s2.out 1 0 rfl rfl
  have uq_1 : w2.cell? ⟨w.heap.size + 1, 1, none⟩ = some (.int .u64 (qx).b) := Kn.get s2.out 1 1 rfl rfl
  have uq_2 : w2.cell? ⟨w.heap.size + 1, 2, none⟩ = some (.int .u64 (qx).c) := Kn.get s2.out 1 2 rfl rfl
  have uq_3 : w2.cell? ⟨w.heap.size + 1, 3, none⟩ = some (.int .u64 (qx).d) := Kn.get s2.out 1 3 rfl rfl
  have uq_4 : w2.cell? ⟨w.heap.size + 1, 4, none⟩ = some (.int .u64 (qy).a) := Kn.get s2.out 1 4 rfl rfl
  have uq_5 : w2.cell? ⟨w.heap.size + 1, 5, none⟩ = some (.int .u64 (qy).b) := Kn.get s2.out 1 5 rfl rfl
  have uq_6 : w2.cell? ⟨w.heap.size + 1, 6, none⟩ = some (.int .u64 (qy).c) := Kn.get s2.out 1 6 rfl rfl
  have uq_7 : w2.cell? ⟨w.heap.size + 1, 7, none⟩ = some (.int .u64 (qy).d) := Kn.get s2.out 1 7 rfl rfl
  go_wp2_with fail
  clear uq_0 uq_1 uq_2 uq_3 uq_4 uq_5 uq_6 uq_7
  refine (O2 _).mono ?_
  rintro e w3 ⟨rfl, hb3⟩
  have s3 : Hid (Kn w3 [(w.heap.size + 1 + 1, (c8 (rx) (ry))), (w.heap.size + 1, (c8 (qx) (qy))), (w.heap.size, (c8 (px) (py)))]) := s2.out.up hb3
  have b3 : Hid (Below w.heap.size w w3) := b2.out.trans (hb3.mono b2.out.size)
  have z3 := b3.out.size
  clear hb3 s2 b2
  have ur_0 : w3.cell? ⟨w.heap.size + 1 + 1, 0, none⟩ = some (.int .u64 (rx).a) := Kn.get s3.out 0 0 rfl rfl
  have ur_1 : w3.cell? ⟨w.heap.size + 1 + 1, 1, none⟩ = some (.int .u64 (rx).b) := Kn.get s3.out 0 1 rfl rfl
  have ur_2 : w3.cell? ⟨w.heap.size + 1 + 1, 2, none⟩ = some (.int .u64 (rx).c) := Kn.get s3.out 0 2 rfl rfl
  have ur_3 : w3.cell? ⟨w.heap.size + 1 + 1, 3, none⟩ = some (.int .u64 (rx).d) := Kn.get s3.out 0 3 rfl rfl
  have ur_4 : w3.cell? ⟨w.heap.size + 1 + 1, 4, none⟩ = some (.int .u64 (ry).a) := Kn.get s3.out 0 4 rfl rfl
  have ur_5 : w3.cell? ⟨w.heap.size + 1 + 1, 5, none⟩ = some (.int .u64 (ry).b) := Kn.get s3.out 0 5 rfl rfl
  have ur_6 : w3.cell? ⟨w.heap.size + 1 + 1, 6, none⟩ = some (.int .u64 (ry).c) := Kn.get s3.out 0 6 rfl rfl
  have ur_7 : w3.cell? ⟨w.heap.size + 1 + 1, 7, none⟩ = some (.int .u64 (ry).d) := Kn.get s3.out 0 7 rfl rfl
  go_wp2_with fail
  clear ur_0 ur_1 ur_2 ur_3 ur_4 ur_5 ur_6 ur_7
  refine (O3 _).mono ?_
  rintro e w4 ⟨rfl, hb4⟩
  have s4 : Hid (Kn w4 [(w.heap.size + 1 + 1, (c8 (rx) (ry))), (w.heap.size + 1, (c8 (qx) (qy))), (w.heap.size, (c8 (px) (py)))]) := s3.out.up hb4
  have b4 : Hid (Below w.heap.size w w4) := b3.out.trans (hb4.mono b3.out.size)
  have z4 := b4.out.size
  clear hb4 s3 b3
  have up_0 : w4.cell? ⟨w.heap.size, 0, none⟩ = some (.int .u64 (px).a) := Kn.get s4.out 2 0 rfl rfl
  have up_1 : w4.cell? ⟨w.heap.size, 1, none⟩ = some (.int .u64 (px).b) := Kn.get s4.out 2 1 rfl rfl
  have up_2 : w4.cell? ⟨w.heap.size, 2, none⟩ = some (.int .u64 (px).c) := Kn.get s4.out 2 2 rfl rfl
  have up_3 : w4.cell? ⟨w.heap.size, 3, none⟩ = some (.int .u64 (px).d) := Kn.get s4.out 2 3 rfl rfl
  have up_4 : w4.cell? ⟨w.heap.size, 4, none⟩ = some (.int .u64 (py).a) := Kn.get s4.out 2 4 rfl rfl
  have up_5 : w4.cell? ⟨w.heap.size, 5, none⟩ = some (.int .u64 (py).b) := Kn.get s4.out 2 5 rfl rfl
  have up_6 : w4.cell? ⟨w.heap.size, 6, none⟩ = some (.int .u64 (py).c) := Kn.get s4.out 2 6 rfl rfl
  have up_7 : w4.cell? ⟨w.heap.size, 7, none⟩ = some (.int .u64 (py).d) := Kn.get s4.out 2 7 rfl rfl
  go_wp2_with fail
  clear up_0 up_1 up_2 up_3 up_4 up_5 up_6 up_7
  refine (NG _).mono ?_
  rintro e w5 ⟨rfl, hb5⟩
  have s5 : Hid (Kn w5 [(w.heap.size + 1 + 1, (c8 (rx) (ry))), (w.heap.size + 1, (c8 (qx) (qy))), (w.heap.size, (c8 (px) (py)))]) := s4.out.up hb5
  have b5 : Hid (Below w.heap.size w w5) := b4.out.trans (hb5.mono b4.out.size)
  have z5 := b5.out.size
  clear hb5 s4 b4
  have s6 : Hid (Kn (kalP w5 (mx) (my)) [(w5.heap.size, (c8 (mx) (my))), (w.heap.size + 1 + 1, (c8 (rx) (ry))), (w.heap.size + 1, (c8 (qx) (qy))), (w.heap.size, (c8 (px) (py)))]) := s5.out.al (c8 (mx) (my)) 26 rfl
  have b6 : Hid (Below w.heap.size w (kalP w5 (mx) (my))) := b5.out.alloc b5.out.size _
  have z6 := b5.out.size
  clear s5 b5
  go_wp2_with fail
  refine wp_region_up (by kernel_rfl) (by kernel_rfl) (fun U hU f hf hcl => ?_)
  have up_0 := fun nx => (Kn.get (s6.out.up (hf nx).out) 3 0 rfl rfl : (f nx).cell? ⟨w.heap.size, 0, none⟩ = some (.int .u64 (px).a))
  have up_1 := fun nx => (Kn.get (s6.out.up (hf nx).out) 3 1 rfl rfl : (f nx).cell? ⟨w.heap.size, 1, none⟩ = some (.int .u64 (px).b))
  have up_2 := fun nx => (Kn.get (s6.out.up (hf nx).out) 3 2 rfl rfl : (f nx).cell? ⟨w.heap.size, 2, none⟩ = some (.int .u64 (px).c))
  have up_3 := fun nx => (Kn.get (s6.out.up (hf nx).out) 3 3 rfl rfl : (f nx).cell? ⟨w.heap.size, 3, none⟩ = some (.int .u64 (px).d))
  have up_4 := fun nx => (Kn.get (s6.out.up (hf nx).out) 3 4 rfl rfl : (f nx).cell? ⟨w.heap.size, 4, none⟩ = some (.int .u64 (py).a))
  have up_5 := fun nx => (Kn.get (s6.out.up (hf nx).out) 3 5 rfl rfl : (f nx).cell? ⟨w.heap.size, 5, none⟩ = some (.int .u64 (py).b))
  have up_6 := fun nx => (Kn.get (s6.out.up (hf nx).out) 3 6 rfl rfl : (f nx).cell? ⟨w.heap.size, 6, none⟩ = some (.int .u64 (py).c))
  have up_7 := fun nx => (Kn.get (s6.out.up (hf nx).out) 3 7 rfl rfl : (f nx).cell? ⟨w.heap.size, 7, none⟩ = some (.int .u64 (py).d))
  have uq_0 := fun nx => (Kn.get (s6.out.up (hf nx).out) 2 0 rfl rfl : (f nx).cell? ⟨w.heap.size + 1, 0, none⟩ = some (.int .u64 (qx).a))
  have uq_1 := fun nx => (Kn.get (s6.out.up (hf nx).out) 2 1 rfl rfl : (f nx).cell? ⟨w.heap.size + 1, 1, none⟩ = some (.int .u64 (qx).b))
  have uq_2 := fun nx => (Kn.get (s6.out.up (hf nx).out) 2 2 rfl rfl : (f nx).cell? ⟨w.heap.size + 1, 2, none⟩ = some (.int .u64 (qx).c))
  have uq_3 := fun nx => (Kn.get (s6.out.up (hf nx).out) 2 3 rfl rfl : (f nx).cell? ⟨w.heap.size + 1, 3, none⟩ = some (.int .u64 (qx).d))
  have uq_4 := fun nx => (Kn.get (s6.out.up (hf nx).out) 2 4 rfl rfl : (f nx).cell? ⟨w.heap.size + 1, 4, none⟩ = some (.int .u64 (qy).a))
  have uq_5 := fun nx => (Kn.get (s6.out.up (hf nx).out) 2 5 rfl rfl : (f nx).cell? ⟨w.heap.size + 1, 5, none⟩ = some (.int .u64 (qy).b))
  have uq_6 := fun nx => (Kn.get (s6.out.up (hf nx).out) 2 6 rfl rfl : (f nx).cell? ⟨w.heap.size + 1, 6, none⟩ = some (.int .u64 (qy).c))
  have uq_7 := fun nx => (Kn.get (s6.out.up (hf nx).out) 2 7 rfl rfl : (f nx).cell? ⟨w.heap.size + 1, 7, none⟩ = some (.int .u64 (qy).d))
  have ur_0 := fun nx => (Kn.get (s6.out.up (hf nx).out) 1 0 rfl rfl : (f nx).cell? ⟨w.heap.size + 1 + 1, 0, none⟩ = some (.int .u64 (rx).a))
  have ur_1 := fun nx => (Kn.get (s6.out.up (hf nx).out) 1 1 rfl rfl : (f nx).cell? ⟨w.heap.size + 1 + 1, 1, none⟩ = some (.int .u64 (rx).b))
  have ur_2 := fun nx => (Kn.get (s6.out.up (hf nx).out) 1 2 rfl rfl : (f nx).cell? ⟨w.heap.size + 1 + 1, 2, none⟩ = some (.int .u64 (rx).c))
  have ur_3 := fun nx => (Kn.get (s6.out.up (hf nx).out) 1 3 rfl rfl : (f nx).cell? ⟨w.heap.size + 1 + 1, 3, none⟩ = some (.int .u64 (rx).d))
  have ur_4 := fun nx => (Kn.get (s6.out.up (hf nx).out) 1 4 rfl rfl : (f nx).cell? ⟨w.heap.size + 1 + 1, 4, none⟩ = some (.int .u64 (ry).a))
  have ur_5 := fun nx => (Kn.get (s6.out.up (hf nx).out) 1 5 rfl rfl : (f nx).cell? ⟨w.heap.size + 1 + 1, 5, none⟩ = some (.int .u64 (ry).b))
  have ur_6 := fun nx => (Kn.get (s6.out.up (hf nx).out) 1 6 rfl rfl : (f nx).cell? ⟨w.heap.size + 1 + 1, 6, none⟩ = some (.int .u64 (ry).c))
  have ur_7 := fun nx => (Kn.get (s6.out.up (hf nx).out) 1 7 rfl rfl : (f nx).cell? ⟨w.heap.size + 1 + 1, 7, none⟩ = some (.int .u64 (ry).d))
  have un_0 := fun nx => (Kn.get (s6.out.up (hf nx).out) 0 0 rfl rfl : (f nx).cell? ⟨w5.heap.size, 0, none⟩ = some (.int .u64 (mx).a))
  have un_1 := fun nx => (Kn.get (s6.out.up (hf nx).out) 0 1 rfl rfl : (f nx).cell? ⟨w5.heap.size, 1, none⟩ = some (.int .u64 (mx).b))
  have un_2 := fun nx => (Kn.get (s6.out.up (hf nx).out) 0 2 rfl rfl : (f nx).cell? ⟨w5.heap.size, 2, none⟩ = some (.int .u64 (mx).c))
  have un_3 := fun nx => (Kn.get (s6.out.up (hf nx).out) 0 3 rfl rfl : (f nx).cell? ⟨w5.heap.size, 3, none⟩ = some (.int .u64 (mx).d))
  have un_4 := fun nx => (Kn.get (s6.out.up (hf nx).out) 0 4 rfl rfl : (f nx).cell? ⟨w5.heap.size, 4, none⟩ = some (.int .u64 (my).a))
  have un_5 := fun nx => (Kn.get (s6.out.up (hf nx).out) 0 5 rfl rfl : (f nx).cell? ⟨w5.heap.size, 5, none⟩ = some (.int .u64 (my).b))
  have un_6 := fun nx => (Kn.get (s6.out.up (hf nx).out) 0 6 rfl rfl : (f nx).cell? ⟨w5.heap.size, 6, none⟩ = some (.int .u64 (my).c))
  have un_7 := fun nx => (Kn.get (s6.out.up (hf nx).out) 0 7 rfl rfl : (f nx).cell? ⟨w5.heap.size, 7, none⟩ = some (.int .u64 (my).d))
  try simp only [List.append_eq, List.cons_append, List.nil_append]
  repeat (go_big_quiet_step (first | (go_at_call_of 31 [Value.agg #[Value.int IntKind.u64 px.a, Value.int IntKind.u64 px.b, Value.int IntKind.u64 px.c, Value.int IntKind.u64 px.d, Value.int IntKind.u64 py.a, Value.int IntKind.u64 py.b, Value.int IntKind.u64 py.c, Value.int IntKind.u64 py.d], Value.agg #[Value.int IntKind.u64 qx.a, Value.int IntKind.u64 qx.b, Value.int IntKind.u64 qx.c, Value.int IntKind.u64 qx.d, Value.int IntKind.u64 qy.a, Value.int IntKind.u64 qy.b, Value.int IntKind.u64 qy.c, Value.int IntKind.u64 qy.d]]; exact (S1 _).mono fun e w'' ⟨he, hb⟩ => ⟨he, hcl.out _ _ hb⟩) | (go_at_call_of 31 [Value.agg #[Value.int IntKind.u64 qx.a, Value.int IntKind.u64 qx.b, Value.int IntKind.u64 qx.c, Value.int IntKind.u64 qx.d, Value.int IntKind.u64 qy.a, Value.int IntKind.u64 qy.b, Value.int IntKind.u64 qy.c, Value.int IntKind.u64 qy.d], Value.agg #[Value.int IntKind.u64 px.a, Value.int IntKind.u64 px.b, Value.int IntKind.u64 px.c, Value.int IntKind.u64 px.d, Value.int IntKind.u64 py.a, Value.int IntKind.u64 py.b, Value.int IntKind.u64 py.c, Value.int IntKind.u64 py.d]]; exact (S2 _).mono fun e w'' ⟨he, hb⟩ => ⟨he, hcl.out _ _ hb⟩) | (go_at_call_of 31 [Wv sx sy, Value.agg #[Value.int IntKind.u64 rx.a, Value.int IntKind.u64 rx.b, Value.int IntKind.u64 rx.c, Value.int IntKind.u64 rx.d, Value.int IntKind.u64 ry.a, Value.int IntKind.u64 ry.b, Value.int IntKind.u64 ry.c, Value.int IntKind.u64 ry.d]]; exact (S3 _).mono fun e w'' ⟨he, hb⟩ => ⟨he, hcl.out _ _ hb⟩) | (go_at_call_of 31 [Value.agg #[Value.int IntKind.u64 qx.a, Value.int IntKind.u64 qx.b, Value.int IntKind.u64 qx.c, Value.int IntKind.u64 qx.d, Value.int IntKind.u64 qy.a, Value.int IntKind.u64 qy.b, Value.int IntKind.u64 qy.c, Value.int IntKind.u64 qy.d], Value.agg #[Value.int IntKind.u64 rx.a, Value.int IntKind.u64 rx.b, Value.int IntKind.u64 rx.c, Value.int IntKind.u64 rx.d, Value.int IntKind.u64 ry.a, Value.int IntKind.u64 ry.b, Value.int IntKind.u64 ry.c, Value.int IntKind.u64 ry.d]]; exact (S4 _).mono fun e w'' ⟨he, hb⟩ => ⟨he, hcl.out _ _ hb⟩) | (go_at_call_of 31 [Value.agg #[Value.int IntKind.u64 px.a, Value.int IntKind.u64 px.b, Value.int IntKind.u64 px.c, Value.int IntKind.u64 px.d, Value.int IntKind.u64 py.a, Value.int IntKind.u64 py.b, Value.int IntKind.u64 py.c, Value.int IntKind.u64 py.d], Wv tx ty]; exact (S5 _).mono fun e w'' ⟨he, hb⟩ => ⟨he, hcl.out _ _ hb⟩) | (go_at_call 13; exact (Z0 _).mono fun e w'' ⟨he, hb⟩ => ⟨he, hcl.out _ _ hb⟩) | (go_at_call_of 31 [Value.agg #[Value.int IntKind.u64 px.a, Value.int IntKind.u64 px.b, Value.int IntKind.u64 px.c, Value.int IntKind.u64 px.d, Value.int IntKind.u64 py.a, Value.int IntKind.u64 py.b, Value.int IntKind.u64 py.c, Value.int IntKind.u64 py.d], Wv zx zy]; exact (S6 _).mono fun e w'' ⟨he, hb⟩ => ⟨he, hcl.out _ _ hb⟩) | (go_at_call_of 31 [Value.agg #[Value.int IntKind.u64 px.a, Value.int IntKind.u64 px.b, Value.int IntKind.u64 px.c, Value.int IntKind.u64 px.d, Value.int IntKind.u64 py.a, Value.int IntKind.u64 py.b, Value.int IntKind.u64 py.c, Value.int IntKind.u64 py.d], Value.agg #[Value.int IntKind.u64 mx.a, Value.int IntKind.u64 mx.b, Value.int IntKind.u64 mx.c, Value.int IntKind.u64 mx.d, Value.int IntKind.u64 my.a, Value.int IntKind.u64 my.b, Value.int IntKind.u64 my.c, Value.int IntKind.u64 my.d]]; exact (S7 _).mono fun e w'' ⟨he, hb⟩ => ⟨he, hcl.out _ _ hb⟩)))
  refine wpQuiet_nil ?_
  intro nx
  have hb7 := (hf nx).out
  clear hf hcl up_0 up_1 up_2 up_3 up_4 up_5 up_6 up_7 uq_0 uq_1 uq_2 uq_3 uq_4 uq_5 uq_6 uq_7 ur_0 ur_1 ur_2 ur_3 ur_4 ur_5 ur_6 ur_7 un_0 un_1 un_2 un_3 un_4 un_5 un_6 un_7
  generalize f nx = w7 at hb7 ⊢
  have s7 : Hid (Kn w7 [(w5.heap.size, (c8 (mx) (my))), (w.heap.size + 1 + 1, (c8 (rx) (ry))), (w.heap.size + 1, (c8 (qx) (qy))), (w.heap.size, (c8 (px) (py)))]) := s6.out.up hb7
  have b7 : Hid (Below w.heap.size w w7) := b6.out.trans (hb7.mono b6.out.size)
  have z7 := b7.out.size
  clear hb7 s6 b6
  go_wp2_with fail
  go_ret
  exact ⟨rfl, b7.out⟩
theorem eqP_self (x y : Nm) (w : World) : (binOp .eql 26 (Wv x y) (Wv x y)).run Try.prog w = .ok (.bool true) w := by rw [eqP, Nm.beq_self, Nm.beq_self]; rfl
theorem pv_of {x y : Nm} (ox : x.ok) (oy : y.ok) : Wv x y = pv (x.nat, y.nat) := by
  show Wv x y = Wv (nm x.nat) (nm y.nat)
  rw [← Nm.eq_nm ox rfl, ← Nm.eq_nm oy rfl]
theorem curveGroup_of (CO : COnC) (CZ : CZeroC) (CB : CBaseC) (CN : CNegC) (CA : CAddC) (px py qx qy rx ry : Nm) (a1 : px.ok) (a2 : py.ok) (a3 : qx.ok) (a4 : qy.ok) (a5 : rx.ok) (a6 : ry.ok) (w : World) :
    Calls Try.prog 7 #[Wv px py, Wv qx qy, Wv rx ry] w fun e w' => e = .returned (.bool true) ∧ Below w.heap.size w w' := by
  have CV := curves_fun CB CO
  by_cases hP : Cv.On (px.nat, py.nat)
  · have O1 := CO.1 _ hP
    by_cases hQ : Cv.On (qx.nat, qy.nat)
    · have O2 := CO.1 _ hQ
      by_cases hR : Cv.On (rx.nat, ry.nat)
      · have O3 := CO.1 _ hR
        have S2 := sum_fun CA _ _ hQ hP
        rw [Cv.add_comm hQ hP] at S2
        have S3 := sum_fun CA _ _ (Cv.closed hP hQ) hR
        rw [Cv.add_assoc hP hQ hR] at S3
        have S6 := sum_fun CA _ _ hP Cv.zero_on
        rw [Cv.add_zero hP] at S6
        have S7 := sum_fun CA _ _ hP (Cv.neg_on hP)
        rw [Cv.add_neg hP] at S7
        rw [pv_of a1 a2, pv_of a3 a4, pv_of a5 a6]
        exact curveGroup_4 _ _ _ _ _ _ _ _ _ _ _ _ _ _ _ _ (eqP_self _ _) (eqP_self _ _) (eqP_self _ _) (eqP_self _ _) CV O1 O2 O3 (CN _ hP) (sum_fun CA _ _ hP hQ) S2 S3 (sum_fun CA _ _ hQ hR) (sum_fun CA _ _ hP (Cv.closed hQ hR)) CZ S6 S7 w
      · rw [pv_of a1 a2, pv_of a3 a4]
        exact curveGroup_3 _ _ _ _ rx ry CV O1 O2 (CO.2 rx ry a5 a6 hR) w
    · rw [pv_of a1 a2]
      exact curveGroup_2 _ _ qx qy rx ry CV O1 (CO.2 qx qy a3 a4 hQ) w
  · exact curveGroup_1 px py qx qy rx ry CV (CO.2 px py a1 a2 hP) w
end Go.Proofs.Ytbninaelmbkboaa
