/- CurveBack and CurveOne, out of what package curve must keep. -/
import Derived.Test.YtbninaelmbkboabCrvB
import Derived.Test.YtbninaelmbkboabGrp3
import Derived.Test.YtbninaelmbkboabUpA
namespace Go.Proofs.Ytbninaelmbkboab
open Go.RowKit
attribute [local go_sem] World.cell?_alloc_some cell_alloc2 cell_alloc3 cell_alloc4 frozen?_alloc_cells frozen_out
set_option linter.unusedSimpArgs false
set_option maxRecDepth 20000 in
set_option maxHeartbeats 1000000 in
theorem curveBack_p (px py qx qy : Nm) (b : Nat) (f : Int)
    (P1 : ∀ w, Calls Try.prog 13 #[Wv px py] w fun e w' => e = .returned (.tuple #[bV 0, .int .i64 1]) ∧ Below w.heap.size w w')
    (P2 : ∀ w, Calls Try.prog 13 #[Wv qx qy] w fun e w' => e = .returned (.tuple #[bV b, .int .i64 f]) ∧ Below w.heap.size w w')
    (O1 : ∀ w, Calls Try.prog 9 #[Wv px py] w fun e w' => e = .returned (.bool false) ∧ Below w.heap.size w w')
    (w : World) :
    Calls Try.prog 4 #[Wv px py, Wv qx qy] w fun e w' => e = .returned (.bool true) ∧ Below w.heap.size w w' := by
  go_enter Try.func4, Try.ntmps4
  have s0 : Hid (Kn (kalP (kalP w (px) (py)) (qx) (qy)) [(w.heap.size + 1, (c8 (qx) (qy))), (w.heap.size, (c8 (px) (py)))]) := (((Kn.nil w).al (c8 (px) (py)) 26 rfl).al (c8 (qx) (qy)) 26 (by simp))
  have b0 : Hid (Below w.heap.size w (kalP (kalP w (px) (py)) (qx) (qy))) := (((Below.refl _ _).alloc (Nat.le_refl _) _).alloc (by simp <;> omega) _)
  go_wp2_with fail
  refine (P1 _).mono ?_
  rintro e w1 ⟨rfl, hb1⟩
  have s1 : Hid (Kn w1 [(w.heap.size + 1, (c8 (qx) (qy))), (w.heap.size, (c8 (px) (py)))]) := s0.out.up hb1
  have b1 : Hid (Below w.heap.size w w1) := b0.out.trans (hb1.mono b0.out.size)
  have z1 := b1.out.size
  clear hb1 s0 b0
  have s2x : Hid (Kn (w1.alloc (.cells #[Value.int IntKind.u8 0, Value.int IntKind.u8 0, Value.int IntKind.u8 0, Value.int IntKind.u8 0, Value.int IntKind.u8 0, Value.int IntKind.u8 0, Value.int IntKind.u8 0, Value.int IntKind.u8 0, Value.int IntKind.u8 0, Value.int IntKind.u8 0, Value.int IntKind.u8 0, Value.int IntKind.u8 0, Value.int IntKind.u8 0, Value.int IntKind.u8 0, Value.int IntKind.u8 0, Value.int IntKind.u8 0, Value.int IntKind.u8 0, Value.int IntKind.u8 0, Value.int IntKind.u8 0, Value.int IntKind.u8 0, Value.int IntKind.u8 0, Value.int IntKind.u8 0, Value.int IntKind.u8 0, Value.int IntKind.u8 0, Value.int IntKind.u8 0, Value.int IntKind.u8 0, Value.int IntKind.u8 0, Value.int IntKind.u8 0, Value.int IntKind.u8 0, Value.int IntKind.u8 0, Value.int IntKind.u8 0, Value.int IntKind.u8 0] 35)) [(w1.heap.size, bZ), (w.heap.size + 1, (c8 (qx) (qy))), (w.heap.size, (c8 (px) (py)))]) := s1.out.al bZ 35 rfl
  have b2x : Hid (Below w.heap.size w (w1.alloc (.cells #[Value.int IntKind.u8 0, Value.int IntKind.u8 0, Value.int IntKind.u8 0, Value.int IntKind.u8 0, Value.int IntKind.u8 0, Value.int IntKind.u8 0, Value.int IntKind.u8 0, Value.int IntKind.u8 0, Value.int IntKind.u8 0, Value.int IntKind.u8 0, Value.int IntKind.u8 0, Value.int IntKind.u8 0, Value.int IntKind.u8 0, Value.int IntKind.u8 0, Value.int IntKind.u8 0, Value.int IntKind.u8 0, Value.int IntKind.u8 0, Value.int IntKind.u8 0, Value.int IntKind.u8 0, Value.int IntKind.u8 0, Value.int IntKind.u8 0, Value.int IntKind.u8 0, Value.int IntKind.u8 0, Value.int IntKind.u8 0, Value.int IntKind.u8 0, Value.int IntKind.u8 0, Value.int IntKind.u8 0, Value.int IntKind.u8 0, Value.int IntKind.u8 0, Value.int IntKind.u8 0, Value.int IntKind.u8 0, Value.int IntKind.u8 0] 35))) := b1.out.alloc b1.out.size _
  have g2 : w.heap.size ≤ w1.heap.size := b1.out.size
  have TT2 : Hid ((w1.alloc (.cells #[Value.int IntKind.u8 0, Value.int IntKind.u8 0, Value.int IntKind.u8 0, Value.int IntKind.u8 0, Value.int IntKind.u8 0, Value.int IntKind.u8 0, Value.int IntKind.u8 0, Value.int IntKind.u8 0, Value.int IntKind.u8 0, Value.int IntKind.u8 0, Value.int IntKind.u8 0, Value.int IntKind.u8 0, Value.int IntKind.u8 0, Value.int IntKind.u8 0, Value.int IntKind.u8 0, Value.int IntKind.u8 0, Value.int IntKind.u8 0, Value.int IntKind.u8 0, Value.int IntKind.u8 0, Value.int IntKind.u8 0, Value.int IntKind.u8 0, Value.int IntKind.u8 0, Value.int IntKind.u8 0, Value.int IntKind.u8 0, Value.int IntKind.u8 0, Value.int IntKind.u8 0, Value.int IntKind.u8 0, Value.int IntKind.u8 0, Value.int IntKind.u8 0, Value.int IntKind.u8 0, Value.int IntKind.u8 0, Value.int IntKind.u8 0] 35)).there (w1.heap.size) 0 (bR (0)).length) := Kn.there s2x.out 0 rfl (by rw [(bR_length (0)), bZ_length])
  go_wp2_with (first | simp only [zero_b32] | refine I.wp_store_eq rfl 35 _ _ rfl (w1.heap.size) 0 (bR (0)) rfl rfl TT2.out (info_bR (0)) (bR_one (0)) ?_)
  intro w2 hw2
  try simp only [Act.put, List.setIfInBounds_toArray, List.set_cons_succ, List.set_cons_zero]
  have s2 : Hid (Kn w2 [(w1.heap.size, (bR (0))), (w.heap.size + 1, (c8 (qx) (qy))), (w.heap.size, (c8 (px) (py)))]) := by rw [hw2.out]; exact Kn.put s2x.out (by rw [(bR_length (0)), bZ_length])
  have b2 : Hid (Below w.heap.size w w2) := by rw [hw2.out]; exact I.below_setCells _ _ _ b2x.out g2
  have z2 := b2.out.size
  clear hw2 s2x b2x TT2 s1 b1
  have uq_0 : w2.cell? ⟨w.heap.size + 1, 0, none⟩ = some (.int .u64 (qx).a) := Kn.get s2.out 1 0 rfl rfl
  have uq_1 : w2.cell? ⟨w.heap.size + 1, 1, none⟩ = some (.int .u64 (qx).b) := Kn.get s2.out 1 1 rfl rfl
  have uq_2 : w2.cell? ⟨w.heap.size + 1, 2, none⟩ = some (.int .u64 (qx).c) := Kn.get s2.out 1 2 rfl rfl
  have uq_3 : w2.cell? ⟨w.heap.size + 1, 3, none⟩ = some (.int .u64 (qx).d) := Kn.get s2.out 1 3 rfl rfl
  have uq_4 : w2.cell? ⟨w.heap.size + 1, 4, none⟩ = some (.int .u64 (qy).a) := Kn.get s2.out 1 4 rfl rfl
  have uq_5 : w2.cell? ⟨w.heap.size + 1, 5, none⟩ = some (.int .u64 (qy).b) := Kn.get s2.out 1 5 rfl rfl
  have uq_6 : w2.cell? ⟨w.heap.size + 1, 6, none⟩ = some (.int .u64 (qy).c) := Kn.get s2.out 1 6 rfl rfl
  have uq_7 : w2.cell? ⟨w.heap.size + 1, 7, none⟩ = some (.int .u64 (qy).d) := Kn.get s2.out 1 7 rfl rfl
  go_wp2_with fail
  clear uq_0 uq_1 uq_2 uq_3 uq_4 uq_5 uq_6 uq_7
  refine (P2 _).mono ?_
  rintro e w3 ⟨rfl, hb3⟩
  have s3 : Hid (Kn w3 [(w1.heap.size, (bR (0))), (w.heap.size + 1, (c8 (qx) (qy))), (w.heap.size, (c8 (px) (py)))]) := s2.out.up hb3
  have b3 : Hid (Below w.heap.size w w3) := b2.out.trans (hb3.mono b2.out.size)
  have z3 := b3.out.size
  clear hb3 s2 b2
  have s4x : Hid (Kn (w3.alloc (.cells #[Value.int IntKind.u8 0, Value.int IntKind.u8 0, Value.int IntKind.u8 0, Value.int IntKind.u8 0, Value.int IntKind.u8 0, Value.int IntKind.u8 0, Value.int IntKind.u8 0, Value.int IntKind.u8 0, Value.int IntKind.u8 0, Value.int IntKind.u8 0, Value.int IntKind.u8 0, Value.int IntKind.u8 0, Value.int IntKind.u8 0, Value.int IntKind.u8 0, Value.int IntKind.u8 0, Value.int IntKind.u8 0, Value.int IntKind.u8 0, Value.int IntKind.u8 0, Value.int IntKind.u8 0, Value.int IntKind.u8 0, Value.int IntKind.u8 0, Value.int IntKind.u8 0, Value.int IntKind.u8 0, Value.int IntKind.u8 0, Value.int IntKind.u8 0, Value.int IntKind.u8 0, Value.int IntKind.u8 0, Value.int IntKind.u8 0, Value.int IntKind.u8 0, Value.int IntKind.u8 0, Value.int IntKind.u8 0, Value.int IntKind.u8 0] 35)) [(w3.heap.size, bZ), (w1.heap.size, (bR (0))), (w.heap.size + 1, (c8 (qx) (qy))), (w.heap.size, (c8 (px) (py)))]) := s3.out.al bZ 35 rfl
  have b4x : Hid (Below w.heap.size w (w3.alloc (.cells #[Value.int IntKind.u8 0, Value.int IntKind.u8 0, Value.int IntKind.u8 0, Value.int IntKind.u8 0, Value.int IntKind.u8 0, Value.int IntKind.u8 0, Value.int IntKind.u8 0, Value.int IntKind.u8 0, Value.int IntKind.u8 0, Value.int IntKind.u8 0, Value.int IntKind.u8 0, Value.int IntKind.u8 0, Value.int IntKind.u8 0, Value.int IntKind.u8 0, Value.int IntKind.u8 0, Value.int IntKind.u8 0, Value.int IntKind.u8 0, Value.int IntKind.u8 0, Value.int IntKind.u8 0, Value.int IntKind.u8 0, Value.int IntKind.u8 0, Value.int IntKind.u8 0, Value.int IntKind.u8 0, Value.int IntKind.u8 0, Value.int IntKind.u8 0, Value.int IntKind.u8 0, Value.int IntKind.u8 0, Value.int IntKind.u8 0, Value.int IntKind.u8 0, Value.int IntKind.u8 0, Value.int IntKind.u8 0, Value.int IntKind.u8 0] 35))) := b3.out.alloc b3.out.size _
  have g4 : w.heap.size ≤ w3.heap.size := b3.out.size
  have TT4 : Hid ((w3.alloc (.cells #[Value.int IntKind.u8 0, Value.int IntKind.u8 0, Value.int IntKind.u8 0, Value.int IntKind.u8 0, Value.int IntKind.u8 0, Value.int IntKind.u8 0, Value.int IntKind.u8 0, Value.int IntKind.u8 0, Value.int IntKind.u8 0, Value.int IntKind.u8 0, Value.int IntKind.u8 0, Value.int IntKind.u8 0, Value.int IntKind.u8 0, Value.int IntKind.u8 0, Value.int IntKind.u8 0, Value.int IntKind.u8 0, Value.int IntKind.u8 0, Value.int IntKind.u8 0, Value.int IntKind.u8 0, Value.int IntKind.u8 0, Value.int IntKind.u8 0, Value.int IntKind.u8 0, Value.int IntKind.u8 0, Value.int IntKind.u8 0, Value.int IntKind.u8 0, Value.int IntKind.u8 0, Value.int IntKind.u8 0, Value.int IntKind.u8 0, Value.int IntKind.u8 0, Value.int IntKind.u8 0, Value.int IntKind.u8 0, Value.int IntKind.u8 0] 35)).there (w3.heap.size) 0 (bR (b)).length) := Kn.there s4x.out 0 rfl (by rw [(bR_length (b)), bZ_length])
  go_wp2_with (first | simp only [zero_b32] | refine I.wp_store_eq rfl 35 _ _ rfl (w3.heap.size) 0 (bR (b)) rfl rfl TT4.out (info_bR (b)) (bR_one (b)) ?_)
  intro w4 hw4
  try simp only [Act.put, List.setIfInBounds_toArray, List.set_cons_succ, List.set_cons_zero]
  have s4 : Hid (Kn w4 [(w3.heap.size, (bR (b))), (w1.heap.size, (bR (0))), (w.heap.size + 1, (c8 (qx) (qy))), (w.heap.size, (c8 (px) (py)))]) := by rw [hw4.out]; exact Kn.put s4x.out (by rw [(bR_length (b)), bZ_length])
  have b4 : Hid (Below w.heap.size w w4) := by rw [hw4.out]; exact I.below_setCells _ _ _ b4x.out g4
  have z4 := b4.out.size
  clear hw4 s4x b4x TT4 s3 b3
  have up_0 : w4.cell? ⟨w.heap.size, 0, none⟩ = some (.int .u64 (px).a) := Kn.get s4.out 3 0 rfl rfl
  have up_1 : w4.cell? ⟨w.heap.size, 1, none⟩ = some (.int .u64 (px).b) := Kn.get s4.out 3 1 rfl rfl
  have up_2 : w4.cell? ⟨w.heap.size, 2, none⟩ = some (.int .u64 (px).c) := Kn.get s4.out 3 2 rfl rfl
  have up_3 : w4.cell? ⟨w.heap.size, 3, none⟩ = some (.int .u64 (px).d) := Kn.get s4.out 3 3 rfl rfl
  have up_4 : w4.cell? ⟨w.heap.size, 4, none⟩ = some (.int .u64 (py).a) := Kn.get s4.out 3 4 rfl rfl
  have up_5 : w4.cell? ⟨w.heap.size, 5, none⟩ = some (.int .u64 (py).b) := Kn.get s4.out 3 5 rfl rfl
  have up_6 : w4.cell? ⟨w.heap.size, 6, none⟩ = some (.int .u64 (py).c) := Kn.get s4.out 3 6 rfl rfl
  have up_7 : w4.cell? ⟨w.heap.size, 7, none⟩ = some (.int .u64 (py).d) := Kn.get s4.out 3 7 rfl rfl
  go_wp2_with fail
  clear up_0 up_1 up_2 up_3 up_4 up_5 up_6 up_7
  refine (O1 _).mono ?_
  rintro e w5 ⟨rfl, hb5⟩
  have s5 : Hid (Kn w5 [(w3.heap.size, (bR (b))), (w1.heap.size, (bR (0))), (w.heap.size + 1, (c8 (qx) (qy))), (w.heap.size, (c8 (px) (py)))]) := s4.out.up hb5
  have b5 : Hid (Below w.heap.size w w5) := b4.out.trans (hb5.mono b4.out.size)
  have z5 := b5.out.size
  clear hb5 s4 b4
  go_wp2_with fail
  go_ret
  exact ⟨rfl, b5.out⟩
set_option maxRecDepth 20000 in
set_option maxHeartbeats 1000000 in
theorem curveBack_q (px py qx qy : Nm) (a : Nat)
    (P1 : ∀ w, Calls Try.prog 13 #[Wv px py] w fun e w' => e = .returned (.tuple #[bV a, .int .i64 0]) ∧ Below w.heap.size w w')
    (P2 : ∀ w, Calls Try.prog 13 #[Wv qx qy] w fun e w' => e = .returned (.tuple #[bV 0, .int .i64 1]) ∧ Below w.heap.size w w')
    (O1 : ∀ w, Calls Try.prog 9 #[Wv px py] w fun e w' => e = .returned (.bool true) ∧ Below w.heap.size w w')
    (O2 : ∀ w, Calls Try.prog 9 #[Wv qx qy] w fun e w' => e = .returned (.bool false) ∧ Below w.heap.size w w')
    (w : World) :
    Calls Try.prog 4 #[Wv px py, Wv qx qy] w fun e w' => e = .returned (.bool true) ∧ Below w.heap.size w w' := by
  go_enter Try.func4, Try.ntmps4
  have s0 : Hid (Kn (kalP (kalP w (px) (py)) (qx) (qy)) [(w.heap.size + 1, (c8 (qx) (qy))), (w.heap.size, (c8 (px) (py)))]) := (((Kn.nil w).al (c8 (px) (py)) 26 rfl).al (c8 (qx) (qy)) 26 (by simp))
  have b0 : Hid (Below w.heap.size w (kalP (kalP w (px) (py)) (qx) (qy))) := (((Below.refl _ _).alloc (Nat.le_refl _) _).alloc (by simp <;> omega) _)
  go_wp2_with fail
  refine (P1 _).mono ?_
  rintro e w1 ⟨rfl, hb1⟩
  have s1 : Hid (Kn w1 [(w.heap.size + 1, (c8 (qx) (qy))), (w.heap.size, (c8 (px) (py)))]) := s0.out.up hb1
  have b1 : Hid (Below w.heap.size w w1) := b0.out.trans (hb1.mono b0.out.size)
  have z1 := b1.out.size
  clear hb1 s0 b0
  have s2x : Hid (Kn (w1.alloc (.cells #[Value.int IntKind.u8 0, Value.int IntKind.u8 0, Value.int IntKind.u8 0, Value.int IntKind.u8 0, Value.int IntKind.u8 0, Value.int IntKind.u8 0, Value.int IntKind.u8 0, Value.int IntKind.u8 0, Value.int IntKind.u8 0, Value.int IntKind.u8 0, Value.int IntKind.u8 0, Value.int IntKind.u8 0, Value.int IntKind.u8 0, Value.int IntKind.u8 0, Value.int IntKind.u8 0, Value.int IntKind.u8 0, Value.int IntKind.u8 0, Value.int IntKind.u8 0, Value.int IntKind.u8 0, Value.int IntKind.u8 0, Value.int IntKind.u8 0, Value.int IntKind.u8 0, Value.int IntKind.u8 0, Value.int IntKind.u8 0, Value.int IntKind.u8 0, Value.int IntKind.u8 0, Value.int IntKind.u8 0, Value.int IntKind.u8 0, Value.int IntKind.u8 0, Value.int IntKind.u8 0, Value.int IntKind.u8 0, Value.int IntKind.u8 0] 35)) [(w1.heap.size, bZ), (w.heap.size + 1, (c8 (qx) (qy))), (w.heap.size, (c8 (px) (py)))]) := s1.out.al bZ 35 rfl
  have b2x : Hid (Below w.heap.size w (w1.alloc (.cells #[Value.int IntKind.u8 0, Value.int IntKind.u8 0, Value.int IntKind.u8 0, Value.int IntKind.u8 0, Value.int IntKind.u8 0, Value.int IntKind.u8 0, Value.int IntKind.u8 0, Value.int IntKind.u8 0, Value.int IntKind.u8 0, Value.int IntKind.u8 0, Value.int IntKind.u8 0, Value.int IntKind.u8 0, Value.int IntKind.u8 0, Value.int IntKind.u8 0, Value.int IntKind.u8 0, Value.int IntKind.u8 0, Value.int IntKind.u8 0, Value.int IntKind.u8 0, Value.int IntKind.u8 0, Value.int IntKind.u8 0, Value.int IntKind.u8 0, Value.int IntKind.u8 0, Value.int IntKind.u8 0, Value.int IntKind.u8 0, Value.int IntKind.u8 0, Value.int IntKind.u8 0, Value.int IntKind.u8 0, Value.int IntKind.u8 0, Value.int IntKind.u8 0, Value.int IntKind.u8 0, Value.int IntKind.u8 0, Value.int IntKind.u8 0] 35))) := b1.out.alloc b1.out.size _
  have g2 : w.heap.size ≤ w1.heap.size := b1.out.size
  have TT2 : Hid ((w1.alloc (.cells #[Value.int IntKind.u8 0, Value.int IntKind.u8 0, Value.int IntKind.u8 0, Value.int IntKind.u8 0, Value.int IntKind.u8 0, Value.int IntKind.u8 0, Value.int IntKind.u8 0, Value.int IntKind.u8 0, Value.int IntKind.u8 0, Value.int IntKind.u8 0, Value.int IntKind.u8 0, Value.int IntKind.u8 0, Value.int IntKind.u8 0, Value.int IntKind.u8 0, Value.int IntKind.u8 0, Value.int IntKind.u8 0, Value.int IntKind.u8 0, Value.int IntKind.u8 0, Value.int IntKind.u8 0, Value.int IntKind.u8 0, Value.int IntKind.u8 0, Value.int IntKind.u8 0, Value.int IntKind.u8 0, Value.int IntKind.u8 0, Value.int IntKind.u8 0, Value.int IntKind.u8 0, Value.int IntKind.u8 0, Value.int IntKind.u8 0, Value.int IntKind.u8 0, Value.int IntKind.u8 0, Value.int IntKind.u8 0, Value.int IntKind.u8 0] 35)).there (w1.heap.size) 0 (bR (a)).length) := Kn.there s2x.out 0 rfl (by rw [(bR_length (a)), bZ_length])
  go_wp2_with (first | simp only [zero_b32] | refine I.wp_store_eq rfl 35 _ _ rfl (w1.heap.size) 0 (bR (a)) rfl rfl TT2.out (info_bR (a)) (bR_one (a)) ?_)
  intro w2 hw2
  try simp only [Act.put, List.setIfInBounds_toArray, List.set_cons_succ, List.set_cons_zero]
  have s2 : Hid (Kn w2 [(w1.heap.size, (bR (a))), (w.heap.size + 1, (c8 (qx) (qy))), (w.heap.size, (c8 (px) (py)))]) := by rw [hw2.out]; exact Kn.put s2x.out (by rw [(bR_length (a)), bZ_length])
  have b2 : Hid (Below w.heap.size w w2) := by rw [hw2.out]; exact I.below_setCells _ _ _ b2x.out g2
  have z2 := b2.out.size
  clear hw2 s2x b2x TT2 s1 b1
  have uq_0 : w2.cell? ⟨w.heap.size + 1, 0, none⟩ = some (.int .u64 (qx).a) := Kn.get s2.out 1 0 rfl rfl
  have uq_1 : w2.cell? ⟨w.heap.size + 1, 1, none⟩ = some (.int .u64 (qx).b) := Kn.get s2.out 1 1 rfl rfl
  have uq_2 : w2.cell? ⟨w.heap.size + 1, 2, none⟩ = some (.int .u64 (qx).c) := Kn.get s2.out 1 2 rfl rfl
  have uq_3 : w2.cell? ⟨w.heap.size + 1, 3, none⟩ = some (.int .u64 (qx).d) := Kn.get s2.out 1 3 rfl rfl
  have uq_4 : w2.cell? ⟨w.heap.size + 1, 4, none⟩ = some (.int .u64 (qy).a) := Kn.get s2.out 1 4 rfl rfl
  have uq_5 : w2.cell? ⟨w.heap.size + 1, 5, none⟩ = some (.int .u64 (qy).b) := Kn.get s2.out 1 5 rfl rfl
  have uq_6 : w2.cell? ⟨w.heap.size + 1, 6, none⟩ = some (.int .u64 (qy).c) := Kn.get s2.out 1 6 rfl rfl
  have uq_7 : w2.cell? ⟨w.heap.size + 1, 7, none⟩ = some (.int .u64 (qy).d) := Kn.get s2.out 1 7 rfl rfl
  go_wp2_with fail
  clear uq_0 uq_1 uq_2 uq_3 uq_4 uq_5 uq_6 uq_7
  refine (P2 _).mono ?_
  rintro e w3 ⟨rfl, hb3⟩
  have s3 : Hid (Kn w3 [(w1.heap.size, (bR (a))), (w.heap.size + 1, (c8 (qx) (qy))), (w.heap.size, (c8 (px) (py)))]) := s2.out.up hb3
  have b3 : Hid (Below w.heap.size w w3) := b2.out.trans (hb3.mono b2.out.size)
  have z3 := b3.out.size
  clear hb3 s2 b2
  have s4x : Hid (Kn (w3.alloc (.cells #[Value.int IntKind.u8 0, Value.int IntKind.u8 0, Value.int IntKind.u8 0, Value.int IntKind.u8 0, Value.int IntKind.u8 0, Value.int IntKind.u8 0, Value.int IntKind.u8 0, Value.int IntKind.u8 0, Value.int IntKind.u8 0, Value.int IntKind.u8 0, Value.int IntKind.u8 0, Value.int IntKind.u8 0, Value.int IntKind.u8 0, Value.int IntKind.u8 0, Value.int IntKind.u8 0, Value.int IntKind.u8 0, Value.int IntKind.u8 0, Value.int IntKind.u8 0, Value.int IntKind.u8 0, Value.int IntKind.u8 0, Value.int IntKind.u8 0, Value.int IntKind.u8 0, Value.int IntKind.u8 0, Value.int IntKind.u8 0, Value.int IntKind.u8 0, Value.int IntKind.u8 0, Value.int IntKind.u8 0, Value.int IntKind.u8 0, Value.int IntKind.u8 0, Value.int IntKind.u8 0, Value.int IntKind.u8 0, Value.int IntKind.u8 0] 35)) [(w3.heap.size, bZ), (w1.heap.size, (bR (a))), (w.heap.size + 1, (c8 (qx) (qy))), (w.heap.size, (c8 (px) (py)))]) := s3.out.al bZ 35 rfl
  have b4x : Hid (Below w.heap.size w (w3.alloc (.cells #[Value.int IntKind.u8 0, Value.int IntKind.u8 0, Value.int IntKind.u8 0, Value.int IntKind.u8 0, Value.int IntKind.u8 0, Value.int IntKind.u8 0, Value.int IntKind.u8 0, Value.int IntKind.u8 0, Value.int IntKind.u8 0, Value.int IntKind.u8 0, Value.int IntKind.u8 0, Value.int IntKind.u8 0, Value.int IntKind.u8 0, Value.int IntKind.u8 0, Value.int IntKind.u8 0, Value.int IntKind.u8 0, Value.int IntKind.u8 0, Value.int IntKind.u8 0, Value.int IntKind.u8 0, Value.int IntKind.u8 0, Value.int IntKind.u8 0, Value.int IntKind.u8 0, Value.int IntKind.u8 0, Value.int IntKind.u8 0, Value.int IntKind.u8 0, Value.int IntKind.u8 0, Value.int IntKind.u8 0, Value.int IntKind.u8 0, Value.int IntKind.u8 0, Value.int IntKind.u8 0, Value.int IntKind.u8 0, Value.int IntKind.u8 0] 35))) := b3.out.alloc b3.out.size _
  have g4 : w.heap.size ≤ w3.heap.size := b3.out.size
  have TT4 : Hid ((w3.alloc (.cells #[Value.int IntKind.u8 0, Value.int IntKind.u8 0, Value.int IntKind.u8 0, Value.int IntKind.u8 0, Value.int IntKind.u8 0, Value.int IntKind.u8 0, Value.int IntKind.u8 0, Value.int IntKind.u8 0, Value.int IntKind.u8 0, Value.int IntKind.u8 0, Value.int IntKind.u8 0, Value.int IntKind.u8 0, Value.int IntKind.u8 0, Value.int IntKind.u8 0, Value.int IntKind.u8 0, Value.int IntKind.u8 0, Value.int IntKind.u8 0, Value.int IntKind.u8 0, Value.int IntKind.u8 0, Value.int IntKind.u8 0, Value.int IntKind.u8 0, Value.int IntKind.u8 0, Value.int IntKind.u8 0, Value.int IntKind.u8 0, Value.int IntKind.u8 0, Value.int IntKind.u8 0, Value.int IntKind.u8 0, Value.int IntKind.u8 0, Value.int IntKind.u8 0, Value.int IntKind.u8 0, Value.int IntKind.u8 0, Value.int IntKind.u8 0] 35)).there (w3.heap.size) 0 (bR (0)).length) := Kn.there s4x.out 0 rfl (by rw [(bR_length (0)), bZ_length])
  go_wp2_with (first | simp only [zero_b32] | refine I.wp_store_eq rfl 35 _ _ rfl (w3.heap.size) 0 (bR (0)) rfl rfl TT4.out (info_bR (0)) (bR_one (0)) ?_)
  intro w4 hw4
  try simp only [Act.put, List.setIfInBounds_toArray, List.set_cons_succ, List.set_cons_zero]
  have s4 : Hid (Kn w4 [(w3.heap.size, (bR (0))), (w1.heap.size, (bR (a))), (w.heap.size + 1, (c8 (qx) (qy))), (w.heap.size, (c8 (px) (py)))]) := by rw [hw4.out]; exact Kn.put s4x.out (by rw [(bR_length (0)), bZ_length])
  have b4 : Hid (Below w.heap.size w w4) := by rw [hw4.out]; exact I.below_setCells _ _ _ b4x.out g4
  have z4 := b4.out.size
  clear hw4 s4x b4x TT4 s3 b3
  have up_0 : w4.cell? ⟨w.heap.size, 0, none⟩ = some (.int .u64 (px).a) := Kn.get s4.out 3 0 rfl rfl
  have up_1 : w4.cell? ⟨w.heap.size, 1, none⟩ = some (.int .u64 (px).b) := Kn.get s4.out 3 1 rfl rfl
  have up_2 : w4.cell? ⟨w.heap.size, 2, none⟩ = some (.int .u64 (px).c) := Kn.get s4.out 3 2 rfl rfl
  have up_3 : w4.cell? ⟨w.heap.size, 3, none⟩ = some (.int .u64 (px).d) := Kn.get s4.out 3 3 rfl rfl
  have up_4 : w4.cell? ⟨w.heap.size, 4, none⟩ = some (.int .u64 (py).a) := Kn.get s4.out 3 4 rfl rfl
  have up_5 : w4.cell? ⟨w.heap.size, 5, none⟩ = some (.int .u64 (py).b) := Kn.get s4.out 3 5 rfl rfl
  have up_6 : w4.cell? ⟨w.heap.size, 6, none⟩ = some (.int .u64 (py).c) := Kn.get s4.out 3 6 rfl rfl
  have up_7 : w4.cell? ⟨w.heap.size, 7, none⟩ = some (.int .u64 (py).d) := Kn.get s4.out 3 7 rfl rfl
  go_wp2_with fail
  clear up_0 up_1 up_2 up_3 up_4 up_5 up_6 up_7
  refine (O1 _).mono ?_
  rintro e w5 ⟨rfl, hb5⟩
  have s5 : Hid (Kn w5 [(w3.heap.size, (bR (0))), (w1.heap.size, (bR (a))), (w.heap.size + 1, (c8 (qx) (qy))), (w.heap.size, (c8 (px) (py)))]) := s4.out.up hb5
  have b5 : Hid (Below w.heap.size w w5) := b4.out.trans (hb5.mono b4.out.size)
  have z5 := b5.out.size
  clear hb5 s4 b4
  have uq_0 : w5.cell? ⟨w.heap.size + 1, 0, none⟩ = some (.int .u64 (qx).a) := Kn.get s5.out 2 0 rfl rfl
  have uq_1 : w5.cell? ⟨w.heap.size + 1, 1, none⟩ = some (.int .u64 (qx).b) := Kn.get s5.out 2 1 rfl rfl
  have uq_2 : w5.cell? ⟨w.heap.size + 1, 2, none⟩ = some (.int .u64 (qx).c) := Kn.get s5.out 2 2 rfl rfl
  have uq_3 : w5.cell? ⟨w.heap.size + 1, 3, none⟩ = some (.int .u64 (qx).d) := Kn.get s5.out 2 3 rfl rfl
  have uq_4 : w5.cell? ⟨w.heap.size + 1, 4, none⟩ = some (.int .u64 (qy).a) := Kn.get s5.out 2 4 rfl rfl
  have uq_5 : w5.cell? ⟨w.heap.size + 1, 5, none⟩ = some (.int .u64 (qy).b) := Kn.get s5.out 2 5 rfl rfl
  have uq_6 : w5.cell? ⟨w.heap.size + 1, 6, none⟩ = some (.int .u64 (qy).c) := Kn.get s5.out 2 6 rfl rfl
  have uq_7 : w5.cell? ⟨w.heap.size + 1, 7, none⟩ = some (.int .u64 (qy).d) := Kn.get s5.out 2 7 rfl rfl
  go_wp2_with fail
  clear uq_0 uq_1 uq_2 uq_3 uq_4 uq_5 uq_6 uq_7
  refine (O2 _).mono ?_
  rintro e w6 ⟨rfl, hb6⟩
  have s6 : Hid (Kn w6 [(w3.heap.size, (bR (0))), (w1.heap.size, (bR (a))), (w.heap.size + 1, (c8 (qx) (qy))), (w.heap.size, (c8 (px) (py)))]) := s5.out.up hb6
  have b6 : Hid (Below w.heap.size w w6) := b5.out.trans (hb6.mono b5.out.size)
  have z6 := b6.out.size
  clear hb6 s5 b5
  go_wp2_with fail
  go_ret
  exact ⟨rfl, b6.out⟩
set_option maxRecDepth 20000 in
set_option maxHeartbeats 1000000 in
theorem curveBack_yes (px py qx qy : Nm) (a b : Nat) (c : Bool) (e1 : ∀ w, (binOp .eql 26 (Wv px py) (Wv px py)).run Try.prog w = .ok (.bool true) w) (e2 : ∀ w, (binOp .eql 35 (bV a) (bV b)).run Try.prog w = .ok (.bool c) w)
    (e3 : ∀ w, (binOp .eql 26 (Wv px py) (Wv qx qy)).run Try.prog w = .ok (.bool c) w) (e4 : ∀ w, (binOp .eql 4 (.bool c) (.bool c)).run Try.prog w = .ok (.bool true) w)
    (P1 : ∀ w, Calls Try.prog 13 #[Wv px py] w fun e w' => e = .returned (.tuple #[bV a, .int .i64 0]) ∧ Below w.heap.size w w')
    (P2 : ∀ w, Calls Try.prog 13 #[Wv qx qy] w fun e w' => e = .returned (.tuple #[bV b, .int .i64 0]) ∧ Below w.heap.size w w')
    (U1 : ∀ w, Calls Try.prog 14 #[.agg (bR (a)).toArray] w fun e w' => e = .returned (.tuple #[Wv px py, .int .i64 0]) ∧ Below w.heap.size w w')
    (w : World) :
    Calls Try.prog 4 #[Wv px py, Wv qx qy] w fun e w' => e = .returned (.bool true) ∧ Below w.heap.size w w' := by
  go_enter Try.func4, Try.ntmps4
  have s0 : Hid (Kn (kalP (kalP w (px) (py)) (qx) (qy)) [(w.heap.size + 1, (c8 (qx) (qy))), (w.heap.size, (c8 (px) (py)))]) := (((Kn.nil w).al (c8 (px) (py)) 26 rfl).al (c8 (qx) (qy)) 26 (by simp))
  have b0 : Hid (Below w.heap.size w (kalP (kalP w (px) (py)) (qx) (qy))) := (((Below.refl _ _).alloc (Nat.le_refl _) _).alloc (by simp <;> omega) _)
  go_wp2_with fail
  refine (P1 _).mono ?_
  rintro e w1 ⟨rfl, hb1⟩
  have s1 : Hid (Kn w1 [(w.heap.size + 1, (c8 (qx) (qy))), (w.heap.size, (c8 (px) (py)))]) := s0.out.up hb1
  have b1 : Hid (Below w.heap.size w w1) := b0.out.trans (hb1.mono b0.out.size)
  have z1 := b1.out.size
  clear hb1 s0 b0
  have s2x : Hid (Kn (w1.alloc (.cells #[Value.int IntKind.u8 0, Value.int IntKind.u8 0, Value.int IntKind.u8 0, Value.int IntKind.u8 0, Value.int IntKind.u8 0, Value.int IntKind.u8 0, Value.int IntKind.u8 0, Value.int IntKind.u8 0, Value.int IntKind.u8 0, Value.int IntKind.u8 0, Value.int IntKind.u8 0, Value.int IntKind.u8 0, Value.int IntKind.u8 0, Value.int IntKind.u8 0, Value.int IntKind.u8 0, Value.int IntKind.u8 0, Value.int IntKind.u8 0, Value.int IntKind.u8 0, Value.int IntKind.u8 0, Value.int IntKind.u8 0, Value.int IntKind.u8 0, Value.int IntKind.u8 0, Value.int IntKind.u8 0, Value.int IntKind.u8 0, Value.int IntKind.u8 0, Value.int IntKind.u8 0, Value.int IntKind.u8 0, Value.int IntKind.u8 0, Value.int IntKind.u8 0, Value.int IntKind.u8 0, Value.int IntKind.u8 0, Value.int IntKind.u8 0] 35)) [(w1.heap.size, bZ), (w.heap.size + 1, (c8 (qx) (qy))), (w.heap.size, (c8 (px) (py)))]) := s1.out.al bZ 35 rfl
  have b2x : Hid (Below w.heap.size w (w1.alloc (.cells #[Value.int IntKind.u8 0, Value.int IntKind.u8 0, Value.int IntKind.u8 0, Value.int IntKind.u8 0, Value.int IntKind.u8 0, Value.int IntKind.u8 0, Value.int IntKind.u8 0, Value.int IntKind.u8 0, Value.int IntKind.u8 0, Value.int IntKind.u8 0, Value.int IntKind.u8 0, Value.int IntKind.u8 0, Value.int IntKind.u8 0, Value.int IntKind.u8 0, Value.int IntKind.u8 0, Value.int IntKind.u8 0, Value.int IntKind.u8 0, Value.int IntKind.u8 0, Value.int IntKind.u8 0, Value.int IntKind.u8 0, Value.int IntKind.u8 0, Value.int IntKind.u8 0, Value.int IntKind.u8 0, Value.int IntKind.u8 0, Value.int IntKind.u8 0, Value.int IntKind.u8 0, Value.int IntKind.u8 0, Value.int IntKind.u8 0, Value.int IntKind.u8 0, Value.int IntKind.u8 0, Value.int IntKind.u8 0, Value.int IntKind.u8 0] 35))) := b1.out.alloc b1.out.size _
  have g2 : w.heap.size ≤ w1.heap.size := b1.out.size
  have TT2 : Hid ((w1.alloc (.cells #[Value.int IntKind.u8 0, Value.int IntKind.u8 0, Value.int IntKind.u8 0, Value.int IntKind.u8 0, Value.int IntKind.u8 0, Value.int IntKind.u8 0, Value.int IntKind.u8 0, Value.int IntKind.u8 0, Value.int IntKind.u8 0, Value.int IntKind.u8 0, Value.int IntKind.u8 0, Value.int IntKind.u8 0, Value.int IntKind.u8 0, Value.int IntKind.u8 0, Value.int IntKind.u8 0, Value.int IntKind.u8 0, Value.int IntKind.u8 0, Value.int IntKind.u8 0, Value.int IntKind.u8 0, Value.int IntKind.u8 0, Value.int IntKind.u8 0, Value.int IntKind.u8 0, Value.int IntKind.u8 0, Value.int IntKind.u8 0, Value.int IntKind.u8 0, Value.int IntKind.u8 0, Value.int IntKind.u8 0, Value.int IntKind.u8 0, Value.int IntKind.u8 0, Value.int IntKind.u8 0, Value.int IntKind.u8 0, Value.int IntKind.u8 0] 35)).there (w1.heap.size) 0 (bR (a)).length) := Kn.there s2x.out 0 rfl (by rw [(bR_length (a)), bZ_length])
  go_wp2_with (first | simp only [zero_b32] | refine I.wp_store_eq rfl 35 _ _ rfl (w1.heap.size) 0 (bR (a)) rfl rfl TT2.out (info_bR (a)) (bR_one (a)) ?_)
  intro w2 hw2
  try simp only [Act.put, List.setIfInBounds_toArray, List.set_cons_succ, List.set_cons_zero]
  have s2 : Hid (Kn w2 [(w1.heap.size, (bR (a))), (w.heap.size + 1, (c8 (qx) (qy))), (w.heap.size, (c8 (px) (py)))]) := by rw [hw2.out]; exact Kn.put s2x.out (by rw [(bR_length (a)), bZ_length])
  have b2 : Hid (Below w.heap.size w w2) := by rw [hw2.out]; exact I.below_setCells _ _ _ b2x.out g2
  have z2 := b2.out.size
  clear hw2 s2x b2x TT2 s1 b1
  have uq_0 : w2.cell? ⟨w.heap.size + 1, 0, none⟩ = some (.int .u64 (qx).a) := Kn.get s2.out 1 0 rfl rfl
  have uq_1 : w2.cell? ⟨w.heap.size + 1, 1, none⟩ = some (.int .u64 (qx).b) := Kn.get s2.out 1 1 rfl rfl
  have uq_2 : w2.cell? ⟨w.heap.size + 1, 2, none⟩ = some (.int .u64 (qx).c) := Kn.get s2.out 1 2 rfl rfl
  have uq_3 : w2.cell? ⟨w.heap.size + 1, 3, none⟩ = some (.int .u64 (qx).d) := Kn.get s2.out 1 3 rfl rfl
  have uq_4 : w2.cell? ⟨w.heap.size + 1, 4, none⟩ = some (.int .u64 (qy).a) := Kn.get s2.out 1 4 rfl rfl
  have uq_5 : w2.cell? ⟨w.heap.size + 1, 5, none⟩ = some (.int .u64 (qy).b) := Kn.get s2.out 1 5 rfl rfl
  have uq_6 : w2.cell? ⟨w.heap.size + 1, 6, none⟩ = some (.int .u64 (qy).c) := Kn.get s2.out 1 6 rfl rfl
  have uq_7 : w2.cell? ⟨w.heap.size + 1, 7, none⟩ = some (.int .u64 (qy).d) := Kn.get s2.out 1 7 rfl rfl
  go_wp2_with fail
  clear uq_0 uq_1 uq_2 uq_3 uq_4 uq_5 uq_6 uq_7
  refine (P2 _).mono ?_
  rintro e w3 ⟨rfl, hb3⟩
  have s3 : Hid (Kn w3 [(w1.heap.size, (bR (a))), (w.heap.size + 1, (c8 (qx) (qy))), (w.heap.size, (c8 (px) (py)))]) := s2.out.up hb3
  have b3 : Hid (Below w.heap.size w w3) := b2.out.trans (hb3.mono b2.out.size)
  have z3 := b3.out.size
  clear hb3 s2 b2
  have s4x : Hid (Kn (w3.alloc (.cells #[Value.int IntKind.u8 0, Value.int IntKind.u8 0, Value.int IntKind.u8 0, Value.int IntKind.u8 0, Value.int IntKind.u8 0, Value.int IntKind.u8 0, Value.int IntKind.u8 0, Value.int IntKind.u8 0, Value.int IntKind.u8 0, Value.int IntKind.u8 0, Value.int IntKind.u8 0, Value.int IntKind.u8 0, Value.int IntKind.u8 0, Value.int IntKind.u8 0, Value.int IntKind.u8 0, Value.int IntKind.u8 0, Value.int IntKind.u8 0, Value.int IntKind.u8 0, Value.int IntKind.u8 0, Value.int IntKind.u8 0, Value.int IntKind.u8 0, Value.int IntKind.u8 0, Value.int IntKind.u8 0, Value.int IntKind.u8 0, Value.int IntKind.u8 0, Value.int IntKind.u8 0, Value.int IntKind.u8 0, Value.int IntKind.u8 0, Value.int IntKind.u8 0, Value.int IntKind.u8 0, Value.int IntKind.u8 0, Value.int IntKind.u8 0] 35)) [(w3.heap.size, bZ), (w1.heap.size, (bR (a))), (w.heap.size + 1, (c8 (qx) (qy))), (w.heap.size, (c8 (px) (py)))]) := s3.out.al bZ 35 rfl
  have b4x : Hid (Below w.heap.size w (w3.alloc (.cells #[Value.int IntKind.u8 0, Value.int IntKind.u8 0, Value.int IntKind.u8 0, Value.int IntKind.u8 0, Value.int IntKind.u8 0, Value.int IntKind.u8 0, Value.int IntKind.u8 0, Value.int IntKind.u8 0, Value.int IntKind.u8 0, Value.int IntKind.u8 0, Value.int IntKind.u8 0, Value.int IntKind.u8 0, Value.int IntKind.u8 0, Value.int IntKind.u8 0, Value.int IntKind.u8 0, Value.int IntKind.u8 0, Value.int IntKind.u8 0, Value.int IntKind.u8 0, Value.int IntKind.u8 0, Value.int IntKind.u8 0, Value.int IntKind.u8 0, Value.int IntKind.u8 0, Value.int IntKind.u8 0, Value.int IntKind.u8 0, Value.int IntKind.u8 0, Value.int IntKind.u8 0, Value.int IntKind.u8 0, Value.int IntKind.u8 0, Value.int IntKind.u8 0, Value.int IntKind.u8 0, Value.int IntKind.u8 0, Value.int IntKind.u8 0] 35))) := b3.out.alloc b3.out.size _
  have g4 : w.heap.size ≤ w3.heap.size := b3.out.size
  have TT4 : Hid ((w3.alloc (.cells #[Value.int IntKind.u8 0, Value.int IntKind.u8 0, Value.int IntKind.u8 0, Value.int IntKind.u8 0, Value.int IntKind.u8 0, Value.int IntKind.u8 0, Value.int IntKind.u8 0, Value.int IntKind.u8 0, Value.int IntKind.u8 0, Value.int IntKind.u8 0, Value.int IntKind.u8 0, Value.int IntKind.u8 0, Value.int IntKind.u8 0, Value.int IntKind.u8 0, Value.int IntKind.u8 0, Value.int IntKind.u8 0, Value.int IntKind.u8 0, Value.int IntKind.u8 0, Value.int IntKind.u8 0, Value.int IntKind.u8 0, Value.int IntKind.u8 0, Value.int IntKind.u8 0, Value.int IntKind.u8 0, Value.int IntKind.u8 0, Value.int IntKind.u8 0, Value.int IntKind.u8 0, Value.int IntKind.u8 0, Value.int IntKind.u8 0, Value.int IntKind.u8 0, Value.int IntKind.u8 0, Value.int IntKind.u8 0, Value.int IntKind.u8 0] 35)).there (w3.heap.size) 0 (bR (b)).length) := Kn.there s4x.out 0 rfl (by rw [(bR_length (b)), bZ_length])
  go_wp2_with (first | simp only [zero_b32] | refine I.wp_store_eq rfl 35 _ _ rfl (w3.heap.size) 0 (bR (b)) rfl rfl TT4.out (info_bR (b)) (bR_one (b)) ?_)
  intro w4 hw4
  try simp only [Act.put, List.setIfInBounds_toArray, List.set_cons_succ, List.set_cons_zero]
  have s4 : Hid (Kn w4 [(w3.heap.size, (bR (b))), (w1.heap.size, (bR (a))), (w.heap.size + 1, (c8 (qx) (qy))), (w.heap.size, (c8 (px) (py)))]) := by rw [hw4.out]; exact Kn.put s4x.out (by rw [(bR_length (b)), bZ_length])
  have b4 : Hid (Below w.heap.size w w4) := by rw [hw4.out]; exact I.below_setCells _ _ _ b4x.out g4
  have z4 := b4.out.size
  clear hw4 s4x b4x TT4 s3 b3
  go_wp2_with (first | refine wp_ldW rfl 35 _ rfl (w1.heap.size) 0 rfl (bR (a)) _ (Kn.rng s4.out 1 rfl) Try.underlying35 rfl (info_bR (a)) ?_)
  refine (U1 _).mono ?_
  rintro e w5 ⟨rfl, hb5⟩
  have s5 : Hid (Kn w5 [(w3.heap.size, (bR (b))), (w1.heap.size, (bR (a))), (w.heap.size + 1, (c8 (qx) (qy))), (w.heap.size, (c8 (px) (py)))]) := s4.out.up hb5
  have b5 : Hid (Below w.heap.size w w5) := b4.out.trans (hb5.mono b4.out.size)
  have z5 := b5.out.size
  clear hb5 s4 b4
  have s6 : Hid (Kn (kalP w5 (px) (py)) [(w5.heap.size, (c8 (px) (py))), (w3.heap.size, (bR (b))), (w1.heap.size, (bR (a))), (w.heap.size + 1, (c8 (qx) (qy))), (w.heap.size, (c8 (px) (py)))]) := s5.out.al (c8 (px) (py)) 26 rfl
  have b6 : Hid (Below w.heap.size w (kalP w5 (px) (py))) := b5.out.alloc b5.out.size _
  have z6 := b5.out.size
  clear s5 b5
  go_wp2_with fail
  refine wp_region_up (by kernel_rfl) (by kernel_rfl) (fun U hU f hf hcl => ?_)
  have ur_0 := fun nx => (Kn.get (s6.out.up (hf nx).out) 0 0 rfl rfl : (f nx).cell? ⟨w5.heap.size, 0, none⟩ = some (.int .u64 (px).a))
  have ur_1 := fun nx => (Kn.get (s6.out.up (hf nx).out) 0 1 rfl rfl : (f nx).cell? ⟨w5.heap.size, 1, none⟩ = some (.int .u64 (px).b))
  have ur_2 := fun nx => (Kn.get (s6.out.up (hf nx).out) 0 2 rfl rfl : (f nx).cell? ⟨w5.heap.size, 2, none⟩ = some (.int .u64 (px).c))
  have ur_3 := fun nx => (Kn.get (s6.out.up (hf nx).out) 0 3 rfl rfl : (f nx).cell? ⟨w5.heap.size, 3, none⟩ = some (.int .u64 (px).d))
  have ur_4 := fun nx => (Kn.get (s6.out.up (hf nx).out) 0 4 rfl rfl : (f nx).cell? ⟨w5.heap.size, 4, none⟩ = some (.int .u64 (py).a))
  have ur_5 := fun nx => (Kn.get (s6.out.up (hf nx).out) 0 5 rfl rfl : (f nx).cell? ⟨w5.heap.size, 5, none⟩ = some (.int .u64 (py).b))
  have ur_6 := fun nx => (Kn.get (s6.out.up (hf nx).out) 0 6 rfl rfl : (f nx).cell? ⟨w5.heap.size, 6, none⟩ = some (.int .u64 (py).c))
  have ur_7 := fun nx => (Kn.get (s6.out.up (hf nx).out) 0 7 rfl rfl : (f nx).cell? ⟨w5.heap.size, 7, none⟩ = some (.int .u64 (py).d))
  have up_0 := fun nx => (Kn.get (s6.out.up (hf nx).out) 4 0 rfl rfl : (f nx).cell? ⟨w.heap.size, 0, none⟩ = some (.int .u64 (px).a))
  have up_1 := fun nx => (Kn.get (s6.out.up (hf nx).out) 4 1 rfl rfl : (f nx).cell? ⟨w.heap.size, 1, none⟩ = some (.int .u64 (px).b))
  have up_2 := fun nx => (Kn.get (s6.out.up (hf nx).out) 4 2 rfl rfl : (f nx).cell? ⟨w.heap.size, 2, none⟩ = some (.int .u64 (px).c))
  have up_3 := fun nx => (Kn.get (s6.out.up (hf nx).out) 4 3 rfl rfl : (f nx).cell? ⟨w.heap.size, 3, none⟩ = some (.int .u64 (px).d))
  have up_4 := fun nx => (Kn.get (s6.out.up (hf nx).out) 4 4 rfl rfl : (f nx).cell? ⟨w.heap.size, 4, none⟩ = some (.int .u64 (py).a))
  have up_5 := fun nx => (Kn.get (s6.out.up (hf nx).out) 4 5 rfl rfl : (f nx).cell? ⟨w.heap.size, 5, none⟩ = some (.int .u64 (py).b))
  have up_6 := fun nx => (Kn.get (s6.out.up (hf nx).out) 4 6 rfl rfl : (f nx).cell? ⟨w.heap.size, 6, none⟩ = some (.int .u64 (py).c))
  have up_7 := fun nx => (Kn.get (s6.out.up (hf nx).out) 4 7 rfl rfl : (f nx).cell? ⟨w.heap.size, 7, none⟩ = some (.int .u64 (py).d))
  have uq_0 := fun nx => (Kn.get (s6.out.up (hf nx).out) 3 0 rfl rfl : (f nx).cell? ⟨w.heap.size + 1, 0, none⟩ = some (.int .u64 (qx).a))
  have uq_1 := fun nx => (Kn.get (s6.out.up (hf nx).out) 3 1 rfl rfl : (f nx).cell? ⟨w.heap.size + 1, 1, none⟩ = some (.int .u64 (qx).b))
  have uq_2 := fun nx => (Kn.get (s6.out.up (hf nx).out) 3 2 rfl rfl : (f nx).cell? ⟨w.heap.size + 1, 2, none⟩ = some (.int .u64 (qx).c))
  have uq_3 := fun nx => (Kn.get (s6.out.up (hf nx).out) 3 3 rfl rfl : (f nx).cell? ⟨w.heap.size + 1, 3, none⟩ = some (.int .u64 (qx).d))
  have uq_4 := fun nx => (Kn.get (s6.out.up (hf nx).out) 3 4 rfl rfl : (f nx).cell? ⟨w.heap.size + 1, 4, none⟩ = some (.int .u64 (qy).a))
  have uq_5 := fun nx => (Kn.get (s6.out.up (hf nx).out) 3 5 rfl rfl : (f nx).cell? ⟨w.heap.size + 1, 5, none⟩ = some (.int .u64 (qy).b))
  have uq_6 := fun nx => (Kn.get (s6.out.up (hf nx).out) 3 6 rfl rfl : (f nx).cell? ⟨w.heap.size + 1, 6, none⟩ = some (.int .u64 (qy).c))
  have uq_7 := fun nx => (Kn.get (s6.out.up (hf nx).out) 3 7 rfl rfl : (f nx).cell? ⟨w.heap.size + 1, 7, none⟩ = some (.int .u64 (qy).d))
  have ra_a_0 := fun nx => (Kn.rng (s6.out.up (hf nx).out) 2 rfl : (f nx).rangeAt (w1.heap.size) 0 (bR (a)))
  have ra_b_0 := fun nx => (Kn.rng (s6.out.up (hf nx).out) 1 rfl : (f nx).rangeAt (w3.heap.size) 0 (bR (b)))
  try simp only [List.append_eq, List.cons_append, List.nil_append]
  repeat (first | (refine I.quiet_load rfl 35 _ rfl (w1.heap.size) 0 rfl (bR (a)) _ (fun W hW => by obtain ⟨nx, rfl⟩ := hW; exact ra_a_0 nx) Try.underlying35 rfl (info_bR (a)) ?_; simp only [Act.put, List.setIfInBounds_toArray, List.set_cons_succ, List.set_cons_zero]) | (refine I.quiet_load rfl 35 _ rfl (w3.heap.size) 0 rfl (bR (b)) _ (fun W hW => by obtain ⟨nx, rfl⟩ := hW; exact ra_b_0 nx) Try.underlying35 rfl (info_bR (b)) ?_; simp only [Act.put, List.setIfInBounds_toArray, List.set_cons_succ, List.set_cons_zero]) | go_big_quiet_step (first | fail))
  refine wpQuiet_nil ?_
  intro nx
  have hb7 := (hf nx).out
  clear hf hcl ur_0 ur_1 ur_2 ur_3 ur_4 ur_5 ur_6 ur_7 up_0 up_1 up_2 up_3 up_4 up_5 up_6 up_7 uq_0 uq_1 uq_2 uq_3 uq_4 uq_5 uq_6 uq_7
  generalize f nx = w7 at hb7 ⊢
  have s7 : Hid (Kn w7 [(w5.heap.size, (c8 (px) (py))), (w3.heap.size, (bR (b))), (w1.heap.size, (bR (a))), (w.heap.size + 1, (c8 (qx) (qy))), (w.heap.size, (c8 (px) (py)))]) := s6.out.up hb7
  have b7 : Hid (Below w.heap.size w w7) := b6.out.trans (hb7.mono b6.out.size)
  have z7 := b7.out.size
  clear hb7 s6 b6
  go_wp2_with fail
  go_ret
  exact ⟨rfl, b7.out⟩
set_option maxRecDepth 20000 in
set_option maxHeartbeats 1000000 in
theorem curveOne_none (n : Nat) (e1 : ∀ w, (binOp .eql 26 zW' zW').run Try.prog w = .ok (.bool true) w)
    (U1 : ∀ w, Calls Try.prog 14 #[.agg (bR (n)).toArray] w fun e w' => e = .returned (.tuple #[zW', .int .i64 4]) ∧ Below w.heap.size w w')
    (w : World) :
    Calls Try.prog 5 #[bV n] w fun e w' => e = .returned (.bool true) ∧ Below w.heap.size w w' := by
  go_enter Try.func5, Try.ntmps5
  have s0 : Hid (Kn (w.alloc (.cells (bR (n)).toArray 35)) [(w.heap.size, (bR (n)))]) := ((Kn.nil w).al (bR (n)) 35 rfl)
  have b0 : Hid (Below w.heap.size w (w.alloc (.cells (bR (n)).toArray 35))) := ((Below.refl _ _).alloc (Nat.le_refl _) _)
  go_wp2_with (first | refine wp_ldW rfl 35 _ rfl (w.heap.size) 0 rfl (bR (n)) _ (Kn.rng s0.out 0 rfl) Try.underlying35 rfl (info_bR (n)) ?_)
  refine (U1 _).mono ?_
  rintro e w1 ⟨rfl, hb1⟩
  have s1 : Hid (Kn w1 [(w.heap.size, (bR (n)))]) := s0.out.up hb1
  have b1 : Hid (Below w.heap.size w w1) := b0.out.trans (hb1.mono b0.out.size)
  have z1 := b1.out.size
  clear hb1 s0 b0
  have s2 : Hid (Kn (kalP w1 ((⟨0,0,0,0⟩:Nm)) ((⟨0,0,0,0⟩:Nm))) [(w1.heap.size, (c8 ((⟨0,0,0,0⟩:Nm)) ((⟨0,0,0,0⟩:Nm)))), (w.heap.size, (bR (n)))]) := s1.out.al (c8 ((⟨0,0,0,0⟩:Nm)) ((⟨0,0,0,0⟩:Nm))) 26 rfl
  have b2 : Hid (Below w.heap.size w (kalP w1 ((⟨0,0,0,0⟩:Nm)) ((⟨0,0,0,0⟩:Nm)))) := b1.out.alloc b1.out.size _
  have z2 := b1.out.size
  clear s1 b1
  have up_0 : (kalP w1 ((⟨0,0,0,0⟩:Nm)) ((⟨0,0,0,0⟩:Nm))).cell? ⟨w1.heap.size, 0, none⟩ = some (.int .u64 ((⟨0,0,0,0⟩:Nm)).a) := Kn.get s2.out 0 0 rfl rfl
  have up_1 : (kalP w1 ((⟨0,0,0,0⟩:Nm)) ((⟨0,0,0,0⟩:Nm))).cell? ⟨w1.heap.size, 1, none⟩ = some (.int .u64 ((⟨0,0,0,0⟩:Nm)).b) := Kn.get s2.out 0 1 rfl rfl
  have up_2 : (kalP w1 ((⟨0,0,0,0⟩:Nm)) ((⟨0,0,0,0⟩:Nm))).cell? ⟨w1.heap.size, 2, none⟩ = some (.int .u64 ((⟨0,0,0,0⟩:Nm)).c) := Kn.get s2.out 0 2 rfl rfl
  have up_3 : (kalP w1 ((⟨0,0,0,0⟩:Nm)) ((⟨0,0,0,0⟩:Nm))).cell? ⟨w1.heap.size, 3, none⟩ = some (.int .u64 ((⟨0,0,0,0⟩:Nm)).d) := Kn.get s2.out 0 3 rfl rfl
  have up_4 : (kalP w1 ((⟨0,0,0,0⟩:Nm)) ((⟨0,0,0,0⟩:Nm))).cell? ⟨w1.heap.size, 4, none⟩ = some (.int .u64 ((⟨0,0,0,0⟩:Nm)).a) := Kn.get s2.out 0 4 rfl rfl
  have up_5 : (kalP w1 ((⟨0,0,0,0⟩:Nm)) ((⟨0,0,0,0⟩:Nm))).cell? ⟨w1.heap.size, 5, none⟩ = some (.int .u64 ((⟨0,0,0,0⟩:Nm)).b) := Kn.get s2.out 0 5 rfl rfl
  have up_6 : (kalP w1 ((⟨0,0,0,0⟩:Nm)) ((⟨0,0,0,0⟩:Nm))).cell? ⟨w1.heap.size, 6, none⟩ = some (.int .u64 ((⟨0,0,0,0⟩:Nm)).c) := Kn.get s2.out 0 6 rfl rfl
  have up_7 : (kalP w1 ((⟨0,0,0,0⟩:Nm)) ((⟨0,0,0,0⟩:Nm))).cell? ⟨w1.heap.size, 7, none⟩ = some (.int .u64 ((⟨0,0,0,0⟩:Nm)).d) := Kn.get s2.out 0 7 rfl rfl
  go_wp2_with fail
  clear up_0 up_1 up_2 up_3 up_4 up_5 up_6 up_7
  go_ret
  exact ⟨rfl, b2.out⟩
set_option maxRecDepth 20000 in
set_option maxHeartbeats 1000000 in
theorem curveOne_some (n : Nat) (px py : Nm) (e1 : ∀ w, (binOp .eql 35 (bV n) (bV n)).run Try.prog w = .ok (.bool true) w)
    (U1 : ∀ w, Calls Try.prog 14 #[.agg (bR (n)).toArray] w fun e w' => e = .returned (.tuple #[Wv px py, .int .i64 0]) ∧ Below w.heap.size w w')
    (P1 : ∀ w, Calls Try.prog 13 #[Wv px py] w fun e w' => e = .returned (.tuple #[bV n, .int .i64 0]) ∧ Below w.heap.size w w')
    (O1 : ∀ w, Calls Try.prog 9 #[Wv px py] w fun e w' => e = .returned (.bool true) ∧ Below w.heap.size w w')
    (w : World) :
    Calls Try.prog 5 #[bV n] w fun e w' => e = .returned (.bool true) ∧ Below w.heap.size w w' := by
  go_enter Try.func5, Try.ntmps5
  have s0 : Hid (Kn (w.alloc (.cells (bR (n)).toArray 35)) [(w.heap.size, (bR (n)))]) := ((Kn.nil w).al (bR (n)) 35 rfl)
  have b0 : Hid (Below w.heap.size w (w.alloc (.cells (bR (n)).toArray 35))) := ((Below.refl _ _).alloc (Nat.le_refl _) _)
  go_wp2_with (first | refine wp_ldW rfl 35 _ rfl (w.heap.size) 0 rfl (bR (n)) _ (Kn.rng s0.out 0 rfl) Try.underlying35 rfl (info_bR (n)) ?_)
  refine (U1 _).mono ?_
  rintro e w1 ⟨rfl, hb1⟩
  have s1 : Hid (Kn w1 [(w.heap.size, (bR (n)))]) := s0.out.up hb1
  have b1 : Hid (Below w.heap.size w w1) := b0.out.trans (hb1.mono b0.out.size)
  have z1 := b1.out.size
  clear hb1 s0 b0
  have s2 : Hid (Kn (kalP w1 (px) (py)) [(w1.heap.size, (c8 (px) (py))), (w.heap.size, (bR (n)))]) := s1.out.al (c8 (px) (py)) 26 rfl
  have b2 : Hid (Below w.heap.size w (kalP w1 (px) (py))) := b1.out.alloc b1.out.size _
  have z2 := b1.out.size
  clear s1 b1
  have up_0 : (kalP w1 (px) (py)).cell? ⟨w1.heap.size, 0, none⟩ = some (.int .u64 (px).a) := Kn.get s2.out 0 0 rfl rfl
  have up_1 : (kalP w1 (px) (py)).cell? ⟨w1.heap.size, 1, none⟩ = some (.int .u64 (px).b) := Kn.get s2.out 0 1 rfl rfl
  have up_2 : (kalP w1 (px) (py)).cell? ⟨w1.heap.size, 2, none⟩ = some (.int .u64 (px).c) := Kn.get s2.out 0 2 rfl rfl
  have up_3 : (kalP w1 (px) (py)).cell? ⟨w1.heap.size, 3, none⟩ = some (.int .u64 (px).d) := Kn.get s2.out 0 3 rfl rfl
  have up_4 : (kalP w1 (px) (py)).cell? ⟨w1.heap.size, 4, none⟩ = some (.int .u64 (py).a) := Kn.get s2.out 0 4 rfl rfl
  have up_5 : (kalP w1 (px) (py)).cell? ⟨w1.heap.size, 5, none⟩ = some (.int .u64 (py).b) := Kn.get s2.out 0 5 rfl rfl
  have up_6 : (kalP w1 (px) (py)).cell? ⟨w1.heap.size, 6, none⟩ = some (.int .u64 (py).c) := Kn.get s2.out 0 6 rfl rfl
  have up_7 : (kalP w1 (px) (py)).cell? ⟨w1.heap.size, 7, none⟩ = some (.int .u64 (py).d) := Kn.get s2.out 0 7 rfl rfl
  go_wp2_with fail
  clear up_0 up_1 up_2 up_3 up_4 up_5 up_6 up_7
  refine (P1 _).mono ?_
  rintro e w3 ⟨rfl, hb3⟩
  have s3 : Hid (Kn w3 [(w1.heap.size, (c8 (px) (py))), (w.heap.size, (bR (n)))]) := s2.out.up hb3
  have b3 : Hid (Below w.heap.size w w3) := b2.out.trans (hb3.mono b2.out.size)
  have z3 := b3.out.size
  clear hb3 s2 b2
  have s4x : Hid (Kn (w3.alloc (.cells #[Value.int IntKind.u8 0, Value.int IntKind.u8 0, Value.int IntKind.u8 0, Value.int IntKind.u8 0, Value.int IntKind.u8 0, Value.int IntKind.u8 0, Value.int IntKind.u8 0, Value.int IntKind.u8 0, Value.int IntKind.u8 0, Value.int IntKind.u8 0, Value.int IntKind.u8 0, Value.int IntKind.u8 0, Value.int IntKind.u8 0, Value.int IntKind.u8 0, Value.int IntKind.u8 0, Value.int IntKind.u8 0, Value.int IntKind.u8 0, Value.int IntKind.u8 0, Value.int IntKind.u8 0, Value.int IntKind.u8 0, Value.int IntKind.u8 0, Value.int IntKind.u8 0, Value.int IntKind.u8 0, Value.int IntKind.u8 0, Value.int IntKind.u8 0, Value.int IntKind.u8 0, Value.int IntKind.u8 0, Value.int IntKind.u8 0, Value.int IntKind.u8 0, Value.int IntKind.u8 0, Value.int IntKind.u8 0, Value.int IntKind.u8 0] 35)) [(w3.heap.size, bZ), (w1.heap.size, (c8 (px) (py))), (w.heap.size, (bR (n)))]) := s3.out.al bZ 35 rfl
  have b4x : Hid (Below w.heap.size w (w3.alloc (.cells #[Value.int IntKind.u8 0, Value.int IntKind.u8 0, Value.int IntKind.u8 0, Value.int IntKind.u8 0, Value.int IntKind.u8 0, Value.int IntKind.u8 0, Value.int IntKind.u8 0, Value.int IntKind.u8 0, Value.int IntKind.u8 0, Value.int IntKind.u8 0, Value.int IntKind.u8 0, Value.int IntKind.u8 0, Value.int IntKind.u8 0, Value.int IntKind.u8 0, Value.int IntKind.u8 0, Value.int IntKind.u8 0, Value.int IntKind.u8 0, Value.int IntKind.u8 0, Value.int IntKind.u8 0, Value.int IntKind.u8 0, Value.int IntKind.u8 0, Value.int IntKind.u8 0, Value.int IntKind.u8 0, Value.int IntKind.u8 0, Value.int IntKind.u8 0, Value.int IntKind.u8 0, Value.int IntKind.u8 0, Value.int IntKind.u8 0, Value.int IntKind.u8 0, Value.int IntKind.u8 0, Value.int IntKind.u8 0, Value.int IntKind.u8 0] 35))) := b3.out.alloc b3.out.size _
  have g4 : w.heap.size ≤ w3.heap.size := b3.out.size
  have TT4 : Hid ((w3.alloc (.cells #[Value.int IntKind.u8 0, Value.int IntKind.u8 0, Value.int IntKind.u8 0, Value.int IntKind.u8 0, Value.int IntKind.u8 0, Value.int IntKind.u8 0, Value.int IntKind.u8 0, Value.int IntKind.u8 0, Value.int IntKind.u8 0, Value.int IntKind.u8 0, Value.int IntKind.u8 0, Value.int IntKind.u8 0, Value.int IntKind.u8 0, Value.int IntKind.u8 0, Value.int IntKind.u8 0, Value.int IntKind.u8 0, Value.int IntKind.u8 0, Value.int IntKind.u8 0, Value.int IntKind.u8 0, Value.int IntKind.u8 0, Value.int IntKind.u8 0, Value.int IntKind.u8 0, Value.int IntKind.u8 0, Value.int IntKind.u8 0, Value.int IntKind.u8 0, Value.int IntKind.u8 0, Value.int IntKind.u8 0, Value.int IntKind.u8 0, Value.int IntKind.u8 0, Value.int IntKind.u8 0, Value.int IntKind.u8 0, Value.int IntKind.u8 0] 35)).there (w3.heap.size) 0 (bR (n)).length) := Kn.there s4x.out 0 rfl (by rw [(bR_length (n)), bZ_length])
  go_wp2_with (first | simp only [zero_b32] | refine I.wp_store_eq rfl 35 _ _ rfl (w3.heap.size) 0 (bR (n)) rfl rfl TT4.out (info_bR (n)) (bR_one (n)) ?_)
  intro w4 hw4
  try simp only [Act.put, List.setIfInBounds_toArray, List.set_cons_succ, List.set_cons_zero]
  have s4 : Hid (Kn w4 [(w3.heap.size, (bR (n))), (w1.heap.size, (c8 (px) (py))), (w.heap.size, (bR (n)))]) := by rw [hw4.out]; exact Kn.put s4x.out (by rw [(bR_length (n)), bZ_length])
  have b4 : Hid (Below w.heap.size w w4) := by rw [hw4.out]; exact I.below_setCells _ _ _ b4x.out g4
  have z4 := b4.out.size
  clear hw4 s4x b4x TT4 s3 b3
  have up_0 : w4.cell? ⟨w1.heap.size, 0, none⟩ = some (.int .u64 (px).a) := Kn.get s4.out 1 0 rfl rfl
  have up_1 : w4.cell? ⟨w1.heap.size, 1, none⟩ = some (.int .u64 (px).b) := Kn.get s4.out 1 1 rfl rfl
  have up_2 : w4.cell? ⟨w1.heap.size, 2, none⟩ = some (.int .u64 (px).c) := Kn.get s4.out 1 2 rfl rfl
  have up_3 : w4.cell? ⟨w1.heap.size, 3, none⟩ = some (.int .u64 (px).d) := Kn.get s4.out 1 3 rfl rfl
  have up_4 : w4.cell? ⟨w1.heap.size, 4, none⟩ = some (.int .u64 (py).a) := Kn.get s4.out 1 4 rfl rfl
  have up_5 : w4.cell? ⟨w1.heap.size, 5, none⟩ = some (.int .u64 (py).b) := Kn.get s4.out 1 5 rfl rfl
  have up_6 : w4.cell? ⟨w1.heap.size, 6, none⟩ = some (.int .u64 (py).c) := Kn.get s4.out 1 6 rfl rfl
  have up_7 : w4.cell? ⟨w1.heap.size, 7, none⟩ = some (.int .u64 (py).d) := Kn.get s4.out 1 7 rfl rfl
  go_wp2_with fail
  clear up_0 up_1 up_2 up_3 up_4 up_5 up_6 up_7
  refine (O1 _).mono ?_
  rintro e w5 ⟨rfl, hb5⟩
  have s5 : Hid (Kn w5 [(w3.heap.size, (bR (n))), (w1.heap.size, (c8 (px) (py))), (w.heap.size, (bR (n)))]) := s4.out.up hb5
  have b5 : Hid (Below w.heap.size w w5) := b4.out.trans (hb5.mono b4.out.size)
  have z5 := b5.out.size
  clear hb5 s4 b4
  go_wp2_with (first | refine wp_ldW rfl 35 _ rfl (w.heap.size) 0 rfl (bR (n)) _ (Kn.rng s5.out 2 rfl) Try.underlying35 rfl (info_bR (n)) ?_ | refine wp_ldW rfl 35 _ rfl (w3.heap.size) 0 rfl (bR (n)) _ (Kn.rng s5.out 0 rfl) Try.underlying35 rfl (info_bR (n)) ?_)
  go_ret
  exact ⟨rfl, b5.out⟩
end Go.Proofs.Ytbninaelmbkboab
