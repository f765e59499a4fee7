/- The contracts of the verifier's calls sum, times and curves, out of package curve's. -/
import Derived.Test.YtpnfopakkaoibaaQMulWToAdN
namespace Go.Proofs.Ytpnfopakkaoibaa
open Go.RowKit
attribute [local go_sem] World.cell?_alloc_some cell_alloc2 cell_alloc3 cell_alloc4 frozen?_alloc_cells frozen_out
set_option linter.unusedSimpArgs false
set_option maxHeartbeats 1000000 in
theorem times_walk (n x1 y1 x y : Nm)
    (A1 : ∀ w, Calls Try.prog 40 #[N n, Wv x1 y1] w fun e w' => e = .returned (.tuple #[Wv x y, .int .i64 0]) ∧ Below w.heap.size w w')
    (w : World) :
    Calls Try.prog 18 #[N n, Wv x1 y1] w fun e w' => e = .returned (Wv x y) ∧ Below w.heap.size w w' := by
  go_enter Try.func18, Try.ntmps18
  have s0 : Hid (Kn (kzP (kalP (kal4 w (n)) (x1) (y1))) [(w.heap.size + 1 + 1, zz8), (w.heap.size + 1, (c8 (x1) (y1))), (w.heap.size, (c4 (n)))]) := ((((Kn.nil w).al (c4 (n)) 28 rfl).al (c8 (x1) (y1)) 35 (by simp)).al zz8 35 (by simp))
  have b0 : Hid (Below w.heap.size w (kzP (kalP (kal4 w (n)) (x1) (y1)))) := ((((Below.refl _ _).alloc (Nat.le_refl _) _).alloc (by simp <;> omega) _).alloc (by simp <;> omega) _)
  have un_0 : (kzP (kalP (kal4 w (n)) (x1) (y1))).cell? ⟨w.heap.size, 0, none⟩ = some (.int .u64 (n).a) := Kn.get s0.out 2 0 rfl rfl
  have un_1 : (kzP (kalP (kal4 w (n)) (x1) (y1))).cell? ⟨w.heap.size, 1, none⟩ = some (.int .u64 (n).b) := Kn.get s0.out 2 1 rfl rfl
  have un_2 : (kzP (kalP (kal4 w (n)) (x1) (y1))).cell? ⟨w.heap.size, 2, none⟩ = some (.int .u64 (n).c) := Kn.get s0.out 2 2 rfl rfl
  have un_3 : (kzP (kalP (kal4 w (n)) (x1) (y1))).cell? ⟨w.heap.size, 3, none⟩ = some (.int .u64 (n).d) := Kn.get s0.out 2 3 rfl rfl
  have up_0 : (kzP (kalP (kal4 w (n)) (x1) (y1))).cell? ⟨w.heap.size + 1, 0, none⟩ = some (.int .u64 (x1).a) := Kn.get s0.out 1 0 rfl rfl
  have up_1 : (kzP (kalP (kal4 w (n)) (x1) (y1))).cell? ⟨w.heap.size + 1, 1, none⟩ = some (.int .u64 (x1).b) := Kn.get s0.out 1 1 rfl rfl
  have up_2 : (kzP (kalP (kal4 w (n)) (x1) (y1))).cell? ⟨w.heap.size + 1, 2, none⟩ = some (.int .u64 (x1).c) := Kn.get s0.out 1 2 rfl rfl
  have up_3 : (kzP (kalP (kal4 w (n)) (x1) (y1))).cell? ⟨w.heap.size + 1, 3, none⟩ = some (.int .u64 (x1).d) := Kn.get s0.out 1 3 rfl rfl
  have up_4 : (kzP (kalP (kal4 w (n)) (x1) (y1))).cell? ⟨w.heap.size + 1, 4, none⟩ = some (.int .u64 (y1).a) := Kn.get s0.out 1 4 rfl rfl
  have up_5 : (kzP (kalP (kal4 w (n)) (x1) (y1))).cell? ⟨w.heap.size + 1, 5, none⟩ = some (.int .u64 (y1).b) := Kn.get s0.out 1 5 rfl rfl
  have up_6 : (kzP (kalP (kal4 w (n)) (x1) (y1))).cell? ⟨w.heap.size + 1, 6, none⟩ = some (.int .u64 (y1).c) := Kn.get s0.out 1 6 rfl rfl
  have up_7 : (kzP (kalP (kal4 w (n)) (x1) (y1))).cell? ⟨w.heap.size + 1, 7, none⟩ = some (.int .u64 (y1).d) := Kn.get s0.out 1 7 rfl rfl
  go_wp2_with fail
  clear un_0 un_1 un_2 un_3 up_0 up_1 up_2 up_3 up_4 up_5 up_6 up_7
  refine (A1 _).mono ?_
  rintro e w1 ⟨rfl, hb1⟩
  have s1 : Hid (Kn w1 [(w.heap.size + 1 + 1, zz8), (w.heap.size + 1, (c8 (x1) (y1))), (w.heap.size, (c4 (n)))]) := s0.out.up hb1
  have b1 : Hid (Below w.heap.size w w1) := b0.out.trans (hb1.mono b0.out.size)
  have z1 := b1.out.size
  clear hb1 s0 b0
  have s2 : Hid (Kn (kalP w1 (x) (y)) [(w1.heap.size, (c8 (x) (y))), (w.heap.size + 1 + 1, zz8), (w.heap.size + 1, (c8 (x1) (y1))), (w.heap.size, (c4 (n)))]) := s1.out.al (c8 (x) (y)) 35 rfl
  have b2 : Hid (Below w.heap.size w (kalP w1 (x) (y))) := b1.out.alloc b1.out.size _
  have z2 := b1.out.size
  clear s1 b1
  have us_0 : (kalP w1 (x) (y)).cell? ⟨w1.heap.size, 0, none⟩ = some (.int .u64 (x).a) := Kn.get s2.out 0 0 rfl rfl
  have us_1 : (kalP w1 (x) (y)).cell? ⟨w1.heap.size, 1, none⟩ = some (.int .u64 (x).b) := Kn.get s2.out 0 1 rfl rfl
  have us_2 : (kalP w1 (x) (y)).cell? ⟨w1.heap.size, 2, none⟩ = some (.int .u64 (x).c) := Kn.get s2.out 0 2 rfl rfl
  have us_3 : (kalP w1 (x) (y)).cell? ⟨w1.heap.size, 3, none⟩ = some (.int .u64 (x).d) := Kn.get s2.out 0 3 rfl rfl
  have us_4 : (kalP w1 (x) (y)).cell? ⟨w1.heap.size, 4, none⟩ = some (.int .u64 (y).a) := Kn.get s2.out 0 4 rfl rfl
  have us_5 : (kalP w1 (x) (y)).cell? ⟨w1.heap.size, 5, none⟩ = some (.int .u64 (y).b) := Kn.get s2.out 0 5 rfl rfl
  have us_6 : (kalP w1 (x) (y)).cell? ⟨w1.heap.size, 6, none⟩ = some (.int .u64 (y).c) := Kn.get s2.out 0 6 rfl rfl
  have us_7 : (kalP w1 (x) (y)).cell? ⟨w1.heap.size, 7, none⟩ = some (.int .u64 (y).d) := Kn.get s2.out 0 7 rfl rfl
  have ur_0 : (kalP w1 (x) (y)).cell? ⟨w.heap.size + 1 + 1, 0, none⟩ = some (.int .u64 0) := Kn.get s2.out 1 0 rfl rfl
  have ur_1 : (kalP w1 (x) (y)).cell? ⟨w.heap.size + 1 + 1, 1, none⟩ = some (.int .u64 0) := Kn.get s2.out 1 1 rfl rfl
  have ur_2 : (kalP w1 (x) (y)).cell? ⟨w.heap.size + 1 + 1, 2, none⟩ = some (.int .u64 0) := Kn.get s2.out 1 2 rfl rfl
  have ur_3 : (kalP w1 (x) (y)).cell? ⟨w.heap.size + 1 + 1, 3, none⟩ = some (.int .u64 0) := Kn.get s2.out 1 3 rfl rfl
  have ur_4 : (kalP w1 (x) (y)).cell? ⟨w.heap.size + 1 + 1, 4, none⟩ = some (.int .u64 0) := Kn.get s2.out 1 4 rfl rfl
  have ur_5 : (kalP w1 (x) (y)).cell? ⟨w.heap.size + 1 + 1, 5, none⟩ = some (.int .u64 0) := Kn.get s2.out 1 5 rfl rfl
  have ur_6 : (kalP w1 (x) (y)).cell? ⟨w.heap.size + 1 + 1, 6, none⟩ = some (.int .u64 0) := Kn.get s2.out 1 6 rfl rfl
  have ur_7 : (kalP w1 (x) (y)).cell? ⟨w.heap.size + 1 + 1, 7, none⟩ = some (.int .u64 0) := Kn.get s2.out 1 7 rfl rfl
  have ur_z : ∀ j, (kalP w1 (x) (y)).frozen? ⟨w.heap.size + 1 + 1, j, none⟩ = false := Kn.fz s2.out 1 rfl
  go_wp2_with fail
  clear us_0 us_1 us_2 us_3 us_4 us_5 us_6 us_7 ur_0 ur_1 ur_2 ur_3 ur_4 ur_5 ur_6 ur_7 ur_z
  have uro_0 : (kalP w1 (x) (y)).cell? ⟨w.heap.size + 1 + 1, 0, none⟩ = some (.int .u64 0) := Kn.get s2.out 1 0 rfl rfl
  have uro_1 : (kalP w1 (x) (y)).cell? ⟨w.heap.size + 1 + 1, 1, none⟩ = some (.int .u64 0) := Kn.get s2.out 1 1 rfl rfl
  have uro_2 : (kalP w1 (x) (y)).cell? ⟨w.heap.size + 1 + 1, 2, none⟩ = some (.int .u64 0) := Kn.get s2.out 1 2 rfl rfl
  have uro_3 : (kalP w1 (x) (y)).cell? ⟨w.heap.size + 1 + 1, 3, none⟩ = some (.int .u64 0) := Kn.get s2.out 1 3 rfl rfl
  have uro_4 : (kalP w1 (x) (y)).cell? ⟨w.heap.size + 1 + 1, 4, none⟩ = some (.int .u64 0) := Kn.get s2.out 1 4 rfl rfl
  have uro_5 : (kalP w1 (x) (y)).cell? ⟨w.heap.size + 1 + 1, 5, none⟩ = some (.int .u64 0) := Kn.get s2.out 1 5 rfl rfl
  have uro_6 : (kalP w1 (x) (y)).cell? ⟨w.heap.size + 1 + 1, 6, none⟩ = some (.int .u64 0) := Kn.get s2.out 1 6 rfl rfl
  have uro_7 : (kalP w1 (x) (y)).cell? ⟨w.heap.size + 1 + 1, 7, none⟩ = some (.int .u64 0) := Kn.get s2.out 1 7 rfl rfl
  have uro_z : ∀ j, (kalP w1 (x) (y)).frozen? ⟨w.heap.size + 1 + 1, j, none⟩ = false := Kn.fz s2.out 1 rfl
  have s3 : Hid (Kn (st8 (kalP w1 (x) (y)) (w.heap.size + 1 + 1) (x) (y)) [(w.heap.size + 1 + 1, (c8 (x) (y))), (w1.heap.size, (c8 (x) (y))), (w.heap.size + 1, (c8 (x1) (y1))), (w.heap.size, (c4 (n)))]) := Kn.st8 (L := [(w1.heap.size, (c8 (x) (y))), (w.heap.size + 1, (c8 (x1) (y1))), (w.heap.size, (c4 (n)))]) (s2.out.front 1 rfl) (x) (y)
  have b3 : Hid (Below w.heap.size w (st8 (kalP w1 (x) (y)) (w.heap.size + 1 + 1) (x) (y))) := below_st8 b2.out (by omega)
  clear s2 b2
  have urr_0 : (st8 (kalP w1 (x) (y)) (w.heap.size + 1 + 1) (x) (y)).cell? ⟨w.heap.size + 1 + 1, 0, none⟩ = some (.int .u64 (x).a) := Kn.get s3.out 0 0 rfl rfl
  have urr_1 : (st8 (kalP w1 (x) (y)) (w.heap.size + 1 + 1) (x) (y)).cell? ⟨w.heap.size + 1 + 1, 1, none⟩ = some (.int .u64 (x).b) := Kn.get s3.out 0 1 rfl rfl
  have urr_2 : (st8 (kalP w1 (x) (y)) (w.heap.size + 1 + 1) (x) (y)).cell? ⟨w.heap.size + 1 + 1, 2, none⟩ = some (.int .u64 (x).c) := Kn.get s3.out 0 2 rfl rfl
  have urr_3 : (st8 (kalP w1 (x) (y)) (w.heap.size + 1 + 1) (x) (y)).cell? ⟨w.heap.size + 1 + 1, 3, none⟩ = some (.int .u64 (x).d) := Kn.get s3.out 0 3 rfl rfl
  have urr_4 : (st8 (kalP w1 (x) (y)) (w.heap.size + 1 + 1) (x) (y)).cell? ⟨w.heap.size + 1 + 1, 4, none⟩ = some (.int .u64 (y).a) := Kn.get s3.out 0 4 rfl rfl
  have urr_5 : (st8 (kalP w1 (x) (y)) (w.heap.size + 1 + 1) (x) (y)).cell? ⟨w.heap.size + 1 + 1, 5, none⟩ = some (.int .u64 (y).b) := Kn.get s3.out 0 5 rfl rfl
  have urr_6 : (st8 (kalP w1 (x) (y)) (w.heap.size + 1 + 1) (x) (y)).cell? ⟨w.heap.size + 1 + 1, 6, none⟩ = some (.int .u64 (y).c) := Kn.get s3.out 0 6 rfl rfl
  have urr_7 : (st8 (kalP w1 (x) (y)) (w.heap.size + 1 + 1) (x) (y)).cell? ⟨w.heap.size + 1 + 1, 7, none⟩ = some (.int .u64 (y).d) := Kn.get s3.out 0 7 rfl rfl
  refine bodyPost_ret (v := Wv x y) ?_ rfl ⟨rfl, b3.out⟩
  show (results Try.f18 _).run Try.prog (st8 (kalP w1 (x) (y)) (w.heap.size + 1 + 1) (x) (y)) = .ok _ (st8 (kalP w1 (x) (y)) (w.heap.size + 1 + 1) (x) (y))
  clear s3 b3
  generalize (st8 (kalP w1 (x) (y)) (w.heap.size + 1 + 1) (x) (y)) = W9 at *
  simp [results, Try.results18, go_sem, urr_0, urr_1, urr_2, urr_3, urr_4, urr_5, urr_6, urr_7]
theorem times_fun (CT : CTimesC) (n : Nm) (on : n.ok) (P : Cv.Pt) (hP : Cv.On P) (w : World) : Calls Try.prog 18 #[N n, pv P] w fun e w' => e = .returned (pv (Cv.times n.nat P)) ∧ Below w.heap.size w w' := times_walk _ _ _ _ _ (CT n P on hP) w
end Go.Proofs.Ytpnfopakkaoibaa
