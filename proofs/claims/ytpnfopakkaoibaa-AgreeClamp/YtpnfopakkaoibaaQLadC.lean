/- What package ladder must keep: its calls' contracts, each as one premise; the verifier's small calls. -/
import Derived.Test.YtpnfopakkaoibaaQMulWToAdN
import Derived.Test.YtpnfopakkaoibaaQLTwToLSw
namespace Go.Proofs.Ytpnfopakkaoibaa
open Go.RowKit
attribute [local go_sem] World.cell?_alloc_some cell_alloc2 cell_alloc3 cell_alloc4 frozen?_alloc_cells frozen_out
set_option linter.unusedSimpArgs false
def LLadC : Prop := ∀ k u : Nm, k.ok → u.ok → ∀ w, Calls Try.prog 22 #[N k, N u] w fun e w' => e = .returned (N (nm (Cv.lad k.nat u.nat))) ∧ Below w.heap.size w w'
def LOfC : Prop := ∀ P : Cv.Pt, Cv.On P → ∀ w, Calls Try.prog 39 #[pv P] w fun e w' => e = .returned (.tuple #[N (nm (Cv.place P)), .int .i64 0]) ∧ Below w.heap.size w w'
set_option maxHeartbeats 1000000 in
theorem place_walk (px py u : Nm) (er : Int)
    (O1 : ∀ w, Calls Try.prog 39 #[Wv px py] w fun e w' => e = .returned (.tuple #[N u, .int .i64 er]) ∧ Below w.heap.size w w')
    (w : World) : Calls Try.prog 17 #[Wv px py] w fun e w' => e = .returned (N u) ∧ Below w.heap.size w w' := by
  go_enter Try.func17, Try.ntmps17
  have s0 : Hid (Kn (kz4 (kalP w (px) (py))) [(w.heap.size + 1, zz4), (w.heap.size, (c8 (px) (py)))]) := (((Kn.nil w).al (c8 (px) (py)) 35 rfl).al zz4 28 (by simp))
  have b0 : Hid (Below w.heap.size w (kz4 (kalP w (px) (py)))) := (((Below.refl _ _).alloc (Nat.le_refl _) _).alloc (by simp <;> omega) _)
  go_wp2_with fail
  refine (O1 _).mono ?_
  rintro e w1 ⟨rfl, hb1⟩
  have s1 : Hid (Kn w1 [(w.heap.size + 1, zz4), (w.heap.size, (c8 (px) (py)))]) := s0.out.up hb1
  have b1 : Hid (Below w.heap.size w w1) := b0.out.trans (hb1.mono b0.out.size)
  have z1 := b1.out.size
  clear hb1 s0 b0
  have s2 : Hid (Kn (kal4 w1 (u)) [(w1.heap.size, (c4 (u))), (w.heap.size + 1, zz4), (w.heap.size, (c8 (px) (py)))]) := s1.out.al (c4 (u)) 28 rfl
  have b2 : Hid (Below w.heap.size w (kal4 w1 (u))) := b1.out.alloc b1.out.size _
  have z2 := b1.out.size
  clear s1 b1
  have uu_0 : (kal4 w1 (u)).cell? ⟨w1.heap.size, 0, none⟩ = some (.int .u64 (u).a) := Kn.get s2.out 0 0 rfl rfl
  have uu_1 : (kal4 w1 (u)).cell? ⟨w1.heap.size, 1, none⟩ = some (.int .u64 (u).b) := Kn.get s2.out 0 1 rfl rfl
  have uu_2 : (kal4 w1 (u)).cell? ⟨w1.heap.size, 2, none⟩ = some (.int .u64 (u).c) := Kn.get s2.out 0 2 rfl rfl
  have uu_3 : (kal4 w1 (u)).cell? ⟨w1.heap.size, 3, none⟩ = some (.int .u64 (u).d) := Kn.get s2.out 0 3 rfl rfl
  have uro_0 : (kal4 w1 (u)).cell? ⟨w.heap.size + 1, 0, none⟩ = some (.int .u64 0) := Kn.get s2.out 1 0 rfl rfl
  have uro_1 : (kal4 w1 (u)).cell? ⟨w.heap.size + 1, 1, none⟩ = some (.int .u64 0) := Kn.get s2.out 1 1 rfl rfl
  have uro_2 : (kal4 w1 (u)).cell? ⟨w.heap.size + 1, 2, none⟩ = some (.int .u64 0) := Kn.get s2.out 1 2 rfl rfl
  have uro_3 : (kal4 w1 (u)).cell? ⟨w.heap.size + 1, 3, none⟩ = some (.int .u64 0) := Kn.get s2.out 1 3 rfl rfl
  have uro_z : ∀ j, (kal4 w1 (u)).frozen? ⟨w.heap.size + 1, j, none⟩ = false := Kn.fz s2.out 1 rfl
  have s3 : Hid (Kn (st4 (kal4 w1 (u)) (w.heap.size + 1) (u)) [(w.heap.size + 1, (c4 (u))), (w1.heap.size, (c4 (u))), (w.heap.size, (c8 (px) (py)))]) := Kn.st4 (L := [(w1.heap.size, (c4 (u))), (w.heap.size, (c8 (px) (py)))]) (s2.out.front 1 rfl) (u)
  have b3 : Hid (Below w.heap.size w (st4 (kal4 w1 (u)) (w.heap.size + 1) (u))) := below_st4 b2.out (by omega)
  clear s2 b2
  go_wp2_with fail
  clear uu_0 uu_1 uu_2 uu_3 uro_0 uro_1 uro_2 uro_3 uro_z
  have urr_0 : (st4 (kal4 w1 (u)) (w.heap.size + 1) (u)).cell? ⟨w.heap.size + 1, 0, none⟩ = some (.int .u64 (u).a) := Kn.get s3.out 0 0 rfl rfl
  have urr_1 : (st4 (kal4 w1 (u)) (w.heap.size + 1) (u)).cell? ⟨w.heap.size + 1, 1, none⟩ = some (.int .u64 (u).b) := Kn.get s3.out 0 1 rfl rfl
  have urr_2 : (st4 (kal4 w1 (u)) (w.heap.size + 1) (u)).cell? ⟨w.heap.size + 1, 2, none⟩ = some (.int .u64 (u).c) := Kn.get s3.out 0 2 rfl rfl
  have urr_3 : (st4 (kal4 w1 (u)) (w.heap.size + 1) (u)).cell? ⟨w.heap.size + 1, 3, none⟩ = some (.int .u64 (u).d) := Kn.get s3.out 0 3 rfl rfl
  refine bodyPost_ret (v := N u) ?_ rfl ⟨rfl, b3.out⟩
  show (results Try.f17 _).run Try.prog (st4 (kal4 w1 (u)) (w.heap.size + 1) (u)) = .ok _ (st4 (kal4 w1 (u)) (w.heap.size + 1) (u))
  clear s3 b3
  generalize (st4 (kal4 w1 (u)) (w.heap.size + 1) (u)) = W9 at *
  simp [results, Try.results17, go_sem, urr_0, urr_1, urr_2, urr_3]
theorem place_fun (LO : LOfC) (P : Cv.Pt) (hP : Cv.On P) (w : World) : Calls Try.prog 17 #[pv P] w fun e w' => e = .returned (N (nm (Cv.place P))) ∧ Below w.heap.size w w' := place_walk _ _ _ _ (LO P hP) w
end Go.Proofs.Ytpnfopakkaoibaa
