/- Package curve, as it landed: Unpack. -/
import Derived.Test.YtfknkfninjjgbabDoorQUpV3ToOfB
import Derived.Test.YtfknkfninjjgbabDoorQShlToCvPk
namespace Go.Proofs.YtfknkfninjjgbabDoor
open Go.RowKit
attribute [local go_sem] World.cell?_alloc_some cell_alloc2 cell_alloc3 cell_alloc4 frozen?_alloc_cells frozen_out
set_option linter.unusedSimpArgs false
set_option maxRecDepth 20000 in
set_option maxHeartbeats 1000000 in
theorem cUnp_no (n : Nat) (c : Int) (ya la xa : Nm)
    (F1 : ∀ w, Calls Tryd.prog 52 #[.agg (bR (n)).toArray] w fun e w' => e = .returned (N ya) ∧ Below w.heap.size w w')
    (BT : ∀ w, Calls Tryd.prog 49 #[N ya, .int .i64 255] w fun e w' => e = .returned (.int .u64 c) ∧ Below w.heap.size w w')
    (L1 : ∀ w, Calls Tryd.prog 40 #[N (foA ya)] w fun e w' => e = .returned (N la) ∧ Below w.heap.size w w')
    (E1 : ∀ w, Calls Tryd.prog 69 #[N la] w fun e w' => e = .returned (.tuple #[N xa, .bool false]) ∧ Below w.heap.size w w')
    (w : World) :
    Calls Tryd.prog 51 #[bV n] w fun e w' => e = .returned (.tuple #[Wv nO nO, .int .i64 4]) ∧ Below w.heap.size w w' := by
  go_enter Tryd.func51, Tryd.ntmps51
  have s0 : Hid (Kn (kzP (w.alloc (.cells (bR (n)).toArray 22))) [(w.heap.size + 1, zz8), (w.heap.size, (bR (n)))]) := (((Kn.nil w).al (bR (n)) 22 rfl).al zz8 34 (by simp))
  have b0 : Hid (Below w.heap.size w (kzP (w.alloc (.cells (bR (n)).toArray 22)))) := (((Below.refl _ _).alloc (Nat.le_refl _) _).alloc (by simp <;> omega) _)
  go_wp2_with (first | refine wp_ldW rfl 22 _ rfl (w.heap.size) 0 rfl (bR (n)) _ (Kn.rng s0.out 1 rfl) Tryd.underlying22 rfl (info_bR (n)) ?_)
  refine (F1 _).mono ?_
  rintro e w1 ⟨rfl, hb1⟩
  have s1 : Hid (Kn w1 [(w.heap.size + 1, zz8), (w.heap.size, (bR (n)))]) := s0.out.up hb1
  have b1 : Hid (Below w.heap.size w w1) := b0.out.trans (hb1.mono b0.out.size)
  have z1 := b1.out.size
  clear hb1 s0 b0
  have s2 : Hid (Kn (kal4 w1 (ya)) [(w1.heap.size, (c4 (ya))), (w.heap.size + 1, zz8), (w.heap.size, (bR (n)))]) := s1.out.al (c4 (ya)) 26 rfl
  have b2 : Hid (Below w.heap.size w (kal4 w1 (ya))) := b1.out.alloc b1.out.size _
  have z2 := b1.out.size
  clear s1 b1
  have uy_0 : (kal4 w1 (ya)).cell? ⟨w1.heap.size, 0, none⟩ = some (.int .u64 (ya).a) := Kn.get s2.out 0 0 rfl rfl
  have uy_1 : (kal4 w1 (ya)).cell? ⟨w1.heap.size, 1, none⟩ = some (.int .u64 (ya).b) := Kn.get s2.out 0 1 rfl rfl
  have uy_2 : (kal4 w1 (ya)).cell? ⟨w1.heap.size, 2, none⟩ = some (.int .u64 (ya).c) := Kn.get s2.out 0 2 rfl rfl
  have uy_3 : (kal4 w1 (ya)).cell? ⟨w1.heap.size, 3, none⟩ = some (.int .u64 (ya).d) := Kn.get s2.out 0 3 rfl rfl
  go_wp2_with fail
  clear uy_0 uy_1 uy_2 uy_3
  refine (BT _).mono ?_
  rintro e w3 ⟨rfl, hb3⟩
  have s3 : Hid (Kn w3 [(w1.heap.size, (c4 (ya))), (w.heap.size + 1, zz8), (w.heap.size, (bR (n)))]) := s2.out.up hb3
  have b3 : Hid (Below w.heap.size w w3) := b2.out.trans (hb3.mono b2.out.size)
  have z3 := b3.out.size
  clear hb3 s2 b2
  have uyo_0 : w3.cell? ⟨w1.heap.size, 0, none⟩ = some (.int .u64 (ya).a) := Kn.get s3.out 0 0 rfl rfl
  have uyo_1 : w3.cell? ⟨w1.heap.size, 1, none⟩ = some (.int .u64 (ya).b) := Kn.get s3.out 0 1 rfl rfl
  have uyo_2 : w3.cell? ⟨w1.heap.size, 2, none⟩ = some (.int .u64 (ya).c) := Kn.get s3.out 0 2 rfl rfl
  have uyo_3 : w3.cell? ⟨w1.heap.size, 3, none⟩ = some (.int .u64 (ya).d) := Kn.get s3.out 0 3 rfl rfl
  have uyo_z : ∀ j, w3.frozen? ⟨w1.heap.size, j, none⟩ = false := Kn.fz s3.out 0 rfl
  have s4 : Hid (Kn (w3.setCell ⟨w1.heap.size, 3, none⟩ (.int .u64 (bits .and .u64 ya.d 9223372036854775807))) [(w1.heap.size, (c4 (foA ya))), (w.heap.size + 1, zz8), (w.heap.size, (bR (n)))]) := Kn.set (L := [(w.heap.size + 1, zz8), (w.heap.size, (bR (n)))]) (s3.out.front 0 rfl) 3 (.int .u64 (bits .and .u64 ya.d 9223372036854775807)) (by simp)
  have b4 : Hid (Below w.heap.size w (w3.setCell ⟨w1.heap.size, 3, none⟩ (.int .u64 (bits .and .u64 ya.d 9223372036854775807)))) := b3.out.setCell (p := ⟨w1.heap.size, 3, none⟩) (by first | assumption | omega) _
  clear s3 b3
  have uy_0 : (w3.setCell ⟨w1.heap.size, 3, none⟩ (.int .u64 (bits .and .u64 ya.d 9223372036854775807))).cell? ⟨w1.heap.size, 0, none⟩ = some (.int .u64 (foA ya).a) := Kn.get s4.out 0 0 rfl rfl
  have uy_1 : (w3.setCell ⟨w1.heap.size, 3, none⟩ (.int .u64 (bits .and .u64 ya.d 9223372036854775807))).cell? ⟨w1.heap.size, 1, none⟩ = some (.int .u64 (foA ya).b) := Kn.get s4.out 0 1 rfl rfl
  have uy_2 : (w3.setCell ⟨w1.heap.size, 3, none⟩ (.int .u64 (bits .and .u64 ya.d 9223372036854775807))).cell? ⟨w1.heap.size, 2, none⟩ = some (.int .u64 (foA ya).c) := Kn.get s4.out 0 2 rfl rfl
  have uy_3 : (w3.setCell ⟨w1.heap.size, 3, none⟩ (.int .u64 (bits .and .u64 ya.d 9223372036854775807))).cell? ⟨w1.heap.size, 3, none⟩ = some (.int .u64 (foA ya).d) := Kn.get s4.out 0 3 rfl rfl
  go_wp2_with fail
  clear uyo_0 uyo_1 uyo_2 uyo_3 uyo_z uy_0 uy_1 uy_2 uy_3
  refine (L1 _).mono ?_
  rintro e w5 ⟨rfl, hb5⟩
  have s5 : Hid (Kn w5 [(w1.heap.size, (c4 (foA ya))), (w.heap.size + 1, zz8), (w.heap.size, (bR (n)))]) := s4.out.up hb5
  have b5 : Hid (Below w.heap.size w w5) := b4.out.trans (hb5.mono b4.out.size)
  have z5 := b5.out.size
  clear hb5 s4 b4
  have uyo_0 : w5.cell? ⟨w1.heap.size, 0, none⟩ = some (.int .u64 (foA ya).a) := Kn.get s5.out 0 0 rfl rfl
  have uyo_1 : w5.cell? ⟨w1.heap.size, 1, none⟩ = some (.int .u64 (foA ya).b) := Kn.get s5.out 0 1 rfl rfl
  have uyo_2 : w5.cell? ⟨w1.heap.size, 2, none⟩ = some (.int .u64 (foA ya).c) := Kn.get s5.out 0 2 rfl rfl
  have uyo_3 : w5.cell? ⟨w1.heap.size, 3, none⟩ = some (.int .u64 (foA ya).d) := Kn.get s5.out 0 3 rfl rfl
  have uyo_z : ∀ j, w5.frozen? ⟨w1.heap.size, j, none⟩ = false := Kn.fz s5.out 0 rfl
  have s6 : Hid (Kn (st4 w5 (w1.heap.size) (la)) [(w1.heap.size, (c4 (la))), (w.heap.size + 1, zz8), (w.heap.size, (bR (n)))]) := Kn.st4 (L := [(w.heap.size + 1, zz8), (w.heap.size, (bR (n)))]) (s5.out.front 0 rfl) (la)
  have b6 : Hid (Below w.heap.size w (st4 w5 (w1.heap.size) (la))) := below_st4 b5.out (by first | assumption | omega)
  clear s5 b5
  have uy_0 : (st4 w5 (w1.heap.size) (la)).cell? ⟨w1.heap.size, 0, none⟩ = some (.int .u64 (la).a) := Kn.get s6.out 0 0 rfl rfl
  have uy_1 : (st4 w5 (w1.heap.size) (la)).cell? ⟨w1.heap.size, 1, none⟩ = some (.int .u64 (la).b) := Kn.get s6.out 0 1 rfl rfl
  have uy_2 : (st4 w5 (w1.heap.size) (la)).cell? ⟨w1.heap.size, 2, none⟩ = some (.int .u64 (la).c) := Kn.get s6.out 0 2 rfl rfl
  have uy_3 : (st4 w5 (w1.heap.size) (la)).cell? ⟨w1.heap.size, 3, none⟩ = some (.int .u64 (la).d) := Kn.get s6.out 0 3 rfl rfl
  go_wp2_with fail
  clear uyo_0 uyo_1 uyo_2 uyo_3 uyo_z uy_0 uy_1 uy_2 uy_3
  refine (E1 _).mono ?_
  rintro e w7 ⟨rfl, hb7⟩
  have s7 : Hid (Kn w7 [(w1.heap.size, (c4 (la))), (w.heap.size + 1, zz8), (w.heap.size, (bR (n)))]) := s6.out.up hb7
  have b7 : Hid (Below w.heap.size w w7) := b6.out.trans (hb7.mono b6.out.size)
  have z7 := b7.out.size
  clear hb7 s6 b6
  have s8 : Hid (Kn (kal4 w7 (xa)) [(w7.heap.size, (c4 (xa))), (w1.heap.size, (c4 (la))), (w.heap.size + 1, zz8), (w.heap.size, (bR (n)))]) := s7.out.al (c4 (xa)) 26 rfl
  have b8 : Hid (Below w.heap.size w (kal4 w7 (xa))) := b7.out.alloc b7.out.size _
  have z8 := b7.out.size
  clear s7 b7
  have uro_0 : (kal4 w7 (xa)).cell? ⟨w.heap.size + 1, 0, none⟩ = some (.int .u64 0) := Kn.get s8.out 2 0 rfl rfl
  have uro_1 : (kal4 w7 (xa)).cell? ⟨w.heap.size + 1, 1, none⟩ = some (.int .u64 0) := Kn.get s8.out 2 1 rfl rfl
  have uro_2 : (kal4 w7 (xa)).cell? ⟨w.heap.size + 1, 2, none⟩ = some (.int .u64 0) := Kn.get s8.out 2 2 rfl rfl
  have uro_3 : (kal4 w7 (xa)).cell? ⟨w.heap.size + 1, 3, none⟩ = some (.int .u64 0) := Kn.get s8.out 2 3 rfl rfl
  have uro_4 : (kal4 w7 (xa)).cell? ⟨w.heap.size + 1, 4, none⟩ = some (.int .u64 0) := Kn.get s8.out 2 4 rfl rfl
  have uro_5 : (kal4 w7 (xa)).cell? ⟨w.heap.size + 1, 5, none⟩ = some (.int .u64 0) := Kn.get s8.out 2 5 rfl rfl
  have uro_6 : (kal4 w7 (xa)).cell? ⟨w.heap.size + 1, 6, none⟩ = some (.int .u64 0) := Kn.get s8.out 2 6 rfl rfl
  have uro_7 : (kal4 w7 (xa)).cell? ⟨w.heap.size + 1, 7, none⟩ = some (.int .u64 0) := Kn.get s8.out 2 7 rfl rfl
  have uro_z : ∀ j, (kal4 w7 (xa)).frozen? ⟨w.heap.size + 1, j, none⟩ = false := Kn.fz s8.out 2 rfl
  have s9 : Hid (Kn (st8 (kal4 w7 (xa)) (w.heap.size + 1) (nO) (nO)) [(w.heap.size + 1, (c8 (nO) (nO))), (w7.heap.size, (c4 (xa))), (w1.heap.size, (c4 (la))), (w.heap.size, (bR (n)))]) := Kn.st8 (L := [(w7.heap.size, (c4 (xa))), (w1.heap.size, (c4 (la))), (w.heap.size, (bR (n)))]) (s8.out.front 2 rfl) (nO) (nO)
  have b9 : Hid (Below w.heap.size w (st8 (kal4 w7 (xa)) (w.heap.size + 1) (nO) (nO))) := below_st8 b8.out (by omega)
  clear s8 b8
  go_wp2_with fail
  clear uro_0 uro_1 uro_2 uro_3 uro_4 uro_5 uro_6 uro_7 uro_z
  have urr_0 : (st8 (kal4 w7 (xa)) (w.heap.size + 1) (nO) (nO)).cell? ⟨w.heap.size + 1, 0, none⟩ = some (.int .u64 (nO).a) := Kn.get s9.out 0 0 rfl rfl
  have urr_1 : (st8 (kal4 w7 (xa)) (w.heap.size + 1) (nO) (nO)).cell? ⟨w.heap.size + 1, 1, none⟩ = some (.int .u64 (nO).b) := Kn.get s9.out 0 1 rfl rfl
  have urr_2 : (st8 (kal4 w7 (xa)) (w.heap.size + 1) (nO) (nO)).cell? ⟨w.heap.size + 1, 2, none⟩ = some (.int .u64 (nO).c) := Kn.get s9.out 0 2 rfl rfl
  have urr_3 : (st8 (kal4 w7 (xa)) (w.heap.size + 1) (nO) (nO)).cell? ⟨w.heap.size + 1, 3, none⟩ = some (.int .u64 (nO).d) := Kn.get s9.out 0 3 rfl rfl
  have urr_4 : (st8 (kal4 w7 (xa)) (w.heap.size + 1) (nO) (nO)).cell? ⟨w.heap.size + 1, 4, none⟩ = some (.int .u64 (nO).a) := Kn.get s9.out 0 4 rfl rfl
  have urr_5 : (st8 (kal4 w7 (xa)) (w.heap.size + 1) (nO) (nO)).cell? ⟨w.heap.size + 1, 5, none⟩ = some (.int .u64 (nO).b) := Kn.get s9.out 0 5 rfl rfl
  have urr_6 : (st8 (kal4 w7 (xa)) (w.heap.size + 1) (nO) (nO)).cell? ⟨w.heap.size + 1, 6, none⟩ = some (.int .u64 (nO).c) := Kn.get s9.out 0 6 rfl rfl
  have urr_7 : (st8 (kal4 w7 (xa)) (w.heap.size + 1) (nO) (nO)).cell? ⟨w.heap.size + 1, 7, none⟩ = some (.int .u64 (nO).d) := Kn.get s9.out 0 7 rfl rfl
  refine bodyPost_ret (v := .tuple #[Wv nO nO, .int .i64 4]) ?_ rfl ⟨rfl, b9.out⟩
  show (results Tryd.f51 _).run Tryd.prog (st8 (kal4 w7 (xa)) (w.heap.size + 1) (nO) (nO)) = .ok _ (st8 (kal4 w7 (xa)) (w.heap.size + 1) (nO) (nO))
  clear s9 b9
  generalize (st8 (kal4 w7 (xa)) (w.heap.size + 1) (nO) (nO)) = W9 at *
  simp [results, Tryd.results51, go_sem, urr_0, urr_1, urr_2, urr_3, urr_4, urr_5, urr_6, urr_7]
set_option maxRecDepth 20000 in
set_option maxHeartbeats 1000000 in
theorem cUnp_un (n m : Nat) (c : Int) (ya la xa na ra : Nm) (e1 : ∀ w, (binOp .neq 22 (bV m) (bV n)).run Tryd.prog w = .ok (.bool true) w)
    (F1 : ∀ w, Calls Tryd.prog 52 #[.agg (bR (n)).toArray] w fun e w' => e = .returned (N ya) ∧ Below w.heap.size w w')
    (BT : ∀ w, Calls Tryd.prog 49 #[N ya, .int .i64 255] w fun e w' => e = .returned (.int .u64 c) ∧ Below w.heap.size w w')
    (L1 : ∀ w, Calls Tryd.prog 40 #[N (foA ya)] w fun e w' => e = .returned (N la) ∧ Below w.heap.size w w')
    (E1 : ∀ w, Calls Tryd.prog 69 #[N la] w fun e w' => e = .returned (.tuple #[N xa, .bool true]) ∧ Below w.heap.size w w')
    (S1 : ∀ w, Calls Tryd.prog 42 #[N nO, N xa] w fun e w' => e = .returned (N na) ∧ Below w.heap.size w w')
    (P1 : ∀ w, Calls Tryd.prog 34 #[.int .u64 c, N xa, N na] w fun e w' => e = .returned (N ra) ∧ Below w.heap.size w w')
    (K1 : ∀ w, Calls Tryd.prog 23 #[Wv ra la] w fun e w' => e = .returned (.agg (bR (m)).toArray) ∧ Below w.heap.size w w')
    (w : World) :
    Calls Tryd.prog 51 #[bV n] w fun e w' => e = .returned (.tuple #[Wv nO nO, .int .i64 4]) ∧ Below w.heap.size w w' := by
  go_enter Tryd.func51, Tryd.ntmps51
  have s0 : Hid (Kn (kzP (w.alloc (.cells (bR (n)).toArray 22))) [(w.heap.size + 1, zz8), (w.heap.size, (bR (n)))]) := (((Kn.nil w).al (bR (n)) 22 rfl).al zz8 34 (by simp))
  have b0 : Hid (Below w.heap.size w (kzP (w.alloc (.cells (bR (n)).toArray 22)))) := (((Below.refl _ _).alloc (Nat.le_refl _) _).alloc (by simp <;> omega) _)
  go_wp2_with (first | refine wp_ldW rfl 22 _ rfl (w.heap.size) 0 rfl (bR (n)) _ (Kn.rng s0.out 1 rfl) Tryd.underlying22 rfl (info_bR (n)) ?_)
  refine (F1 _).mono ?_
  rintro e w1 ⟨rfl, hb1⟩
  have s1 : Hid (Kn w1 [(w.heap.size + 1, zz8), (w.heap.size, (bR (n)))]) := s0.out.up hb1
  have b1 : Hid (Below w.heap.size w w1) := b0.out.trans (hb1.mono b0.out.size)
  have z1 := b1.out.size
  clear hb1 s0 b0
  have s2 : Hid (Kn (kal4 w1 (ya)) [(w1.heap.size, (c4 (ya))), (w.heap.size + 1, zz8), (w.heap.size, (bR (n)))]) := s1.out.al (c4 (ya)) 26 rfl
  have b2 : Hid (Below w.heap.size w (kal4 w1 (ya))) := b1.out.alloc b1.out.size _
  have z2 := b1.out.size
  clear s1 b1
  have uy_0 : (kal4 w1 (ya)).cell? ⟨w1.heap.size, 0, none⟩ = some (.int .u64 (ya).a) := Kn.get s2.out 0 0 rfl rfl
  have uy_1 : (kal4 w1 (ya)).cell? ⟨w1.heap.size, 1, none⟩ = some (.int .u64 (ya).b) := Kn.get s2.out 0 1 rfl rfl
  have uy_2 : (kal4 w1 (ya)).cell? ⟨w1.heap.size, 2, none⟩ = some (.int .u64 (ya).c) := Kn.get s2.out 0 2 rfl rfl
  have uy_3 : (kal4 w1 (ya)).cell? ⟨w1.heap.size, 3, none⟩ = some (.int .u64 (ya).d) := Kn.get s2.out 0 3 rfl rfl
  go_wp2_with fail
  clear uy_0 uy_1 uy_2 uy_3
  refine (BT _).mono ?_
  rintro e w3 ⟨rfl, hb3⟩
  have s3 : Hid (Kn w3 [(w1.heap.size, (c4 (ya))), (w.heap.size + 1, zz8), (w.heap.size, (bR (n)))]) := s2.out.up hb3
  have b3 : Hid (Below w.heap.size w w3) := b2.out.trans (hb3.mono b2.out.size)
  have z3 := b3.out.size
  clear hb3 s2 b2
  have uyo_0 : w3.cell? ⟨w1.heap.size, 0, none⟩ = some (.int .u64 (ya).a) := Kn.get s3.out 0 0 rfl rfl
  have uyo_1 : w3.cell? ⟨w1.heap.size, 1, none⟩ = some (.int .u64 (ya).b) := Kn.get s3.out 0 1 rfl rfl
  have uyo_2 : w3.cell? ⟨w1.heap.size, 2, none⟩ = some (.int .u64 (ya).c) := Kn.get s3.out 0 2 rfl rfl
  have uyo_3 : w3.cell? ⟨w1.heap.size, 3, none⟩ = some (.int .u64 (ya).d) := Kn.get s3.out 0 3 rfl rfl
  have uyo_z : ∀ j, w3.frozen? ⟨w1.heap.size, j, none⟩ = false := Kn.fz s3.out 0 rfl
  have s4 : Hid (Kn (w3.setCell ⟨w1.heap.size, 3, none⟩ (.int .u64 (bits .and .u64 ya.d 9223372036854775807))) [(w1.heap.size, (c4 (foA ya))), (w.heap.size + 1, zz8), (w.heap.size, (bR (n)))]) := Kn.set (L := [(w.heap.size + 1, zz8), (w.heap.size, (bR (n)))]) (s3.out.front 0 rfl) 3 (.int .u64 (bits .and .u64 ya.d 9223372036854775807)) (by simp)
  have b4 : Hid (Below w.heap.size w (w3.setCell ⟨w1.heap.size, 3, none⟩ (.int .u64 (bits .and .u64 ya.d 9223372036854775807)))) := b3.out.setCell (p := ⟨w1.heap.size, 3, none⟩) (by first | assumption | omega) _
  clear s3 b3
  have uy_0 : (w3.setCell ⟨w1.heap.size, 3, none⟩ (.int .u64 (bits .and .u64 ya.d 9223372036854775807))).cell? ⟨w1.heap.size, 0, none⟩ = some (.int .u64 (foA ya).a) := Kn.get s4.out 0 0 rfl rfl
  have uy_1 : (w3.setCell ⟨w1.heap.size, 3, none⟩ (.int .u64 (bits .and .u64 ya.d 9223372036854775807))).cell? ⟨w1.heap.size, 1, none⟩ = some (.int .u64 (foA ya).b) := Kn.get s4.out 0 1 rfl rfl
  have uy_2 : (w3.setCell ⟨w1.heap.size, 3, none⟩ (.int .u64 (bits .and .u64 ya.d 9223372036854775807))).cell? ⟨w1.heap.size, 2, none⟩ = some (.int .u64 (foA ya).c) := Kn.get s4.out 0 2 rfl rfl
  have uy_3 : (w3.setCell ⟨w1.heap.size, 3, none⟩ (.int .u64 (bits .and .u64 ya.d 9223372036854775807))).cell? ⟨w1.heap.size, 3, none⟩ = some (.int .u64 (foA ya).d) := Kn.get s4.out 0 3 rfl rfl
  go_wp2_with fail
  clear uyo_0 uyo_1 uyo_2 uyo_3 uyo_z uy_0 uy_1 uy_2 uy_3
  refine (L1 _).mono ?_
  rintro e w5 ⟨rfl, hb5⟩
  have s5 : Hid (Kn w5 [(w1.heap.size, (c4 (foA ya))), (w.heap.size + 1, zz8), (w.heap.size, (bR (n)))]) := s4.out.up hb5
  have b5 : Hid (Below w.heap.size w w5) := b4.out.trans (hb5.mono b4.out.size)
  have z5 := b5.out.size
  clear hb5 s4 b4
  have uyo_0 : w5.cell? ⟨w1.heap.size, 0, none⟩ = some (.int .u64 (foA ya).a) := Kn.get s5.out 0 0 rfl rfl
  have uyo_1 : w5.cell? ⟨w1.heap.size, 1, none⟩ = some (.int .u64 (foA ya).b) := Kn.get s5.out 0 1 rfl rfl
  have uyo_2 : w5.cell? ⟨w1.heap.size, 2, none⟩ = some (.int .u64 (foA ya).c) := Kn.get s5.out 0 2 rfl rfl
  have uyo_3 : w5.cell? ⟨w1.heap.size, 3, none⟩ = some (.int .u64 (foA ya).d) := Kn.get s5.out 0 3 rfl rfl
  have uyo_z : ∀ j, w5.frozen? ⟨w1.heap.size, j, none⟩ = false := Kn.fz s5.out 0 rfl
  have s6 : Hid (Kn (st4 w5 (w1.heap.size) (la)) [(w1.heap.size, (c4 (la))), (w.heap.size + 1, zz8), (w.heap.size, (bR (n)))]) := Kn.st4 (L := [(w.heap.size + 1, zz8), (w.heap.size, (bR (n)))]) (s5.out.front 0 rfl) (la)
  have b6 : Hid (Below w.heap.size w (st4 w5 (w1.heap.size) (la))) := below_st4 b5.out (by first | assumption | omega)
  clear s5 b5
  have uy_0 : (st4 w5 (w1.heap.size) (la)).cell? ⟨w1.heap.size, 0, none⟩ = some (.int .u64 (la).a) := Kn.get s6.out 0 0 rfl rfl
  have uy_1 : (st4 w5 (w1.heap.size) (la)).cell? ⟨w1.heap.size, 1, none⟩ = some (.int .u64 (la).b) := Kn.get s6.out 0 1 rfl rfl
  have uy_2 : (st4 w5 (w1.heap.size) (la)).cell? ⟨w1.heap.size, 2, none⟩ = some (.int .u64 (la).c) := Kn.get s6.out 0 2 rfl rfl
  have uy_3 : (st4 w5 (w1.heap.size) (la)).cell? ⟨w1.heap.size, 3, none⟩ = some (.int .u64 (la).d) := Kn.get s6.out 0 3 rfl rfl
  go_wp2_with fail
  clear uyo_0 uyo_1 uyo_2 uyo_3 uyo_z uy_0 uy_1 uy_2 uy_3
  refine (E1 _).mono ?_
  rintro e w7 ⟨rfl, hb7⟩
  have s7 : Hid (Kn w7 [(w1.heap.size, (c4 (la))), (w.heap.size + 1, zz8), (w.heap.size, (bR (n)))]) := s6.out.up hb7
  have b7 : Hid (Below w.heap.size w w7) := b6.out.trans (hb7.mono b6.out.size)
  have z7 := b7.out.size
  clear hb7 s6 b6
  have s8 : Hid (Kn (kal4 w7 (xa)) [(w7.heap.size, (c4 (xa))), (w1.heap.size, (c4 (la))), (w.heap.size + 1, zz8), (w.heap.size, (bR (n)))]) := s7.out.al (c4 (xa)) 26 rfl
  have b8 : Hid (Below w.heap.size w (kal4 w7 (xa))) := b7.out.alloc b7.out.size _
  have z8 := b7.out.size
  clear s7 b7
  go_wp2_with fail
  refine wp_region_alloc1 8 (.cells #[.int .u64 0, .int .u64 0, .int .u64 0, .int .u64 0, .int .u64 0, .int .u64 0, .int .u64 0, .int .u64 0] 34) (by kernel_rfl) (by kernel_rfl) (by kernel_rfl) (by kernel_rfl) (by decide) (fun _ _ d _ _ h => by cases d <;> exact h) rfl rfl (fun _ _ => by kernel_rfl) ?_
  apply Exists.intro
  refine ⟨fun U hU f hf hcl => ?_, fun k9 w9 hb9 hk9 hc9 => ?_⟩
  · skip
    have ux_0 := fun nx => (Kn.get (s8.out.up (hf nx).out) 0 0 rfl rfl : (f nx).cell? ⟨w7.heap.size, 0, none⟩ = some (.int .u64 (xa).a))
    have ux_1 := fun nx => (Kn.get (s8.out.up (hf nx).out) 0 1 rfl rfl : (f nx).cell? ⟨w7.heap.size, 1, none⟩ = some (.int .u64 (xa).b))
    have ux_2 := fun nx => (Kn.get (s8.out.up (hf nx).out) 0 2 rfl rfl : (f nx).cell? ⟨w7.heap.size, 2, none⟩ = some (.int .u64 (xa).c))
    have ux_3 := fun nx => (Kn.get (s8.out.up (hf nx).out) 0 3 rfl rfl : (f nx).cell? ⟨w7.heap.size, 3, none⟩ = some (.int .u64 (xa).d))
    have uy_0 := fun nx => (Kn.get (s8.out.up (hf nx).out) 1 0 rfl rfl : (f nx).cell? ⟨w1.heap.size, 0, none⟩ = some (.int .u64 (la).a))
    have uy_1 := fun nx => (Kn.get (s8.out.up (hf nx).out) 1 1 rfl rfl : (f nx).cell? ⟨w1.heap.size, 1, none⟩ = some (.int .u64 (la).b))
    have uy_2 := fun nx => (Kn.get (s8.out.up (hf nx).out) 1 2 rfl rfl : (f nx).cell? ⟨w1.heap.size, 2, none⟩ = some (.int .u64 (la).c))
    have uy_3 := fun nx => (Kn.get (s8.out.up (hf nx).out) 1 3 rfl rfl : (f nx).cell? ⟨w1.heap.size, 3, none⟩ = some (.int .u64 (la).d))
    clear hf
    simp only [List.take_succ_cons, List.take_zero]
    repeat (go_big_quiet_step (first | (go_at_call 42; exact (S1 _).mono fun e w'' ⟨he, hb⟩ => ⟨he, hcl.out _ _ hb⟩) | (go_at_call 34; exact (P1 _).mono fun e w'' ⟨he, hb⟩ => ⟨he, hcl.out _ _ hb⟩)))
    exact wpQuiet_nil rfl
  simp only [List.drop_succ_cons, List.drop_zero]
  have z9 := b8.out.size
  have s9x : Hid (Kn w9 [(k9, zz8), (w7.heap.size, (c4 (xa))), (w1.heap.size, (c4 (la))), (w.heap.size + 1, zz8), (w.heap.size, (bR (n)))]) := s8.out.fresh hb9.out hk9 hc9.out
  have g9 : w.heap.size ≤ k9 := Nat.le_trans b8.out.size hk9
  have cz9_0 : w9.cell? ⟨k9, 0, none⟩ = some (.int .u64 0) := Kn.get s9x.out 0 0 rfl rfl
  have cz9_1 : w9.cell? ⟨k9, 1, none⟩ = some (.int .u64 0) := Kn.get s9x.out 0 1 rfl rfl
  have cz9_2 : w9.cell? ⟨k9, 2, none⟩ = some (.int .u64 0) := Kn.get s9x.out 0 2 rfl rfl
  have cz9_3 : w9.cell? ⟨k9, 3, none⟩ = some (.int .u64 0) := Kn.get s9x.out 0 3 rfl rfl
  have cz9_4 : w9.cell? ⟨k9, 4, none⟩ = some (.int .u64 0) := Kn.get s9x.out 0 4 rfl rfl
  have cz9_5 : w9.cell? ⟨k9, 5, none⟩ = some (.int .u64 0) := Kn.get s9x.out 0 5 rfl rfl
  have cz9_6 : w9.cell? ⟨k9, 6, none⟩ = some (.int .u64 0) := Kn.get s9x.out 0 6 rfl rfl
  have cz9_7 : w9.cell? ⟨k9, 7, none⟩ = some (.int .u64 0) := Kn.get s9x.out 0 7 rfl rfl
  have cz9 : ∀ j, w9.frozen? ⟨k9, j, none⟩ = false := Kn.fz s9x.out 0 rfl
  have s9 : Hid (Kn (st8 w9 k9 (ra) (la)) [(k9, (c8 (ra) (la))), (w7.heap.size, (c4 (xa))), (w1.heap.size, (c4 (la))), (w.heap.size + 1, zz8), (w.heap.size, (bR (n)))]) := s9x.out.st8 (ra) (la)
  have b9 : Hid (Below w.heap.size w (st8 w9 k9 (ra) (la))) := below_st8 (b8.out.trans (hb9.out.mono b8.out.size)) g9
  clear s9x s8 b8 hb9 hc9 hk9
  go_wp2_with fail
  clear cz9_0 cz9_1 cz9_2 cz9_3 cz9_4 cz9_5 cz9_6 cz9_7 cz9
  refine wp_region_up (by kernel_rfl) (by kernel_rfl) (fun U hU f hf hcl => ?_)
  have up_0 := fun nx => (Kn.get (s9.out.up (hf nx).out) 0 0 rfl rfl : (f nx).cell? ⟨k9, 0, none⟩ = some (.int .u64 (ra).a))
  have up_1 := fun nx => (Kn.get (s9.out.up (hf nx).out) 0 1 rfl rfl : (f nx).cell? ⟨k9, 1, none⟩ = some (.int .u64 (ra).b))
  have up_2 := fun nx => (Kn.get (s9.out.up (hf nx).out) 0 2 rfl rfl : (f nx).cell? ⟨k9, 2, none⟩ = some (.int .u64 (ra).c))
  have up_3 := fun nx => (Kn.get (s9.out.up (hf nx).out) 0 3 rfl rfl : (f nx).cell? ⟨k9, 3, none⟩ = some (.int .u64 (ra).d))
  have up_4 := fun nx => (Kn.get (s9.out.up (hf nx).out) 0 4 rfl rfl : (f nx).cell? ⟨k9, 4, none⟩ = some (.int .u64 (la).a))
  have up_5 := fun nx => (Kn.get (s9.out.up (hf nx).out) 0 5 rfl rfl : (f nx).cell? ⟨k9, 5, none⟩ = some (.int .u64 (la).b))
  have up_6 := fun nx => (Kn.get (s9.out.up (hf nx).out) 0 6 rfl rfl : (f nx).cell? ⟨k9, 6, none⟩ = some (.int .u64 (la).c))
  have up_7 := fun nx => (Kn.get (s9.out.up (hf nx).out) 0 7 rfl rfl : (f nx).cell? ⟨k9, 7, none⟩ = some (.int .u64 (la).d))
  have ra_b_0 := fun nx => (Kn.rng (s9.out.up (hf nx).out) 4 rfl : (f nx).rangeAt (w.heap.size) 0 (bR (n)))
  try simp only [List.append_eq, List.cons_append, List.nil_append]
  repeat (first | (refine I.quiet_load rfl 22 _ rfl (w.heap.size) 0 rfl (bR (n)) _ (fun W hW => by obtain ⟨nx, rfl⟩ := hW; exact ra_b_0 nx) Tryd.underlying22 rfl (info_bR (n)) ?_; simp only [Act.put, List.setIfInBounds_toArray, List.set_cons_succ, List.set_cons_zero]) | go_big_quiet_step (first | (go_at_call 23; exact (K1 _).mono fun e w'' ⟨he, hb⟩ => ⟨he, hcl.out _ _ hb⟩)))
  refine wpQuiet_nil ?_
  intro nx
  have hb10 := (hf nx).out
  clear hf hcl up_0 up_1 up_2 up_3 up_4 up_5 up_6 up_7
  generalize f nx = w10 at hb10 ⊢
  have s10 : Hid (Kn w10 [(k9, (c8 (ra) (la))), (w7.heap.size, (c4 (xa))), (w1.heap.size, (c4 (la))), (w.heap.size + 1, zz8), (w.heap.size, (bR (n)))]) := s9.out.up hb10
  have b10 : Hid (Below w.heap.size w w10) := b9.out.trans (hb10.mono b9.out.size)
  have z10 := b10.out.size
  clear hb10 s9 b9
  have uro_0 : w10.cell? ⟨w.heap.size + 1, 0, none⟩ = some (.int .u64 0) := Kn.get s10.out 3 0 rfl rfl
  have uro_1 : w10.cell? ⟨w.heap.size + 1, 1, none⟩ = some (.int .u64 0) := Kn.get s10.out 3 1 rfl rfl
  have uro_2 : w10.cell? ⟨w.heap.size + 1, 2, none⟩ = some (.int .u64 0) := Kn.get s10.out 3 2 rfl rfl
  have uro_3 : w10.cell? ⟨w.heap.size + 1, 3, none⟩ = some (.int .u64 0) := Kn.get s10.out 3 3 rfl rfl
  have uro_4 : w10.cell? ⟨w.heap.size + 1, 4, none⟩ = some (.int .u64 0) := Kn.get s10.out 3 4 rfl rfl
  have uro_5 : w10.cell? ⟨w.heap.size + 1, 5, none⟩ = some (.int .u64 0) := Kn.get s10.out 3 5 rfl rfl
  have uro_6 : w10.cell? ⟨w.heap.size + 1, 6, none⟩ = some (.int .u64 0) := Kn.get s10.out 3 6 rfl rfl
  have uro_7 : w10.cell? ⟨w.heap.size + 1, 7, none⟩ = some (.int .u64 0) := Kn.get s10.out 3 7 rfl rfl
  have uro_z : ∀ j, w10.frozen? ⟨w.heap.size + 1, j, none⟩ = false := Kn.fz s10.out 3 rfl
  have s11 : Hid (Kn (st8 w10 (w.heap.size + 1) (nO) (nO)) [(w.heap.size + 1, (c8 (nO) (nO))), (k9, (c8 (ra) (la))), (w7.heap.size, (c4 (xa))), (w1.heap.size, (c4 (la))), (w.heap.size, (bR (n)))]) := Kn.st8 (L := [(k9, (c8 (ra) (la))), (w7.heap.size, (c4 (xa))), (w1.heap.size, (c4 (la))), (w.heap.size, (bR (n)))]) (s10.out.front 3 rfl) (nO) (nO)
  have b11 : Hid (Below w.heap.size w (st8 w10 (w.heap.size + 1) (nO) (nO))) := below_st8 b10.out (by omega)
  clear s10 b10
  go_wp2_with fail
  clear uro_0 uro_1 uro_2 uro_3 uro_4 uro_5 uro_6 uro_7 uro_z
  have urr_0 : (st8 w10 (w.heap.size + 1) (nO) (nO)).cell? ⟨w.heap.size + 1, 0, none⟩ = some (.int .u64 (nO).a) := Kn.get s11.out 0 0 rfl rfl
  have urr_1 : (st8 w10 (w.heap.size + 1) (nO) (nO)).cell? ⟨w.heap.size + 1, 1, none⟩ = some (.int .u64 (nO).b) := Kn.get s11.out 0 1 rfl rfl
  have urr_2 : (st8 w10 (w.heap.size + 1) (nO) (nO)).cell? ⟨w.heap.size + 1, 2, none⟩ = some (.int .u64 (nO).c) := Kn.get s11.out 0 2 rfl rfl
  have urr_3 : (st8 w10 (w.heap.size + 1) (nO) (nO)).cell? ⟨w.heap.size + 1, 3, none⟩ = some (.int .u64 (nO).d) := Kn.get s11.out 0 3 rfl rfl
  have urr_4 : (st8 w10 (w.heap.size + 1) (nO) (nO)).cell? ⟨w.heap.size + 1, 4, none⟩ = some (.int .u64 (nO).a) := Kn.get s11.out 0 4 rfl rfl
  have urr_5 : (st8 w10 (w.heap.size + 1) (nO) (nO)).cell? ⟨w.heap.size + 1, 5, none⟩ = some (.int .u64 (nO).b) := Kn.get s11.out 0 5 rfl rfl
  have urr_6 : (st8 w10 (w.heap.size + 1) (nO) (nO)).cell? ⟨w.heap.size + 1, 6, none⟩ = some (.int .u64 (nO).c) := Kn.get s11.out 0 6 rfl rfl
  have urr_7 : (st8 w10 (w.heap.size + 1) (nO) (nO)).cell? ⟨w.heap.size + 1, 7, none⟩ = some (.int .u64 (nO).d) := Kn.get s11.out 0 7 rfl rfl
  refine bodyPost_ret (v := .tuple #[Wv nO nO, .int .i64 4]) ?_ rfl ⟨rfl, b11.out⟩
  show (results Tryd.f51 _).run Tryd.prog (st8 w10 (w.heap.size + 1) (nO) (nO)) = .ok _ (st8 w10 (w.heap.size + 1) (nO) (nO))
  clear s11 b11
  generalize (st8 w10 (w.heap.size + 1) (nO) (nO)) = W9 at *
  simp [results, Tryd.results51, go_sem, urr_0, urr_1, urr_2, urr_3, urr_4, urr_5, urr_6, urr_7]
set_option maxRecDepth 20000 in
set_option maxHeartbeats 1000000 in
theorem cUnp_yes (n : Nat) (c : Int) (ya la xa na ra : Nm) (e1 : ∀ w, (binOp .neq 22 (bV n) (bV n)).run Tryd.prog w = .ok (.bool false) w)
    (F1 : ∀ w, Calls Tryd.prog 52 #[.agg (bR (n)).toArray] w fun e w' => e = .returned (N ya) ∧ Below w.heap.size w w')
    (BT : ∀ w, Calls Tryd.prog 49 #[N ya, .int .i64 255] w fun e w' => e = .returned (.int .u64 c) ∧ Below w.heap.size w w')
    (L1 : ∀ w, Calls Tryd.prog 40 #[N (foA ya)] w fun e w' => e = .returned (N la) ∧ Below w.heap.size w w')
    (E1 : ∀ w, Calls Tryd.prog 69 #[N la] w fun e w' => e = .returned (.tuple #[N xa, .bool true]) ∧ Below w.heap.size w w')
    (S1 : ∀ w, Calls Tryd.prog 42 #[N nO, N xa] w fun e w' => e = .returned (N na) ∧ Below w.heap.size w w')
    (P1 : ∀ w, Calls Tryd.prog 34 #[.int .u64 c, N xa, N na] w fun e w' => e = .returned (N ra) ∧ Below w.heap.size w w')
    (K1 : ∀ w, Calls Tryd.prog 23 #[Wv ra la] w fun e w' => e = .returned (.agg (bR (n)).toArray) ∧ Below w.heap.size w w')
    (w : World) :
    Calls Tryd.prog 51 #[bV n] w fun e w' => e = .returned (.tuple #[Wv ra la, .int .i64 0]) ∧ Below w.heap.size w w' := by
  go_enter Tryd.func51, Tryd.ntmps51
  have s0 : Hid (Kn (kzP (w.alloc (.cells (bR (n)).toArray 22))) [(w.heap.size + 1, zz8), (w.heap.size, (bR (n)))]) := (((Kn.nil w).al (bR (n)) 22 rfl).al zz8 34 (by simp))
  have b0 : Hid (Below w.heap.size w (kzP (w.alloc (.cells (bR (n)).toArray 22)))) := (((Below.refl _ _).alloc (Nat.le_refl _) _).alloc (by simp <;> omega) _)
  go_wp2_with (first | refine wp_ldW rfl 22 _ rfl (w.heap.size) 0 rfl (bR (n)) _ (Kn.rng s0.out 1 rfl) Tryd.underlying22 rfl (info_bR (n)) ?_)
  refine (F1 _).mono ?_
  rintro e w1 ⟨rfl, hb1⟩
  have s1 : Hid (Kn w1 [(w.heap.size + 1, zz8), (w.heap.size, (bR (n)))]) := s0.out.up hb1
  have b1 : Hid (Below w.heap.size w w1) := b0.out.trans (hb1.mono b0.out.size)
  have z1 := b1.out.size
  clear hb1 s0 b0
  have s2 : Hid (Kn (kal4 w1 (ya)) [(w1.heap.size, (c4 (ya))), (w.heap.size + 1, zz8), (w.heap.size, (bR (n)))]) := s1.out.al (c4 (ya)) 26 rfl
  have b2 : Hid (Below w.heap.size w (kal4 w1 (ya))) := b1.out.alloc b1.out.size _
  have z2 := b1.out.size
  clear s1 b1
  have uy_0 : (kal4 w1 (ya)).cell? ⟨w1.heap.size, 0, none⟩ = some (.int .u64 (ya).a) := Kn.get s2.out 0 0 rfl rfl
  have uy_1 : (kal4 w1 (ya)).cell? ⟨w1.heap.size, 1, none⟩ = some (.int .u64 (ya).b) := Kn.get s2.out 0 1 rfl rfl
  have uy_2 : (kal4 w1 (ya)).cell? ⟨w1.heap.size, 2, none⟩ = some (.int .u64 (ya).c) := Kn.get s2.out 0 2 rfl rfl
  have uy_3 : (kal4 w1 (ya)).cell? ⟨w1.heap.size, 3, none⟩ = some (.int .u64 (ya).d) := Kn.get s2.out 0 3 rfl rfl
  go_wp2_with fail
  clear uy_0 uy_1 uy_2 uy_3
  refine (BT _).mono ?_
  rintro e w3 ⟨rfl, hb3⟩
  have s3 : Hid (Kn w3 [(w1.heap.size, (c4 (ya))), (w.heap.size + 1, zz8), (w.heap.size, (bR (n)))]) := s2.out.up hb3
  have b3 : Hid (Below w.heap.size w w3) := b2.out.trans (hb3.mono b2.out.size)
  have z3 := b3.out.size
  clear hb3 s2 b2
  have uyo_0 : w3.cell? ⟨w1.heap.size, 0, none⟩ = some (.int .u64 (ya).a) := Kn.get s3.out 0 0 rfl rfl
  have uyo_1 : w3.cell? ⟨w1.heap.size, 1, none⟩ = some (.int .u64 (ya).b) := Kn.get s3.out 0 1 rfl rfl
  have uyo_2 : w3.cell? ⟨w1.heap.size, 2, none⟩ = some (.int .u64 (ya).c) := Kn.get s3.out 0 2 rfl rfl
  have uyo_3 : w3.cell? ⟨w1.heap.size, 3, none⟩ = some (.int .u64 (ya).d) := Kn.get s3.out 0 3 rfl rfl
  have uyo_z : ∀ j, w3.frozen? ⟨w1.heap.size, j, none⟩ = false := Kn.fz s3.out 0 rfl
  have s4 : Hid (Kn (w3.setCell ⟨w1.heap.size, 3, none⟩ (.int .u64 (bits .and .u64 ya.d 9223372036854775807))) [(w1.heap.size, (c4 (foA ya))), (w.heap.size + 1, zz8), (w.heap.size, (bR (n)))]) := Kn.set (L := [(w.heap.size + 1, zz8), (w.heap.size, (bR (n)))]) (s3.out.front 0 rfl) 3 (.int .u64 (bits .and .u64 ya.d 9223372036854775807)) (by simp)
  have b4 : Hid (Below w.heap.size w (w3.setCell ⟨w1.heap.size, 3, none⟩ (.int .u64 (bits .and .u64 ya.d 9223372036854775807)))) := b3.out.setCell (p := ⟨w1.heap.size, 3, none⟩) (by first | assumption | omega) _
  clear s3 b3
  have uy_0 : (w3.setCell ⟨w1.heap.size, 3, none⟩ (.int .u64 (bits .and .u64 ya.d 9223372036854775807))).cell? ⟨w1.heap.size, 0, none⟩ = some (.int .u64 (foA ya).a) := Kn.get s4.out 0 0 rfl rfl
  have uy_1 : (w3.setCell ⟨w1.heap.size, 3, none⟩ (.int .u64 (bits .and .u64 ya.d 9223372036854775807))).cell? ⟨w1.heap.size, 1, none⟩ = some (.int .u64 (foA ya).b) := Kn.get s4.out 0 1 rfl rfl
  have uy_2 : (w3.setCell ⟨w1.heap.size, 3, none⟩ (.int .u64 (bits .and .u64 ya.d 9223372036854775807))).cell? ⟨w1.heap.size, 2, none⟩ = some (.int .u64 (foA ya).c) := Kn.get s4.out 0 2 rfl rfl
  have uy_3 : (w3.setCell ⟨w1.heap.size, 3, none⟩ (.int .u64 (bits .and .u64 ya.d 9223372036854775807))).cell? ⟨w1.heap.size, 3, none⟩ = some (.int .u64 (foA ya).d) := Kn.get s4.out 0 3 rfl rfl
  go_wp2_with fail
  clear uyo_0 uyo_1 uyo_2 uyo_3 uyo_z uy_0 uy_1 uy_2 uy_3
  refine (L1 _).mono ?_
  rintro e w5 ⟨rfl, hb5⟩
  have s5 : Hid (Kn w5 [(w1.heap.size, (c4 (foA ya))), (w.heap.size + 1, zz8), (w.heap.size, (bR (n)))]) := s4.out.up hb5
  have b5 : Hid (Below w.heap.size w w5) := b4.out.trans (hb5.mono b4.out.size)
  have z5 := b5.out.size
  clear hb5 s4 b4
  have uyo_0 : w5.cell? ⟨w1.heap.size, 0, none⟩ = some (.int .u64 (foA ya).a) := Kn.get s5.out 0 0 rfl rfl
  have uyo_1 : w5.cell? ⟨w1.heap.size, 1, none⟩ = some (.int .u64 (foA ya).b) := Kn.get s5.out 0 1 rfl rfl
  have uyo_2 : w5.cell? ⟨w1.heap.size, 2, none⟩ = some (.int .u64 (foA ya).c) := Kn.get s5.out 0 2 rfl rfl
  have uyo_3 : w5.cell? ⟨w1.heap.size, 3, none⟩ = some (.int .u64 (foA ya).d) := Kn.get s5.out 0 3 rfl rfl
  have uyo_z : ∀ j, w5.frozen? ⟨w1.heap.size, j, none⟩ = false := Kn.fz s5.out 0 rfl
  have s6 : Hid (Kn (st4 w5 (w1.heap.size) (la)) [(w1.heap.size, (c4 (la))), (w.heap.size + 1, zz8), (w.heap.size, (bR (n)))]) := Kn.st4 (L := [(w.heap.size + 1, zz8), (w.heap.size, (bR (n)))]) (s5.out.front 0 rfl) (la)
  have b6 : Hid (Below w.heap.size w (st4 w5 (w1.heap.size) (la))) := below_st4 b5.out (by first | assumption | omega)
  clear s5 b5
  have uy_0 : (st4 w5 (w1.heap.size) (la)).cell? ⟨w1.heap.size, 0, none⟩ = some (.int .u64 (la).a) := Kn.get s6.out 0 0 rfl rfl
  have uy_1 : (st4 w5 (w1.heap.size) (la)).cell? ⟨w1.heap.size, 1, none⟩ = some (.int .u64 (la).b) := Kn.get s6.out 0 1 rfl rfl
  have uy_2 : (st4 w5 (w1.heap.size) (la)).cell? ⟨w1.heap.size, 2, none⟩ = some (.int .u64 (la).c) := Kn.get s6.out 0 2 rfl rfl
  have uy_3 : (st4 w5 (w1.heap.size) (la)).cell? ⟨w1.heap.size, 3, none⟩ = some (.int .u64 (la).d) := Kn.get s6.out 0 3 rfl rfl
  go_wp2_with fail
  clear uyo_0 uyo_1 uyo_2 uyo_3 uyo_z uy_0 uy_1 uy_2 uy_3
  refine (E1 _).mono ?_
  rintro e w7 ⟨rfl, hb7⟩
  have s7 : Hid (Kn w7 [(w1.heap.size, (c4 (la))), (w.heap.size + 1, zz8), (w.heap.size, (bR (n)))]) := s6.out.up hb7
  have b7 : Hid (Below w.heap.size w w7) := b6.out.trans (hb7.mono b6.out.size)
  have z7 := b7.out.size
  clear hb7 s6 b6
  have s8 : Hid (Kn (kal4 w7 (xa)) [(w7.heap.size, (c4 (xa))), (w1.heap.size, (c4 (la))), (w.heap.size + 1, zz8), (w.heap.size, (bR (n)))]) := s7.out.al (c4 (xa)) 26 rfl
  have b8 : Hid (Below w.heap.size w (kal4 w7 (xa))) := b7.out.alloc b7.out.size _
  have z8 := b7.out.size
  clear s7 b7
  go_wp2_with fail
  refine wp_region_alloc1 8 (.cells #[.int .u64 0, .int .u64 0, .int .u64 0, .int .u64 0, .int .u64 0, .int .u64 0, .int .u64 0, .int .u64 0] 34) (by kernel_rfl) (by kernel_rfl) (by kernel_rfl) (by kernel_rfl) (by decide) (fun _ _ d _ _ h => by cases d <;> exact h) rfl rfl (fun _ _ => by kernel_rfl) ?_
  apply Exists.intro
  refine ⟨fun U hU f hf hcl => ?_, fun k9 w9 hb9 hk9 hc9 => ?_⟩
  · skip
    have ux_0 := fun nx => (Kn.get (s8.out.up (hf nx).out) 0 0 rfl rfl : (f nx).cell? ⟨w7.heap.size, 0, none⟩ = some (.int .u64 (xa).a))
    have ux_1 := fun nx => (Kn.get (s8.out.up (hf nx).out) 0 1 rfl rfl : (f nx).cell? ⟨w7.heap.size, 1, none⟩ = some (.int .u64 (xa).b))
    have ux_2 := fun nx => (Kn.get (s8.out.up (hf nx).out) 0 2 rfl rfl : (f nx).cell? ⟨w7.heap.size, 2, none⟩ = some (.int .u64 (xa).c))
    have ux_3 := fun nx => (Kn.get (s8.out.up (hf nx).out) 0 3 rfl rfl : (f nx).cell? ⟨w7.heap.size, 3, none⟩ = some (.int .u64 (xa).d))
    have uy_0 := fun nx => (Kn.get (s8.out.up (hf nx).out) 1 0 rfl rfl : (f nx).cell? ⟨w1.heap.size, 0, none⟩ = some (.int .u64 (la).a))
    have uy_1 := fun nx => (Kn.get (s8.out.up (hf nx).out) 1 1 rfl rfl : (f nx).cell? ⟨w1.heap.size, 1, none⟩ = some (.int .u64 (la).b))
    have uy_2 := fun nx => (Kn.get (s8.out.up (hf nx).out) 1 2 rfl rfl : (f nx).cell? ⟨w1.heap.size, 2, none⟩ = some (.int .u64 (la).c))
    have uy_3 := fun nx => (Kn.get (s8.out.up (hf nx).out) 1 3 rfl rfl : (f nx).cell? ⟨w1.heap.size, 3, none⟩ = some (.int .u64 (la).d))
    clear hf
    simp only [List.take_succ_cons, List.take_zero]
    repeat (go_big_quiet_step (first | (go_at_call 42; exact (S1 _).mono fun e w'' ⟨he, hb⟩ => ⟨he, hcl.out _ _ hb⟩) | (go_at_call 34; exact (P1 _).mono fun e w'' ⟨he, hb⟩ => ⟨he, hcl.out _ _ hb⟩)))
    exact wpQuiet_nil rfl
  simp only [List.drop_succ_cons, List.drop_zero]
  have z9 := b8.out.size
  have s9x : Hid (Kn w9 [(k9, zz8), (w7.heap.size, (c4 (xa))), (w1.heap.size, (c4 (la))), (w.heap.size + 1, zz8), (w.heap.size, (bR (n)))]) := s8.out.fresh hb9.out hk9 hc9.out
  have g9 : w.heap.size ≤ k9 := Nat.le_trans b8.out.size hk9
  have cz9_0 : w9.cell? ⟨k9, 0, none⟩ = some (.int .u64 0) := Kn.get s9x.out 0 0 rfl rfl
  have cz9_1 : w9.cell? ⟨k9, 1, none⟩ = some (.int .u64 0) := Kn.get s9x.out 0 1 rfl rfl
  have cz9_2 : w9.cell? ⟨k9, 2, none⟩ = some (.int .u64 0) := Kn.get s9x.out 0 2 rfl rfl
  have cz9_3 : w9.cell? ⟨k9, 3, none⟩ = some (.int .u64 0) := Kn.get s9x.out 0 3 rfl rfl
  have cz9_4 : w9.cell? ⟨k9, 4, none⟩ = some (.int .u64 0) := Kn.get s9x.out 0 4 rfl rfl
  have cz9_5 : w9.cell? ⟨k9, 5, none⟩ = some (.int .u64 0) := Kn.get s9x.out 0 5 rfl rfl
  have cz9_6 : w9.cell? ⟨k9, 6, none⟩ = some (.int .u64 0) := Kn.get s9x.out 0 6 rfl rfl
  have cz9_7 : w9.cell? ⟨k9, 7, none⟩ = some (.int .u64 0) := Kn.get s9x.out 0 7 rfl rfl
  have cz9 : ∀ j, w9.frozen? ⟨k9, j, none⟩ = false := Kn.fz s9x.out 0 rfl
  have s9 : Hid (Kn (st8 w9 k9 (ra) (la)) [(k9, (c8 (ra) (la))), (w7.heap.size, (c4 (xa))), (w1.heap.size, (c4 (la))), (w.heap.size + 1, zz8), (w.heap.size, (bR (n)))]) := s9x.out.st8 (ra) (la)
  have b9 : Hid (Below w.heap.size w (st8 w9 k9 (ra) (la))) := below_st8 (b8.out.trans (hb9.out.mono b8.out.size)) g9
  clear s9x s8 b8 hb9 hc9 hk9
  go_wp2_with fail
  clear cz9_0 cz9_1 cz9_2 cz9_3 cz9_4 cz9_5 cz9_6 cz9_7 cz9
  refine wp_region_up (by kernel_rfl) (by kernel_rfl) (fun U hU f hf hcl => ?_)
  have up_0 := fun nx => (Kn.get (s9.out.up (hf nx).out) 0 0 rfl rfl : (f nx).cell? ⟨k9, 0, none⟩ = some (.int .u64 (ra).a))
  have up_1 := fun nx => (Kn.get (s9.out.up (hf nx).out) 0 1 rfl rfl : (f nx).cell? ⟨k9, 1, none⟩ = some (.int .u64 (ra).b))
  have up_2 := fun nx => (Kn.get (s9.out.up (hf nx).out) 0 2 rfl rfl : (f nx).cell? ⟨k9, 2, none⟩ = some (.int .u64 (ra).c))
  have up_3 := fun nx => (Kn.get (s9.out.up (hf nx).out) 0 3 rfl rfl : (f nx).cell? ⟨k9, 3, none⟩ = some (.int .u64 (ra).d))
  have up_4 := fun nx => (Kn.get (s9.out.up (hf nx).out) 0 4 rfl rfl : (f nx).cell? ⟨k9, 4, none⟩ = some (.int .u64 (la).a))
  have up_5 := fun nx => (Kn.get (s9.out.up (hf nx).out) 0 5 rfl rfl : (f nx).cell? ⟨k9, 5, none⟩ = some (.int .u64 (la).b))
  have up_6 := fun nx => (Kn.get (s9.out.up (hf nx).out) 0 6 rfl rfl : (f nx).cell? ⟨k9, 6, none⟩ = some (.int .u64 (la).c))
  have up_7 := fun nx => (Kn.get (s9.out.up (hf nx).out) 0 7 rfl rfl : (f nx).cell? ⟨k9, 7, none⟩ = some (.int .u64 (la).d))
  have ra_b_0 := fun nx => (Kn.rng (s9.out.up (hf nx).out) 4 rfl : (f nx).rangeAt (w.heap.size) 0 (bR (n)))
  try simp only [List.append_eq, List.cons_append, List.nil_append]
  repeat (first | (refine I.quiet_load rfl 22 _ rfl (w.heap.size) 0 rfl (bR (n)) _ (fun W hW => by obtain ⟨nx, rfl⟩ := hW; exact ra_b_0 nx) Tryd.underlying22 rfl (info_bR (n)) ?_; simp only [Act.put, List.setIfInBounds_toArray, List.set_cons_succ, List.set_cons_zero]) | go_big_quiet_step (first | (go_at_call 23; exact (K1 _).mono fun e w'' ⟨he, hb⟩ => ⟨he, hcl.out _ _ hb⟩)))
  refine wpQuiet_nil ?_
  intro nx
  have hb10 := (hf nx).out
  clear hf hcl up_0 up_1 up_2 up_3 up_4 up_5 up_6 up_7
  generalize f nx = w10 at hb10 ⊢
  have s10 : Hid (Kn w10 [(k9, (c8 (ra) (la))), (w7.heap.size, (c4 (xa))), (w1.heap.size, (c4 (la))), (w.heap.size + 1, zz8), (w.heap.size, (bR (n)))]) := s9.out.up hb10
  have b10 : Hid (Below w.heap.size w w10) := b9.out.trans (hb10.mono b9.out.size)
  have z10 := b10.out.size
  clear hb10 s9 b9
  have up_0 : w10.cell? ⟨k9, 0, none⟩ = some (.int .u64 (ra).a) := Kn.get s10.out 0 0 rfl rfl
  have up_1 : w10.cell? ⟨k9, 1, none⟩ = some (.int .u64 (ra).b) := Kn.get s10.out 0 1 rfl rfl
  have up_2 : w10.cell? ⟨k9, 2, none⟩ = some (.int .u64 (ra).c) := Kn.get s10.out 0 2 rfl rfl
  have up_3 : w10.cell? ⟨k9, 3, none⟩ = some (.int .u64 (ra).d) := Kn.get s10.out 0 3 rfl rfl
  have up_4 : w10.cell? ⟨k9, 4, none⟩ = some (.int .u64 (la).a) := Kn.get s10.out 0 4 rfl rfl
  have up_5 : w10.cell? ⟨k9, 5, none⟩ = some (.int .u64 (la).b) := Kn.get s10.out 0 5 rfl rfl
  have up_6 : w10.cell? ⟨k9, 6, none⟩ = some (.int .u64 (la).c) := Kn.get s10.out 0 6 rfl rfl
  have up_7 : w10.cell? ⟨k9, 7, none⟩ = some (.int .u64 (la).d) := Kn.get s10.out 0 7 rfl rfl
  have uro_0 : w10.cell? ⟨w.heap.size + 1, 0, none⟩ = some (.int .u64 0) := Kn.get s10.out 3 0 rfl rfl
  have uro_1 : w10.cell? ⟨w.heap.size + 1, 1, none⟩ = some (.int .u64 0) := Kn.get s10.out 3 1 rfl rfl
  have uro_2 : w10.cell? ⟨w.heap.size + 1, 2, none⟩ = some (.int .u64 0) := Kn.get s10.out 3 2 rfl rfl
  have uro_3 : w10.cell? ⟨w.heap.size + 1, 3, none⟩ = some (.int .u64 0) := Kn.get s10.out 3 3 rfl rfl
  have uro_4 : w10.cell? ⟨w.heap.size + 1, 4, none⟩ = some (.int .u64 0) := Kn.get s10.out 3 4 rfl rfl
  have uro_5 : w10.cell? ⟨w.heap.size + 1, 5, none⟩ = some (.int .u64 0) := Kn.get s10.out 3 5 rfl rfl
  have uro_6 : w10.cell? ⟨w.heap.size + 1, 6, none⟩ = some (.int .u64 0) := Kn.get s10.out 3 6 rfl rfl
  have uro_7 : w10.cell? ⟨w.heap.size + 1, 7, none⟩ = some (.int .u64 0) := Kn.get s10.out 3 7 rfl rfl
  have uro_z : ∀ j, w10.frozen? ⟨w.heap.size + 1, j, none⟩ = false := Kn.fz s10.out 3 rfl
  have s11 : Hid (Kn (st8 w10 (w.heap.size + 1) (ra) (la)) [(w.heap.size + 1, (c8 (ra) (la))), (k9, (c8 (ra) (la))), (w7.heap.size, (c4 (xa))), (w1.heap.size, (c4 (la))), (w.heap.size, (bR (n)))]) := Kn.st8 (L := [(k9, (c8 (ra) (la))), (w7.heap.size, (c4 (xa))), (w1.heap.size, (c4 (la))), (w.heap.size, (bR (n)))]) (s10.out.front 3 rfl) (ra) (la)
  have b11 : Hid (Below w.heap.size w (st8 w10 (w.heap.size + 1) (ra) (la))) := below_st8 b10.out (by omega)
  clear s10 b10
  go_wp2_with fail
  clear up_0 up_1 up_2 up_3 up_4 up_5 up_6 up_7 uro_0 uro_1 uro_2 uro_3 uro_4 uro_5 uro_6 uro_7 uro_z
  have urr_0 : (st8 w10 (w.heap.size + 1) (ra) (la)).cell? ⟨w.heap.size + 1, 0, none⟩ = some (.int .u64 (ra).a) := Kn.get s11.out 0 0 rfl rfl
  have urr_1 : (st8 w10 (w.heap.size + 1) (ra) (la)).cell? ⟨w.heap.size + 1, 1, none⟩ = some (.int .u64 (ra).b) := Kn.get s11.out 0 1 rfl rfl
  have urr_2 : (st8 w10 (w.heap.size + 1) (ra) (la)).cell? ⟨w.heap.size + 1, 2, none⟩ = some (.int .u64 (ra).c) := Kn.get s11.out 0 2 rfl rfl
  have urr_3 : (st8 w10 (w.heap.size + 1) (ra) (la)).cell? ⟨w.heap.size + 1, 3, none⟩ = some (.int .u64 (ra).d) := Kn.get s11.out 0 3 rfl rfl
  have urr_4 : (st8 w10 (w.heap.size + 1) (ra) (la)).cell? ⟨w.heap.size + 1, 4, none⟩ = some (.int .u64 (la).a) := Kn.get s11.out 0 4 rfl rfl
  have urr_5 : (st8 w10 (w.heap.size + 1) (ra) (la)).cell? ⟨w.heap.size + 1, 5, none⟩ = some (.int .u64 (la).b) := Kn.get s11.out 0 5 rfl rfl
  have urr_6 : (st8 w10 (w.heap.size + 1) (ra) (la)).cell? ⟨w.heap.size + 1, 6, none⟩ = some (.int .u64 (la).c) := Kn.get s11.out 0 6 rfl rfl
  have urr_7 : (st8 w10 (w.heap.size + 1) (ra) (la)).cell? ⟨w.heap.size + 1, 7, none⟩ = some (.int .u64 (la).d) := Kn.get s11.out 0 7 rfl rfl
  refine bodyPost_ret (v := .tuple #[Wv ra la, .int .i64 0]) ?_ rfl ⟨rfl, b11.out⟩
  show (results Tryd.f51 _).run Tryd.prog (st8 w10 (w.heap.size + 1) (ra) (la)) = .ok _ (st8 w10 (w.heap.size + 1) (ra) (la))
  clear s11 b11
  generalize (st8 w10 (w.heap.size + 1) (ra) (la)) = W9 at *
  simp [results, Tryd.results51, go_sem, urr_0, urr_1, urr_2, urr_3, urr_4, urr_5, urr_6, urr_7]
set_option maxRecDepth 100000 in
theorem neB {m n : Nat} (hm : m < 2 ^ 256) (hn : n < 2 ^ 256) (w : World) : (binOp .neq 22 (bV m) (bV n)).run Tryd.prog w = .ok (.bool (!decide (m = n))) w := by
  have hg : ∀ n j, j < 32 → (bR n).toArray[j]? = some (.int .u8 ((n / 256 ^ j % 256 : Nat) : Int)) := fun n j hj => by simp [bR, hj]
  rw [run_neq_intsN (P := Tryd.prog) (t := 22) (e := 5) (n := 32) (k := .u8) Tryd.underlying22 rfl Tryd.underlying5 (by kernel_rfl) (by kernel_rfl) (fun j => ((m / 256 ^ j % 256 : Nat) : Int)) (fun j => ((n / 256 ^ j % 256 : Nat) : Int)) _ _ (hg m) (hg n)]
  congr 3
  by_cases h : m = n
  · subst h
    simp
  · rw [decide_eq_false h]
    refine Bool.eq_false_iff.2 fun e => h ?_
    have e2 : ∀ j, j < 32 → m / 256 ^ j % 256 = n / 256 ^ j % 256 := fun j hj => by
      have h1 := List.all_eq_true.1 e j (List.mem_range.2 hj)
      have h2 : ((m / 256 ^ j % 256 : Nat) : Int) = ((n / 256 ^ j % 256 : Nat) : Int) := eq_of_beq h1
      exact Int.ofNat.inj h2
    have h3 := byte_eq 32 e2
    rw [show (256 : Nat) ^ 32 = 2 ^ 256 by decide, Nat.mod_eq_of_lt hm, Nat.mod_eq_of_lt hn] at h3
    exact h3
theorem foA_nat {x : Nm} (ox : x.ok) : (foA x).ok ∧ (foA x).nat = x.nat % 2 ^ 255 := by
  have hd := and_63 ox.d
  have oA : (foA x).ok := ⟨ox.a, ox.b, ox.c, by show Word (bits .and .u64 x.d 9223372036854775807); rw [hd]; constructor <;> omega⟩
  refine ⟨oA, ?_⟩
  have e1 := Nm.nat_cast oA
  have e2 := Nm.nat_cast ox
  have e3 : (foA x).val = x.a + 18446744073709551616 * (x.b + 18446744073709551616 * (x.c + 18446744073709551616 * (x.d % 9223372036854775808))) := by
    show x.a + _ * (x.b + _ * (x.c + _ * (bits .and .u64 x.d 9223372036854775807))) = _
    rw [hd]
  have e4 : x.val = x.a + 18446744073709551616 * (x.b + 18446744073709551616 * (x.c + 18446744073709551616 * x.d)) := rfl
  have p255 : (2 : Nat) ^ 255 = 57896044618658097711785492504343953926634992332820282019728792003956564819968 := by decide
  rw [p255]
  obtain ⟨⟨_, _⟩, ⟨_, _⟩, ⟨_, _⟩, ⟨_, _⟩⟩ := ox
  omega
/-- The point that the bytes could tell. -/
def may (n : Nat) : Cv.Pt := (if n / 2 ^ 255 % 2 = 0 then F.root (Cv.xx (n % 2 ^ 255 % F.p)) else F.sub 0 (F.root (Cv.xx (n % 2 ^ 255 % F.p))), n % 2 ^ 255 % F.p)
theorem may_on {n : Nat} (h : F.ok (Cv.xx (n % 2 ^ 255 % F.p)) = true) : Cv.On (may n) := by
  have hr := F.root_lt (Cv.xx (n % 2 ^ 255 % F.p))
  have hs := F.root_sq h
  rw [Nat.mod_eq_of_lt (Cv.xx_lt _)] at hs
  unfold may
  split
  · exact (Cv.on_iff hr (F.mod_lt _)).2 hs
  · exact (Cv.on_iff (F.sub_lt _ _) (F.mod_lt _)).2 (by rw [Cv.neg_sq hr]; exact hs)
theorem may_bad {n : Nat} (h : F.ok (Cv.xx (n % 2 ^ 255 % F.p)) = false) : Cv.unp n = none := by
  unfold Cv.unp
  rw [if_neg]
  rintro ⟨h1, h2⟩
  rw [Nat.mod_eq_of_lt h1, h2] at h
  cases h
theorem may_not {n : Nat} (hn : n < 2 ^ 256) (h : F.ok (Cv.xx (n % 2 ^ 255 % F.p)) = true) (hp : Cv.pk (may n) ≠ n) : Cv.unp n = none := by
  refine Cv.unp_no hn fun ⟨Q, hQ, e⟩ => hp ?_
  have a := Cv.pk_parts hQ
  rw [e] at a
  have hP := may_on h
  have hy : (may n).2 = Q.2 := by
    show n % 2 ^ 255 % F.p = Q.2
    rw [a.1, Nat.mod_eq_of_lt hQ.2.1]
  have hr := F.root_lt (Cv.xx (n % 2 ^ 255 % F.p))
  have he := F.root_even (Cv.xx (n % 2 ^ 255 % F.p))
  have main : may n = Q := by
    rcases Cv.same_y hP hQ hy with e1 | e1
    · exact e1
    · have hx : (may n).1 = F.sub 0 Q.1 := by rw [e1]; rfl
      by_cases h0 : n / 2 ^ 255 % 2 = 0
      · have hx2 : F.root (Cv.xx (n % 2 ^ 255 % F.p)) = F.sub 0 Q.1 := by rw [← hx]; unfold may; rw [if_pos h0]
        by_cases hz : Q.1 = 0
        · rw [e1]
          refine Prod.ext ?_ rfl
          show F.sub 0 Q.1 = Q.1
          rw [hz, Cv.neg_zero]
        · have h3 := Cv.neg_odd hQ.1 hz
          rw [hx2] at he
          have h4 : Q.1 % 2 = 0 := by rw [← a.2]; omega
          omega
      · have hx2 : F.sub 0 (F.root (Cv.xx (n % 2 ^ 255 % F.p))) = F.sub 0 Q.1 := by rw [← hx]; unfold may; rw [if_neg h0]
        have h3 := congrArg (F.sub 0) hx2
        rw [Cv.neg_neg hr, Cv.neg_neg hQ.1] at h3
        rw [h3] at he
        have h4 : Q.1 % 2 = 1 := by rw [← a.2]; omega
        omega
  rw [main]
  exact e
theorem cUnpC : CUnpC := fun n hn => by
  have F1 := of_n n hn
  have BT := bit_fun (nm n) (nm_ok n) 255 (by decide)
  rw [show (nm n).val / 2 ^ 255 % 2 = ((n / 2 ^ 255 % 2 : Nat) : Int) by rw [← Nm.nat_cast (nm_ok n), nm_nat hn, Int.natCast_emod, Int.natCast_ediv, Int.natCast_pow]; rfl] at BT
  have L1 := fLowC (foA (nm n)) (foA_nat (nm_ok n)).1
  rw [(foA_nat (nm_ok n)).2, nm_nat hn] at L1
  have E1 := evenX_fun (n % 2 ^ 255 % F.p) (F.mod_lt _)
  cases hok : F.ok (Cv.xx (n % 2 ^ 255 % F.p)) with
  | false =>
    rw [hok] at E1
    refine ⟨fun P hP => ?_, fun _ w => cUnp_no n _ _ _ _ F1 BT L1 E1 w⟩
    rw [may_bad hok] at hP
    cases hP
  | true =>
    rw [hok] at E1
    have hr := F.root_lt (Cv.xx (n % 2 ^ 255 % F.p))
    have S1 := fSub_n (show 0 < F.p by decide) hr
    rw [← nO_nm] at S1
    have P1 := pick_fun ((n / 2 ^ 255 % 2 : Nat) : Int) (nm (F.root (Cv.xx (n % 2 ^ 255 % F.p)))) (nm (F.sub 0 (F.root (Cv.xx (n % 2 ^ 255 % F.p))))) ⟨by omega, by omega⟩ (nm_ok _) (nm_ok _)
    have e : pick ((n / 2 ^ 255 % 2 : Nat) : Int) (nm (F.root (Cv.xx (n % 2 ^ 255 % F.p)))) (nm (F.sub 0 (F.root (Cv.xx (n % 2 ^ 255 % F.p))))) = nm (may n).1 := by
      unfold pick may
      by_cases h0 : n / 2 ^ 255 % 2 = 0
      · rw [if_pos (by omega)]
        simp only [if_pos h0]
      · rw [if_neg (by omega)]
        simp only [if_neg h0]
    rw [e] at P1
    have hP := may_on hok
    have K1 := packed_fun (P := may n) (F.mod_lt _)
    by_cases hp : Cv.pk (may n) = n
    · rw [hp] at K1
      have e1 := neB hn hn
      rw [decide_eq_true rfl] at e1
      refine ⟨fun P hP' w => ?_, fun h => ?_⟩
      · rw [Cv.unp_is hP hp] at hP'
        obtain rfl := Option.some.inj hP'
        exact cUnp_yes n _ _ _ _ _ _ e1 F1 BT L1 E1 S1 P1 K1 w
      · rw [Cv.unp_is hP hp] at h
        cases h
    · have e1 := neB (Cv.pk_lt hP) hn
      rw [decide_eq_false hp] at e1
      refine ⟨fun P hP' => ?_, fun _ w => cUnp_un n _ _ _ _ _ _ _ e1 F1 BT L1 E1 S1 P1 K1 w⟩
      rw [may_not hn hok hp] at hP'
      cases hP'
end Go.Proofs.YtfknkfninjjgbabDoor
