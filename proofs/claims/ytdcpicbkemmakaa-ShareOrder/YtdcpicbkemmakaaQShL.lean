/- Package share, as it landed: number, difference, isBelow. -/
import Derived.Test.YtdcpicbkemmakaaQScF
namespace Go.Proofs.Ytdcpicbkemmakaa
open Go.RowKit
attribute [local go_sem] World.cell?_alloc_some cell_alloc2 cell_alloc3 cell_alloc4 frozen?_alloc_cells frozen_out
set_option linter.unusedSimpArgs false
/-- A small number, as package share makes it. -/
abbrev smN (x : Nat) : Nm := ⟨(x : Int), 0, 0, 0⟩
theorem smN_ok {x : Nat} (h : x < 18446744073709551616) : (smN x).ok := one_ok ⟨by omega, by omega⟩
theorem smN_nat (x : Nat) : (smN x).nat = x := by
  unfold Nm.nat Nm.val
  simp only []
  omega
set_option maxHeartbeats 1000000 in
theorem number_is (x : Nat) (hx : x < 1000) (w : World) : Calls Try.prog 13 #[.int .i64 (x : Int)] w fun e w' => e = .returned (N (smN x)) ∧ Below w.heap.size w w' := by
  have wx : IntKind.u64.wrap (x : Int) = (x : Int) := by rw [IntKind.wrap_u64]; omega
  clear hx
  go_enter Try.func13, Try.ntmps13
  have s0 : Hid (Kn (kal4 w (smN x)) [(w.heap.size, (c4 (smN x)))]) := ((Kn.nil w).al (c4 (smN x)) 27 rfl)
  have b0 : Hid (Below w.heap.size w (kal4 w (smN x))) := ((Below.refl _ _).alloc (Nat.le_refl _) _)
  go_wp2_with fail
  have urr_0 : (kal4 w (smN x)).cell? ⟨w.heap.size, 0, none⟩ = some (.int .u64 (smN x).a) := Kn.get s0.out 0 0 rfl rfl
  have urr_1 : (kal4 w (smN x)).cell? ⟨w.heap.size, 1, none⟩ = some (.int .u64 (smN x).b) := Kn.get s0.out 0 1 rfl rfl
  have urr_2 : (kal4 w (smN x)).cell? ⟨w.heap.size, 2, none⟩ = some (.int .u64 (smN x).c) := Kn.get s0.out 0 2 rfl rfl
  have urr_3 : (kal4 w (smN x)).cell? ⟨w.heap.size, 3, none⟩ = some (.int .u64 (smN x).d) := Kn.get s0.out 0 3 rfl rfl
  refine bodyPost_ret (v := N (smN x)) ?_ rfl ⟨rfl, b0.out⟩
  show (results Try.f13 _).run Try.prog (kal4 w (smN x)) = .ok _ (kal4 w (smN x))
  clear s0 b0
  generalize (kal4 w (smN x)) = W9 at *
  simp [results, Try.results13, go_sem, urr_0, urr_1, urr_2, urr_3]
set_option maxHeartbeats 1000000 in
theorem diff_walk (a b : Int) (x y z d : Nm)
    (NA : ∀ w, Calls Try.prog 13 #[.int .i64 a] w fun e w' => e = .returned (N x) ∧ Below w.heap.size w w')
    (NB : ∀ w, Calls Try.prog 13 #[.int .i64 b] w fun e w' => e = .returned (N y) ∧ Below w.heap.size w w')
    (NG : ∀ w, Calls Try.prog 43 #[N y] w fun e w' => e = .returned (N z) ∧ Below w.heap.size w w')
    (AD : ∀ w, Calls Try.prog 16 #[N x, N z] w fun e w' => e = .returned (N d) ∧ Below w.heap.size w w')
    (w : World) : Calls Try.prog 29 #[.int .i64 a, .int .i64 b] w fun e w' => e = .returned (N d) ∧ Below w.heap.size w w' := by
  go_enter Try.func29, Try.ntmps29
  have s0 : Hid (Kn (kz4 w) [(w.heap.size, zz4)]) := ((Kn.nil w).al zz4 27 rfl)
  have b0 : Hid (Below w.heap.size w (kz4 w)) := ((Below.refl _ _).alloc (Nat.le_refl _) _)
  go_wp2_with fail
  refine (NA _).mono ?_
  rintro e w1 ⟨rfl, hb1⟩
  have s1 : Hid (Kn w1 [(w.heap.size, zz4)]) := s0.out.up hb1
  have b1 : Hid (Below w.heap.size w w1) := b0.out.trans (hb1.mono b0.out.size)
  have z1 := b1.out.size
  clear hb1 s0 b0
  go_wp2_with fail
  refine (NB _).mono ?_
  rintro e w2 ⟨rfl, hb2⟩
  have s2 : Hid (Kn w2 [(w.heap.size, zz4)]) := s1.out.up hb2
  have b2 : Hid (Below w.heap.size w w2) := b1.out.trans (hb2.mono b1.out.size)
  have z2 := b2.out.size
  clear hb2 s1 b1
  go_wp2_with fail
  refine (NG _).mono ?_
  rintro e w3 ⟨rfl, hb3⟩
  have s3 : Hid (Kn w3 [(w.heap.size, zz4)]) := s2.out.up hb3
  have b3 : Hid (Below w.heap.size w w3) := b2.out.trans (hb3.mono b2.out.size)
  have z3 := b3.out.size
  clear hb3 s2 b2
  go_wp2_with fail
  refine (AD _).mono ?_
  rintro e w4 ⟨rfl, hb4⟩
  have s4 : Hid (Kn w4 [(w.heap.size, zz4)]) := s3.out.up hb4
  have b4 : Hid (Below w.heap.size w w4) := b3.out.trans (hb4.mono b3.out.size)
  have z4 := b4.out.size
  clear hb4 s3 b3
  have uro_0 : w4.cell? ⟨w.heap.size, 0, none⟩ = some (.int .u64 0) := Kn.get s4.out 0 0 rfl rfl
  have uro_1 : w4.cell? ⟨w.heap.size, 1, none⟩ = some (.int .u64 0) := Kn.get s4.out 0 1 rfl rfl
  have uro_2 : w4.cell? ⟨w.heap.size, 2, none⟩ = some (.int .u64 0) := Kn.get s4.out 0 2 rfl rfl
  have uro_3 : w4.cell? ⟨w.heap.size, 3, none⟩ = some (.int .u64 0) := Kn.get s4.out 0 3 rfl rfl
  have uro_z : ∀ j, w4.frozen? ⟨w.heap.size, j, none⟩ = false := Kn.fz s4.out 0 rfl
  have s5 : Hid (Kn (st4 w4 (w.heap.size) (d)) [(w.heap.size, (c4 (d)))]) := Kn.st4 (L := []) (s4.out.front 0 rfl) (d)
  have b5 : Hid (Below w.heap.size w (st4 w4 (w.heap.size) (d))) := below_st4 b4.out (by omega)
  clear s4 b4
  go_wp2_with fail
  clear uro_0 uro_1 uro_2 uro_3 uro_z
  have urr_0 : (st4 w4 (w.heap.size) (d)).cell? ⟨w.heap.size, 0, none⟩ = some (.int .u64 (d).a) := Kn.get s5.out 0 0 rfl rfl
  have urr_1 : (st4 w4 (w.heap.size) (d)).cell? ⟨w.heap.size, 1, none⟩ = some (.int .u64 (d).b) := Kn.get s5.out 0 1 rfl rfl
  have urr_2 : (st4 w4 (w.heap.size) (d)).cell? ⟨w.heap.size, 2, none⟩ = some (.int .u64 (d).c) := Kn.get s5.out 0 2 rfl rfl
  have urr_3 : (st4 w4 (w.heap.size) (d)).cell? ⟨w.heap.size, 3, none⟩ = some (.int .u64 (d).d) := Kn.get s5.out 0 3 rfl rfl
  refine bodyPost_ret (v := N d) ?_ rfl ⟨rfl, b5.out⟩
  show (results Try.f29 _).run Try.prog (st4 w4 (w.heap.size) (d)) = .ok _ (st4 w4 (w.heap.size) (d))
  clear s5 b5
  generalize (st4 w4 (w.heap.size) (d)) = W9 at *
  simp [results, Try.results29, go_sem, urr_0, urr_1, urr_2, urr_3]
set_option maxHeartbeats 1000000 in
theorem low_walk (x o d : Nm) (u : Int) (t : Bool) (hu : (u == 1) = t)
    (SL : ∀ w, Calls Try.prog 35 #[] w fun e w' => e = .returned (N o) ∧ Below w.heap.size w w')
    (SS : ∀ w, Calls Try.prog 36 #[N x, N o] w fun e w' => e = .returned (.tuple #[N d, .int .u64 u]) ∧ Below w.heap.size w w')
    (w : World) : Calls Try.prog 28 #[N x] w fun e w' => e = .returned (.bool t) ∧ Below w.heap.size w w' := by
  go_enter Try.func28, Try.ntmps28
  have s0 : Hid (Kn (kal4 w (x)) [(w.heap.size, (c4 (x)))]) := ((Kn.nil w).al (c4 (x)) 27 rfl)
  have b0 : Hid (Below w.heap.size w (kal4 w (x))) := ((Below.refl _ _).alloc (Nat.le_refl _) _)
  go_wp2_with fail
  refine wp_region_alloc1 6 (.cells #[.int .u64 0, .int .u64 0, .int .u64 0, .int .u64 0] 27) (by kernel_rfl) (by kernel_rfl) (by kernel_rfl) (by kernel_rfl) (by decide) (fun _ _ d _ _ h => by cases d <;> exact h) rfl rfl (fun _ _ => by kernel_rfl) ?_
  apply Exists.intro
  refine ⟨fun U hU f hf hcl => ?_, fun k1 w1 hb1 hk1 hc1 => ?_⟩
  · skip
    have ua_0 := fun nx => (Kn.get (s0.out.up (hf nx).out) 0 0 rfl rfl : (f nx).cell? ⟨w.heap.size, 0, none⟩ = some (.int .u64 (x).a))
    have ua_1 := fun nx => (Kn.get (s0.out.up (hf nx).out) 0 1 rfl rfl : (f nx).cell? ⟨w.heap.size, 1, none⟩ = some (.int .u64 (x).b))
    have ua_2 := fun nx => (Kn.get (s0.out.up (hf nx).out) 0 2 rfl rfl : (f nx).cell? ⟨w.heap.size, 2, none⟩ = some (.int .u64 (x).c))
    have ua_3 := fun nx => (Kn.get (s0.out.up (hf nx).out) 0 3 rfl rfl : (f nx).cell? ⟨w.heap.size, 3, none⟩ = some (.int .u64 (x).d))
    clear hf
    simp only [List.take_succ_cons, List.take_zero]
    repeat (go_big_quiet_step (first | (go_at_call 35; exact (SL _).mono fun e w'' ⟨he, hb⟩ => ⟨he, hcl.out _ _ hb⟩) | (go_at_call 36; exact (SS _).mono fun e w'' ⟨he, hb⟩ => ⟨he, hcl.out _ _ hb⟩)))
    exact wpQuiet_nil rfl
  simp only [List.drop_succ_cons, List.drop_zero]
  have z1 := b0.out.size
  have s1x : Hid (Kn w1 [(k1, zz4), (w.heap.size, (c4 (x)))]) := s0.out.fresh hb1.out hk1 hc1.out
  have g1 : w.heap.size ≤ k1 := Nat.le_trans b0.out.size hk1
  have cz1_0 : w1.cell? ⟨k1, 0, none⟩ = some (.int .u64 0) := Kn.get s1x.out 0 0 rfl rfl
  have cz1_1 : w1.cell? ⟨k1, 1, none⟩ = some (.int .u64 0) := Kn.get s1x.out 0 1 rfl rfl
  have cz1_2 : w1.cell? ⟨k1, 2, none⟩ = some (.int .u64 0) := Kn.get s1x.out 0 2 rfl rfl
  have cz1_3 : w1.cell? ⟨k1, 3, none⟩ = some (.int .u64 0) := Kn.get s1x.out 0 3 rfl rfl
  have cz1 : ∀ j, w1.frozen? ⟨k1, j, none⟩ = false := Kn.fz s1x.out 0 rfl
  have s1 : Hid (Kn (st4 w1 k1 (d)) [(k1, (c4 (d))), (w.heap.size, (c4 (x)))]) := s1x.out.st4 (d)
  have b1 : Hid (Below w.heap.size w (st4 w1 k1 (d))) := below_st4 (b0.out.trans (hb1.out.mono b0.out.size)) g1
  clear s1x s0 b0 hb1 hc1 hk1
  go_wp2_with fail
  clear cz1_0 cz1_1 cz1_2 cz1_3 cz1
  go_ret
  exact ⟨rfl, b1.out⟩
theorem diff_is (a b : Nat) (ha : a < 1000) (hb : b < 1000) (w : World) : Calls Try.prog 29 #[.int .i64 (a : Int), .int .i64 (b : Int)] w fun e w' => e = .returned (N (nm ((a + (Cv.ord - b % Cv.ord) % Cv.ord) % Cv.ord))) ∧ Below w.heap.size w w' := by
  have NG := sNegC (smN b) (smN_ok (by omega))
  have AD := sAddC (smN a) (nm ((Cv.ord - b % Cv.ord) % Cv.ord)) (smN_ok (by omega)) (nm_ok _)
  rw [smN_nat] at NG AD
  rw [s_nat] at AD
  exact diff_walk _ _ _ _ _ _ (number_is a ha) (number_is b hb) NG AD w
theorem isBelow_is (x : Nm) (ox : x.ok) (w : World) : Calls Try.prog 28 #[N x] w fun e w' => e = .returned (.bool (decide (x.nat < Cv.ord))) ∧ Below w.heap.size w w' := by
  have SS := sub_nat x lN ox lN_ok
  rw [lN_nat] at SS
  refine low_walk x lN _ _ _ ?_ sL_walk SS w
  split
  · rename_i h
    rw [decide_eq_true h]
    rfl
  · rename_i h
    rw [decide_eq_false h]
    rfl
end Go.Proofs.Ytdcpicbkemmakaa
