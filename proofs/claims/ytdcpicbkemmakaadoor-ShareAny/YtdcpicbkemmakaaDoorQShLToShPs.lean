/- Texts that were joined: ShL, ShPv, ShB, ShPs. -/
import Derived.Test.YtdcpicbkemmakaaDoorQScF
import Derived.Test.YtdcpicbkemmakaaDoorQKnEToShPl
import Derived.Test.YtdcpicbkemmakaaDoorQGArrToShD
import Derived.Test.YtdcpicbkemmakaaDoorQHLaidToHRBlock
/- Package share, as it landed: number, difference, isBelow. -/
namespace Go.Proofs.YtdcpicbkemmakaaDoor
open Go.RowKit
attribute [local go_sem] World.cell?_alloc_some cell_alloc2 cell_alloc3 cell_alloc4 frozen?_alloc_cells frozen_out
set_option linter.unusedSimpArgs false
/-- A small number, as package share makes it. -/
abbrev smN (x : Nat) : Nm := ⟨(x : Int), 0, 0, 0⟩
theorem smN_ok {x : Nat} (h : x < 18446744073709551616) : (smN x).ok := one_ok ⟨by omega, by omega⟩
theorem smN_nat (x : Nat) : (smN x).nat = x := by
  unfold Nm.nat Nm.val
  simp only []
  omega
set_option maxHeartbeats 1000000 in
theorem number_is (x : Nat) (hx : x < 1000) (w : World) : Calls Tryd.prog 37 #[.int .i64 (x : Int)] w fun e w' => e = .returned (N (smN x)) ∧ Below w.heap.size w w' := by
  have wx : IntKind.u64.wrap (x : Int) = (x : Int) := by rw [IntKind.wrap_u64]; omega
  clear hx
  go_enter Tryd.func37, Tryd.ntmps37
  have s0 : Hid (Kn (kal4 w (smN x)) [(w.heap.size, (c4 (smN x)))]) := ((Kn.nil w).al (c4 (smN x)) 24 rfl)
  have b0 : Hid (Below w.heap.size w (kal4 w (smN x))) := ((Below.refl _ _).alloc (Nat.le_refl _) _)
  go_wp2_with fail
  have urr_0 : (kal4 w (smN x)).cell? ⟨w.heap.size, 0, none⟩ = some (.int .u64 (smN x).a) := Kn.get s0.out 0 0 rfl rfl
  have urr_1 : (kal4 w (smN x)).cell? ⟨w.heap.size, 1, none⟩ = some (.int .u64 (smN x).b) := Kn.get s0.out 0 1 rfl rfl
  have urr_2 : (kal4 w (smN x)).cell? ⟨w.heap.size, 2, none⟩ = some (.int .u64 (smN x).c) := Kn.get s0.out 0 2 rfl rfl
  have urr_3 : (kal4 w (smN x)).cell? ⟨w.heap.size, 3, none⟩ = some (.int .u64 (smN x).d) := Kn.get s0.out 0 3 rfl rfl
  refine bodyPost_ret (v := N (smN x)) ?_ rfl ⟨rfl, b0.out⟩
  show (results Tryd.f37 _).run Tryd.prog (kal4 w (smN x)) = .ok _ (kal4 w (smN x))
  clear s0 b0
  generalize (kal4 w (smN x)) = W9 at *
  simp [results, Tryd.results37, go_sem, urr_0, urr_1, urr_2, urr_3]
set_option maxHeartbeats 1000000 in
theorem diff_walk (a b : Int) (x y z d : Nm)
    (NA : ∀ w, Calls Tryd.prog 37 #[.int .i64 a] w fun e w' => e = .returned (N x) ∧ Below w.heap.size w w')
    (NB : ∀ w, Calls Tryd.prog 37 #[.int .i64 b] w fun e w' => e = .returned (N y) ∧ Below w.heap.size w w')
    (NG : ∀ w, Calls Tryd.prog 18 #[N y] w fun e w' => e = .returned (N z) ∧ Below w.heap.size w w')
    (AD : ∀ w, Calls Tryd.prog 17 #[N x, N z] w fun e w' => e = .returned (N d) ∧ Below w.heap.size w w')
    (w : World) : Calls Tryd.prog 58 #[.int .i64 a, .int .i64 b] w fun e w' => e = .returned (N d) ∧ Below w.heap.size w w' := by
  go_enter Tryd.func58, Tryd.ntmps58
  have s0 : Hid (Kn (kz4 w) [(w.heap.size, zz4)]) := ((Kn.nil w).al zz4 24 rfl)
  have b0 : Hid (Below w.heap.size w (kz4 w)) := ((Below.refl _ _).alloc (Nat.le_refl _) _)
  go_wp2_with fail
  refine (NA _).mono ?_
  rintro e w1 ⟨rfl, hb1⟩
  have s1 : Hid (Kn w1 [(w.heap.size, zz4)]) := s0.out.up hb1
  have b1 : Hid (Below w.heap.size w w1) := b0.out.trans (hb1.mono b0.out.size)
  have z1 := b1.out.size
  clear hb1 s0 b0
  go_wp2_with fail
  refine (NB _).mono ?_
  rintro e w2 ⟨rfl, hb2⟩
  have s2 : Hid (Kn w2 [(w.heap.size, zz4)]) := s1.out.up hb2
  have b2 : Hid (Below w.heap.size w w2) := b1.out.trans (hb2.mono b1.out.size)
  have z2 := b2.out.size
  clear hb2 s1 b1
  go_wp2_with fail
  refine (NG _).mono ?_
  rintro e w3 ⟨rfl, hb3⟩
  have s3 : Hid (Kn w3 [(w.heap.size, zz4)]) := s2.out.up hb3
  have b3 : Hid (Below w.heap.size w w3) := b2.out.trans (hb3.mono b2.out.size)
  have z3 := b3.out.size
  clear hb3 s2 b2
  go_wp2_with fail
  refine (AD _).mono ?_
  rintro e w4 ⟨rfl, hb4⟩
  have s4 : Hid (Kn w4 [(w.heap.size, zz4)]) := s3.out.up hb4
  have b4 : Hid (Below w.heap.size w w4) := b3.out.trans (hb4.mono b3.out.size)
  have z4 := b4.out.size
  clear hb4 s3 b3
  have uro_0 : w4.cell? ⟨w.heap.size, 0, none⟩ = some (.int .u64 0) := Kn.get s4.out 0 0 rfl rfl
  have uro_1 : w4.cell? ⟨w.heap.size, 1, none⟩ = some (.int .u64 0) := Kn.get s4.out 0 1 rfl rfl
  have uro_2 : w4.cell? ⟨w.heap.size, 2, none⟩ = some (.int .u64 0) := Kn.get s4.out 0 2 rfl rfl
  have uro_3 : w4.cell? ⟨w.heap.size, 3, none⟩ = some (.int .u64 0) := Kn.get s4.out 0 3 rfl rfl
  have uro_z : ∀ j, w4.frozen? ⟨w.heap.size, j, none⟩ = false := Kn.fz s4.out 0 rfl
  have s5 : Hid (Kn (st4 w4 (w.heap.size) (d)) [(w.heap.size, (c4 (d)))]) := Kn.st4 (L := []) (s4.out.front 0 rfl) (d)
  have b5 : Hid (Below w.heap.size w (st4 w4 (w.heap.size) (d))) := below_st4 b4.out (by omega)
  clear s4 b4
  go_wp2_with fail
  clear uro_0 uro_1 uro_2 uro_3 uro_z
  have urr_0 : (st4 w4 (w.heap.size) (d)).cell? ⟨w.heap.size, 0, none⟩ = some (.int .u64 (d).a) := Kn.get s5.out 0 0 rfl rfl
  have urr_1 : (st4 w4 (w.heap.size) (d)).cell? ⟨w.heap.size, 1, none⟩ = some (.int .u64 (d).b) := Kn.get s5.out 0 1 rfl rfl
  have urr_2 : (st4 w4 (w.heap.size) (d)).cell? ⟨w.heap.size, 2, none⟩ = some (.int .u64 (d).c) := Kn.get s5.out 0 2 rfl rfl
  have urr_3 : (st4 w4 (w.heap.size) (d)).cell? ⟨w.heap.size, 3, none⟩ = some (.int .u64 (d).d) := Kn.get s5.out 0 3 rfl rfl
  refine bodyPost_ret (v := N d) ?_ rfl ⟨rfl, b5.out⟩
  show (results Tryd.f58 _).run Tryd.prog (st4 w4 (w.heap.size) (d)) = .ok _ (st4 w4 (w.heap.size) (d))
  clear s5 b5
  generalize (st4 w4 (w.heap.size) (d)) = W9 at *
  simp [results, Tryd.results58, go_sem, urr_0, urr_1, urr_2, urr_3]
set_option maxHeartbeats 1000000 in
theorem low_walk (x o d : Nm) (u : Int) (t : Bool) (hu : (u == 1) = t)
    (SL : ∀ w, Calls Tryd.prog 14 #[] w fun e w' => e = .returned (N o) ∧ Below w.heap.size w w')
    (SS : ∀ w, Calls Tryd.prog 44 #[N x, N o] w fun e w' => e = .returned (.tuple #[N d, .int .u64 u]) ∧ Below w.heap.size w w')
    (w : World) : Calls Tryd.prog 21 #[N x] w fun e w' => e = .returned (.bool t) ∧ Below w.heap.size w w' := by
  go_enter Tryd.func21, Tryd.ntmps21
  have s0 : Hid (Kn (kal4 w (x)) [(w.heap.size, (c4 (x)))]) := ((Kn.nil w).al (c4 (x)) 24 rfl)
  have b0 : Hid (Below w.heap.size w (kal4 w (x))) := ((Below.refl _ _).alloc (Nat.le_refl _) _)
  go_wp2_with fail
  refine wp_region_alloc1 6 (.cells #[.int .u64 0, .int .u64 0, .int .u64 0, .int .u64 0] 24) (by kernel_rfl) (by kernel_rfl) (by kernel_rfl) (by kernel_rfl) (by decide) (fun _ _ d _ _ h => by cases d <;> exact h) rfl rfl (fun _ _ => by kernel_rfl) ?_
  apply Exists.intro
  refine ⟨fun U hU f hf hcl => ?_, fun k1 w1 hb1 hk1 hc1 => ?_⟩
  · skip
    have ua_0 := fun nx => (Kn.get (s0.out.up (hf nx).out) 0 0 rfl rfl : (f nx).cell? ⟨w.heap.size, 0, none⟩ = some (.int .u64 (x).a))
    have ua_1 := fun nx => (Kn.get (s0.out.up (hf nx).out) 0 1 rfl rfl : (f nx).cell? ⟨w.heap.size, 1, none⟩ = some (.int .u64 (x).b))
    have ua_2 := fun nx => (Kn.get (s0.out.up (hf nx).out) 0 2 rfl rfl : (f nx).cell? ⟨w.heap.size, 2, none⟩ = some (.int .u64 (x).c))
    have ua_3 := fun nx => (Kn.get (s0.out.up (hf nx).out) 0 3 rfl rfl : (f nx).cell? ⟨w.heap.size, 3, none⟩ = some (.int .u64 (x).d))
    clear hf
    simp only [List.take_succ_cons, List.take_zero]
    repeat (go_big_quiet_step (first | (go_at_call 14; exact (SL _).mono fun e w'' ⟨he, hb⟩ => ⟨he, hcl.out _ _ hb⟩) | (go_at_call 44; exact (SS _).mono fun e w'' ⟨he, hb⟩ => ⟨he, hcl.out _ _ hb⟩)))
    exact wpQuiet_nil rfl
  simp only [List.drop_succ_cons, List.drop_zero]
  have z1 := b0.out.size
  have s1x : Hid (Kn w1 [(k1, zz4), (w.heap.size, (c4 (x)))]) := s0.out.fresh hb1.out hk1 hc1.out
  have g1 : w.heap.size ≤ k1 := Nat.le_trans b0.out.size hk1
  have cz1_0 : w1.cell? ⟨k1, 0, none⟩ = some (.int .u64 0) := Kn.get s1x.out 0 0 rfl rfl
  have cz1_1 : w1.cell? ⟨k1, 1, none⟩ = some (.int .u64 0) := Kn.get s1x.out 0 1 rfl rfl
  have cz1_2 : w1.cell? ⟨k1, 2, none⟩ = some (.int .u64 0) := Kn.get s1x.out 0 2 rfl rfl
  have cz1_3 : w1.cell? ⟨k1, 3, none⟩ = some (.int .u64 0) := Kn.get s1x.out 0 3 rfl rfl
  have cz1 : ∀ j, w1.frozen? ⟨k1, j, none⟩ = false := Kn.fz s1x.out 0 rfl
  have s1 : Hid (Kn (st4 w1 k1 (d)) [(k1, (c4 (d))), (w.heap.size, (c4 (x)))]) := s1x.out.st4 (d)
  have b1 : Hid (Below w.heap.size w (st4 w1 k1 (d))) := below_st4 (b0.out.trans (hb1.out.mono b0.out.size)) g1
  clear s1x s0 b0 hb1 hc1 hk1
  go_wp2_with fail
  clear cz1_0 cz1_1 cz1_2 cz1_3 cz1
  go_ret
  exact ⟨rfl, b1.out⟩
theorem diff_is (a b : Nat) (ha : a < 1000) (hb : b < 1000) (w : World) : Calls Tryd.prog 58 #[.int .i64 (a : Int), .int .i64 (b : Int)] w fun e w' => e = .returned (N (nm ((a + (Cv.ord - b % Cv.ord) % Cv.ord) % Cv.ord))) ∧ Below w.heap.size w w' := by
  have NG := sNegC (smN b) (smN_ok (by omega))
  have AD := sAddC (smN a) (nm ((Cv.ord - b % Cv.ord) % Cv.ord)) (smN_ok (by omega)) (nm_ok _)
  rw [smN_nat] at NG AD
  rw [s_nat] at AD
  exact diff_walk _ _ _ _ _ _ (number_is a ha) (number_is b hb) NG AD w
theorem isBelow_is (x : Nm) (ox : x.ok) (w : World) : Calls Tryd.prog 21 #[N x] w fun e w' => e = .returned (.bool (decide (x.nat < Cv.ord))) ∧ Below w.heap.size w w' := by
  have SS := sub_nat x lN ox lN_ok
  rw [lN_nat] at SS
  refine low_walk x lN _ _ _ ?_ sL_walk SS w
  split
  · rename_i h
    rw [decide_eq_true h]
    rfl
  · rename_i h
    rw [decide_eq_false h]
    rfl
end Go.Proofs.YtdcpicbkemmakaaDoor

/- Package share, as it landed: valueAt's walk. -/
namespace Go.Proofs.YtdcpicbkemmakaaDoor
open Go.RowKit
attribute [local go_sem] World.cell?_alloc_some cell_alloc2 cell_alloc3 cell_alloc4 frozen?_alloc_cells frozen_out
set_option linter.unusedSimpArgs false
set_option maxRecDepth 20000 in
set_option maxHeartbeats 4000000 in
theorem value_walk (n b o cp : Nat) (n20 : n ≤ 20) (x : Int) (xn : Nm) (cs hs ms : Nat → Nm) (h0 : hs n = ⟨0, 0, 0, 0⟩) (w : World)
    (CR : Hid (∀ W, Below w.heap.size w W → ∀ i, i < n → W.rangeAt b (o + i * 4) (c4 (cs i))))
    (NX : Hid (∀ W, Calls Tryd.prog 37 #[.int .i64 x] W fun e w' => e = .returned (N xn) ∧ Below W.heap.size W w'))
    (MU : Hid (∀ i, i < n → ∀ W, Calls Tryd.prog 19 #[N (hs (i + 1)), N xn] W fun e w' => e = .returned (N (ms i)) ∧ Below W.heap.size W w'))
    (AD : Hid (∀ i, i < n → ∀ W, Calls Tryd.prog 17 #[N (ms i), N (cs i)] W fun e w' => e = .returned (N (hs i)) ∧ Below W.heap.size W w')) :
    Calls Tryd.prog 26 #[.slice (some ⟨b, o, none⟩) n cp, .int .i64 x] w fun e w' => e = .returned (N (hs 0)) ∧ Below w.heap.size w w' := by
  have N20 : Hid (n ≤ 20) := n20
  have wn : IntKind.i64.wrap ((n : Int) - 1) = (n : Int) - 1 := by rw [IntKind.wrap_i64]; omega
  clear n20
  go_enter Tryd.func26, Tryd.ntmps26
  have s0 : Hid (Kn (kz4 (kz4 w)) [(w.heap.size + 1, zz4), (w.heap.size, zz4)]) := (((Kn.nil w).al zz4 24 rfl).al zz4 24 (by simp))
  have b0 : Hid (Below w.heap.size w (kz4 (kz4 w))) := (((Below.refl _ _).alloc (Nat.le_refl _) _).alloc (by simp <;> omega) _)
  go_wp2_with fail
  clear wn
  go_loopw [6] (fun t wr => ∃ j : Nat, j ≤ n ∧ t = .int .i64 ((j : Int) - 1) ∧ Hid (Kn wr [(w.heap.size + 1, c4 (hs j)), (w.heap.size, zz4)]) ∧ Hid (Below w.heap.size w wr)) (fun t _ => (intOf t + 1).toNat)
  case atStart => exact ⟨n, Nat.le_refl _, rfl, by rw [h0]; exact s0, b0⟩
  case round =>
    clear s0 b0 h0
    obtain ⟨j, hj, rfl, s0, b0⟩ := hrel
    cases j with
    | succ j =>
      rw [show (((j + 1 : Nat) : Int) - 1) = (j : Int) by omega]
      have j0 : (j : Int) ≥ 0 := by omega
      have j1 : (0 : Int) ≤ (j : Int) := by omega
      have j2 : (j : Int) < (n : Int) := by omega
      have wk : IntKind.i64.wrap ((j : Int) - 1) = (j : Int) - 1 := by have := N20.out; rw [IntKind.wrap_i64]; omega
      have HJ : Hid (j < n) := hj
      have T1 := MU.out j hj
      have T2 := AD.out j hj
      have T0 := NX.out
      clear hj MU AD NX
      go_wp2_with fail
      refine wp_region_up_then 9 (by kernel_rfl) (by kernel_rfl) (by kernel_rfl) (by kernel_rfl) (by decide) (fun _ _ d _ _ h => by cases d <;> exact h) (fun U hU f hf hcl => ?_)
      have uy_0 := fun nx => (Kn.get (s0.out.up (hf nx).out) 0 0 rfl rfl : (f nx).cell? ⟨w.heap.size + 1, 0, none⟩ = some (.int .u64 (hs (j + 1)).a))
      have uy_1 := fun nx => (Kn.get (s0.out.up (hf nx).out) 0 1 rfl rfl : (f nx).cell? ⟨w.heap.size + 1, 1, none⟩ = some (.int .u64 (hs (j + 1)).b))
      have uy_2 := fun nx => (Kn.get (s0.out.up (hf nx).out) 0 2 rfl rfl : (f nx).cell? ⟨w.heap.size + 1, 2, none⟩ = some (.int .u64 (hs (j + 1)).c))
      have uy_3 := fun nx => (Kn.get (s0.out.up (hf nx).out) 0 3 rfl rfl : (f nx).cell? ⟨w.heap.size + 1, 3, none⟩ = some (.int .u64 (hs (j + 1)).d))
      have ca : ∀ nx, (f nx).cell? ⟨b, o + j * 4, none⟩ = some (.int .u64 (cs j).a) := fun nx => (CR.out _ (b0.out.trans ((hf nx).out.mono b0.out.size)) j HJ.out) 0 _ rfl
      have cb : ∀ nx, (f nx).cell? ⟨b, o + j * 4 + 1, none⟩ = some (.int .u64 (cs j).b) := fun nx => (CR.out _ (b0.out.trans ((hf nx).out.mono b0.out.size)) j HJ.out) 1 _ rfl
      have cc : ∀ nx, (f nx).cell? ⟨b, o + j * 4 + 2, none⟩ = some (.int .u64 (cs j).c) := fun nx => (CR.out _ (b0.out.trans ((hf nx).out.mono b0.out.size)) j HJ.out) 2 _ rfl
      have cd : ∀ nx, (f nx).cell? ⟨b, o + j * 4 + 3, none⟩ = some (.int .u64 (cs j).d) := fun nx => (CR.out _ (b0.out.trans ((hf nx).out.mono b0.out.size)) j HJ.out) 3 _ rfl
      simp only [List.take_succ_cons, List.take_zero, List.drop_succ_cons, List.drop_zero]
      repeat (go_big_quiet_step (first | (go_at_call 37; exact (T0 _).mono fun e w'' ⟨he, hb⟩ => ⟨he, hcl.out _ _ hb⟩) | (go_at_call 19; exact (T1 _).mono fun e w'' ⟨he, hb⟩ => ⟨he, hcl.out _ _ hb⟩) | (go_at_call 17; exact (T2 _).mono fun e w'' ⟨he, hb⟩ => ⟨he, hcl.out _ _ hb⟩)))
      refine wpQuiet_nil ?_
      intro nx
      have hb1 := (hf nx).out
      clear hf hcl uy_0 uy_1 uy_2 uy_3
      generalize f nx = w1 at hb1 ⊢
      have s1 : Hid (Kn w1 [(w.heap.size + 1, (c4 (hs (j + 1)))), (w.heap.size, zz4)]) := s0.out.up hb1
      have b1 : Hid (Below w.heap.size w w1) := b0.out.trans (hb1.mono b0.out.size)
      have z1 := b1.out.size
      clear hb1 s0 b0
      have uyo_0 : w1.cell? ⟨w.heap.size + 1, 0, none⟩ = some (.int .u64 (hs (j + 1)).a) := Kn.get s1.out 0 0 rfl rfl
      have uyo_1 : w1.cell? ⟨w.heap.size + 1, 1, none⟩ = some (.int .u64 (hs (j + 1)).b) := Kn.get s1.out 0 1 rfl rfl
      have uyo_2 : w1.cell? ⟨w.heap.size + 1, 2, none⟩ = some (.int .u64 (hs (j + 1)).c) := Kn.get s1.out 0 2 rfl rfl
      have uyo_3 : w1.cell? ⟨w.heap.size + 1, 3, none⟩ = some (.int .u64 (hs (j + 1)).d) := Kn.get s1.out 0 3 rfl rfl
      have uyo_z : ∀ j, w1.frozen? ⟨w.heap.size + 1, j, none⟩ = false := Kn.fz s1.out 0 rfl
      have s2 : Hid (Kn (st4 w1 (w.heap.size + 1) (hs j)) [(w.heap.size + 1, (c4 (hs j))), (w.heap.size, zz4)]) := Kn.st4 (L := [(w.heap.size, zz4)]) (s1.out.front 0 rfl) (hs j)
      have b2 : Hid (Below w.heap.size w (st4 w1 (w.heap.size + 1) (hs j))) := below_st4 b1.out (by omega)
      clear s1 b1
      go_wp2_with fail
      clear uyo_0 uyo_1 uyo_2 uyo_3 uyo_z
      go_roundw
      case rel => exact ⟨j, Nat.le_of_lt HJ.out, by first | rfl | go_num, s2, b2⟩
      case measure => simp [intOf]
    | zero =>
      have j0 : ¬ ((((0 : Nat) : Int)) - 1 ≥ 0) := by omega
      have uy_0 : wr.cell? ⟨w.heap.size + 1, 0, none⟩ = some (.int .u64 (hs 0).a) := Kn.get s0.out 0 0 rfl rfl
      have uy_1 : wr.cell? ⟨w.heap.size + 1, 1, none⟩ = some (.int .u64 (hs 0).b) := Kn.get s0.out 0 1 rfl rfl
      have uy_2 : wr.cell? ⟨w.heap.size + 1, 2, none⟩ = some (.int .u64 (hs 0).c) := Kn.get s0.out 0 2 rfl rfl
      have uy_3 : wr.cell? ⟨w.heap.size + 1, 3, none⟩ = some (.int .u64 (hs 0).d) := Kn.get s0.out 0 3 rfl rfl
      have uro_0 : wr.cell? ⟨w.heap.size, 0, none⟩ = some (.int .u64 0) := Kn.get s0.out 1 0 rfl rfl
      have uro_1 : wr.cell? ⟨w.heap.size, 1, none⟩ = some (.int .u64 0) := Kn.get s0.out 1 1 rfl rfl
      have uro_2 : wr.cell? ⟨w.heap.size, 2, none⟩ = some (.int .u64 0) := Kn.get s0.out 1 2 rfl rfl
      have uro_3 : wr.cell? ⟨w.heap.size, 3, none⟩ = some (.int .u64 0) := Kn.get s0.out 1 3 rfl rfl
      have uro_z : ∀ j, wr.frozen? ⟨w.heap.size, j, none⟩ = false := Kn.fz s0.out 1 rfl
      have s1 : Hid (Kn (st4 wr (w.heap.size) (hs 0)) [(w.heap.size, (c4 (hs 0))), (w.heap.size + 1, (c4 (hs 0)))]) := Kn.st4 (L := [(w.heap.size + 1, (c4 (hs 0)))]) (s0.out.front 1 rfl) (hs 0)
      have b1 : Hid (Below w.heap.size w (st4 wr (w.heap.size) (hs 0))) := below_st4 b0.out (by omega)
      clear s0 b0
      go_wp2_with fail
      clear uy_0 uy_1 uy_2 uy_3 uro_0 uro_1 uro_2 uro_3 uro_z
      have urr_0 : (st4 wr (w.heap.size) (hs 0)).cell? ⟨w.heap.size, 0, none⟩ = some (.int .u64 (hs 0).a) := Kn.get s1.out 0 0 rfl rfl
      have urr_1 : (st4 wr (w.heap.size) (hs 0)).cell? ⟨w.heap.size, 1, none⟩ = some (.int .u64 (hs 0).b) := Kn.get s1.out 0 1 rfl rfl
      have urr_2 : (st4 wr (w.heap.size) (hs 0)).cell? ⟨w.heap.size, 2, none⟩ = some (.int .u64 (hs 0).c) := Kn.get s1.out 0 2 rfl rfl
      have urr_3 : (st4 wr (w.heap.size) (hs 0)).cell? ⟨w.heap.size, 3, none⟩ = some (.int .u64 (hs 0).d) := Kn.get s1.out 0 3 rfl rfl
      refine bodyPost_ret (v := N (hs 0)) ?_ rfl ⟨rfl, b1.out⟩
      show (results Tryd.f26 _).run Tryd.prog (st4 wr (w.heap.size) (hs 0)) = .ok _ (st4 wr (w.heap.size) (hs 0))
      clear s1 b1
      generalize (st4 wr (w.heap.size) (hs 0)) = W9 at *
      simp [results, Tryd.results26, go_sem, urr_0, urr_1, urr_2, urr_3]
end Go.Proofs.YtdcpicbkemmakaaDoor

/- Shares built, in slices of one; places of their fields. -/
namespace Go.Proofs.YtdcpicbkemmakaaDoor
open Go.RowKit
attribute [local go_sem] World.cell?_alloc_some cell_alloc2 cell_alloc3 cell_alloc4 frozen?_alloc_cells frozen_out
set_option linter.unusedSimpArgs false
theorem wp_buildS {ops : Array Oper} {rest : List Oper} {o : Oper} {a : Act} {Q : Exit → Act → World → Prop} {w : World} (hgd : o.guard = none) (x y : Operand) (ho : o.op = .build 38 #[(0, x), (1, y)]) (X : Int) (Y : Nm) (hx : a.eval x = .int .i64 X) (hy : a.eval y = N Y)
    (h : wpList Tryd.prog ops Q rest (a.put o.dst (.agg #[.int .i64 X, .int .u64 Y.a, .int .u64 Y.b, .int .u64 Y.c, .int .u64 Y.d])) w) : wpList Tryd.prog ops Q (o :: rest) a w := by
  refine wpList_plain hgd fun K hK => ?_
  have hb : Tryd.prog.built 38 [(0, .int .i64 X), (1, N Y)] = some #[.int .i64 X, .int .u64 Y.a, .int .u64 Y.b, .int .u64 Y.c, .int .u64 Y.d] := by kernel_rfl
  have e : (Instr.build 38 ((#[(0, x), (1, y)] : Array (Nat × Operand)).map fun q => (q.fst, a.eval q.snd))).run Tryd.prog w = .ok (.agg #[.int .i64 X, .int .u64 Y.a, .int .u64 Y.b, .int .u64 Y.c, .int .u64 Y.d]) w := run_build w 38 _ _ (by simpa [hx, hy] using hb)
  unfold Oper.wp
  simp only [execOp, ho, Sem.run_bind, e, Result.andThen_ok, Sem.run_pure]
  exact hK _ _ h
theorem run_bsH (s : Shr) (w : World) : (Instr.buildSlice 26 1 #[(0, .agg #[.int .i64 s.x, .int .u64 s.y.a, .int .u64 s.y.b, .int .u64 s.y.c, .int .u64 s.y.d])]).run Tryd.prog w = .ok (.slice (some ⟨w.heap.size, 0, none⟩) 1 1) (w.alloc (.cells (shC s).toArray 38)) := by kernel_rfl
theorem wp_bsH {ops : Array Oper} {rest : List Oper} {o : Oper} {a : Act} {Q : Exit → Act → World → Prop} {w : World} (hgd : o.guard = none) (x : Operand) (ho : o.op = .buildSlice 26 1 #[(0, x)]) (s : Shr) (hx : a.eval x = .agg #[.int .i64 s.x, .int .u64 s.y.a, .int .u64 s.y.b, .int .u64 s.y.c, .int .u64 s.y.d])
    (h : wpList Tryd.prog ops Q rest (a.put o.dst (.slice (some ⟨w.heap.size, 0, none⟩) 1 1)) (w.alloc (.cells (shC s).toArray 38))) : wpList Tryd.prog ops Q (o :: rest) a w := by
  refine wpList_plain hgd fun K hK => ?_
  have e := run_bsH s w
  unfold Oper.wp
  simp only [execOp, ho, Sem.run_bind, Array.map, hx]
  simp [hx, e]
  exact hK _ _ h
theorem shs_one (w : World) (s : Shr) : Shs (w.alloc (.cells (shC s).toArray 38)) (.slice (some ⟨w.heap.size, 0, none⟩) 1 1) [s] := by
  have hb := KBlk.of (heap_alloc_new w (.cells (shC s).toArray 38))
  refine ⟨_, _, rfl, ⟨Nat.le_refl _, fun h => by cases h⟩, fun _ => ⟨_, _, rfl, fun i t ht r u hu => ?_⟩⟩
  match i, ht with
  | 0, ht =>
    obtain rfl := Option.some.inj ht
    rw [Nat.zero_mul, Nat.zero_add]
    exact hb.cell r u hu
theorem yields_buildS {o : Oper} {a : Act} {w : World} (x y : Operand) (ho : o.op = .build 38 #[(0, x), (1, y)]) (X : Int) (Y : Nm) (hx : a.eval x = .int .i64 X) (hy : a.eval y = N Y) : YieldsP Tryd.prog o a w (MP.eq (.agg #[.int .i64 X, .int .u64 Y.a, .int .u64 Y.b, .int .u64 Y.c, .int .u64 Y.d])).p :=
  yields_run (by
    have hb : Tryd.prog.built 38 [(0, .int .i64 X), (1, N Y)] = some #[.int .i64 X, .int .u64 Y.a, .int .u64 Y.b, .int .u64 Y.c, .int .u64 Y.d] := by kernel_rfl
    have e : (Instr.build 38 ((#[(0, x), (1, y)] : Array (Nat × Operand)).map fun q => (q.fst, a.eval q.snd))).run Tryd.prog w = .ok (.agg #[.int .i64 X, .int .u64 Y.a, .int .u64 Y.b, .int .u64 Y.c, .int .u64 Y.d]) w := run_build w 38 _ _ (by simpa [hx, hy] using hb)
    simp only [execOp, ho, Sem.run_bind, e, Result.andThen_ok, Sem.run_pure])
def MP.hs (l : List Shr) : MP := ⟨fun v w => Shs w v l, fun h hb => Shs.up h hb⟩
theorem yields_bs1 {o : Oper} {a : Act} {w : World} (x : Operand) (ho : o.op = .buildSlice 26 1 #[(0, x)]) (s : Shr) (hx : a.eval x = .agg #[.int .i64 s.x, .int .u64 s.y.a, .int .u64 s.y.b, .int .u64 s.y.c, .int .u64 s.y.d]) : YieldsP Tryd.prog o a w (MP.hs [s]).p := by
  have e0 := run_bsH s w
  have e : (execOp a.eval o).run Tryd.prog w = .ok (.value (.slice (some ⟨w.heap.size, 0, none⟩) 1 1)) (w.alloc (.cells (shC s).toArray 38)) := by
    unfold execOp
    simp [ho, hx, e0]
  unfold YieldsP
  rw [e]
  exact ⟨shs_one w s, (Below.refl _ _).alloc (Nat.le_refl _) _⟩
theorem yields_ixH {o : Oper} {a : Act} {w : World} (x y : Operand) (ho : o.op = .indexAddr 26 x y) {g q n d j : Nat} (hx : a.eval x = .slice (some ⟨g, q, none⟩) n d) (hy : a.eval y = .int .i64 (j : Int)) (hj : j < n) : YieldsP Tryd.prog o a w (MP.eq (.pointer (some ⟨g, q + j * 5, none⟩))).p :=
  yields_run (by
    have i1 : (j : Int) < (n : Int) := by omega
    have i0 : (0 : Int) ≤ (j : Int) := by omega
    generalize a.eval = ev at *
    unfold execOp
    simp [ho, hx, hy, go_sem, i1, i0, hj])
theorem yields_fa0 {o : Oper} {a : Act} {w : World} (x : Operand) (ho : o.op = .fieldAddr 38 x 0) (b q : Nat) (hx : a.eval x = .pointer (some ⟨b, q, none⟩)) : YieldsP Tryd.prog o a w (MP.eq (.pointer (some ⟨b, q, none⟩))).p :=
  yields_run (by
    generalize a.eval = ev at *
    unfold execOp
    simp [ho, hx, go_sem])
theorem yields_fa1 {o : Oper} {a : Act} {w : World} (x : Operand) (ho : o.op = .fieldAddr 38 x 1) (b q : Nat) (hx : a.eval x = .pointer (some ⟨b, q, none⟩)) : YieldsP Tryd.prog o a w (MP.eq (.pointer (some ⟨b, q + 1, none⟩))).p :=
  yields_run (by
    generalize a.eval = ev at *
    unfold execOp
    simp [ho, hx, go_sem])
theorem yields_ldI {o : Oper} {a : Act} {w : World} (x : Operand) (ho : o.op = .load 3 x) (b q : Nat) (hx : a.eval x = .pointer (some ⟨b, q, none⟩)) (i : Int) (hc : w.cell? ⟨b, q, none⟩ = some (.int .i64 i)) : YieldsP Tryd.prog o a w (MP.eq (.int .i64 i)).p :=
  yields_run (by
    generalize a.eval = ev at *
    unfold execOp
    simp [ho, hx, go_sem, hc])
theorem info_c4' (z : Nm) : (Tryd.prog.info? 24).map (·.size) = some (c4 z).length := by kernel_rfl
/-- A share's number in a row, read whole. -/
theorem rng_y {w : World} {b q : Nat} {s : Shr} (h : w.rangeAt b q (shC s)) : w.rangeAt b (q + 1) (c4 s.y) := fun j u hu => by
  have := h (j + 1) u hu
  rwa [show q + (j + 1) = q + 1 + j by omega] at this
end Go.Proofs.YtdcpicbkemmakaaDoor

/- Package share, as it landed: Split's walk. -/
namespace Go.Proofs.YtdcpicbkemmakaaDoor
open Go.RowKit
attribute [local go_sem] World.cell?_alloc_some cell_alloc2 cell_alloc3 cell_alloc4 frozen?_alloc_cells frozen_out
set_option linter.unusedSimpArgs false
set_option maxHeartbeats 1000000 in
theorem split_arg (x : Nm) (k n : Int) (t : Value) (h : k < 1 ∨ n < k ∨ 20 < n) (w : World) : Calls Tryd.prog 7 #[N x, .int .i64 k, .int .i64 n, t] w fun e w' => e = .returned (.tuple #[.slice none 0 0, .int .i64 1]) ∧ Below w.heap.size w w' := by
  by_cases h1 : k < 1
  · clear h
    go_enter Tryd.func7, Tryd.ntmps7
    have s0 : Hid (Kn (kal4 w (x)) [(w.heap.size, (c4 (x)))]) := ((Kn.nil w).al (c4 (x)) 24 rfl)
    have b0 : Hid (Below w.heap.size w (kal4 w (x))) := ((Below.refl _ _).alloc (Nat.le_refl _) _)
    go_wp2_with fail
    go_ret2
    exact ⟨rfl, b0.out⟩
  by_cases h2 : k > n
  · clear h
    go_enter Tryd.func7, Tryd.ntmps7
    have s0 : Hid (Kn (kal4 w (x)) [(w.heap.size, (c4 (x)))]) := ((Kn.nil w).al (c4 (x)) 24 rfl)
    have b0 : Hid (Below w.heap.size w (kal4 w (x))) := ((Below.refl _ _).alloc (Nat.le_refl _) _)
    go_wp2_with fail
    go_ret2
    exact ⟨rfl, b0.out⟩
  have h3 : n > 20 := by omega
  clear h
  go_enter Tryd.func7, Tryd.ntmps7
  have s0 : Hid (Kn (kal4 w (x)) [(w.heap.size, (c4 (x)))]) := ((Kn.nil w).al (c4 (x)) 24 rfl)
  have b0 : Hid (Below w.heap.size w (kal4 w (x))) := ((Below.refl _ _).alloc (Nat.le_refl _) _)
  go_wp2_with fail
  go_ret2
  exact ⟨rfl, b0.out⟩
set_option maxHeartbeats 1000000 in
theorem split_large (x : Nm) (k n : Int) (t : Value) (h1 : ¬ k < 1) (h2 : ¬ k > n) (h3 : ¬ n > 20) (w : World)
    (LB : ∀ w, Calls Tryd.prog 21 #[N x] w fun e w' => e = .returned (.bool false) ∧ Below w.heap.size w w')
    : Calls Tryd.prog 7 #[N x, .int .i64 k, .int .i64 n, t] w fun e w' => e = .returned (.tuple #[.slice none 0 0, .int .i64 1]) ∧ Below w.heap.size w w' := by
  go_enter Tryd.func7, Tryd.ntmps7
  have s0 : Hid (Kn (kal4 w (x)) [(w.heap.size, (c4 (x)))]) := ((Kn.nil w).al (c4 (x)) 24 rfl)
  have b0 : Hid (Below w.heap.size w (kal4 w (x))) := ((Below.refl _ _).alloc (Nat.le_refl _) _)
  have us_0 : (kal4 w (x)).cell? ⟨w.heap.size, 0, none⟩ = some (.int .u64 (x).a) := Kn.get s0.out 0 0 rfl rfl
  have us_1 : (kal4 w (x)).cell? ⟨w.heap.size, 1, none⟩ = some (.int .u64 (x).b) := Kn.get s0.out 0 1 rfl rfl
  have us_2 : (kal4 w (x)).cell? ⟨w.heap.size, 2, none⟩ = some (.int .u64 (x).c) := Kn.get s0.out 0 2 rfl rfl
  have us_3 : (kal4 w (x)).cell? ⟨w.heap.size, 3, none⟩ = some (.int .u64 (x).d) := Kn.get s0.out 0 3 rfl rfl
  go_wp2_with fail
  clear us_0 us_1 us_2 us_3
  refine (LB _).mono ?_
  rintro e w1 ⟨rfl, hb1⟩
  have s1 : Hid (Kn w1 [(w.heap.size, (c4 (x)))]) := s0.out.up hb1
  have b1 : Hid (Below w.heap.size w w1) := b0.out.trans (hb1.mono b0.out.size)
  have z1 := b1.out.size
  clear hb1 s0 b0
  go_wp2_with fail
  go_ret2
  exact ⟨rfl, b1.out⟩
/-- The shares as they are laid, so many of which are there. -/
def shF (yn : Nat → Nm) (m i r : Nat) : Value := if i < m then (shC ⟨(i : Int) + 1, yn i⟩).getD r (.bool false) else shZ.getD r (.bool false)
def shR (yn : Nat → Nm) (m k : Nat) : List Value := rowL 5 (shF yn m) k
theorem shR_zero (yn : Nat → Nm) (k : Nat) : rowL shZ.length (fun _ r => shZ.getD r (.bool false)) k = shR yn 0 k := rowL_congr fun i _ r _ => by
  unfold shF
  rw [if_neg (Nat.not_lt_zero _)]
theorem shR_put {w : World} {L : List (Nat × List Value)} {g m k : Nat} {yn : Nat → Nm} (h : Kn w ((g, shR yn m k) :: L)) (hm : m < k) : Kn (w.setCells g (m * 5) (shC ⟨(m : Int) + 1, yn m⟩)) ((g, shR yn (m + 1) k) :: L) := by
  have := h.rowPut hm (shC ⟨(m : Int) + 1, yn m⟩) rfl
  have e : rowL 5 (fun j r => if j = m then (shC ⟨(m : Int) + 1, yn m⟩).getD r (.bool false) else shF yn m j r) k = shR yn (m + 1) k := rowL_congr fun i _ r _ => by
    unfold shF
    by_cases h1 : i = m
    · rw [if_pos h1, if_pos (by omega), h1]
    · rw [if_neg h1]
      by_cases h2 : i < m
      · rw [if_pos h2, if_pos (by omega)]
      · rw [if_neg h2, if_neg (by omega)]
  rw [e] at this
  exact this
theorem shR_shs {w : World} {L : List (Nat × List Value)} {g k : Nat} {yn : Nat → Nm} (h : Kn w ((g, shR yn k k) :: L)) : Shs w (.slice (some ⟨g, 0, none⟩) k k) ((List.range k).map fun (i : Nat) => ⟨(i : Int) + 1, yn i⟩) := by
  refine ⟨_, _, by rw [List.length_map, List.length_range], ⟨by rw [List.length_map, List.length_range]; exact Nat.le_refl _, fun h => by cases h⟩, fun _ => ⟨g, 0, rfl, fun i s hs => ?_⟩⟩
  rw [List.getElem?_map] at hs
  by_cases hi : i < k
  · rw [List.getElem?_range hi] at hs
    obtain rfl := Option.some.inj hs
    rw [Nat.zero_add]
    exact h.row hi _ rfl fun r v hv => by
      unfold shF
      rw [if_pos hi, List.getD_eq_getElem?_getD, hv]
      rfl
  · rw [List.getElem?_eq_none (by rw [List.length_range]; omega)] at hs
    cases hs
theorem one_shC (s : Shr) : ∀ v ∈ shC s, v.oneCell' = true := fun v hv => by
  simp only [shC, List.mem_cons, List.not_mem_nil, or_false] at hv
  rcases hv with rfl | rfl | rfl | rfl | rfl <;> rfl
/-- What Split ends with. -/
def SpPost (er : Nat → Int) (yn : Nat → Nm) (k n : Nat) (e : Ending) (w' : World) : Prop :=
  ((∀ m, m + 1 < k → er m = 0) ∧ ∃ v, e = .returned (.tuple #[v, .int .i64 0]) ∧ Shs w' v ((List.range n).map fun (i : Nat) => ⟨(i : Int) + 1, yn i⟩)) ∨
  (∃ m, m + 1 < k ∧ (∀ i, i < m → er i = 0) ∧ er m ≠ 0 ∧ e = .returned (.tuple #[.slice none 0 0, .int .i64 (er m)]))
set_option maxRecDepth 20000 in
set_option maxHeartbeats 4000000 in
theorem split_walk (x : Nm) (k n : Nat) (k1 : 1 ≤ k) (kn : k ≤ n) (n20 : n ≤ 20) (t : Value) (cf yn : Nat → Nm) (er : Nat → Int) (Dn : World → Nat → Prop) (w : World)
    (LB : ∀ w, Calls Tryd.prog 21 #[N x] w fun e w' => e = .returned (.bool true) ∧ Below w.heap.size w w')
    (DN : Hid (∀ W, Below w.heap.size w W → Calls Tryd.prog 22 #[t] W fun e w' => (∃ src, e = .returned (ptr src) ∧ W.heap.size ≤ src ∧ src < w'.heap.size ∧ Dn w' src) ∧ Below W.heap.size W w'))
    (DU : Hid (∀ W W' src, Dn W src → W'.heap[src]? = W.heap[src]? → Dn W' src))
    (PL : Hid (∀ W q src, Below w.heap.size w W → Dn W src → w.heap.size ≤ src → src < W.heap.size → q < W.heap.size → q ≠ src → W.cell? ⟨q, 0, none⟩ = some (ptr src) → Calls Tryd.prog 23 #[N x, .int .i64 (k : Int), nxV q] W fun e w' => PlPost cf er k src W e w'))
    (VA : Hid (∀ W g i, i < n → Kn W [(g, plR cf k k)] → Calls Tryd.prog 26 #[.slice (some ⟨g, 0, none⟩) k k, .int .i64 ((i : Int) + 1)] W fun e w' => e = .returned (N (yn i)) ∧ Below W.heap.size W w')) :
    Calls Tryd.prog 7 #[N x, .int .i64 (k : Int), .int .i64 (n : Int), t] w fun e w' => SpPost er yn k n e w' ∧ Below w.heap.size w w' := by
  have N20 : Hid (n ≤ 20) := n20
  have h1 : ¬ (k : Int) < 1 := by omega
  have h2 : ¬ (k : Int) > (n : Int) := by omega
  have h3 : ¬ (n : Int) > 20 := by omega
  clear k1 kn n20
  go_enter Tryd.func7, Tryd.ntmps7
  have s0 : Hid (Kn (kal4 w (x)) [(w.heap.size, (c4 (x)))]) := ((Kn.nil w).al (c4 (x)) 24 rfl)
  have b0 : Hid (Below w.heap.size w (kal4 w (x))) := ((Below.refl _ _).alloc (Nat.le_refl _) _)
  have us_0 : (kal4 w (x)).cell? ⟨w.heap.size, 0, none⟩ = some (.int .u64 (x).a) := Kn.get s0.out 0 0 rfl rfl
  have us_1 : (kal4 w (x)).cell? ⟨w.heap.size, 1, none⟩ = some (.int .u64 (x).b) := Kn.get s0.out 0 1 rfl rfl
  have us_2 : (kal4 w (x)).cell? ⟨w.heap.size, 2, none⟩ = some (.int .u64 (x).c) := Kn.get s0.out 0 2 rfl rfl
  have us_3 : (kal4 w (x)).cell? ⟨w.heap.size, 3, none⟩ = some (.int .u64 (x).d) := Kn.get s0.out 0 3 rfl rfl
  go_wp2_with fail
  clear us_0 us_1 us_2 us_3
  refine (LB _).mono ?_
  rintro e w1 ⟨rfl, hb1⟩
  have s1 : Hid (Kn w1 [(w.heap.size, (c4 (x)))]) := s0.out.up hb1
  have b1 : Hid (Below w.heap.size w w1) := b0.out.trans (hb1.mono b0.out.size)
  have z1 := b1.out.size
  clear hb1 s0 b0
  go_wp2_with fail
  clear LB h1 h2 h3
  refine (DN.out _ b1.out).mono ?_
  rintro e w2 ⟨⟨src, rfl, g2, l2, d2⟩, hb2⟩
  have s2 : Hid (Kn w2 [(w.heap.size, c4 x)]) := s1.out.up hb2
  have b2 : Hid (Below w.heap.size w w2) := b1.out.trans (hb2.mono b1.out.size)
  have G2 : Hid (w.heap.size ≤ src ∧ src < w2.heap.size) := ⟨Nat.le_trans b1.out.size g2, l2⟩
  clear hb2 s1 b1 DN g2 l2
  have s3 : Hid (Kn (w2.alloc (.cells #[ptr src] 50)) [(w2.heap.size, [ptr src]), (w.heap.size, c4 x)]) := s2.out.al [ptr src] 50 rfl
  have ba : Below w2.heap.size w2 (w2.alloc (.cells #[ptr src] 50)) := (Below.refl _ _).alloc (Nat.le_refl _) _
  have b3 : Hid (Below w.heap.size w (w2.alloc (.cells #[ptr src] 50))) := b2.out.trans (ba.mono b2.out.size)
  have d3 : Hid (Dn (w2.alloc (.cells #[ptr src] 50)) src) := DU.out _ _ _ d2 (ba.block _ G2.out.2)
  have q3 : Hid (w2.heap.size < (w2.alloc (.cells #[ptr src] 50)).heap.size) := (s3.out.all (w2.heap.size, [ptr src]) (by simp)).lt
  have c3 : Hid ((w2.alloc (.cells #[ptr src] 50)).cell? ⟨w2.heap.size, 0, none⟩ = some (ptr src)) := Kn.get s3.out 0 0 rfl rfl
  clear d2 ba s2 b2 DU
  have us_0 : (w2.alloc (.cells #[ptr src] 50)).cell? ⟨w.heap.size, 0, none⟩ = some (.int .u64 (x).a) := Kn.get s3.out 1 0 rfl rfl
  have us_1 : (w2.alloc (.cells #[ptr src] 50)).cell? ⟨w.heap.size, 1, none⟩ = some (.int .u64 (x).b) := Kn.get s3.out 1 1 rfl rfl
  have us_2 : (w2.alloc (.cells #[ptr src] 50)).cell? ⟨w.heap.size, 2, none⟩ = some (.int .u64 (x).c) := Kn.get s3.out 1 2 rfl rfl
  have us_3 : (w2.alloc (.cells #[ptr src] 50)).cell? ⟨w.heap.size, 3, none⟩ = some (.int .u64 (x).d) := Kn.get s3.out 1 3 rfl rfl
  go_wp2_with fail
  clear us_0 us_1 us_2 us_3
  refine (PL.out _ w2.heap.size src b3.out d3.out G2.out.1 (Nat.lt_trans G2.out.2 q3.out) q3.out (Nat.ne_of_gt G2.out.2) c3.out).mono ?_
  rintro e w4 ⟨vv, r, rfl, hF, hres⟩
  have b4 : Hid (Below w.heap.size w w4) := b3.out.trans (hF.below b3.out.size G2.out.1)
  have HR : Hid _ := hres
  clear hres hF PL d3 q3 c3 s3 b3 G2
  rcases HR.out with ⟨er0, rfl, g, rfl, hg, k4⟩ | ⟨m, hm, no, hne, rfl⟩
  · have s4 : Hid (Kn w4 [(g, plR cf k k)]) := k4
    have ER : Hid (∀ m, m + 1 < k → er m = 0) := er0
    clear HR hg k4 er0
    go_wp2_with (refine wp_mkRow rfl 26 38 shZ 40 uShs iShr (by decide) _ _ rfl n _ rfl rfl rfl (by have := N20.out; omega) ?_)
    intro w5 k5 h5
    have k5' : KBlk w5 w4.heap.size (shR yn 0 n) := by rw [← shR_zero]; exact k5
    have s5 : Hid (Kn w5 [(w4.heap.size, shR yn 0 n), (g, plR cf k k)]) := s4.out.fresh_of h5 (Nat.le_refl _) k5'
    have z4 : Hid (w.heap.size ≤ w4.heap.size) := b4.out.size
    have b5 : Hid (Below w.heap.size w w5) := b4.out.trans (h5.mono z4.out)
    clear k5 h5 k5' s4 b4
    go_wp2_with fail
    generalize w4.heap.size = h at *
    go_loopw [47] (fun t wr => ∃ j : Nat, j ≤ n ∧ t = .int .i64 (j : Int) ∧ Hid (Kn wr [(h, shR yn j n), (g, plR cf k k)]) ∧ Hid (Below w.heap.size w wr)) (fun t _ => n - (intOf t).toNat)
    case atStart => exact ⟨0, Nat.zero_le _, rfl, s5, b5⟩
    case round =>
      clear s5 b5
      obtain ⟨j, hj, rfl, s5, b5⟩ := hrel
      by_cases hlt : j < n
      · have j1 : (j : Int) < (n : Int) := by omega
        have j0 : (0 : Int) ≤ (j : Int) := by omega
        have j20 : (j : Int) < 20 := by have := N20.out; omega
        have HJ : Hid (j < n) := hlt
        clear hlt hj
        go_wp2_with fail
        refine (VA.out _ g j HJ.out (s5.out.drop 0)).mono ?_
        rintro e w6 ⟨rfl, hb6⟩
        have s6 : Hid (Kn w6 [(h, shR yn j n), (g, plR cf k k)]) := s5.out.up hb6
        have b6 : Hid (Below w.heap.size w w6) := b5.out.trans (hb6.mono b5.out.size)
        clear hb6 s5 b5
        have T6 : Hid (w6.there h (j * 5) (shC ⟨(j : Int) + 1, yn j⟩).length) := Kn.rowThere (sz := 5) s6.out HJ.out (shC ⟨(j : Int) + 1, yn j⟩) rfl
        go_wp2_with (first | refine wp_buildS rfl _ _ rfl ((j : Int) + 1) (yn j) rfl rfl ?_ | refine I.wp_store_eq rfl 38 _ _ rfl h (j * 5) (shC ⟨(j : Int) + 1, yn j⟩) rfl rfl T6.out (info_share _) (one_shC _) ?_)
        intro w7 hw7
        have s7 : Hid (Kn w7 [(h, shR yn (j + 1) n), (g, plR cf k k)]) := by
          rw [hw7.out]
          exact shR_put s6.out HJ.out
        have b7 : Hid (Below w.heap.size w w7) := by
          rw [hw7.out]
          exact I.below_setCells _ _ _ b6.out z4.out
        clear hw7 s6 b6 T6
        go_wp2_with fail
        go_roundw
        case rel => exact ⟨j + 1, HJ.out, by go_num, s7, b7⟩
        case measure => simp [intOf]; have := HJ.out; omega
      · have j1 : ¬ (j : Int) < (n : Int) := by omega
        have ej : j = n := by omega
        have HS : Hid (Shs wr (.slice (some ⟨h, 0, none⟩) n n) ((List.range n).map fun (i : Nat) => ⟨(i : Int) + 1, yn i⟩)) := by
          rw [ej] at s5
          exact shR_shs s5.out
        clear hlt hj ej s5
        go_wp2_with fail
        go_ret2
        exact ⟨.inl ⟨ER.out, _, rfl, HS.out⟩, b5.out⟩
  · have e1 : (er m != 0) = true := bne_iff_ne.2 hne
    have HE : Hid (SpPost er yn k n (.returned (.tuple #[.slice none 0 0, .int .i64 (er m)])) w4) := .inr ⟨m, hm, no, hne, rfl⟩
    clear HR hne no hm
    go_wp2_with fail
    go_ret2
    exact ⟨HE.out, b4.out⟩
end Go.Proofs.YtdcpicbkemmakaaDoor
