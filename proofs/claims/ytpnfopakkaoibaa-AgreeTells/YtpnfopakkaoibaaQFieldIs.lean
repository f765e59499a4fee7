/- Package field, as it landed: powers, Inv, Sqrt. -/
import Derived.Test.YtpnfopakkaoibaaQFiF
import Derived.LoopN
namespace Go.Proofs.Ytpnfopakkaoibaa
open Go.RowKit
attribute [local go_sem] World.cell?_alloc_some cell_alloc2 cell_alloc3 cell_alloc4 frozen?_alloc_cells frozen_out
set_option linter.unusedSimpArgs false
set_option maxHeartbeats 1000000 in
theorem squared_walk (x : Nm) (n : Nat) (hn : n ≤ 256) (pk : Nat → Nm) (P0 : pk 0 = x)
    (SM : ∀ i, i < n → ∀ w, Calls Try.prog 34 #[N (pk i), N (pk i)] w fun e w' => e = .returned (N (pk (i + 1))) ∧ Below w.heap.size w w')
    (w : World) :
    Calls Try.prog 73 #[N x, .int .i64 (n : Int)] w fun e w' => e = .returned (N (pk n)) ∧ Below w.heap.size w w' := by
  subst P0
  go_enter Try.func73, Try.ntmps73
  have s0 : Hid (Kn (kz4 (kal4 w (pk 0))) [(w.heap.size + 1, zz4), (w.heap.size, (c4 (pk 0)))]) := (((Kn.nil w).al (c4 (pk 0)) 28 rfl).al zz4 28 (by simp))
  have b0 : Hid (Below w.heap.size w (kz4 (kal4 w (pk 0)))) := (((Below.refl _ _).alloc (Nat.le_refl _) _).alloc (by simp <;> omega) _)
  go_wp2_with fail
  replace s0 : Hid (Kn (kz4 (kal4 w (pk 0))) [(w.heap.size, (c4 (pk 0))), (w.heap.size + 1, zz4)]) := s0.out.front 1 rfl
  go_loopw [6] (fun i w' => ∃ q : Nat, q ≤ n ∧ i = .int .i64 (q : Int) ∧ Hid (Kn w' [(w.heap.size, c4 (pk q)), (w.heap.size + 1, zz4)]) ∧ Hid (Below w.heap.size w w')) (fun i _ => (n - (intOf i).toNat))
  case atStart => exact ⟨0, Nat.zero_le _, rfl, s0, b0⟩
  case round =>
    clear s0 b0
    obtain ⟨q, hq, rfl, s1, b1⟩ := hrel
    by_cases h0 : q < n
    · have i0 : (q : Int) < (n : Int) := by omega
      have T1 := SM q h0
      obtain ⟨y, hy⟩ : ∃ y, Hid (pk (q + 1) = y) := ⟨_, rfl⟩
      rw [hy.out] at T1
      clear SM
      generalize hx : pk q = x at *
      clear hx
      have ua_0 : wr.cell? ⟨w.heap.size, 0, none⟩ = some (.int .u64 (x).a) := Kn.get s1.out 0 0 rfl rfl
      have ua_1 : wr.cell? ⟨w.heap.size, 1, none⟩ = some (.int .u64 (x).b) := Kn.get s1.out 0 1 rfl rfl
      have ua_2 : wr.cell? ⟨w.heap.size, 2, none⟩ = some (.int .u64 (x).c) := Kn.get s1.out 0 2 rfl rfl
      have ua_3 : wr.cell? ⟨w.heap.size, 3, none⟩ = some (.int .u64 (x).d) := Kn.get s1.out 0 3 rfl rfl
      go_wp2_with fail
      clear ua_0 ua_1 ua_2 ua_3
      refine (T1 _).mono ?_
      rintro e w2 ⟨rfl, hb2⟩
      have s2 : Hid (Kn w2 [(w.heap.size, (c4 (x))), (w.heap.size + 1, zz4)]) := s1.out.up hb2
      have b2 : Hid (Below w.heap.size w w2) := b1.out.trans (hb2.mono b1.out.size)
      have z2 := b2.out.size
      clear hb2 s1 b1
      have uao_0 : w2.cell? ⟨w.heap.size, 0, none⟩ = some (.int .u64 (x).a) := Kn.get s2.out 0 0 rfl rfl
      have uao_1 : w2.cell? ⟨w.heap.size, 1, none⟩ = some (.int .u64 (x).b) := Kn.get s2.out 0 1 rfl rfl
      have uao_2 : w2.cell? ⟨w.heap.size, 2, none⟩ = some (.int .u64 (x).c) := Kn.get s2.out 0 2 rfl rfl
      have uao_3 : w2.cell? ⟨w.heap.size, 3, none⟩ = some (.int .u64 (x).d) := Kn.get s2.out 0 3 rfl rfl
      have uao_z : ∀ j, w2.frozen? ⟨w.heap.size, j, none⟩ = false := Kn.fz s2.out 0 rfl
      have s3 : Hid (Kn (st4 w2 (w.heap.size) (y)) [(w.heap.size, (c4 (y))), (w.heap.size + 1, zz4)]) := Kn.st4 (L := [(w.heap.size + 1, zz4)]) (s2.out.front 0 rfl) (y)
      have b3 : Hid (Below w.heap.size w (st4 w2 (w.heap.size) (y))) := below_st4 b2.out (by omega)
      clear s2 b2
      go_wp2_with fail
      clear uao_0 uao_1 uao_2 uao_3 uao_z
      go_roundw
      case rel => exact ⟨q + 1, by omega, by go_num, by rw [hy.out]; exact s3, b3⟩
      case measure => simp [intOf]; omega
    · have i0 : ¬ (q : Int) < (n : Int) := by omega
      obtain rfl : q = n := by omega
      have ua_0 : wr.cell? ⟨w.heap.size, 0, none⟩ = some (.int .u64 (pk q).a) := Kn.get s1.out 0 0 rfl rfl
      have ua_1 : wr.cell? ⟨w.heap.size, 1, none⟩ = some (.int .u64 (pk q).b) := Kn.get s1.out 0 1 rfl rfl
      have ua_2 : wr.cell? ⟨w.heap.size, 2, none⟩ = some (.int .u64 (pk q).c) := Kn.get s1.out 0 2 rfl rfl
      have ua_3 : wr.cell? ⟨w.heap.size, 3, none⟩ = some (.int .u64 (pk q).d) := Kn.get s1.out 0 3 rfl rfl
      have uro_0 : wr.cell? ⟨w.heap.size + 1, 0, none⟩ = some (.int .u64 0) := Kn.get s1.out 1 0 rfl rfl
      have uro_1 : wr.cell? ⟨w.heap.size + 1, 1, none⟩ = some (.int .u64 0) := Kn.get s1.out 1 1 rfl rfl
      have uro_2 : wr.cell? ⟨w.heap.size + 1, 2, none⟩ = some (.int .u64 0) := Kn.get s1.out 1 2 rfl rfl
      have uro_3 : wr.cell? ⟨w.heap.size + 1, 3, none⟩ = some (.int .u64 0) := Kn.get s1.out 1 3 rfl rfl
      have uro_z : ∀ j, wr.frozen? ⟨w.heap.size + 1, j, none⟩ = false := Kn.fz s1.out 1 rfl
      have s2 : Hid (Kn (st4 wr (w.heap.size + 1) (pk q)) [(w.heap.size + 1, (c4 (pk q))), (w.heap.size, (c4 (pk q)))]) := Kn.st4 (L := [(w.heap.size, (c4 (pk q)))]) (s1.out.front 1 rfl) (pk q)
      have b2 : Hid (Below w.heap.size w (st4 wr (w.heap.size + 1) (pk q))) := below_st4 b1.out (by omega)
      clear s1 b1
      go_wp2_with fail
      clear ua_0 ua_1 ua_2 ua_3 uro_0 uro_1 uro_2 uro_3 uro_z
      have urr_0 : (st4 wr (w.heap.size + 1) (pk q)).cell? ⟨w.heap.size + 1, 0, none⟩ = some (.int .u64 (pk q).a) := Kn.get s2.out 0 0 rfl rfl
      have urr_1 : (st4 wr (w.heap.size + 1) (pk q)).cell? ⟨w.heap.size + 1, 1, none⟩ = some (.int .u64 (pk q).b) := Kn.get s2.out 0 1 rfl rfl
      have urr_2 : (st4 wr (w.heap.size + 1) (pk q)).cell? ⟨w.heap.size + 1, 2, none⟩ = some (.int .u64 (pk q).c) := Kn.get s2.out 0 2 rfl rfl
      have urr_3 : (st4 wr (w.heap.size + 1) (pk q)).cell? ⟨w.heap.size + 1, 3, none⟩ = some (.int .u64 (pk q).d) := Kn.get s2.out 0 3 rfl rfl
      refine bodyPost_ret (v := N (pk q)) ?_ rfl ⟨rfl, b2.out⟩
      show (results Try.f73 _).run Try.prog (st4 wr (w.heap.size + 1) (pk q)) = .ok _ (st4 wr (w.heap.size + 1) (pk q))
      clear s2 b2
      generalize (st4 wr (w.heap.size + 1) (pk q)) = W9 at *
      simp [results, Try.results73, go_sem, urr_0, urr_1, urr_2, urr_3]
/-- a^(2^n), of an n above 0. -/
theorem squared_fun (x : Nm) (n : Nat) (hn : n ≤ 256) (h0 : 0 < n) (ox : x.ok) (w : World) :
    Calls Try.prog 73 #[N x, .int .i64 (n : Int)] w fun e w' => e = .returned (N (nm (F.pow x.nat (2 ^ n)))) ∧ Below w.heap.size w w' := by
  have h := squared_walk x n hn (fun i => if i = 0 then x else nm (F.pow x.nat (2 ^ i))) rfl (fun i hi => ?_) w
  · simp only [if_neg (show ¬ n = 0 by omega)] at h
    exact h
  · simp only [if_neg (show ¬ i + 1 = 0 by omega)]
    have e : ∀ y : Nm, y.nat % F.p = F.pow x.nat (2 ^ i) → y.ok → ∀ w, Calls Try.prog 34 #[N y, N y] w fun e w' => e = .returned (N (nm (F.pow x.nat (2 ^ (i + 1))))) ∧ Below w.heap.size w w' := fun y hy oy w => by
      have := fMulC y y oy oy w
      rw [← F.mul_modl, ← F.mul_modr, hy, ← F.pow_add, show 2 ^ i + 2 ^ i = 2 ^ (i + 1) by rw [Nat.pow_succ]; omega] at this
      exact this
    by_cases hi0 : i = 0
    · subst hi0
      simp only [if_pos rfl]
      exact e x (by rw [Nat.pow_zero, F.pow_one]) ox
    · simp only [if_neg hi0]
      exact e _ (by rw [f_nat (F.pow_lt _ _), Nat.mod_eq_of_lt (F.pow_lt _ _)]) (nm_ok _)
/-- What ones answers. -/
def onesV (x : Nm) (n : Nat) : Nm := if n ≤ 1 then x else nm (F.pow x.nat (2 ^ n - 1))
set_option maxHeartbeats 1000000 in
theorem ones_one (x : Nm) (w : World) : Calls Try.prog 74 #[N x, .int .i64 1] w fun e w' => e = .returned (N x) ∧ Below w.heap.size w w' := by
  go_enter Try.func74, Try.ntmps74
  have s0 : Hid (Kn (kal4 (kal4 w (x)) (x)) [(w.heap.size + 1, (c4 (x))), (w.heap.size, (c4 (x)))]) := (((Kn.nil w).al (c4 (x)) 28 rfl).al (c4 (x)) 28 (by simp))
  have b0 : Hid (Below w.heap.size w (kal4 (kal4 w (x)) (x))) := (((Below.refl _ _).alloc (Nat.le_refl _) _).alloc (by simp <;> omega) _)
  go_wp2_with fail
  have urr_0 : (kal4 (kal4 w (x)) (x)).cell? ⟨w.heap.size + 1, 0, none⟩ = some (.int .u64 (x).a) := Kn.get s0.out 0 0 rfl rfl
  have urr_1 : (kal4 (kal4 w (x)) (x)).cell? ⟨w.heap.size + 1, 1, none⟩ = some (.int .u64 (x).b) := Kn.get s0.out 0 1 rfl rfl
  have urr_2 : (kal4 (kal4 w (x)) (x)).cell? ⟨w.heap.size + 1, 2, none⟩ = some (.int .u64 (x).c) := Kn.get s0.out 0 2 rfl rfl
  have urr_3 : (kal4 (kal4 w (x)) (x)).cell? ⟨w.heap.size + 1, 3, none⟩ = some (.int .u64 (x).d) := Kn.get s0.out 0 3 rfl rfl
  refine bodyPost_ret (v := N x) ?_ rfl ⟨rfl, b0.out⟩
  show (results Try.f74 _).run Try.prog (kal4 (kal4 w (x)) (x)) = .ok _ (kal4 (kal4 w (x)) (x))
  clear s0 b0
  generalize (kal4 (kal4 w (x)) (x)) = W9 at *
  simp [results, Try.results74, go_sem, urr_0, urr_1, urr_2, urr_3]
set_option maxHeartbeats 1000000 in
theorem ones_3 (x h q m d v : Nm)
    (S1 : ∀ w, Calls Try.prog 74 #[N x, .int .i64 1] w fun e w' => e = .returned (N h) ∧ Below w.heap.size w w')
    (S2 : ∀ w, Calls Try.prog 73 #[N h, .int .i64 1] w fun e w' => e = .returned (N q) ∧ Below w.heap.size w w')
    (S3 : ∀ w, Calls Try.prog 34 #[N q, N h] w fun e w' => e = .returned (N m) ∧ Below w.heap.size w w')
    (S4 : ∀ w, Calls Try.prog 34 #[N m, N m] w fun e w' => e = .returned (N d) ∧ Below w.heap.size w w')
    (S5 : ∀ w, Calls Try.prog 34 #[N d, N x] w fun e w' => e = .returned (N v) ∧ Below w.heap.size w w')
    (w : World) :
    Calls Try.prog 74 #[N x, .int .i64 3] w fun e w' => e = .returned (N v) ∧ Below w.heap.size w w' := by
  go_enter Try.func74, Try.ntmps74
  have s0 : Hid (Kn (kz4 (kal4 w (x))) [(w.heap.size + 1, zz4), (w.heap.size, (c4 (x)))]) := (((Kn.nil w).al (c4 (x)) 28 rfl).al zz4 28 (by simp))
  have b0 : Hid (Below w.heap.size w (kz4 (kal4 w (x)))) := (((Below.refl _ _).alloc (Nat.le_refl _) _).alloc (by simp <;> omega) _)
  go_wp2_with fail
  refine (S1 _).mono ?_
  rintro e w1 ⟨rfl, hb1⟩
  have s1 : Hid (Kn w1 [(w.heap.size + 1, zz4), (w.heap.size, (c4 (x)))]) := s0.out.up hb1
  have b1 : Hid (Below w.heap.size w w1) := b0.out.trans (hb1.mono b0.out.size)
  have z1 := b1.out.size
  clear hb1 s0 b0
  have s2 : Hid (Kn (kal4 w1 (h)) [(w1.heap.size, (c4 (h))), (w.heap.size + 1, zz4), (w.heap.size, (c4 (x)))]) := s1.out.al (c4 (h)) 28 rfl
  have b2 : Hid (Below w.heap.size w (kal4 w1 (h))) := b1.out.alloc b1.out.size _
  have z2 := b1.out.size
  clear s1 b1
  go_wp2_with fail
  refine wp_region_alloc1 6 (.cells #[.int .u64 0, .int .u64 0, .int .u64 0, .int .u64 0] 28) (by kernel_rfl) (by kernel_rfl) (by kernel_rfl) (by kernel_rfl) (by decide) (fun _ _ d _ _ h => by cases d <;> exact h) rfl rfl (fun _ _ => by kernel_rfl) ?_
  apply Exists.intro
  refine ⟨fun U hU f hf hcl => ?_, fun k3 w3 hb3 hk3 hc3 => ?_⟩
  · skip
    have uhalf_0 := fun nx => (Kn.get (s2.out.up (hf nx).out) 0 0 rfl rfl : (f nx).cell? ⟨w1.heap.size, 0, none⟩ = some (.int .u64 (h).a))
    have uhalf_1 := fun nx => (Kn.get (s2.out.up (hf nx).out) 0 1 rfl rfl : (f nx).cell? ⟨w1.heap.size, 1, none⟩ = some (.int .u64 (h).b))
    have uhalf_2 := fun nx => (Kn.get (s2.out.up (hf nx).out) 0 2 rfl rfl : (f nx).cell? ⟨w1.heap.size, 2, none⟩ = some (.int .u64 (h).c))
    have uhalf_3 := fun nx => (Kn.get (s2.out.up (hf nx).out) 0 3 rfl rfl : (f nx).cell? ⟨w1.heap.size, 3, none⟩ = some (.int .u64 (h).d))
    clear hf
    simp only [List.take_succ_cons, List.take_zero]
    repeat (go_big_quiet_step (first | (go_at_call 73; exact (S2 _).mono fun e w'' ⟨he, hb⟩ => ⟨he, hcl.out _ _ hb⟩) | (go_at_call 34; exact (S3 _).mono fun e w'' ⟨he, hb⟩ => ⟨he, hcl.out _ _ hb⟩)))
    exact wpQuiet_nil rfl
  simp only [List.drop_succ_cons, List.drop_zero]
  have z3 := b2.out.size
  have s3x : Hid (Kn w3 [(k3, zz4), (w1.heap.size, (c4 (h))), (w.heap.size + 1, zz4), (w.heap.size, (c4 (x)))]) := s2.out.fresh hb3.out hk3 hc3.out
  have g3 : w.heap.size ≤ k3 := Nat.le_trans b2.out.size hk3
  have cz3_0 : w3.cell? ⟨k3, 0, none⟩ = some (.int .u64 0) := Kn.get s3x.out 0 0 rfl rfl
  have cz3_1 : w3.cell? ⟨k3, 1, none⟩ = some (.int .u64 0) := Kn.get s3x.out 0 1 rfl rfl
  have cz3_2 : w3.cell? ⟨k3, 2, none⟩ = some (.int .u64 0) := Kn.get s3x.out 0 2 rfl rfl
  have cz3_3 : w3.cell? ⟨k3, 3, none⟩ = some (.int .u64 0) := Kn.get s3x.out 0 3 rfl rfl
  have cz3 : ∀ j, w3.frozen? ⟨k3, j, none⟩ = false := Kn.fz s3x.out 0 rfl
  have s3 : Hid (Kn (st4 w3 k3 (m)) [(k3, (c4 (m))), (w1.heap.size, (c4 (h))), (w.heap.size + 1, zz4), (w.heap.size, (c4 (x)))]) := s3x.out.st4 (m)
  have b3 : Hid (Below w.heap.size w (st4 w3 k3 (m))) := below_st4 (b2.out.trans (hb3.out.mono b2.out.size)) g3
  clear s3x s2 b2 hb3 hc3 hk3
  go_wp2_with fail
  clear cz3_0 cz3_1 cz3_2 cz3_3 cz3
  refine wp_region_up_then 5 (by kernel_rfl) (by kernel_rfl) (by kernel_rfl) (by kernel_rfl) (by decide) (fun _ _ d _ _ h => by cases d <;> exact h) (fun U hU f hf hcl => ?_)
  have upower_0 := fun nx => (Kn.get (s3.out.up (hf nx).out) 0 0 rfl rfl : (f nx).cell? ⟨k3, 0, none⟩ = some (.int .u64 (m).a))
  have upower_1 := fun nx => (Kn.get (s3.out.up (hf nx).out) 0 1 rfl rfl : (f nx).cell? ⟨k3, 1, none⟩ = some (.int .u64 (m).b))
  have upower_2 := fun nx => (Kn.get (s3.out.up (hf nx).out) 0 2 rfl rfl : (f nx).cell? ⟨k3, 2, none⟩ = some (.int .u64 (m).c))
  have upower_3 := fun nx => (Kn.get (s3.out.up (hf nx).out) 0 3 rfl rfl : (f nx).cell? ⟨k3, 3, none⟩ = some (.int .u64 (m).d))
  have ua_0 := fun nx => (Kn.get (s3.out.up (hf nx).out) 3 0 rfl rfl : (f nx).cell? ⟨w.heap.size, 0, none⟩ = some (.int .u64 (x).a))
  have ua_1 := fun nx => (Kn.get (s3.out.up (hf nx).out) 3 1 rfl rfl : (f nx).cell? ⟨w.heap.size, 1, none⟩ = some (.int .u64 (x).b))
  have ua_2 := fun nx => (Kn.get (s3.out.up (hf nx).out) 3 2 rfl rfl : (f nx).cell? ⟨w.heap.size, 2, none⟩ = some (.int .u64 (x).c))
  have ua_3 := fun nx => (Kn.get (s3.out.up (hf nx).out) 3 3 rfl rfl : (f nx).cell? ⟨w.heap.size, 3, none⟩ = some (.int .u64 (x).d))
  simp only [List.take_succ_cons, List.take_zero, List.drop_succ_cons, List.drop_zero]
  repeat (go_big_quiet_step (first | (go_at_call_of 34 [Value.agg #[Value.int IntKind.u64 m.a, Value.int IntKind.u64 m.b, Value.int IntKind.u64 m.c, Value.int IntKind.u64 m.d], Value.agg #[Value.int IntKind.u64 m.a, Value.int IntKind.u64 m.b, Value.int IntKind.u64 m.c, Value.int IntKind.u64 m.d]]; exact (S4 _).mono fun e w'' ⟨he, hb⟩ => ⟨he, hcl.out _ _ hb⟩) | (go_at_call_of 34 [N d, Value.agg #[Value.int IntKind.u64 x.a, Value.int IntKind.u64 x.b, Value.int IntKind.u64 x.c, Value.int IntKind.u64 x.d]]; exact (S5 _).mono fun e w'' ⟨he, hb⟩ => ⟨he, hcl.out _ _ hb⟩)))
  refine wpQuiet_nil ?_
  intro nx
  have hb4 := (hf nx).out
  clear hf hcl upower_0 upower_1 upower_2 upower_3 ua_0 ua_1 ua_2 ua_3
  generalize f nx = w4 at hb4 ⊢
  have s4 : Hid (Kn w4 [(k3, (c4 (m))), (w1.heap.size, (c4 (h))), (w.heap.size + 1, zz4), (w.heap.size, (c4 (x)))]) := s3.out.up hb4
  have b4 : Hid (Below w.heap.size w w4) := b3.out.trans (hb4.mono b3.out.size)
  have z4 := b4.out.size
  clear hb4 s3 b3
  have upowero_0 : w4.cell? ⟨k3, 0, none⟩ = some (.int .u64 (m).a) := Kn.get s4.out 0 0 rfl rfl
  have upowero_1 : w4.cell? ⟨k3, 1, none⟩ = some (.int .u64 (m).b) := Kn.get s4.out 0 1 rfl rfl
  have upowero_2 : w4.cell? ⟨k3, 2, none⟩ = some (.int .u64 (m).c) := Kn.get s4.out 0 2 rfl rfl
  have upowero_3 : w4.cell? ⟨k3, 3, none⟩ = some (.int .u64 (m).d) := Kn.get s4.out 0 3 rfl rfl
  have upowero_z : ∀ j, w4.frozen? ⟨k3, j, none⟩ = false := Kn.fz s4.out 0 rfl
  have s5 : Hid (Kn (st4 w4 k3 (v)) [(k3, (c4 (v))), (w1.heap.size, (c4 (h))), (w.heap.size + 1, zz4), (w.heap.size, (c4 (x)))]) := Kn.st4 (L := [(w1.heap.size, (c4 (h))), (w.heap.size + 1, zz4), (w.heap.size, (c4 (x)))]) (s4.out.front 0 rfl) (v)
  have b5 : Hid (Below w.heap.size w (st4 w4 k3 (v))) := below_st4 b4.out g3
  clear s4 b4
  have upower_0 : (st4 w4 k3 (v)).cell? ⟨k3, 0, none⟩ = some (.int .u64 (v).a) := Kn.get s5.out 0 0 rfl rfl
  have upower_1 : (st4 w4 k3 (v)).cell? ⟨k3, 1, none⟩ = some (.int .u64 (v).b) := Kn.get s5.out 0 1 rfl rfl
  have upower_2 : (st4 w4 k3 (v)).cell? ⟨k3, 2, none⟩ = some (.int .u64 (v).c) := Kn.get s5.out 0 2 rfl rfl
  have upower_3 : (st4 w4 k3 (v)).cell? ⟨k3, 3, none⟩ = some (.int .u64 (v).d) := Kn.get s5.out 0 3 rfl rfl
  have uro_0 : (st4 w4 k3 (v)).cell? ⟨w.heap.size + 1, 0, none⟩ = some (.int .u64 0) := Kn.get s5.out 2 0 rfl rfl
  have uro_1 : (st4 w4 k3 (v)).cell? ⟨w.heap.size + 1, 1, none⟩ = some (.int .u64 0) := Kn.get s5.out 2 1 rfl rfl
  have uro_2 : (st4 w4 k3 (v)).cell? ⟨w.heap.size + 1, 2, none⟩ = some (.int .u64 0) := Kn.get s5.out 2 2 rfl rfl
  have uro_3 : (st4 w4 k3 (v)).cell? ⟨w.heap.size + 1, 3, none⟩ = some (.int .u64 0) := Kn.get s5.out 2 3 rfl rfl
  have uro_z : ∀ j, (st4 w4 k3 (v)).frozen? ⟨w.heap.size + 1, j, none⟩ = false := Kn.fz s5.out 2 rfl
  have s6 : Hid (Kn (st4 (st4 w4 k3 (v)) (w.heap.size + 1) (v)) [(w.heap.size + 1, (c4 (v))), (k3, (c4 (v))), (w1.heap.size, (c4 (h))), (w.heap.size, (c4 (x)))]) := Kn.st4 (L := [(k3, (c4 (v))), (w1.heap.size, (c4 (h))), (w.heap.size, (c4 (x)))]) (s5.out.front 2 rfl) (v)
  have b6 : Hid (Below w.heap.size w (st4 (st4 w4 k3 (v)) (w.heap.size + 1) (v))) := below_st4 b5.out (by omega)
  clear s5 b5
  go_wp2_with fail
  clear upowero_0 upowero_1 upowero_2 upowero_3 upowero_z upower_0 upower_1 upower_2 upower_3 uro_0 uro_1 uro_2 uro_3 uro_z
  have urr_0 : (st4 (st4 w4 k3 (v)) (w.heap.size + 1) (v)).cell? ⟨w.heap.size + 1, 0, none⟩ = some (.int .u64 (v).a) := Kn.get s6.out 0 0 rfl rfl
  have urr_1 : (st4 (st4 w4 k3 (v)) (w.heap.size + 1) (v)).cell? ⟨w.heap.size + 1, 1, none⟩ = some (.int .u64 (v).b) := Kn.get s6.out 0 1 rfl rfl
  have urr_2 : (st4 (st4 w4 k3 (v)) (w.heap.size + 1) (v)).cell? ⟨w.heap.size + 1, 2, none⟩ = some (.int .u64 (v).c) := Kn.get s6.out 0 2 rfl rfl
  have urr_3 : (st4 (st4 w4 k3 (v)) (w.heap.size + 1) (v)).cell? ⟨w.heap.size + 1, 3, none⟩ = some (.int .u64 (v).d) := Kn.get s6.out 0 3 rfl rfl
  refine bodyPost_ret (v := N v) ?_ rfl ⟨rfl, b6.out⟩
  show (results Try.f74 _).run Try.prog (st4 (st4 w4 k3 (v)) (w.heap.size + 1) (v)) = .ok _ (st4 (st4 w4 k3 (v)) (w.heap.size + 1) (v))
  clear s6 b6
  generalize (st4 (st4 w4 k3 (v)) (w.heap.size + 1) (v)) = W9 at *
  simp [results, Try.results74, go_sem, urr_0, urr_1, urr_2, urr_3]
set_option maxHeartbeats 1000000 in
theorem ones_7 (x h q m d v : Nm)
    (S1 : ∀ w, Calls Try.prog 74 #[N x, .int .i64 3] w fun e w' => e = .returned (N h) ∧ Below w.heap.size w w')
    (S2 : ∀ w, Calls Try.prog 73 #[N h, .int .i64 3] w fun e w' => e = .returned (N q) ∧ Below w.heap.size w w')
    (S3 : ∀ w, Calls Try.prog 34 #[N q, N h] w fun e w' => e = .returned (N m) ∧ Below w.heap.size w w')
    (S4 : ∀ w, Calls Try.prog 34 #[N m, N m] w fun e w' => e = .returned (N d) ∧ Below w.heap.size w w')
    (S5 : ∀ w, Calls Try.prog 34 #[N d, N x] w fun e w' => e = .returned (N v) ∧ Below w.heap.size w w')
    (w : World) :
    Calls Try.prog 74 #[N x, .int .i64 7] w fun e w' => e = .returned (N v) ∧ Below w.heap.size w w' := by
  go_enter Try.func74, Try.ntmps74
  have s0 : Hid (Kn (kz4 (kal4 w (x))) [(w.heap.size + 1, zz4), (w.heap.size, (c4 (x)))]) := (((Kn.nil w).al (c4 (x)) 28 rfl).al zz4 28 (by simp))
  have b0 : Hid (Below w.heap.size w (kz4 (kal4 w (x)))) := (((Below.refl _ _).alloc (Nat.le_refl _) _).alloc (by simp <;> omega) _)
  go_wp2_with fail
  refine (S1 _).mono ?_
  rintro e w1 ⟨rfl, hb1⟩
  have s1 : Hid (Kn w1 [(w.heap.size + 1, zz4), (w.heap.size, (c4 (x)))]) := s0.out.up hb1
  have b1 : Hid (Below w.heap.size w w1) := b0.out.trans (hb1.mono b0.out.size)
  have z1 := b1.out.size
  clear hb1 s0 b0
  have s2 : Hid (Kn (kal4 w1 (h)) [(w1.heap.size, (c4 (h))), (w.heap.size + 1, zz4), (w.heap.size, (c4 (x)))]) := s1.out.al (c4 (h)) 28 rfl
  have b2 : Hid (Below w.heap.size w (kal4 w1 (h))) := b1.out.alloc b1.out.size _
  have z2 := b1.out.size
  clear s1 b1
  go_wp2_with fail
  refine wp_region_alloc1 6 (.cells #[.int .u64 0, .int .u64 0, .int .u64 0, .int .u64 0] 28) (by kernel_rfl) (by kernel_rfl) (by kernel_rfl) (by kernel_rfl) (by decide) (fun _ _ d _ _ h => by cases d <;> exact h) rfl rfl (fun _ _ => by kernel_rfl) ?_
  apply Exists.intro
  refine ⟨fun U hU f hf hcl => ?_, fun k3 w3 hb3 hk3 hc3 => ?_⟩
  · skip
    have uhalf_0 := fun nx => (Kn.get (s2.out.up (hf nx).out) 0 0 rfl rfl : (f nx).cell? ⟨w1.heap.size, 0, none⟩ = some (.int .u64 (h).a))
    have uhalf_1 := fun nx => (Kn.get (s2.out.up (hf nx).out) 0 1 rfl rfl : (f nx).cell? ⟨w1.heap.size, 1, none⟩ = some (.int .u64 (h).b))
    have uhalf_2 := fun nx => (Kn.get (s2.out.up (hf nx).out) 0 2 rfl rfl : (f nx).cell? ⟨w1.heap.size, 2, none⟩ = some (.int .u64 (h).c))
    have uhalf_3 := fun nx => (Kn.get (s2.out.up (hf nx).out) 0 3 rfl rfl : (f nx).cell? ⟨w1.heap.size, 3, none⟩ = some (.int .u64 (h).d))
    clear hf
    simp only [List.take_succ_cons, List.take_zero]
    repeat (go_big_quiet_step (first | (go_at_call 73; exact (S2 _).mono fun e w'' ⟨he, hb⟩ => ⟨he, hcl.out _ _ hb⟩) | (go_at_call 34; exact (S3 _).mono fun e w'' ⟨he, hb⟩ => ⟨he, hcl.out _ _ hb⟩)))
    exact wpQuiet_nil rfl
  simp only [List.drop_succ_cons, List.drop_zero]
  have z3 := b2.out.size
  have s3x : Hid (Kn w3 [(k3, zz4), (w1.heap.size, (c4 (h))), (w.heap.size + 1, zz4), (w.heap.size, (c4 (x)))]) := s2.out.fresh hb3.out hk3 hc3.out
  have g3 : w.heap.size ≤ k3 := Nat.le_trans b2.out.size hk3
  have cz3_0 : w3.cell? ⟨k3, 0, none⟩ = some (.int .u64 0) := Kn.get s3x.out 0 0 rfl rfl
  have cz3_1 : w3.cell? ⟨k3, 1, none⟩ = some (.int .u64 0) := Kn.get s3x.out 0 1 rfl rfl
  have cz3_2 : w3.cell? ⟨k3, 2, none⟩ = some (.int .u64 0) := Kn.get s3x.out 0 2 rfl rfl
  have cz3_3 : w3.cell? ⟨k3, 3, none⟩ = some (.int .u64 0) := Kn.get s3x.out 0 3 rfl rfl
  have cz3 : ∀ j, w3.frozen? ⟨k3, j, none⟩ = false := Kn.fz s3x.out 0 rfl
  have s3 : Hid (Kn (st4 w3 k3 (m)) [(k3, (c4 (m))), (w1.heap.size, (c4 (h))), (w.heap.size + 1, zz4), (w.heap.size, (c4 (x)))]) := s3x.out.st4 (m)
  have b3 : Hid (Below w.heap.size w (st4 w3 k3 (m))) := below_st4 (b2.out.trans (hb3.out.mono b2.out.size)) g3
  clear s3x s2 b2 hb3 hc3 hk3
  go_wp2_with fail
  clear cz3_0 cz3_1 cz3_2 cz3_3 cz3
  refine wp_region_up_then 5 (by kernel_rfl) (by kernel_rfl) (by kernel_rfl) (by kernel_rfl) (by decide) (fun _ _ d _ _ h => by cases d <;> exact h) (fun U hU f hf hcl => ?_)
  have upower_0 := fun nx => (Kn.get (s3.out.up (hf nx).out) 0 0 rfl rfl : (f nx).cell? ⟨k3, 0, none⟩ = some (.int .u64 (m).a))
  have upower_1 := fun nx => (Kn.get (s3.out.up (hf nx).out) 0 1 rfl rfl : (f nx).cell? ⟨k3, 1, none⟩ = some (.int .u64 (m).b))
  have upower_2 := fun nx => (Kn.get (s3.out.up (hf nx).out) 0 2 rfl rfl : (f nx).cell? ⟨k3, 2, none⟩ = some (.int .u64 (m).c))
  have upower_3 := fun nx => (Kn.get (s3.out.up (hf nx).out) 0 3 rfl rfl : (f nx).cell? ⟨k3, 3, none⟩ = some (.int .u64 (m).d))
  have ua_0 := fun nx => (Kn.get (s3.out.up (hf nx).out) 3 0 rfl rfl : (f nx).cell? ⟨w.heap.size, 0, none⟩ = some (.int .u64 (x).a))
  have ua_1 := fun nx => (Kn.get (s3.out.up (hf nx).out) 3 1 rfl rfl : (f nx).cell? ⟨w.heap.size, 1, none⟩ = some (.int .u64 (x).b))
  have ua_2 := fun nx => (Kn.get (s3.out.up (hf nx).out) 3 2 rfl rfl : (f nx).cell? ⟨w.heap.size, 2, none⟩ = some (.int .u64 (x).c))
  have ua_3 := fun nx => (Kn.get (s3.out.up (hf nx).out) 3 3 rfl rfl : (f nx).cell? ⟨w.heap.size, 3, none⟩ = some (.int .u64 (x).d))
  simp only [List.take_succ_cons, List.take_zero, List.drop_succ_cons, List.drop_zero]
  repeat (go_big_quiet_step (first | (go_at_call_of 34 [Value.agg #[Value.int IntKind.u64 m.a, Value.int IntKind.u64 m.b, Value.int IntKind.u64 m.c, Value.int IntKind.u64 m.d], Value.agg #[Value.int IntKind.u64 m.a, Value.int IntKind.u64 m.b, Value.int IntKind.u64 m.c, Value.int IntKind.u64 m.d]]; exact (S4 _).mono fun e w'' ⟨he, hb⟩ => ⟨he, hcl.out _ _ hb⟩) | (go_at_call_of 34 [N d, Value.agg #[Value.int IntKind.u64 x.a, Value.int IntKind.u64 x.b, Value.int IntKind.u64 x.c, Value.int IntKind.u64 x.d]]; exact (S5 _).mono fun e w'' ⟨he, hb⟩ => ⟨he, hcl.out _ _ hb⟩)))
  refine wpQuiet_nil ?_
  intro nx
  have hb4 := (hf nx).out
  clear hf hcl upower_0 upower_1 upower_2 upower_3 ua_0 ua_1 ua_2 ua_3
  generalize f nx = w4 at hb4 ⊢
  have s4 : Hid (Kn w4 [(k3, (c4 (m))), (w1.heap.size, (c4 (h))), (w.heap.size + 1, zz4), (w.heap.size, (c4 (x)))]) := s3.out.up hb4
  have b4 : Hid (Below w.heap.size w w4) := b3.out.trans (hb4.mono b3.out.size)
  have z4 := b4.out.size
  clear hb4 s3 b3
  have upowero_0 : w4.cell? ⟨k3, 0, none⟩ = some (.int .u64 (m).a) := Kn.get s4.out 0 0 rfl rfl
  have upowero_1 : w4.cell? ⟨k3, 1, none⟩ = some (.int .u64 (m).b) := Kn.get s4.out 0 1 rfl rfl
  have upowero_2 : w4.cell? ⟨k3, 2, none⟩ = some (.int .u64 (m).c) := Kn.get s4.out 0 2 rfl rfl
  have upowero_3 : w4.cell? ⟨k3, 3, none⟩ = some (.int .u64 (m).d) := Kn.get s4.out 0 3 rfl rfl
  have upowero_z : ∀ j, w4.frozen? ⟨k3, j, none⟩ = false := Kn.fz s4.out 0 rfl
  have s5 : Hid (Kn (st4 w4 k3 (v)) [(k3, (c4 (v))), (w1.heap.size, (c4 (h))), (w.heap.size + 1, zz4), (w.heap.size, (c4 (x)))]) := Kn.st4 (L := [(w1.heap.size, (c4 (h))), (w.heap.size + 1, zz4), (w.heap.size, (c4 (x)))]) (s4.out.front 0 rfl) (v)
  have b5 : Hid (Below w.heap.size w (st4 w4 k3 (v))) := below_st4 b4.out g3
  clear s4 b4
  have upower_0 : (st4 w4 k3 (v)).cell? ⟨k3, 0, none⟩ = some (.int .u64 (v).a) := Kn.get s5.out 0 0 rfl rfl
  have upower_1 : (st4 w4 k3 (v)).cell? ⟨k3, 1, none⟩ = some (.int .u64 (v).b) := Kn.get s5.out 0 1 rfl rfl
  have upower_2 : (st4 w4 k3 (v)).cell? ⟨k3, 2, none⟩ = some (.int .u64 (v).c) := Kn.get s5.out 0 2 rfl rfl
  have upower_3 : (st4 w4 k3 (v)).cell? ⟨k3, 3, none⟩ = some (.int .u64 (v).d) := Kn.get s5.out 0 3 rfl rfl
  have uro_0 : (st4 w4 k3 (v)).cell? ⟨w.heap.size + 1, 0, none⟩ = some (.int .u64 0) := Kn.get s5.out 2 0 rfl rfl
  have uro_1 : (st4 w4 k3 (v)).cell? ⟨w.heap.size + 1, 1, none⟩ = some (.int .u64 0) := Kn.get s5.out 2 1 rfl rfl
  have uro_2 : (st4 w4 k3 (v)).cell? ⟨w.heap.size + 1, 2, none⟩ = some (.int .u64 0) := Kn.get s5.out 2 2 rfl rfl
  have uro_3 : (st4 w4 k3 (v)).cell? ⟨w.heap.size + 1, 3, none⟩ = some (.int .u64 0) := Kn.get s5.out 2 3 rfl rfl
  have uro_z : ∀ j, (st4 w4 k3 (v)).frozen? ⟨w.heap.size + 1, j, none⟩ = false := Kn.fz s5.out 2 rfl
  have s6 : Hid (Kn (st4 (st4 w4 k3 (v)) (w.heap.size + 1) (v)) [(w.heap.size + 1, (c4 (v))), (k3, (c4 (v))), (w1.heap.size, (c4 (h))), (w.heap.size, (c4 (x)))]) := Kn.st4 (L := [(k3, (c4 (v))), (w1.heap.size, (c4 (h))), (w.heap.size, (c4 (x)))]) (s5.out.front 2 rfl) (v)
  have b6 : Hid (Below w.heap.size w (st4 (st4 w4 k3 (v)) (w.heap.size + 1) (v))) := below_st4 b5.out (by omega)
  clear s5 b5
  go_wp2_with fail
  clear upowero_0 upowero_1 upowero_2 upowero_3 upowero_z upower_0 upower_1 upower_2 upower_3 uro_0 uro_1 uro_2 uro_3 uro_z
  have urr_0 : (st4 (st4 w4 k3 (v)) (w.heap.size + 1) (v)).cell? ⟨w.heap.size + 1, 0, none⟩ = some (.int .u64 (v).a) := Kn.get s6.out 0 0 rfl rfl
  have urr_1 : (st4 (st4 w4 k3 (v)) (w.heap.size + 1) (v)).cell? ⟨w.heap.size + 1, 1, none⟩ = some (.int .u64 (v).b) := Kn.get s6.out 0 1 rfl rfl
  have urr_2 : (st4 (st4 w4 k3 (v)) (w.heap.size + 1) (v)).cell? ⟨w.heap.size + 1, 2, none⟩ = some (.int .u64 (v).c) := Kn.get s6.out 0 2 rfl rfl
  have urr_3 : (st4 (st4 w4 k3 (v)) (w.heap.size + 1) (v)).cell? ⟨w.heap.size + 1, 3, none⟩ = some (.int .u64 (v).d) := Kn.get s6.out 0 3 rfl rfl
  refine bodyPost_ret (v := N v) ?_ rfl ⟨rfl, b6.out⟩
  show (results Try.f74 _).run Try.prog (st4 (st4 w4 k3 (v)) (w.heap.size + 1) (v)) = .ok _ (st4 (st4 w4 k3 (v)) (w.heap.size + 1) (v))
  clear s6 b6
  generalize (st4 (st4 w4 k3 (v)) (w.heap.size + 1) (v)) = W9 at *
  simp [results, Try.results74, go_sem, urr_0, urr_1, urr_2, urr_3]
set_option maxHeartbeats 1000000 in
theorem ones_15 (x h q m d v : Nm)
    (S1 : ∀ w, Calls Try.prog 74 #[N x, .int .i64 7] w fun e w' => e = .returned (N h) ∧ Below w.heap.size w w')
    (S2 : ∀ w, Calls Try.prog 73 #[N h, .int .i64 7] w fun e w' => e = .returned (N q) ∧ Below w.heap.size w w')
    (S3 : ∀ w, Calls Try.prog 34 #[N q, N h] w fun e w' => e = .returned (N m) ∧ Below w.heap.size w w')
    (S4 : ∀ w, Calls Try.prog 34 #[N m, N m] w fun e w' => e = .returned (N d) ∧ Below w.heap.size w w')
    (S5 : ∀ w, Calls Try.prog 34 #[N d, N x] w fun e w' => e = .returned (N v) ∧ Below w.heap.size w w')
    (w : World) :
    Calls Try.prog 74 #[N x, .int .i64 15] w fun e w' => e = .returned (N v) ∧ Below w.heap.size w w' := by
  go_enter Try.func74, Try.ntmps74
  have s0 : Hid (Kn (kz4 (kal4 w (x))) [(w.heap.size + 1, zz4), (w.heap.size, (c4 (x)))]) := (((Kn.nil w).al (c4 (x)) 28 rfl).al zz4 28 (by simp))
  have b0 : Hid (Below w.heap.size w (kz4 (kal4 w (x)))) := (((Below.refl _ _).alloc (Nat.le_refl _) _).alloc (by simp <;> omega) _)
  go_wp2_with fail
  refine (S1 _).mono ?_
  rintro e w1 ⟨rfl, hb1⟩
  have s1 : Hid (Kn w1 [(w.heap.size + 1, zz4), (w.heap.size, (c4 (x)))]) := s0.out.up hb1
  have b1 : Hid (Below w.heap.size w w1) := b0.out.trans (hb1.mono b0.out.size)
  have z1 := b1.out.size
  clear hb1 s0 b0
  have s2 : Hid (Kn (kal4 w1 (h)) [(w1.heap.size, (c4 (h))), (w.heap.size + 1, zz4), (w.heap.size, (c4 (x)))]) := s1.out.al (c4 (h)) 28 rfl
  have b2 : Hid (Below w.heap.size w (kal4 w1 (h))) := b1.out.alloc b1.out.size _
  have z2 := b1.out.size
  clear s1 b1
  go_wp2_with fail
  refine wp_region_alloc1 6 (.cells #[.int .u64 0, .int .u64 0, .int .u64 0, .int .u64 0] 28) (by kernel_rfl) (by kernel_rfl) (by kernel_rfl) (by kernel_rfl) (by decide) (fun _ _ d _ _ h => by cases d <;> exact h) rfl rfl (fun _ _ => by kernel_rfl) ?_
  apply Exists.intro
  refine ⟨fun U hU f hf hcl => ?_, fun k3 w3 hb3 hk3 hc3 => ?_⟩
  · skip
    have uhalf_0 := fun nx => (Kn.get (s2.out.up (hf nx).out) 0 0 rfl rfl : (f nx).cell? ⟨w1.heap.size, 0, none⟩ = some (.int .u64 (h).a))
    have uhalf_1 := fun nx => (Kn.get (s2.out.up (hf nx).out) 0 1 rfl rfl : (f nx).cell? ⟨w1.heap.size, 1, none⟩ = some (.int .u64 (h).b))
    have uhalf_2 := fun nx => (Kn.get (s2.out.up (hf nx).out) 0 2 rfl rfl : (f nx).cell? ⟨w1.heap.size, 2, none⟩ = some (.int .u64 (h).c))
    have uhalf_3 := fun nx => (Kn.get (s2.out.up (hf nx).out) 0 3 rfl rfl : (f nx).cell? ⟨w1.heap.size, 3, none⟩ = some (.int .u64 (h).d))
    clear hf
    simp only [List.take_succ_cons, List.take_zero]
    repeat (go_big_quiet_step (first | (go_at_call 73; exact (S2 _).mono fun e w'' ⟨he, hb⟩ => ⟨he, hcl.out _ _ hb⟩) | (go_at_call 34; exact (S3 _).mono fun e w'' ⟨he, hb⟩ => ⟨he, hcl.out _ _ hb⟩)))
    exact wpQuiet_nil rfl
  simp only [List.drop_succ_cons, List.drop_zero]
  have z3 := b2.out.size
  have s3x : Hid (Kn w3 [(k3, zz4), (w1.heap.size, (c4 (h))), (w.heap.size + 1, zz4), (w.heap.size, (c4 (x)))]) := s2.out.fresh hb3.out hk3 hc3.out
  have g3 : w.heap.size ≤ k3 := Nat.le_trans b2.out.size hk3
  have cz3_0 : w3.cell? ⟨k3, 0, none⟩ = some (.int .u64 0) := Kn.get s3x.out 0 0 rfl rfl
  have cz3_1 : w3.cell? ⟨k3, 1, none⟩ = some (.int .u64 0) := Kn.get s3x.out 0 1 rfl rfl
  have cz3_2 : w3.cell? ⟨k3, 2, none⟩ = some (.int .u64 0) := Kn.get s3x.out 0 2 rfl rfl
  have cz3_3 : w3.cell? ⟨k3, 3, none⟩ = some (.int .u64 0) := Kn.get s3x.out 0 3 rfl rfl
  have cz3 : ∀ j, w3.frozen? ⟨k3, j, none⟩ = false := Kn.fz s3x.out 0 rfl
  have s3 : Hid (Kn (st4 w3 k3 (m)) [(k3, (c4 (m))), (w1.heap.size, (c4 (h))), (w.heap.size + 1, zz4), (w.heap.size, (c4 (x)))]) := s3x.out.st4 (m)
  have b3 : Hid (Below w.heap.size w (st4 w3 k3 (m))) := below_st4 (b2.out.trans (hb3.out.mono b2.out.size)) g3
  clear s3x s2 b2 hb3 hc3 hk3
  go_wp2_with fail
  clear cz3_0 cz3_1 cz3_2 cz3_3 cz3
  refine wp_region_up_then 5 (by kernel_rfl) (by kernel_rfl) (by kernel_rfl) (by kernel_rfl) (by decide) (fun _ _ d _ _ h => by cases d <;> exact h) (fun U hU f hf hcl => ?_)
  have upower_0 := fun nx => (Kn.get (s3.out.up (hf nx).out) 0 0 rfl rfl : (f nx).cell? ⟨k3, 0, none⟩ = some (.int .u64 (m).a))
  have upower_1 := fun nx => (Kn.get (s3.out.up (hf nx).out) 0 1 rfl rfl : (f nx).cell? ⟨k3, 1, none⟩ = some (.int .u64 (m).b))
  have upower_2 := fun nx => (Kn.get (s3.out.up (hf nx).out) 0 2 rfl rfl : (f nx).cell? ⟨k3, 2, none⟩ = some (.int .u64 (m).c))
  have upower_3 := fun nx => (Kn.get (s3.out.up (hf nx).out) 0 3 rfl rfl : (f nx).cell? ⟨k3, 3, none⟩ = some (.int .u64 (m).d))
  have ua_0 := fun nx => (Kn.get (s3.out.up (hf nx).out) 3 0 rfl rfl : (f nx).cell? ⟨w.heap.size, 0, none⟩ = some (.int .u64 (x).a))
  have ua_1 := fun nx => (Kn.get (s3.out.up (hf nx).out) 3 1 rfl rfl : (f nx).cell? ⟨w.heap.size, 1, none⟩ = some (.int .u64 (x).b))
  have ua_2 := fun nx => (Kn.get (s3.out.up (hf nx).out) 3 2 rfl rfl : (f nx).cell? ⟨w.heap.size, 2, none⟩ = some (.int .u64 (x).c))
  have ua_3 := fun nx => (Kn.get (s3.out.up (hf nx).out) 3 3 rfl rfl : (f nx).cell? ⟨w.heap.size, 3, none⟩ = some (.int .u64 (x).d))
  simp only [List.take_succ_cons, List.take_zero, List.drop_succ_cons, List.drop_zero]
  repeat (go_big_quiet_step (first | (go_at_call_of 34 [Value.agg #[Value.int IntKind.u64 m.a, Value.int IntKind.u64 m.b, Value.int IntKind.u64 m.c, Value.int IntKind.u64 m.d], Value.agg #[Value.int IntKind.u64 m.a, Value.int IntKind.u64 m.b, Value.int IntKind.u64 m.c, Value.int IntKind.u64 m.d]]; exact (S4 _).mono fun e w'' ⟨he, hb⟩ => ⟨he, hcl.out _ _ hb⟩) | (go_at_call_of 34 [N d, Value.agg #[Value.int IntKind.u64 x.a, Value.int IntKind.u64 x.b, Value.int IntKind.u64 x.c, Value.int IntKind.u64 x.d]]; exact (S5 _).mono fun e w'' ⟨he, hb⟩ => ⟨he, hcl.out _ _ hb⟩)))
  refine wpQuiet_nil ?_
  intro nx
  have hb4 := (hf nx).out
  clear hf hcl upower_0 upower_1 upower_2 upower_3 ua_0 ua_1 ua_2 ua_3
  generalize f nx = w4 at hb4 ⊢
  have s4 : Hid (Kn w4 [(k3, (c4 (m))), (w1.heap.size, (c4 (h))), (w.heap.size + 1, zz4), (w.heap.size, (c4 (x)))]) := s3.out.up hb4
  have b4 : Hid (Below w.heap.size w w4) := b3.out.trans (hb4.mono b3.out.size)
  have z4 := b4.out.size
  clear hb4 s3 b3
  have upowero_0 : w4.cell? ⟨k3, 0, none⟩ = some (.int .u64 (m).a) := Kn.get s4.out 0 0 rfl rfl
  have upowero_1 : w4.cell? ⟨k3, 1, none⟩ = some (.int .u64 (m).b) := Kn.get s4.out 0 1 rfl rfl
  have upowero_2 : w4.cell? ⟨k3, 2, none⟩ = some (.int .u64 (m).c) := Kn.get s4.out 0 2 rfl rfl
  have upowero_3 : w4.cell? ⟨k3, 3, none⟩ = some (.int .u64 (m).d) := Kn.get s4.out 0 3 rfl rfl
  have upowero_z : ∀ j, w4.frozen? ⟨k3, j, none⟩ = false := Kn.fz s4.out 0 rfl
  have s5 : Hid (Kn (st4 w4 k3 (v)) [(k3, (c4 (v))), (w1.heap.size, (c4 (h))), (w.heap.size + 1, zz4), (w.heap.size, (c4 (x)))]) := Kn.st4 (L := [(w1.heap.size, (c4 (h))), (w.heap.size + 1, zz4), (w.heap.size, (c4 (x)))]) (s4.out.front 0 rfl) (v)
  have b5 : Hid (Below w.heap.size w (st4 w4 k3 (v))) := below_st4 b4.out g3
  clear s4 b4
  have upower_0 : (st4 w4 k3 (v)).cell? ⟨k3, 0, none⟩ = some (.int .u64 (v).a) := Kn.get s5.out 0 0 rfl rfl
  have upower_1 : (st4 w4 k3 (v)).cell? ⟨k3, 1, none⟩ = some (.int .u64 (v).b) := Kn.get s5.out 0 1 rfl rfl
  have upower_2 : (st4 w4 k3 (v)).cell? ⟨k3, 2, none⟩ = some (.int .u64 (v).c) := Kn.get s5.out 0 2 rfl rfl
  have upower_3 : (st4 w4 k3 (v)).cell? ⟨k3, 3, none⟩ = some (.int .u64 (v).d) := Kn.get s5.out 0 3 rfl rfl
  have uro_0 : (st4 w4 k3 (v)).cell? ⟨w.heap.size + 1, 0, none⟩ = some (.int .u64 0) := Kn.get s5.out 2 0 rfl rfl
  have uro_1 : (st4 w4 k3 (v)).cell? ⟨w.heap.size + 1, 1, none⟩ = some (.int .u64 0) := Kn.get s5.out 2 1 rfl rfl
  have uro_2 : (st4 w4 k3 (v)).cell? ⟨w.heap.size + 1, 2, none⟩ = some (.int .u64 0) := Kn.get s5.out 2 2 rfl rfl
  have uro_3 : (st4 w4 k3 (v)).cell? ⟨w.heap.size + 1, 3, none⟩ = some (.int .u64 0) := Kn.get s5.out 2 3 rfl rfl
  have uro_z : ∀ j, (st4 w4 k3 (v)).frozen? ⟨w.heap.size + 1, j, none⟩ = false := Kn.fz s5.out 2 rfl
  have s6 : Hid (Kn (st4 (st4 w4 k3 (v)) (w.heap.size + 1) (v)) [(w.heap.size + 1, (c4 (v))), (k3, (c4 (v))), (w1.heap.size, (c4 (h))), (w.heap.size, (c4 (x)))]) := Kn.st4 (L := [(k3, (c4 (v))), (w1.heap.size, (c4 (h))), (w.heap.size, (c4 (x)))]) (s5.out.front 2 rfl) (v)
  have b6 : Hid (Below w.heap.size w (st4 (st4 w4 k3 (v)) (w.heap.size + 1) (v))) := below_st4 b5.out (by omega)
  clear s5 b5
  go_wp2_with fail
  clear upowero_0 upowero_1 upowero_2 upowero_3 upowero_z upower_0 upower_1 upower_2 upower_3 uro_0 uro_1 uro_2 uro_3 uro_z
  have urr_0 : (st4 (st4 w4 k3 (v)) (w.heap.size + 1) (v)).cell? ⟨w.heap.size + 1, 0, none⟩ = some (.int .u64 (v).a) := Kn.get s6.out 0 0 rfl rfl
  have urr_1 : (st4 (st4 w4 k3 (v)) (w.heap.size + 1) (v)).cell? ⟨w.heap.size + 1, 1, none⟩ = some (.int .u64 (v).b) := Kn.get s6.out 0 1 rfl rfl
  have urr_2 : (st4 (st4 w4 k3 (v)) (w.heap.size + 1) (v)).cell? ⟨w.heap.size + 1, 2, none⟩ = some (.int .u64 (v).c) := Kn.get s6.out 0 2 rfl rfl
  have urr_3 : (st4 (st4 w4 k3 (v)) (w.heap.size + 1) (v)).cell? ⟨w.heap.size + 1, 3, none⟩ = some (.int .u64 (v).d) := Kn.get s6.out 0 3 rfl rfl
  refine bodyPost_ret (v := N v) ?_ rfl ⟨rfl, b6.out⟩
  show (results Try.f74 _).run Try.prog (st4 (st4 w4 k3 (v)) (w.heap.size + 1) (v)) = .ok _ (st4 (st4 w4 k3 (v)) (w.heap.size + 1) (v))
  clear s6 b6
  generalize (st4 (st4 w4 k3 (v)) (w.heap.size + 1) (v)) = W9 at *
  simp [results, Try.results74, go_sem, urr_0, urr_1, urr_2, urr_3]
set_option maxHeartbeats 1000000 in
theorem ones_31 (x h q m d v : Nm)
    (S1 : ∀ w, Calls Try.prog 74 #[N x, .int .i64 15] w fun e w' => e = .returned (N h) ∧ Below w.heap.size w w')
    (S2 : ∀ w, Calls Try.prog 73 #[N h, .int .i64 15] w fun e w' => e = .returned (N q) ∧ Below w.heap.size w w')
    (S3 : ∀ w, Calls Try.prog 34 #[N q, N h] w fun e w' => e = .returned (N m) ∧ Below w.heap.size w w')
    (S4 : ∀ w, Calls Try.prog 34 #[N m, N m] w fun e w' => e = .returned (N d) ∧ Below w.heap.size w w')
    (S5 : ∀ w, Calls Try.prog 34 #[N d, N x] w fun e w' => e = .returned (N v) ∧ Below w.heap.size w w')
    (w : World) :
    Calls Try.prog 74 #[N x, .int .i64 31] w fun e w' => e = .returned (N v) ∧ Below w.heap.size w w' := by
  go_enter Try.func74, Try.ntmps74
  have s0 : Hid (Kn (kz4 (kal4 w (x))) [(w.heap.size + 1, zz4), (w.heap.size, (c4 (x)))]) := (((Kn.nil w).al (c4 (x)) 28 rfl).al zz4 28 (by simp))
  have b0 : Hid (Below w.heap.size w (kz4 (kal4 w (x)))) := (((Below.refl _ _).alloc (Nat.le_refl _) _).alloc (by simp <;> omega) _)
  go_wp2_with fail
  refine (S1 _).mono ?_
  rintro e w1 ⟨rfl, hb1⟩
  have s1 : Hid (Kn w1 [(w.heap.size + 1, zz4), (w.heap.size, (c4 (x)))]) := s0.out.up hb1
  have b1 : Hid (Below w.heap.size w w1) := b0.out.trans (hb1.mono b0.out.size)
  have z1 := b1.out.size
  clear hb1 s0 b0
  have s2 : Hid (Kn (kal4 w1 (h)) [(w1.heap.size, (c4 (h))), (w.heap.size + 1, zz4), (w.heap.size, (c4 (x)))]) := s1.out.al (c4 (h)) 28 rfl
  have b2 : Hid (Below w.heap.size w (kal4 w1 (h))) := b1.out.alloc b1.out.size _
  have z2 := b1.out.size
  clear s1 b1
  go_wp2_with fail
  refine wp_region_alloc1 6 (.cells #[.int .u64 0, .int .u64 0, .int .u64 0, .int .u64 0] 28) (by kernel_rfl) (by kernel_rfl) (by kernel_rfl) (by kernel_rfl) (by decide) (fun _ _ d _ _ h => by cases d <;> exact h) rfl rfl (fun _ _ => by kernel_rfl) ?_
  apply Exists.intro
  refine ⟨fun U hU f hf hcl => ?_, fun k3 w3 hb3 hk3 hc3 => ?_⟩
  · skip
    have uhalf_0 := fun nx => (Kn.get (s2.out.up (hf nx).out) 0 0 rfl rfl : (f nx).cell? ⟨w1.heap.size, 0, none⟩ = some (.int .u64 (h).a))
    have uhalf_1 := fun nx => (Kn.get (s2.out.up (hf nx).out) 0 1 rfl rfl : (f nx).cell? ⟨w1.heap.size, 1, none⟩ = some (.int .u64 (h).b))
    have uhalf_2 := fun nx => (Kn.get (s2.out.up (hf nx).out) 0 2 rfl rfl : (f nx).cell? ⟨w1.heap.size, 2, none⟩ = some (.int .u64 (h).c))
    have uhalf_3 := fun nx => (Kn.get (s2.out.up (hf nx).out) 0 3 rfl rfl : (f nx).cell? ⟨w1.heap.size, 3, none⟩ = some (.int .u64 (h).d))
    clear hf
    simp only [List.take_succ_cons, List.take_zero]
    repeat (go_big_quiet_step (first | (go_at_call 73; exact (S2 _).mono fun e w'' ⟨he, hb⟩ => ⟨he, hcl.out _ _ hb⟩) | (go_at_call 34; exact (S3 _).mono fun e w'' ⟨he, hb⟩ => ⟨he, hcl.out _ _ hb⟩)))
    exact wpQuiet_nil rfl
  simp only [List.drop_succ_cons, List.drop_zero]
  have z3 := b2.out.size
  have s3x : Hid (Kn w3 [(k3, zz4), (w1.heap.size, (c4 (h))), (w.heap.size + 1, zz4), (w.heap.size, (c4 (x)))]) := s2.out.fresh hb3.out hk3 hc3.out
  have g3 : w.heap.size ≤ k3 := Nat.le_trans b2.out.size hk3
  have cz3_0 : w3.cell? ⟨k3, 0, none⟩ = some (.int .u64 0) := Kn.get s3x.out 0 0 rfl rfl
  have cz3_1 : w3.cell? ⟨k3, 1, none⟩ = some (.int .u64 0) := Kn.get s3x.out 0 1 rfl rfl
  have cz3_2 : w3.cell? ⟨k3, 2, none⟩ = some (.int .u64 0) := Kn.get s3x.out 0 2 rfl rfl
  have cz3_3 : w3.cell? ⟨k3, 3, none⟩ = some (.int .u64 0) := Kn.get s3x.out 0 3 rfl rfl
  have cz3 : ∀ j, w3.frozen? ⟨k3, j, none⟩ = false := Kn.fz s3x.out 0 rfl
  have s3 : Hid (Kn (st4 w3 k3 (m)) [(k3, (c4 (m))), (w1.heap.size, (c4 (h))), (w.heap.size + 1, zz4), (w.heap.size, (c4 (x)))]) := s3x.out.st4 (m)
  have b3 : Hid (Below w.heap.size w (st4 w3 k3 (m))) := below_st4 (b2.out.trans (hb3.out.mono b2.out.size)) g3
  clear s3x s2 b2 hb3 hc3 hk3
  go_wp2_with fail
  clear cz3_0 cz3_1 cz3_2 cz3_3 cz3
  refine wp_region_up_then 5 (by kernel_rfl) (by kernel_rfl) (by kernel_rfl) (by kernel_rfl) (by decide) (fun _ _ d _ _ h => by cases d <;> exact h) (fun U hU f hf hcl => ?_)
  have upower_0 := fun nx => (Kn.get (s3.out.up (hf nx).out) 0 0 rfl rfl : (f nx).cell? ⟨k3, 0, none⟩ = some (.int .u64 (m).a))
  have upower_1 := fun nx => (Kn.get (s3.out.up (hf nx).out) 0 1 rfl rfl : (f nx).cell? ⟨k3, 1, none⟩ = some (.int .u64 (m).b))
  have upower_2 := fun nx => (Kn.get (s3.out.up (hf nx).out) 0 2 rfl rfl : (f nx).cell? ⟨k3, 2, none⟩ = some (.int .u64 (m).c))
  have upower_3 := fun nx => (Kn.get (s3.out.up (hf nx).out) 0 3 rfl rfl : (f nx).cell? ⟨k3, 3, none⟩ = some (.int .u64 (m).d))
  have ua_0 := fun nx => (Kn.get (s3.out.up (hf nx).out) 3 0 rfl rfl : (f nx).cell? ⟨w.heap.size, 0, none⟩ = some (.int .u64 (x).a))
  have ua_1 := fun nx => (Kn.get (s3.out.up (hf nx).out) 3 1 rfl rfl : (f nx).cell? ⟨w.heap.size, 1, none⟩ = some (.int .u64 (x).b))
  have ua_2 := fun nx => (Kn.get (s3.out.up (hf nx).out) 3 2 rfl rfl : (f nx).cell? ⟨w.heap.size, 2, none⟩ = some (.int .u64 (x).c))
  have ua_3 := fun nx => (Kn.get (s3.out.up (hf nx).out) 3 3 rfl rfl : (f nx).cell? ⟨w.heap.size, 3, none⟩ = some (.int .u64 (x).d))
  simp only [List.take_succ_cons, List.take_zero, List.drop_succ_cons, List.drop_zero]
  repeat (go_big_quiet_step (first | (go_at_call_of 34 [Value.agg #[Value.int IntKind.u64 m.a, Value.int IntKind.u64 m.b, Value.int IntKind.u64 m.c, Value.int IntKind.u64 m.d], Value.agg #[Value.int IntKind.u64 m.a, Value.int IntKind.u64 m.b, Value.int IntKind.u64 m.c, Value.int IntKind.u64 m.d]]; exact (S4 _).mono fun e w'' ⟨he, hb⟩ => ⟨he, hcl.out _ _ hb⟩) | (go_at_call_of 34 [N d, Value.agg #[Value.int IntKind.u64 x.a, Value.int IntKind.u64 x.b, Value.int IntKind.u64 x.c, Value.int IntKind.u64 x.d]]; exact (S5 _).mono fun e w'' ⟨he, hb⟩ => ⟨he, hcl.out _ _ hb⟩)))
  refine wpQuiet_nil ?_
  intro nx
  have hb4 := (hf nx).out
  clear hf hcl upower_0 upower_1 upower_2 upower_3 ua_0 ua_1 ua_2 ua_3
  generalize f nx = w4 at hb4 ⊢
  have s4 : Hid (Kn w4 [(k3, (c4 (m))), (w1.heap.size, (c4 (h))), (w.heap.size + 1, zz4), (w.heap.size, (c4 (x)))]) := s3.out.up hb4
  have b4 : Hid (Below w.heap.size w w4) := b3.out.trans (hb4.mono b3.out.size)
  have z4 := b4.out.size
  clear hb4 s3 b3
  have upowero_0 : w4.cell? ⟨k3, 0, none⟩ = some (.int .u64 (m).a) := Kn.get s4.out 0 0 rfl rfl
  have upowero_1 : w4.cell? ⟨k3, 1, none⟩ = some (.int .u64 (m).b) := Kn.get s4.out 0 1 rfl rfl
  have upowero_2 : w4.cell? ⟨k3, 2, none⟩ = some (.int .u64 (m).c) := Kn.get s4.out 0 2 rfl rfl
  have upowero_3 : w4.cell? ⟨k3, 3, none⟩ = some (.int .u64 (m).d) := Kn.get s4.out 0 3 rfl rfl
  have upowero_z : ∀ j, w4.frozen? ⟨k3, j, none⟩ = false := Kn.fz s4.out 0 rfl
  have s5 : Hid (Kn (st4 w4 k3 (v)) [(k3, (c4 (v))), (w1.heap.size, (c4 (h))), (w.heap.size + 1, zz4), (w.heap.size, (c4 (x)))]) := Kn.st4 (L := [(w1.heap.size, (c4 (h))), (w.heap.size + 1, zz4), (w.heap.size, (c4 (x)))]) (s4.out.front 0 rfl) (v)
  have b5 : Hid (Below w.heap.size w (st4 w4 k3 (v))) := below_st4 b4.out g3
  clear s4 b4
  have upower_0 : (st4 w4 k3 (v)).cell? ⟨k3, 0, none⟩ = some (.int .u64 (v).a) := Kn.get s5.out 0 0 rfl rfl
  have upower_1 : (st4 w4 k3 (v)).cell? ⟨k3, 1, none⟩ = some (.int .u64 (v).b) := Kn.get s5.out 0 1 rfl rfl
  have upower_2 : (st4 w4 k3 (v)).cell? ⟨k3, 2, none⟩ = some (.int .u64 (v).c) := Kn.get s5.out 0 2 rfl rfl
  have upower_3 : (st4 w4 k3 (v)).cell? ⟨k3, 3, none⟩ = some (.int .u64 (v).d) := Kn.get s5.out 0 3 rfl rfl
  have uro_0 : (st4 w4 k3 (v)).cell? ⟨w.heap.size + 1, 0, none⟩ = some (.int .u64 0) := Kn.get s5.out 2 0 rfl rfl
  have uro_1 : (st4 w4 k3 (v)).cell? ⟨w.heap.size + 1, 1, none⟩ = some (.int .u64 0) := Kn.get s5.out 2 1 rfl rfl
  have uro_2 : (st4 w4 k3 (v)).cell? ⟨w.heap.size + 1, 2, none⟩ = some (.int .u64 0) := Kn.get s5.out 2 2 rfl rfl
  have uro_3 : (st4 w4 k3 (v)).cell? ⟨w.heap.size + 1, 3, none⟩ = some (.int .u64 0) := Kn.get s5.out 2 3 rfl rfl
  have uro_z : ∀ j, (st4 w4 k3 (v)).frozen? ⟨w.heap.size + 1, j, none⟩ = false := Kn.fz s5.out 2 rfl
  have s6 : Hid (Kn (st4 (st4 w4 k3 (v)) (w.heap.size + 1) (v)) [(w.heap.size + 1, (c4 (v))), (k3, (c4 (v))), (w1.heap.size, (c4 (h))), (w.heap.size, (c4 (x)))]) := Kn.st4 (L := [(k3, (c4 (v))), (w1.heap.size, (c4 (h))), (w.heap.size, (c4 (x)))]) (s5.out.front 2 rfl) (v)
  have b6 : Hid (Below w.heap.size w (st4 (st4 w4 k3 (v)) (w.heap.size + 1) (v))) := below_st4 b5.out (by omega)
  clear s5 b5
  go_wp2_with fail
  clear upowero_0 upowero_1 upowero_2 upowero_3 upowero_z upower_0 upower_1 upower_2 upower_3 uro_0 uro_1 uro_2 uro_3 uro_z
  have urr_0 : (st4 (st4 w4 k3 (v)) (w.heap.size + 1) (v)).cell? ⟨w.heap.size + 1, 0, none⟩ = some (.int .u64 (v).a) := Kn.get s6.out 0 0 rfl rfl
  have urr_1 : (st4 (st4 w4 k3 (v)) (w.heap.size + 1) (v)).cell? ⟨w.heap.size + 1, 1, none⟩ = some (.int .u64 (v).b) := Kn.get s6.out 0 1 rfl rfl
  have urr_2 : (st4 (st4 w4 k3 (v)) (w.heap.size + 1) (v)).cell? ⟨w.heap.size + 1, 2, none⟩ = some (.int .u64 (v).c) := Kn.get s6.out 0 2 rfl rfl
  have urr_3 : (st4 (st4 w4 k3 (v)) (w.heap.size + 1) (v)).cell? ⟨w.heap.size + 1, 3, none⟩ = some (.int .u64 (v).d) := Kn.get s6.out 0 3 rfl rfl
  refine bodyPost_ret (v := N v) ?_ rfl ⟨rfl, b6.out⟩
  show (results Try.f74 _).run Try.prog (st4 (st4 w4 k3 (v)) (w.heap.size + 1) (v)) = .ok _ (st4 (st4 w4 k3 (v)) (w.heap.size + 1) (v))
  clear s6 b6
  generalize (st4 (st4 w4 k3 (v)) (w.heap.size + 1) (v)) = W9 at *
  simp [results, Try.results74, go_sem, urr_0, urr_1, urr_2, urr_3]
set_option maxHeartbeats 1000000 in
theorem ones_62 (x h q m : Nm)
    (S1 : ∀ w, Calls Try.prog 74 #[N x, .int .i64 31] w fun e w' => e = .returned (N h) ∧ Below w.heap.size w w')
    (S2 : ∀ w, Calls Try.prog 73 #[N h, .int .i64 31] w fun e w' => e = .returned (N q) ∧ Below w.heap.size w w')
    (S3 : ∀ w, Calls Try.prog 34 #[N q, N h] w fun e w' => e = .returned (N m) ∧ Below w.heap.size w w')
    (w : World) :
    Calls Try.prog 74 #[N x, .int .i64 62] w fun e w' => e = .returned (N m) ∧ Below w.heap.size w w' := by
  go_enter Try.func74, Try.ntmps74
  have s0 : Hid (Kn (kz4 (kal4 w (x))) [(w.heap.size + 1, zz4), (w.heap.size, (c4 (x)))]) := (((Kn.nil w).al (c4 (x)) 28 rfl).al zz4 28 (by simp))
  have b0 : Hid (Below w.heap.size w (kz4 (kal4 w (x)))) := (((Below.refl _ _).alloc (Nat.le_refl _) _).alloc (by simp <;> omega) _)
  go_wp2_with fail
  refine (S1 _).mono ?_
  rintro e w1 ⟨rfl, hb1⟩
  have s1 : Hid (Kn w1 [(w.heap.size + 1, zz4), (w.heap.size, (c4 (x)))]) := s0.out.up hb1
  have b1 : Hid (Below w.heap.size w w1) := b0.out.trans (hb1.mono b0.out.size)
  have z1 := b1.out.size
  clear hb1 s0 b0
  have s2 : Hid (Kn (kal4 w1 (h)) [(w1.heap.size, (c4 (h))), (w.heap.size + 1, zz4), (w.heap.size, (c4 (x)))]) := s1.out.al (c4 (h)) 28 rfl
  have b2 : Hid (Below w.heap.size w (kal4 w1 (h))) := b1.out.alloc b1.out.size _
  have z2 := b1.out.size
  clear s1 b1
  go_wp2_with fail
  refine wp_region_alloc1 6 (.cells #[.int .u64 0, .int .u64 0, .int .u64 0, .int .u64 0] 28) (by kernel_rfl) (by kernel_rfl) (by kernel_rfl) (by kernel_rfl) (by decide) (fun _ _ d _ _ h => by cases d <;> exact h) rfl rfl (fun _ _ => by kernel_rfl) ?_
  apply Exists.intro
  refine ⟨fun U hU f hf hcl => ?_, fun k3 w3 hb3 hk3 hc3 => ?_⟩
  · skip
    have uhalf_0 := fun nx => (Kn.get (s2.out.up (hf nx).out) 0 0 rfl rfl : (f nx).cell? ⟨w1.heap.size, 0, none⟩ = some (.int .u64 (h).a))
    have uhalf_1 := fun nx => (Kn.get (s2.out.up (hf nx).out) 0 1 rfl rfl : (f nx).cell? ⟨w1.heap.size, 1, none⟩ = some (.int .u64 (h).b))
    have uhalf_2 := fun nx => (Kn.get (s2.out.up (hf nx).out) 0 2 rfl rfl : (f nx).cell? ⟨w1.heap.size, 2, none⟩ = some (.int .u64 (h).c))
    have uhalf_3 := fun nx => (Kn.get (s2.out.up (hf nx).out) 0 3 rfl rfl : (f nx).cell? ⟨w1.heap.size, 3, none⟩ = some (.int .u64 (h).d))
    clear hf
    simp only [List.take_succ_cons, List.take_zero]
    repeat (go_big_quiet_step (first | (go_at_call 73; exact (S2 _).mono fun e w'' ⟨he, hb⟩ => ⟨he, hcl.out _ _ hb⟩) | (go_at_call 34; exact (S3 _).mono fun e w'' ⟨he, hb⟩ => ⟨he, hcl.out _ _ hb⟩)))
    exact wpQuiet_nil rfl
  simp only [List.drop_succ_cons, List.drop_zero]
  have z3 := b2.out.size
  have s3x : Hid (Kn w3 [(k3, zz4), (w1.heap.size, (c4 (h))), (w.heap.size + 1, zz4), (w.heap.size, (c4 (x)))]) := s2.out.fresh hb3.out hk3 hc3.out
  have g3 : w.heap.size ≤ k3 := Nat.le_trans b2.out.size hk3
  have cz3_0 : w3.cell? ⟨k3, 0, none⟩ = some (.int .u64 0) := Kn.get s3x.out 0 0 rfl rfl
  have cz3_1 : w3.cell? ⟨k3, 1, none⟩ = some (.int .u64 0) := Kn.get s3x.out 0 1 rfl rfl
  have cz3_2 : w3.cell? ⟨k3, 2, none⟩ = some (.int .u64 0) := Kn.get s3x.out 0 2 rfl rfl
  have cz3_3 : w3.cell? ⟨k3, 3, none⟩ = some (.int .u64 0) := Kn.get s3x.out 0 3 rfl rfl
  have cz3 : ∀ j, w3.frozen? ⟨k3, j, none⟩ = false := Kn.fz s3x.out 0 rfl
  have s3 : Hid (Kn (st4 w3 k3 (m)) [(k3, (c4 (m))), (w1.heap.size, (c4 (h))), (w.heap.size + 1, zz4), (w.heap.size, (c4 (x)))]) := s3x.out.st4 (m)
  have b3 : Hid (Below w.heap.size w (st4 w3 k3 (m))) := below_st4 (b2.out.trans (hb3.out.mono b2.out.size)) g3
  clear s3x s2 b2 hb3 hc3 hk3
  have upower_0 : (st4 w3 k3 (m)).cell? ⟨k3, 0, none⟩ = some (.int .u64 (m).a) := Kn.get s3.out 0 0 rfl rfl
  have upower_1 : (st4 w3 k3 (m)).cell? ⟨k3, 1, none⟩ = some (.int .u64 (m).b) := Kn.get s3.out 0 1 rfl rfl
  have upower_2 : (st4 w3 k3 (m)).cell? ⟨k3, 2, none⟩ = some (.int .u64 (m).c) := Kn.get s3.out 0 2 rfl rfl
  have upower_3 : (st4 w3 k3 (m)).cell? ⟨k3, 3, none⟩ = some (.int .u64 (m).d) := Kn.get s3.out 0 3 rfl rfl
  have uro_0 : (st4 w3 k3 (m)).cell? ⟨w.heap.size + 1, 0, none⟩ = some (.int .u64 0) := Kn.get s3.out 2 0 rfl rfl
  have uro_1 : (st4 w3 k3 (m)).cell? ⟨w.heap.size + 1, 1, none⟩ = some (.int .u64 0) := Kn.get s3.out 2 1 rfl rfl
  have uro_2 : (st4 w3 k3 (m)).cell? ⟨w.heap.size + 1, 2, none⟩ = some (.int .u64 0) := Kn.get s3.out 2 2 rfl rfl
  have uro_3 : (st4 w3 k3 (m)).cell? ⟨w.heap.size + 1, 3, none⟩ = some (.int .u64 0) := Kn.get s3.out 2 3 rfl rfl
  have uro_z : ∀ j, (st4 w3 k3 (m)).frozen? ⟨w.heap.size + 1, j, none⟩ = false := Kn.fz s3.out 2 rfl
  have s4 : Hid (Kn (st4 (st4 w3 k3 (m)) (w.heap.size + 1) (m)) [(w.heap.size + 1, (c4 (m))), (k3, (c4 (m))), (w1.heap.size, (c4 (h))), (w.heap.size, (c4 (x)))]) := Kn.st4 (L := [(k3, (c4 (m))), (w1.heap.size, (c4 (h))), (w.heap.size, (c4 (x)))]) (s3.out.front 2 rfl) (m)
  have b4 : Hid (Below w.heap.size w (st4 (st4 w3 k3 (m)) (w.heap.size + 1) (m))) := below_st4 b3.out (by omega)
  clear s3 b3
  go_wp2_with fail
  clear cz3_0 cz3_1 cz3_2 cz3_3 cz3 upower_0 upower_1 upower_2 upower_3 uro_0 uro_1 uro_2 uro_3 uro_z
  have urr_0 : (st4 (st4 w3 k3 (m)) (w.heap.size + 1) (m)).cell? ⟨w.heap.size + 1, 0, none⟩ = some (.int .u64 (m).a) := Kn.get s4.out 0 0 rfl rfl
  have urr_1 : (st4 (st4 w3 k3 (m)) (w.heap.size + 1) (m)).cell? ⟨w.heap.size + 1, 1, none⟩ = some (.int .u64 (m).b) := Kn.get s4.out 0 1 rfl rfl
  have urr_2 : (st4 (st4 w3 k3 (m)) (w.heap.size + 1) (m)).cell? ⟨w.heap.size + 1, 2, none⟩ = some (.int .u64 (m).c) := Kn.get s4.out 0 2 rfl rfl
  have urr_3 : (st4 (st4 w3 k3 (m)) (w.heap.size + 1) (m)).cell? ⟨w.heap.size + 1, 3, none⟩ = some (.int .u64 (m).d) := Kn.get s4.out 0 3 rfl rfl
  refine bodyPost_ret (v := N m) ?_ rfl ⟨rfl, b4.out⟩
  show (results Try.f74 _).run Try.prog (st4 (st4 w3 k3 (m)) (w.heap.size + 1) (m)) = .ok _ (st4 (st4 w3 k3 (m)) (w.heap.size + 1) (m))
  clear s4 b4
  generalize (st4 (st4 w3 k3 (m)) (w.heap.size + 1) (m)) = W9 at *
  simp [results, Try.results74, go_sem, urr_0, urr_1, urr_2, urr_3]
set_option maxHeartbeats 1000000 in
theorem ones_125 (x h q m d v : Nm)
    (S1 : ∀ w, Calls Try.prog 74 #[N x, .int .i64 62] w fun e w' => e = .returned (N h) ∧ Below w.heap.size w w')
    (S2 : ∀ w, Calls Try.prog 73 #[N h, .int .i64 62] w fun e w' => e = .returned (N q) ∧ Below w.heap.size w w')
    (S3 : ∀ w, Calls Try.prog 34 #[N q, N h] w fun e w' => e = .returned (N m) ∧ Below w.heap.size w w')
    (S4 : ∀ w, Calls Try.prog 34 #[N m, N m] w fun e w' => e = .returned (N d) ∧ Below w.heap.size w w')
    (S5 : ∀ w, Calls Try.prog 34 #[N d, N x] w fun e w' => e = .returned (N v) ∧ Below w.heap.size w w')
    (w : World) :
    Calls Try.prog 74 #[N x, .int .i64 125] w fun e w' => e = .returned (N v) ∧ Below w.heap.size w w' := by
  go_enter Try.func74, Try.ntmps74
  have s0 : Hid (Kn (kz4 (kal4 w (x))) [(w.heap.size + 1, zz4), (w.heap.size, (c4 (x)))]) := (((Kn.nil w).al (c4 (x)) 28 rfl).al zz4 28 (by simp))
  have b0 : Hid (Below w.heap.size w (kz4 (kal4 w (x)))) := (((Below.refl _ _).alloc (Nat.le_refl _) _).alloc (by simp <;> omega) _)
  go_wp2_with fail
  refine (S1 _).mono ?_
  rintro e w1 ⟨rfl, hb1⟩
  have s1 : Hid (Kn w1 [(w.heap.size + 1, zz4), (w.heap.size, (c4 (x)))]) := s0.out.up hb1
  have b1 : Hid (Below w.heap.size w w1) := b0.out.trans (hb1.mono b0.out.size)
  have z1 := b1.out.size
  clear hb1 s0 b0
  have s2 : Hid (Kn (kal4 w1 (h)) [(w1.heap.size, (c4 (h))), (w.heap.size + 1, zz4), (w.heap.size, (c4 (x)))]) := s1.out.al (c4 (h)) 28 rfl
  have b2 : Hid (Below w.heap.size w (kal4 w1 (h))) := b1.out.alloc b1.out.size _
  have z2 := b1.out.size
  clear s1 b1
  go_wp2_with fail
  refine wp_region_alloc1 6 (.cells #[.int .u64 0, .int .u64 0, .int .u64 0, .int .u64 0] 28) (by kernel_rfl) (by kernel_rfl) (by kernel_rfl) (by kernel_rfl) (by decide) (fun _ _ d _ _ h => by cases d <;> exact h) rfl rfl (fun _ _ => by kernel_rfl) ?_
  apply Exists.intro
  refine ⟨fun U hU f hf hcl => ?_, fun k3 w3 hb3 hk3 hc3 => ?_⟩
  · skip
    have uhalf_0 := fun nx => (Kn.get (s2.out.up (hf nx).out) 0 0 rfl rfl : (f nx).cell? ⟨w1.heap.size, 0, none⟩ = some (.int .u64 (h).a))
    have uhalf_1 := fun nx => (Kn.get (s2.out.up (hf nx).out) 0 1 rfl rfl : (f nx).cell? ⟨w1.heap.size, 1, none⟩ = some (.int .u64 (h).b))
    have uhalf_2 := fun nx => (Kn.get (s2.out.up (hf nx).out) 0 2 rfl rfl : (f nx).cell? ⟨w1.heap.size, 2, none⟩ = some (.int .u64 (h).c))
    have uhalf_3 := fun nx => (Kn.get (s2.out.up (hf nx).out) 0 3 rfl rfl : (f nx).cell? ⟨w1.heap.size, 3, none⟩ = some (.int .u64 (h).d))
    clear hf
    simp only [List.take_succ_cons, List.take_zero]
    repeat (go_big_quiet_step (first | (go_at_call 73; exact (S2 _).mono fun e w'' ⟨he, hb⟩ => ⟨he, hcl.out _ _ hb⟩) | (go_at_call 34; exact (S3 _).mono fun e w'' ⟨he, hb⟩ => ⟨he, hcl.out _ _ hb⟩)))
    exact wpQuiet_nil rfl
  simp only [List.drop_succ_cons, List.drop_zero]
  have z3 := b2.out.size
  have s3x : Hid (Kn w3 [(k3, zz4), (w1.heap.size, (c4 (h))), (w.heap.size + 1, zz4), (w.heap.size, (c4 (x)))]) := s2.out.fresh hb3.out hk3 hc3.out
  have g3 : w.heap.size ≤ k3 := Nat.le_trans b2.out.size hk3
  have cz3_0 : w3.cell? ⟨k3, 0, none⟩ = some (.int .u64 0) := Kn.get s3x.out 0 0 rfl rfl
  have cz3_1 : w3.cell? ⟨k3, 1, none⟩ = some (.int .u64 0) := Kn.get s3x.out 0 1 rfl rfl
  have cz3_2 : w3.cell? ⟨k3, 2, none⟩ = some (.int .u64 0) := Kn.get s3x.out 0 2 rfl rfl
  have cz3_3 : w3.cell? ⟨k3, 3, none⟩ = some (.int .u64 0) := Kn.get s3x.out 0 3 rfl rfl
  have cz3 : ∀ j, w3.frozen? ⟨k3, j, none⟩ = false := Kn.fz s3x.out 0 rfl
  have s3 : Hid (Kn (st4 w3 k3 (m)) [(k3, (c4 (m))), (w1.heap.size, (c4 (h))), (w.heap.size + 1, zz4), (w.heap.size, (c4 (x)))]) := s3x.out.st4 (m)
  have b3 : Hid (Below w.heap.size w (st4 w3 k3 (m))) := below_st4 (b2.out.trans (hb3.out.mono b2.out.size)) g3
  clear s3x s2 b2 hb3 hc3 hk3
  go_wp2_with fail
  clear cz3_0 cz3_1 cz3_2 cz3_3 cz3
  refine wp_region_up_then 5 (by kernel_rfl) (by kernel_rfl) (by kernel_rfl) (by kernel_rfl) (by decide) (fun _ _ d _ _ h => by cases d <;> exact h) (fun U hU f hf hcl => ?_)
  have upower_0 := fun nx => (Kn.get (s3.out.up (hf nx).out) 0 0 rfl rfl : (f nx).cell? ⟨k3, 0, none⟩ = some (.int .u64 (m).a))
  have upower_1 := fun nx => (Kn.get (s3.out.up (hf nx).out) 0 1 rfl rfl : (f nx).cell? ⟨k3, 1, none⟩ = some (.int .u64 (m).b))
  have upower_2 := fun nx => (Kn.get (s3.out.up (hf nx).out) 0 2 rfl rfl : (f nx).cell? ⟨k3, 2, none⟩ = some (.int .u64 (m).c))
  have upower_3 := fun nx => (Kn.get (s3.out.up (hf nx).out) 0 3 rfl rfl : (f nx).cell? ⟨k3, 3, none⟩ = some (.int .u64 (m).d))
  have ua_0 := fun nx => (Kn.get (s3.out.up (hf nx).out) 3 0 rfl rfl : (f nx).cell? ⟨w.heap.size, 0, none⟩ = some (.int .u64 (x).a))
  have ua_1 := fun nx => (Kn.get (s3.out.up (hf nx).out) 3 1 rfl rfl : (f nx).cell? ⟨w.heap.size, 1, none⟩ = some (.int .u64 (x).b))
  have ua_2 := fun nx => (Kn.get (s3.out.up (hf nx).out) 3 2 rfl rfl : (f nx).cell? ⟨w.heap.size, 2, none⟩ = some (.int .u64 (x).c))
  have ua_3 := fun nx => (Kn.get (s3.out.up (hf nx).out) 3 3 rfl rfl : (f nx).cell? ⟨w.heap.size, 3, none⟩ = some (.int .u64 (x).d))
  simp only [List.take_succ_cons, List.take_zero, List.drop_succ_cons, List.drop_zero]
  repeat (go_big_quiet_step (first | (go_at_call_of 34 [Value.agg #[Value.int IntKind.u64 m.a, Value.int IntKind.u64 m.b, Value.int IntKind.u64 m.c, Value.int IntKind.u64 m.d], Value.agg #[Value.int IntKind.u64 m.a, Value.int IntKind.u64 m.b, Value.int IntKind.u64 m.c, Value.int IntKind.u64 m.d]]; exact (S4 _).mono fun e w'' ⟨he, hb⟩ => ⟨he, hcl.out _ _ hb⟩) | (go_at_call_of 34 [N d, Value.agg #[Value.int IntKind.u64 x.a, Value.int IntKind.u64 x.b, Value.int IntKind.u64 x.c, Value.int IntKind.u64 x.d]]; exact (S5 _).mono fun e w'' ⟨he, hb⟩ => ⟨he, hcl.out _ _ hb⟩)))
  refine wpQuiet_nil ?_
  intro nx
  have hb4 := (hf nx).out
  clear hf hcl upower_0 upower_1 upower_2 upower_3 ua_0 ua_1 ua_2 ua_3
  generalize f nx = w4 at hb4 ⊢
  have s4 : Hid (Kn w4 [(k3, (c4 (m))), (w1.heap.size, (c4 (h))), (w.heap.size + 1, zz4), (w.heap.size, (c4 (x)))]) := s3.out.up hb4
  have b4 : Hid (Below w.heap.size w w4) := b3.out.trans (hb4.mono b3.out.size)
  have z4 := b4.out.size
  clear hb4 s3 b3
  have upowero_0 : w4.cell? ⟨k3, 0, none⟩ = some (.int .u64 (m).a) := Kn.get s4.out 0 0 rfl rfl
  have upowero_1 : w4.cell? ⟨k3, 1, none⟩ = some (.int .u64 (m).b) := Kn.get s4.out 0 1 rfl rfl
  have upowero_2 : w4.cell? ⟨k3, 2, none⟩ = some (.int .u64 (m).c) := Kn.get s4.out 0 2 rfl rfl
  have upowero_3 : w4.cell? ⟨k3, 3, none⟩ = some (.int .u64 (m).d) := Kn.get s4.out 0 3 rfl rfl
  have upowero_z : ∀ j, w4.frozen? ⟨k3, j, none⟩ = false := Kn.fz s4.out 0 rfl
  have s5 : Hid (Kn (st4 w4 k3 (v)) [(k3, (c4 (v))), (w1.heap.size, (c4 (h))), (w.heap.size + 1, zz4), (w.heap.size, (c4 (x)))]) := Kn.st4 (L := [(w1.heap.size, (c4 (h))), (w.heap.size + 1, zz4), (w.heap.size, (c4 (x)))]) (s4.out.front 0 rfl) (v)
  have b5 : Hid (Below w.heap.size w (st4 w4 k3 (v))) := below_st4 b4.out g3
  clear s4 b4
  have upower_0 : (st4 w4 k3 (v)).cell? ⟨k3, 0, none⟩ = some (.int .u64 (v).a) := Kn.get s5.out 0 0 rfl rfl
  have upower_1 : (st4 w4 k3 (v)).cell? ⟨k3, 1, none⟩ = some (.int .u64 (v).b) := Kn.get s5.out 0 1 rfl rfl
  have upower_2 : (st4 w4 k3 (v)).cell? ⟨k3, 2, none⟩ = some (.int .u64 (v).c) := Kn.get s5.out 0 2 rfl rfl
  have upower_3 : (st4 w4 k3 (v)).cell? ⟨k3, 3, none⟩ = some (.int .u64 (v).d) := Kn.get s5.out 0 3 rfl rfl
  have uro_0 : (st4 w4 k3 (v)).cell? ⟨w.heap.size + 1, 0, none⟩ = some (.int .u64 0) := Kn.get s5.out 2 0 rfl rfl
  have uro_1 : (st4 w4 k3 (v)).cell? ⟨w.heap.size + 1, 1, none⟩ = some (.int .u64 0) := Kn.get s5.out 2 1 rfl rfl
  have uro_2 : (st4 w4 k3 (v)).cell? ⟨w.heap.size + 1, 2, none⟩ = some (.int .u64 0) := Kn.get s5.out 2 2 rfl rfl
  have uro_3 : (st4 w4 k3 (v)).cell? ⟨w.heap.size + 1, 3, none⟩ = some (.int .u64 0) := Kn.get s5.out 2 3 rfl rfl
  have uro_z : ∀ j, (st4 w4 k3 (v)).frozen? ⟨w.heap.size + 1, j, none⟩ = false := Kn.fz s5.out 2 rfl
  have s6 : Hid (Kn (st4 (st4 w4 k3 (v)) (w.heap.size + 1) (v)) [(w.heap.size + 1, (c4 (v))), (k3, (c4 (v))), (w1.heap.size, (c4 (h))), (w.heap.size, (c4 (x)))]) := Kn.st4 (L := [(k3, (c4 (v))), (w1.heap.size, (c4 (h))), (w.heap.size, (c4 (x)))]) (s5.out.front 2 rfl) (v)
  have b6 : Hid (Below w.heap.size w (st4 (st4 w4 k3 (v)) (w.heap.size + 1) (v))) := below_st4 b5.out (by omega)
  clear s5 b5
  go_wp2_with fail
  clear upowero_0 upowero_1 upowero_2 upowero_3 upowero_z upower_0 upower_1 upower_2 upower_3 uro_0 uro_1 uro_2 uro_3 uro_z
  have urr_0 : (st4 (st4 w4 k3 (v)) (w.heap.size + 1) (v)).cell? ⟨w.heap.size + 1, 0, none⟩ = some (.int .u64 (v).a) := Kn.get s6.out 0 0 rfl rfl
  have urr_1 : (st4 (st4 w4 k3 (v)) (w.heap.size + 1) (v)).cell? ⟨w.heap.size + 1, 1, none⟩ = some (.int .u64 (v).b) := Kn.get s6.out 0 1 rfl rfl
  have urr_2 : (st4 (st4 w4 k3 (v)) (w.heap.size + 1) (v)).cell? ⟨w.heap.size + 1, 2, none⟩ = some (.int .u64 (v).c) := Kn.get s6.out 0 2 rfl rfl
  have urr_3 : (st4 (st4 w4 k3 (v)) (w.heap.size + 1) (v)).cell? ⟨w.heap.size + 1, 3, none⟩ = some (.int .u64 (v).d) := Kn.get s6.out 0 3 rfl rfl
  refine bodyPost_ret (v := N v) ?_ rfl ⟨rfl, b6.out⟩
  show (results Try.f74 _).run Try.prog (st4 (st4 w4 k3 (v)) (w.heap.size + 1) (v)) = .ok _ (st4 (st4 w4 k3 (v)) (w.heap.size + 1) (v))
  clear s6 b6
  generalize (st4 (st4 w4 k3 (v)) (w.heap.size + 1) (v)) = W9 at *
  simp [results, Try.results74, go_sem, urr_0, urr_1, urr_2, urr_3]
set_option maxHeartbeats 1000000 in
theorem ones_250 (x h q m : Nm)
    (S1 : ∀ w, Calls Try.prog 74 #[N x, .int .i64 125] w fun e w' => e = .returned (N h) ∧ Below w.heap.size w w')
    (S2 : ∀ w, Calls Try.prog 73 #[N h, .int .i64 125] w fun e w' => e = .returned (N q) ∧ Below w.heap.size w w')
    (S3 : ∀ w, Calls Try.prog 34 #[N q, N h] w fun e w' => e = .returned (N m) ∧ Below w.heap.size w w')
    (w : World) :
    Calls Try.prog 74 #[N x, .int .i64 250] w fun e w' => e = .returned (N m) ∧ Below w.heap.size w w' := by
  go_enter Try.func74, Try.ntmps74
  have s0 : Hid (Kn (kz4 (kal4 w (x))) [(w.heap.size + 1, zz4), (w.heap.size, (c4 (x)))]) := (((Kn.nil w).al (c4 (x)) 28 rfl).al zz4 28 (by simp))
  have b0 : Hid (Below w.heap.size w (kz4 (kal4 w (x)))) := (((Below.refl _ _).alloc (Nat.le_refl _) _).alloc (by simp <;> omega) _)
  go_wp2_with fail
  refine (S1 _).mono ?_
  rintro e w1 ⟨rfl, hb1⟩
  have s1 : Hid (Kn w1 [(w.heap.size + 1, zz4), (w.heap.size, (c4 (x)))]) := s0.out.up hb1
  have b1 : Hid (Below w.heap.size w w1) := b0.out.trans (hb1.mono b0.out.size)
  have z1 := b1.out.size
  clear hb1 s0 b0
  have s2 : Hid (Kn (kal4 w1 (h)) [(w1.heap.size, (c4 (h))), (w.heap.size + 1, zz4), (w.heap.size, (c4 (x)))]) := s1.out.al (c4 (h)) 28 rfl
  have b2 : Hid (Below w.heap.size w (kal4 w1 (h))) := b1.out.alloc b1.out.size _
  have z2 := b1.out.size
  clear s1 b1
  go_wp2_with fail
  refine wp_region_alloc1 6 (.cells #[.int .u64 0, .int .u64 0, .int .u64 0, .int .u64 0] 28) (by kernel_rfl) (by kernel_rfl) (by kernel_rfl) (by kernel_rfl) (by decide) (fun _ _ d _ _ h => by cases d <;> exact h) rfl rfl (fun _ _ => by kernel_rfl) ?_
  apply Exists.intro
  refine ⟨fun U hU f hf hcl => ?_, fun k3 w3 hb3 hk3 hc3 => ?_⟩
  · skip
    have uhalf_0 := fun nx => (Kn.get (s2.out.up (hf nx).out) 0 0 rfl rfl : (f nx).cell? ⟨w1.heap.size, 0, none⟩ = some (.int .u64 (h).a))
    have uhalf_1 := fun nx => (Kn.get (s2.out.up (hf nx).out) 0 1 rfl rfl : (f nx).cell? ⟨w1.heap.size, 1, none⟩ = some (.int .u64 (h).b))
    have uhalf_2 := fun nx => (Kn.get (s2.out.up (hf nx).out) 0 2 rfl rfl : (f nx).cell? ⟨w1.heap.size, 2, none⟩ = some (.int .u64 (h).c))
    have uhalf_3 := fun nx => (Kn.get (s2.out.up (hf nx).out) 0 3 rfl rfl : (f nx).cell? ⟨w1.heap.size, 3, none⟩ = some (.int .u64 (h).d))
    clear hf
    simp only [List.take_succ_cons, List.take_zero]
    repeat (go_big_quiet_step (first | (go_at_call 73; exact (S2 _).mono fun e w'' ⟨he, hb⟩ => ⟨he, hcl.out _ _ hb⟩) | (go_at_call 34; exact (S3 _).mono fun e w'' ⟨he, hb⟩ => ⟨he, hcl.out _ _ hb⟩)))
    exact wpQuiet_nil rfl
  simp only [List.drop_succ_cons, List.drop_zero]
  have z3 := b2.out.size
  have s3x : Hid (Kn w3 [(k3, zz4), (w1.heap.size, (c4 (h))), (w.heap.size + 1, zz4), (w.heap.size, (c4 (x)))]) := s2.out.fresh hb3.out hk3 hc3.out
  have g3 : w.heap.size ≤ k3 := Nat.le_trans b2.out.size hk3
  have cz3_0 : w3.cell? ⟨k3, 0, none⟩ = some (.int .u64 0) := Kn.get s3x.out 0 0 rfl rfl
  have cz3_1 : w3.cell? ⟨k3, 1, none⟩ = some (.int .u64 0) := Kn.get s3x.out 0 1 rfl rfl
  have cz3_2 : w3.cell? ⟨k3, 2, none⟩ = some (.int .u64 0) := Kn.get s3x.out 0 2 rfl rfl
  have cz3_3 : w3.cell? ⟨k3, 3, none⟩ = some (.int .u64 0) := Kn.get s3x.out 0 3 rfl rfl
  have cz3 : ∀ j, w3.frozen? ⟨k3, j, none⟩ = false := Kn.fz s3x.out 0 rfl
  have s3 : Hid (Kn (st4 w3 k3 (m)) [(k3, (c4 (m))), (w1.heap.size, (c4 (h))), (w.heap.size + 1, zz4), (w.heap.size, (c4 (x)))]) := s3x.out.st4 (m)
  have b3 : Hid (Below w.heap.size w (st4 w3 k3 (m))) := below_st4 (b2.out.trans (hb3.out.mono b2.out.size)) g3
  clear s3x s2 b2 hb3 hc3 hk3
  have upower_0 : (st4 w3 k3 (m)).cell? ⟨k3, 0, none⟩ = some (.int .u64 (m).a) := Kn.get s3.out 0 0 rfl rfl
  have upower_1 : (st4 w3 k3 (m)).cell? ⟨k3, 1, none⟩ = some (.int .u64 (m).b) := Kn.get s3.out 0 1 rfl rfl
  have upower_2 : (st4 w3 k3 (m)).cell? ⟨k3, 2, none⟩ = some (.int .u64 (m).c) := Kn.get s3.out 0 2 rfl rfl
  have upower_3 : (st4 w3 k3 (m)).cell? ⟨k3, 3, none⟩ = some (.int .u64 (m).d) := Kn.get s3.out 0 3 rfl rfl
  have uro_0 : (st4 w3 k3 (m)).cell? ⟨w.heap.size + 1, 0, none⟩ = some (.int .u64 0) := Kn.get s3.out 2 0 rfl rfl
  have uro_1 : (st4 w3 k3 (m)).cell? ⟨w.heap.size + 1, 1, none⟩ = some (.int .u64 0) := Kn.get s3.out 2 1 rfl rfl
  have uro_2 : (st4 w3 k3 (m)).cell? ⟨w.heap.size + 1, 2, none⟩ = some (.int .u64 0) := Kn.get s3.out 2 2 rfl rfl
  have uro_3 : (st4 w3 k3 (m)).cell? ⟨w.heap.size + 1, 3, none⟩ = some (.int .u64 0) := Kn.get s3.out 2 3 rfl rfl
  have uro_z : ∀ j, (st4 w3 k3 (m)).frozen? ⟨w.heap.size + 1, j, none⟩ = false := Kn.fz s3.out 2 rfl
  have s4 : Hid (Kn (st4 (st4 w3 k3 (m)) (w.heap.size + 1) (m)) [(w.heap.size + 1, (c4 (m))), (k3, (c4 (m))), (w1.heap.size, (c4 (h))), (w.heap.size, (c4 (x)))]) := Kn.st4 (L := [(k3, (c4 (m))), (w1.heap.size, (c4 (h))), (w.heap.size, (c4 (x)))]) (s3.out.front 2 rfl) (m)
  have b4 : Hid (Below w.heap.size w (st4 (st4 w3 k3 (m)) (w.heap.size + 1) (m))) := below_st4 b3.out (by omega)
  clear s3 b3
  go_wp2_with fail
  clear cz3_0 cz3_1 cz3_2 cz3_3 cz3 upower_0 upower_1 upower_2 upower_3 uro_0 uro_1 uro_2 uro_3 uro_z
  have urr_0 : (st4 (st4 w3 k3 (m)) (w.heap.size + 1) (m)).cell? ⟨w.heap.size + 1, 0, none⟩ = some (.int .u64 (m).a) := Kn.get s4.out 0 0 rfl rfl
  have urr_1 : (st4 (st4 w3 k3 (m)) (w.heap.size + 1) (m)).cell? ⟨w.heap.size + 1, 1, none⟩ = some (.int .u64 (m).b) := Kn.get s4.out 0 1 rfl rfl
  have urr_2 : (st4 (st4 w3 k3 (m)) (w.heap.size + 1) (m)).cell? ⟨w.heap.size + 1, 2, none⟩ = some (.int .u64 (m).c) := Kn.get s4.out 0 2 rfl rfl
  have urr_3 : (st4 (st4 w3 k3 (m)) (w.heap.size + 1) (m)).cell? ⟨w.heap.size + 1, 3, none⟩ = some (.int .u64 (m).d) := Kn.get s4.out 0 3 rfl rfl
  refine bodyPost_ret (v := N m) ?_ rfl ⟨rfl, b4.out⟩
  show (results Try.f74 _).run Try.prog (st4 (st4 w3 k3 (m)) (w.heap.size + 1) (m)) = .ok _ (st4 (st4 w3 k3 (m)) (w.heap.size + 1) (m))
  clear s4 b4
  generalize (st4 (st4 w3 k3 (m)) (w.heap.size + 1) (m)) = W9 at *
  simp [results, Try.results74, go_sem, urr_0, urr_1, urr_2, urr_3]
theorem onesV_ok {x : Nm} (ox : x.ok) (n : Nat) : (onesV x n).ok := by
  unfold onesV
  split
  · exact ox
  · exact nm_ok _
theorem onesV_nat {x : Nm} {n : Nat} (h0 : 0 < n) : (onesV x n).nat % F.p = F.pow x.nat (2 ^ n - 1) := by
  unfold onesV
  split
  · obtain rfl : n = 1 := by omega
    rw [show 2 ^ 1 - 1 = 1 from rfl, F.pow_one]
  · rw [f_nat (F.pow_lt _ _), Nat.mod_eq_of_lt (F.pow_lt _ _)]
theorem pow_half (k : Nat) : 2 ^ (k + k) - 1 = (2 ^ k - 1) * 2 ^ k + (2 ^ k - 1) := by
  rw [Nat.pow_add]
  have := Nat.pow_pos (n := k) (show 0 < 2 by decide)
  generalize 2 ^ k = t at *
  obtain ⟨s, rfl⟩ : ∃ s, t = s + 1 := ⟨t - 1, by omega⟩
  rw [Nat.add_sub_cancel, Nat.mul_add, Nat.add_mul, Nat.mul_add, Nat.mul_one, Nat.one_mul]
  omega
theorem onesV_half {x : Nm} {k : Nat} (h0 : 0 < k) : F.mul (nm (F.pow (onesV x k).nat (2 ^ k))).nat (onesV x k).nat = F.pow x.nat (2 ^ (k + k) - 1) := by
  rw [f_nat (F.pow_lt _ _), ← F.pow_modl, ← F.mul_modr, onesV_nat h0, F.pow_pow, ← F.pow_add, ← pow_half]
theorem onesV_even {x : Nm} {k : Nat} (h0 : 0 < k) : onesV x (k + k) = nm (F.mul (nm (F.pow (onesV x k).nat (2 ^ k))).nat (onesV x k).nat) := by
  rw [onesV_half h0]
  unfold onesV
  rw [if_neg (by omega)]
theorem onesV_odd {x : Nm} {k : Nat} (h0 : 0 < k) : onesV x (k + k + 1) = nm (F.mul (nm (F.mul (nm (F.mul (nm (F.pow (onesV x k).nat (2 ^ k))).nat (onesV x k).nat)).nat (nm (F.mul (nm (F.pow (onesV x k).nat (2 ^ k))).nat (onesV x k).nat)).nat)).nat x.nat) := by
  rw [onesV_half h0, f_nat (F.mul_lt _ _), f_nat (F.pow_lt _ _), ← F.pow_add, ← F.mul_modr, ← F.pow_one x.nat, ← F.pow_add]
  have e : 2 ^ (k + k + 1) - 1 = 2 ^ (k + k) - 1 + (2 ^ (k + k) - 1) + 1 := by
    rw [Nat.pow_succ]
    have := Nat.pow_pos (n := k + k) (show 0 < 2 by decide)
    omega
  rw [← e]
  unfold onesV
  rw [if_neg (by omega)]
theorem onesF_3 (x : Nm) (ox : x.ok) (w : World) : Calls Try.prog 74 #[N x, .int .i64 3] w fun e w' => e = .returned (N (onesV x 3)) ∧ Below w.heap.size w w' := by
  have S1 : ∀ w, Calls Try.prog 74 #[N x, .int .i64 1] w fun e w' => e = .returned (N (onesV x 1)) ∧ Below w.heap.size w w' := ones_one x
  rw [onesV_odd (k := 1) (by decide)]
  exact ones_3 x (onesV x 1) _ _ _ _ S1 (squared_fun (onesV x 1) 1 (by decide) (by decide) (onesV_ok ox _)) (fMulC _ _ (nm_ok _) (onesV_ok ox _)) (fMulC _ _ (nm_ok _) (nm_ok _)) (fMulC _ _ (nm_ok _) ox) w
theorem onesF_7 (x : Nm) (ox : x.ok) (w : World) : Calls Try.prog 74 #[N x, .int .i64 7] w fun e w' => e = .returned (N (onesV x 7)) ∧ Below w.heap.size w w' := by
  have S1 : ∀ w, Calls Try.prog 74 #[N x, .int .i64 3] w fun e w' => e = .returned (N (onesV x 3)) ∧ Below w.heap.size w w' := onesF_3 x ox
  rw [onesV_odd (k := 3) (by decide)]
  exact ones_7 x (onesV x 3) _ _ _ _ S1 (squared_fun (onesV x 3) 3 (by decide) (by decide) (onesV_ok ox _)) (fMulC _ _ (nm_ok _) (onesV_ok ox _)) (fMulC _ _ (nm_ok _) (nm_ok _)) (fMulC _ _ (nm_ok _) ox) w
theorem onesF_15 (x : Nm) (ox : x.ok) (w : World) : Calls Try.prog 74 #[N x, .int .i64 15] w fun e w' => e = .returned (N (onesV x 15)) ∧ Below w.heap.size w w' := by
  have S1 : ∀ w, Calls Try.prog 74 #[N x, .int .i64 7] w fun e w' => e = .returned (N (onesV x 7)) ∧ Below w.heap.size w w' := onesF_7 x ox
  rw [onesV_odd (k := 7) (by decide)]
  exact ones_15 x (onesV x 7) _ _ _ _ S1 (squared_fun (onesV x 7) 7 (by decide) (by decide) (onesV_ok ox _)) (fMulC _ _ (nm_ok _) (onesV_ok ox _)) (fMulC _ _ (nm_ok _) (nm_ok _)) (fMulC _ _ (nm_ok _) ox) w
theorem onesF_31 (x : Nm) (ox : x.ok) (w : World) : Calls Try.prog 74 #[N x, .int .i64 31] w fun e w' => e = .returned (N (onesV x 31)) ∧ Below w.heap.size w w' := by
  have S1 : ∀ w, Calls Try.prog 74 #[N x, .int .i64 15] w fun e w' => e = .returned (N (onesV x 15)) ∧ Below w.heap.size w w' := onesF_15 x ox
  rw [onesV_odd (k := 15) (by decide)]
  exact ones_31 x (onesV x 15) _ _ _ _ S1 (squared_fun (onesV x 15) 15 (by decide) (by decide) (onesV_ok ox _)) (fMulC _ _ (nm_ok _) (onesV_ok ox _)) (fMulC _ _ (nm_ok _) (nm_ok _)) (fMulC _ _ (nm_ok _) ox) w
theorem onesF_62 (x : Nm) (ox : x.ok) (w : World) : Calls Try.prog 74 #[N x, .int .i64 62] w fun e w' => e = .returned (N (onesV x 62)) ∧ Below w.heap.size w w' := by
  have S1 : ∀ w, Calls Try.prog 74 #[N x, .int .i64 31] w fun e w' => e = .returned (N (onesV x 31)) ∧ Below w.heap.size w w' := onesF_31 x ox
  rw [onesV_even (k := 31) (by decide)]
  exact ones_62 x (onesV x 31) _ _ S1 (squared_fun (onesV x 31) 31 (by decide) (by decide) (onesV_ok ox _)) (fMulC _ _ (nm_ok _) (onesV_ok ox _)) w
theorem onesF_125 (x : Nm) (ox : x.ok) (w : World) : Calls Try.prog 74 #[N x, .int .i64 125] w fun e w' => e = .returned (N (onesV x 125)) ∧ Below w.heap.size w w' := by
  have S1 : ∀ w, Calls Try.prog 74 #[N x, .int .i64 62] w fun e w' => e = .returned (N (onesV x 62)) ∧ Below w.heap.size w w' := onesF_62 x ox
  rw [onesV_odd (k := 62) (by decide)]
  exact ones_125 x (onesV x 62) _ _ _ _ S1 (squared_fun (onesV x 62) 62 (by decide) (by decide) (onesV_ok ox _)) (fMulC _ _ (nm_ok _) (onesV_ok ox _)) (fMulC _ _ (nm_ok _) (nm_ok _)) (fMulC _ _ (nm_ok _) ox) w
theorem onesF_250 (x : Nm) (ox : x.ok) (w : World) : Calls Try.prog 74 #[N x, .int .i64 250] w fun e w' => e = .returned (N (onesV x 250)) ∧ Below w.heap.size w w' := by
  have S1 : ∀ w, Calls Try.prog 74 #[N x, .int .i64 125] w fun e w' => e = .returned (N (onesV x 125)) ∧ Below w.heap.size w w' := onesF_125 x ox
  rw [onesV_even (k := 125) (by decide)]
  exact ones_250 x (onesV x 125) _ _ S1 (squared_fun (onesV x 125) 125 (by decide) (by decide) (onesV_ok ox _)) (fMulC _ _ (nm_ok _) (onesV_ok ox _)) w
set_option maxHeartbeats 1000000 in
theorem fInv_walk (x s q m el o z p : Nm)
    (S1 : ∀ w, Calls Try.prog 34 #[N x, N x] w fun e w' => e = .returned (N s) ∧ Below w.heap.size w w')
    (S2 : ∀ w, Calls Try.prog 73 #[N s, .int .i64 2] w fun e w' => e = .returned (N q) ∧ Below w.heap.size w w')
    (S3 : ∀ w, Calls Try.prog 34 #[N s, N x] w fun e w' => e = .returned (N m) ∧ Below w.heap.size w w')
    (S4 : ∀ w, Calls Try.prog 34 #[N q, N m] w fun e w' => e = .returned (N el) ∧ Below w.heap.size w w')
    (S5 : ∀ w, Calls Try.prog 74 #[N x, .int .i64 250] w fun e w' => e = .returned (N o) ∧ Below w.heap.size w w')
    (S6 : ∀ w, Calls Try.prog 73 #[N o, .int .i64 5] w fun e w' => e = .returned (N z) ∧ Below w.heap.size w w')
    (S7 : ∀ w, Calls Try.prog 34 #[N z, N el] w fun e w' => e = .returned (N p) ∧ Below w.heap.size w w')
    (w : World) :
    Calls Try.prog 47 #[N x] w fun e w' => e = .returned (N p) ∧ Below w.heap.size w w' := by
  go_enter Try.func47, Try.ntmps47
  have s0 : Hid (Kn (kz4 (kal4 w (x))) [(w.heap.size + 1, zz4), (w.heap.size, (c4 (x)))]) := (((Kn.nil w).al (c4 (x)) 28 rfl).al zz4 28 (by simp))
  have b0 : Hid (Below w.heap.size w (kz4 (kal4 w (x)))) := (((Below.refl _ _).alloc (Nat.le_refl _) _).alloc (by simp <;> omega) _)
  go_wp2_with fail
  refine (S1 _).mono ?_
  rintro e w1 ⟨rfl, hb1⟩
  have s1 : Hid (Kn w1 [(w.heap.size + 1, zz4), (w.heap.size, (c4 (x)))]) := s0.out.up hb1
  have b1 : Hid (Below w.heap.size w w1) := b0.out.trans (hb1.mono b0.out.size)
  have z1 := b1.out.size
  clear hb1 s0 b0
  have s2 : Hid (Kn (kal4 w1 (s)) [(w1.heap.size, (c4 (s))), (w.heap.size + 1, zz4), (w.heap.size, (c4 (x)))]) := s1.out.al (c4 (s)) 28 rfl
  have b2 : Hid (Below w.heap.size w (kal4 w1 (s))) := b1.out.alloc b1.out.size _
  have z2 := b1.out.size
  clear s1 b1
  go_wp2_with fail
  refine wp_region_alloc1 6 (.cells #[.int .u64 0, .int .u64 0, .int .u64 0, .int .u64 0] 28) (by kernel_rfl) (by kernel_rfl) (by kernel_rfl) (by kernel_rfl) (by decide) (fun _ _ d _ _ h => by cases d <;> exact h) rfl rfl (fun _ _ => by kernel_rfl) ?_
  apply Exists.intro
  refine ⟨fun U hU f hf hcl => ?_, fun k3 w3 hb3 hk3 hc3 => ?_⟩
  · skip
    have usquare_0 := fun nx => (Kn.get (s2.out.up (hf nx).out) 0 0 rfl rfl : (f nx).cell? ⟨w1.heap.size, 0, none⟩ = some (.int .u64 (s).a))
    have usquare_1 := fun nx => (Kn.get (s2.out.up (hf nx).out) 0 1 rfl rfl : (f nx).cell? ⟨w1.heap.size, 1, none⟩ = some (.int .u64 (s).b))
    have usquare_2 := fun nx => (Kn.get (s2.out.up (hf nx).out) 0 2 rfl rfl : (f nx).cell? ⟨w1.heap.size, 2, none⟩ = some (.int .u64 (s).c))
    have usquare_3 := fun nx => (Kn.get (s2.out.up (hf nx).out) 0 3 rfl rfl : (f nx).cell? ⟨w1.heap.size, 3, none⟩ = some (.int .u64 (s).d))
    have ua_0 := fun nx => (Kn.get (s2.out.up (hf nx).out) 2 0 rfl rfl : (f nx).cell? ⟨w.heap.size, 0, none⟩ = some (.int .u64 (x).a))
    have ua_1 := fun nx => (Kn.get (s2.out.up (hf nx).out) 2 1 rfl rfl : (f nx).cell? ⟨w.heap.size, 1, none⟩ = some (.int .u64 (x).b))
    have ua_2 := fun nx => (Kn.get (s2.out.up (hf nx).out) 2 2 rfl rfl : (f nx).cell? ⟨w.heap.size, 2, none⟩ = some (.int .u64 (x).c))
    have ua_3 := fun nx => (Kn.get (s2.out.up (hf nx).out) 2 3 rfl rfl : (f nx).cell? ⟨w.heap.size, 3, none⟩ = some (.int .u64 (x).d))
    clear hf
    simp only [List.take_succ_cons, List.take_zero]
    repeat (go_big_quiet_step (first | (go_at_call 73; exact (S2 _).mono fun e w'' ⟨he, hb⟩ => ⟨he, hcl.out _ _ hb⟩) | (go_at_call_of 34 [Value.agg #[Value.int IntKind.u64 s.a, Value.int IntKind.u64 s.b, Value.int IntKind.u64 s.c, Value.int IntKind.u64 s.d], Value.agg #[Value.int IntKind.u64 x.a, Value.int IntKind.u64 x.b, Value.int IntKind.u64 x.c, Value.int IntKind.u64 x.d]]; exact (S3 _).mono fun e w'' ⟨he, hb⟩ => ⟨he, hcl.out _ _ hb⟩) | (go_at_call_of 34 [N q, N m]; exact (S4 _).mono fun e w'' ⟨he, hb⟩ => ⟨he, hcl.out _ _ hb⟩)))
    exact wpQuiet_nil rfl
  simp only [List.drop_succ_cons, List.drop_zero]
  have z3 := b2.out.size
  have s3x : Hid (Kn w3 [(k3, zz4), (w1.heap.size, (c4 (s))), (w.heap.size + 1, zz4), (w.heap.size, (c4 (x)))]) := s2.out.fresh hb3.out hk3 hc3.out
  have g3 : w.heap.size ≤ k3 := Nat.le_trans b2.out.size hk3
  have cz3_0 : w3.cell? ⟨k3, 0, none⟩ = some (.int .u64 0) := Kn.get s3x.out 0 0 rfl rfl
  have cz3_1 : w3.cell? ⟨k3, 1, none⟩ = some (.int .u64 0) := Kn.get s3x.out 0 1 rfl rfl
  have cz3_2 : w3.cell? ⟨k3, 2, none⟩ = some (.int .u64 0) := Kn.get s3x.out 0 2 rfl rfl
  have cz3_3 : w3.cell? ⟨k3, 3, none⟩ = some (.int .u64 0) := Kn.get s3x.out 0 3 rfl rfl
  have cz3 : ∀ j, w3.frozen? ⟨k3, j, none⟩ = false := Kn.fz s3x.out 0 rfl
  have s3 : Hid (Kn (st4 w3 k3 (el)) [(k3, (c4 (el))), (w1.heap.size, (c4 (s))), (w.heap.size + 1, zz4), (w.heap.size, (c4 (x)))]) := s3x.out.st4 (el)
  have b3 : Hid (Below w.heap.size w (st4 w3 k3 (el))) := below_st4 (b2.out.trans (hb3.out.mono b2.out.size)) g3
  clear s3x s2 b2 hb3 hc3 hk3
  go_wp2_with fail
  clear cz3_0 cz3_1 cz3_2 cz3_3 cz3
  refine wp_region_up_then 5 (by kernel_rfl) (by kernel_rfl) (by kernel_rfl) (by kernel_rfl) (by decide) (fun _ _ d _ _ h => by cases d <;> exact h) (fun U hU f hf hcl => ?_)
  have ueleven_0 := fun nx => (Kn.get (s3.out.up (hf nx).out) 0 0 rfl rfl : (f nx).cell? ⟨k3, 0, none⟩ = some (.int .u64 (el).a))
  have ueleven_1 := fun nx => (Kn.get (s3.out.up (hf nx).out) 0 1 rfl rfl : (f nx).cell? ⟨k3, 1, none⟩ = some (.int .u64 (el).b))
  have ueleven_2 := fun nx => (Kn.get (s3.out.up (hf nx).out) 0 2 rfl rfl : (f nx).cell? ⟨k3, 2, none⟩ = some (.int .u64 (el).c))
  have ueleven_3 := fun nx => (Kn.get (s3.out.up (hf nx).out) 0 3 rfl rfl : (f nx).cell? ⟨k3, 3, none⟩ = some (.int .u64 (el).d))
  have ua_0 := fun nx => (Kn.get (s3.out.up (hf nx).out) 3 0 rfl rfl : (f nx).cell? ⟨w.heap.size, 0, none⟩ = some (.int .u64 (x).a))
  have ua_1 := fun nx => (Kn.get (s3.out.up (hf nx).out) 3 1 rfl rfl : (f nx).cell? ⟨w.heap.size, 1, none⟩ = some (.int .u64 (x).b))
  have ua_2 := fun nx => (Kn.get (s3.out.up (hf nx).out) 3 2 rfl rfl : (f nx).cell? ⟨w.heap.size, 2, none⟩ = some (.int .u64 (x).c))
  have ua_3 := fun nx => (Kn.get (s3.out.up (hf nx).out) 3 3 rfl rfl : (f nx).cell? ⟨w.heap.size, 3, none⟩ = some (.int .u64 (x).d))
  simp only [List.take_succ_cons, List.take_zero, List.drop_succ_cons, List.drop_zero]
  repeat (go_big_quiet_step (first | (go_at_call 74; exact (S5 _).mono fun e w'' ⟨he, hb⟩ => ⟨he, hcl.out _ _ hb⟩) | (go_at_call 73; exact (S6 _).mono fun e w'' ⟨he, hb⟩ => ⟨he, hcl.out _ _ hb⟩) | (go_at_call 34; exact (S7 _).mono fun e w'' ⟨he, hb⟩ => ⟨he, hcl.out _ _ hb⟩)))
  refine wpQuiet_nil ?_
  intro nx
  have hb4 := (hf nx).out
  clear hf hcl ueleven_0 ueleven_1 ueleven_2 ueleven_3 ua_0 ua_1 ua_2 ua_3
  generalize f nx = w4 at hb4 ⊢
  have s4 : Hid (Kn w4 [(k3, (c4 (el))), (w1.heap.size, (c4 (s))), (w.heap.size + 1, zz4), (w.heap.size, (c4 (x)))]) := s3.out.up hb4
  have b4 : Hid (Below w.heap.size w w4) := b3.out.trans (hb4.mono b3.out.size)
  have z4 := b4.out.size
  clear hb4 s3 b3
  have uro_0 : w4.cell? ⟨w.heap.size + 1, 0, none⟩ = some (.int .u64 0) := Kn.get s4.out 2 0 rfl rfl
  have uro_1 : w4.cell? ⟨w.heap.size + 1, 1, none⟩ = some (.int .u64 0) := Kn.get s4.out 2 1 rfl rfl
  have uro_2 : w4.cell? ⟨w.heap.size + 1, 2, none⟩ = some (.int .u64 0) := Kn.get s4.out 2 2 rfl rfl
  have uro_3 : w4.cell? ⟨w.heap.size + 1, 3, none⟩ = some (.int .u64 0) := Kn.get s4.out 2 3 rfl rfl
  have uro_z : ∀ j, w4.frozen? ⟨w.heap.size + 1, j, none⟩ = false := Kn.fz s4.out 2 rfl
  have s5 : Hid (Kn (st4 w4 (w.heap.size + 1) (p)) [(w.heap.size + 1, (c4 (p))), (k3, (c4 (el))), (w1.heap.size, (c4 (s))), (w.heap.size, (c4 (x)))]) := Kn.st4 (L := [(k3, (c4 (el))), (w1.heap.size, (c4 (s))), (w.heap.size, (c4 (x)))]) (s4.out.front 2 rfl) (p)
  have b5 : Hid (Below w.heap.size w (st4 w4 (w.heap.size + 1) (p))) := below_st4 b4.out (by omega)
  clear s4 b4
  go_wp2_with fail
  clear uro_0 uro_1 uro_2 uro_3 uro_z
  have urr_0 : (st4 w4 (w.heap.size + 1) (p)).cell? ⟨w.heap.size + 1, 0, none⟩ = some (.int .u64 (p).a) := Kn.get s5.out 0 0 rfl rfl
  have urr_1 : (st4 w4 (w.heap.size + 1) (p)).cell? ⟨w.heap.size + 1, 1, none⟩ = some (.int .u64 (p).b) := Kn.get s5.out 0 1 rfl rfl
  have urr_2 : (st4 w4 (w.heap.size + 1) (p)).cell? ⟨w.heap.size + 1, 2, none⟩ = some (.int .u64 (p).c) := Kn.get s5.out 0 2 rfl rfl
  have urr_3 : (st4 w4 (w.heap.size + 1) (p)).cell? ⟨w.heap.size + 1, 3, none⟩ = some (.int .u64 (p).d) := Kn.get s5.out 0 3 rfl rfl
  refine bodyPost_ret (v := N p) ?_ rfl ⟨rfl, b5.out⟩
  show (results Try.f47 _).run Try.prog (st4 w4 (w.heap.size + 1) (p)) = .ok _ (st4 w4 (w.heap.size + 1) (p))
  clear s5 b5
  generalize (st4 w4 (w.heap.size + 1) (p)) = W9 at *
  simp [results, Try.results47, go_sem, urr_0, urr_1, urr_2, urr_3]
theorem onesV_ok250 {x : Nm} : (onesV x 250).ok := by
  unfold onesV
  rw [if_neg (by decide)]
  exact nm_ok _
theorem onesV_nat250 {x : Nm} : (onesV x 250).nat = F.pow x.nat (2 ^ 250 - 1) := by
  unfold onesV
  rw [if_neg (by decide), f_nat (F.pow_lt _ _)]
theorem fInvC : FInvC := fun x ox w => by
  have S1 := fMulC x x ox ox
  have e1 : F.mul x.nat x.nat = F.pow x.nat 2 := by rw [← F.mul_modl, ← F.mul_modr, ← F.pow_one x.nat, ← F.pow_add]
  rw [e1] at S1
  have S2 := squared_fun (nm (F.pow x.nat 2)) 2 (by decide) (by decide) (nm_ok _)
  have S3 := fMulC (nm (F.pow x.nat 2)) x (nm_ok _) ox
  rw [f_nat (F.pow_lt _ _), ← F.mul_modr, ← F.pow_one x.nat, ← F.pow_add] at S3
  rw [f_nat (F.pow_lt _ _), F.pow_pow] at S2
  have S4 := fMulC (nm (F.pow x.nat (2 * 2 ^ 2))) (nm (F.pow x.nat (2 + 1))) (nm_ok _) (nm_ok _)
  rw [f_nat (F.pow_lt _ _), f_nat (F.pow_lt _ _), ← F.pow_add] at S4
  have S6 := squared_fun (onesV x 250) 5 (by decide) (by decide) onesV_ok250
  rw [onesV_nat250, F.pow_pow] at S6
  have S7 := fMulC (nm (F.pow x.nat ((2 ^ 250 - 1) * 2 ^ 5))) (nm (F.pow x.nat (2 * 2 ^ 2 + (2 + 1)))) (nm_ok _) (nm_ok _)
  rw [f_nat (F.pow_lt _ _), f_nat (F.pow_lt _ _), ← F.pow_add, show (2 ^ 250 - 1) * 2 ^ 5 + (2 * 2 ^ 2 + (2 + 1)) = F.p - 2 by decide] at S7
  exact fInv_walk x _ _ _ _ _ _ _ S1 S2 S3 S4 (onesF_250 x ox) S6 S7 w
end Go.Proofs.Ytpnfopakkaoibaa
