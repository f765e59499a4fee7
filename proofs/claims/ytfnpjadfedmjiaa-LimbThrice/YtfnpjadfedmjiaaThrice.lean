/- LimbThrice returns true for every three numbers: of three factors it does not matter which two come first, as long as both products fit. No condition. -/
import Derived.Test.YtfnpjadfedmjiaaPlus
import Derived.Test.YtfnpjadfedmjiaaArr
import Derived.Test.YtfnpjadfedmjiaaOwn
namespace Go.Proofs.Ytfnpjadfedmjiaa
open Go.RowKit
open Go.ChangeShapes Go.WideShapes Go.ChangeAt
attribute [local go_sem] World.cell?_alloc_some

theorem mul_small {x y : Nm} (hx : x.ok) (hy : y.ok) (h : mulH x y = ⟨0, 0, 0, 0⟩) : (mulL x y).val = x.val * y.val := by
  have := mul_val hx hy
  rw [h] at this
  simpa [Nm.val] using this
theorem thrice {x y z : Nm} (hx : x.ok) (hy : y.ok) (hz : z.ok) (h1 : mulH x y = ⟨0, 0, 0, 0⟩) (h2 : mulH y z = ⟨0, 0, 0, 0⟩) : mulL (mulL x y) z = mulL x (mulL y z) ∧ mulH (mulL x y) z = mulH x (mulL y z) := by
  unfold mulL mulH
  have e1 := mul_small hx hy h1
  have e2 := mul_small hy hz h2
  unfold mulL at e1 e2
  rw [e1, e2, Int.mul_assoc]
  exact ⟨rfl, rfl⟩

set_option maxHeartbeats 1000000 in
theorem thrice_walk (x y z : Nm) (hx : x.ok) (hy : y.ok) (hz : z.ok) (w : World) :
    Calls Try.prog 8 #[N x, N y, N z] w fun e w' => e = .returned (.bool true) ∧ Below w.heap.size w w' := by
  go_enter Try.func8, Try.ntmps8
  go_wp2_with fail
  refine (limbs_any _).mono ?_
  rintro e w1 ⟨rfl, hb1⟩
  have z1 := hb1.size
  try simp at z1
  obtain ⟨qw_0_1, qw_1_1, qw_2_1, qw_3_1⟩ := Lies.up (x := x) (k := w.heap.size) (by constructor <;> simp [go_sem]) hb1
  obtain ⟨qw1_0_1, qw1_1_1, qw1_2_1, qw1_3_1⟩ := Lies.up (x := y) (k := w.heap.size + 1) (by constructor <;> simp [go_sem]) hb1
  obtain ⟨qw11_0_1, qw11_1_1, qw11_2_1, qw11_3_1⟩ := Lies.up (x := z) (k := w.heap.size + 1 + 1) (by constructor <;> simp [go_sem]) hb1
  have b1 : Hid (Below w.heap.size w w1) := by
    refine Below.trans ?_ (hb1.mono (by first | omega | (simp <;> omega)))
    repeat (first | exact Below.refl _ _ | refine Below.drew ?_ | refine Below.setCell ?_ (by first | omega | (simp <;> omega)) _ | refine Below.alloc ?_ (by first | omega | (simp <;> omega)) _)
  clear hb1
  have Lx : Hid (Lies w1 w.heap.size x) := ⟨qw_0_1, qw_1_1, qw_2_1, qw_3_1⟩
  have Ly : Hid (Lies w1 (w.heap.size + 1) y) := ⟨qw1_0_1, qw1_1_1, qw1_2_1, qw1_3_1⟩
  have Lz : Hid (Lies w1 (w.heap.size + 1 + 1) z) := ⟨qw11_0_1, qw11_1_1, qw11_2_1, qw11_3_1⟩
  go_wp2_with fail
  clear qw_0_1 qw_1_1 qw_2_1 qw_3_1 qw1_0_1 qw1_1_1 qw1_2_1 qw1_3_1 qw11_0_1 qw11_1_1 qw11_2_1 qw11_3_1
  refine wp_region_alloc2 6 (.cells #[.int .u64 0, .int .u64 0, .int .u64 0, .int .u64 0, .int .u64 0, .int .u64 0, .int .u64 0, .int .u64 0] 34) (.cells #[.int .u64 0, .int .u64 0, .int .u64 0, .int .u64 0, .int .u64 0, .int .u64 0, .int .u64 0, .int .u64 0] 34) (by kernel_rfl) (by kernel_rfl) (by kernel_rfl) (by kernel_rfl) (by decide) (fun _ _ d _ _ h => by cases d <;> exact h) rfl rfl rfl rfl (by decide) (fun _ _ => by kernel_rfl) (fun _ _ => by kernel_rfl) ?_
  apply Exists.intro
  refine ⟨fun U hU f hf hcl => ?_, fun k2 j2 w2 hb2 hk2 hj2 hn2 hc2 hd2 => ?_⟩
  · have q := fun n => Lies.up (x := x) (k := w.heap.size) Lx.out (hf n).out
    have q_a := fun n => (q n).a
    have q_b := fun n => (q n).b
    have q_c := fun n => (q n).c
    have q_d := fun n => (q n).d
    clear q
    have p := fun n => Lies.up (x := y) (k := w.heap.size + 1) Ly.out (hf n).out
    have p_a := fun n => (p n).a
    have p_b := fun n => (p n).b
    have p_c := fun n => (p n).c
    have p_d := fun n => (p n).d
    clear p
    have r := fun n => Lies.up (x := z) (k := w.heap.size + 1 + 1) Lz.out (hf n).out
    have r_a := fun n => (r n).a
    have r_b := fun n => (r n).b
    have r_c := fun n => (r n).c
    have r_d := fun n => (r n).d
    clear r
    clear hf
    simp only [List.take_succ_cons, List.take_zero]
    repeat (go_big_quiet_step (first | (go_at_call_of 17 x.a; exact (mul_fun x y hx hy _).mono fun e w'' ⟨he, hb⟩ => ⟨he, hcl.out _ _ hb⟩) | (go_at_call_of 17 z.a; exact (mul_fun y z hy hz _).mono fun e w'' ⟨he, hb⟩ => ⟨he, hcl.out _ _ hb⟩)))
    exact wpQuiet_nil rfl
  · simp only [List.drop_succ_cons, List.drop_zero]
    obtain ⟨c0, c1, c2, c3, c4, c5, c6, c7, cz⟩ := cells8 hc2.out
    obtain ⟨d0, d1, d2, d3, d4, d5, d6, d7, dz⟩ := cells8 hd2.out
    have z2 := hb2.out.size
    have nkj : ¬ k2 = j2 := hn2.out
    have njk : ¬ j2 = k2 := fun h => hn2.out h.symm
    have La : Hid (Lies8 (st8 (st8 w2 k2 (mulL x y) (mulH x y)) j2 (mulL y z) (mulH y z)) k2 (mulL x y) (mulH x y)) := (cells8 hc2.out).st8_self.st8_ne njk
    have Lb : Hid (Lies8 (st8 (st8 w2 k2 (mulL x y) (mulH x y)) j2 (mulL y z) (mulH y z)) j2 (mulL y z) (mulH y z)) := ((cells8 hd2.out).st8_ne nkj).st8_self
    have Lx2 : Hid (Lies (st8 (st8 w2 k2 (mulL x y) (mulH x y)) j2 (mulL y z) (mulH y z)) w.heap.size x) := ((Lx.out.up hb2.out).st8_ne (by omega)).st8_ne (by omega)
    have Lz2 : Hid (Lies (st8 (st8 w2 k2 (mulL x y) (mulH x y)) j2 (mulL y z) (mulH y z)) (w.heap.size + 1 + 1) z) := ((Lz.out.up hb2.out).st8_ne (by omega)).st8_ne (by omega)
    have b2 : Hid (Below w.heap.size w (st8 (st8 w2 k2 (mulL x y) (mulH x y)) j2 (mulL y z) (mulH y z))) := below_st8 (below_st8 (b1.out.trans (hb2.out.mono (by omega))) (by omega)) (by omega)
    go_wp2_with fail
    clear c0 c1 c2 c3 c4 c5 c6 c7 cz d0 d1 d2 d3 d4 d5 d6 d7 dz hc2 hd2 hb2 Lx Ly Lz b1
    by_cases hA : mulH x y = ⟨0, 0, 0, 0⟩
    · by_cases hB : mulH y z = ⟨0, 0, 0, 0⟩
      · have e1 := neN (mulH x y) ⟨0, 0, 0, 0⟩
        have e2 := neN (mulH y z) ⟨0, 0, 0, 0⟩
        rw [show Nm.beq (mulH x y) ⟨0, 0, 0, 0⟩ = true from Nm.beq_iff.2 hA] at e1
        rw [show Nm.beq (mulH y z) ⟨0, 0, 0, 0⟩ = true from Nm.beq_iff.2 hB] at e2
        have HA : Hid _ := hA
        have HB : Hid _ := hB
        clear hA hB
        refine wp_region_up (by kernel_rfl) (by kernel_rfl) (fun U hU f hf hcl => ?_)
        have q := fun n => Lies8.up (l := mulL x y) (h := mulH x y) (k := k2) (La.out.alloc _) (hf n).out
        have q_a := fun n => (q n).a
        have q_b := fun n => (q n).b
        have q_c := fun n => (q n).c
        have q_d := fun n => (q n).d
        have q_e := fun n => (q n).e
        have q_f := fun n => (q n).f
        have q_g := fun n => (q n).g
        have q_i := fun n => (q n).i
        clear q
        have p := fun n => Lies8.up (l := mulL y z) (h := mulH y z) (k := j2) (Lb.out.alloc _) (hf n).out
        have p_a := fun n => (p n).a
        have p_b := fun n => (p n).b
        have p_c := fun n => (p n).c
        have p_d := fun n => (p n).d
        have p_e := fun n => (p n).e
        have p_f := fun n => (p n).f
        have p_g := fun n => (p n).g
        have p_i := fun n => (p n).i
        clear p
        have r := fun n => Lies.up (x := ⟨0, 0, 0, 0⟩) (k := w2.heap.size) (by have := Lies.new (st8 (st8 w2 k2 (mulL x y) (mulH x y)) j2 (mulL y z) (mulH y z)) ⟨0, 0, 0, 0⟩ 24; rwa [size_st8, size_st8] at this) (hf n).out
        have r_a := fun n => (r n).a
        have r_b := fun n => (r n).b
        have r_c := fun n => (r n).c
        have r_d := fun n => (r n).d
        clear r
        repeat (go_big_quiet_step (first | (go_at_call_of 31 (mulL x y).a; exact (high_fun (mulL x y) (mulH x y) _).mono fun e w'' ⟨he, hb⟩ => ⟨he, hcl.out _ _ hb⟩) | (go_at_call_of 31 (mulL y z).a; exact (high_fun (mulL y z) (mulH y z) _).mono fun e w'' ⟨he, hb⟩ => ⟨he, hcl.out _ _ hb⟩)))
        refine wpQuiet_nil ?_
        intro n
        have hb3 := (hf n).out
        generalize f n = w3 at hb3 ⊢
        have L1 : Hid _ := (La.out.alloc _).up hb3
        have L2 : Hid _ := (Lb.out.alloc _).up hb3
        have L3 : Hid _ := (Lx2.out.alloc _).up hb3
        have L4 : Hid _ := (Lz2.out.alloc _).up hb3
        have b3 : Hid (Below w.heap.size w w3) := (b2.out.alloc b2.out.size _).trans (hb3.mono (by have := b2.out.size; simp; omega))
        clear hb3 hf hcl La Lb Lx2 Lz2 b2
        clear q_a q_b q_c q_d q_e q_f q_g q_i p_a p_b p_c p_d p_e p_f p_g p_i r_a r_b r_c r_d
        go_wp2_with fail
        have e3 := eqW (mulL x (mulL y z)) (mulH x (mulL y z)) (mulL x (mulL y z)) (mulH x (mulL y z))
        simp only [Nm.beq_self, Bool.and_self] at e3
        have m3 := mul_fun (mulL x y) z (mulL_ok _ _) hz
        obtain ⟨t1, t2⟩ := thrice hx hy hz HA.out HB.out
        simp only [t1, t2] at m3
        have M3 : Hid _ := m3
        clear t1 t2 m3
        refine wp_region_up (by kernel_rfl) (by kernel_rfl) (fun U hU f hf hcl => ?_)
        have q := fun n => Lies8.up (l := mulL x y) (h := mulH x y) (k := k2) L1.out (hf n).out
        have q_a := fun n => (q n).a
        have q_b := fun n => (q n).b
        have q_c := fun n => (q n).c
        have q_d := fun n => (q n).d
        have q_e := fun n => (q n).e
        have q_f := fun n => (q n).f
        have q_g := fun n => (q n).g
        have q_i := fun n => (q n).i
        clear q
        have p := fun n => Lies8.up (l := mulL y z) (h := mulH y z) (k := j2) L2.out (hf n).out
        have p_a := fun n => (p n).a
        have p_b := fun n => (p n).b
        have p_c := fun n => (p n).c
        have p_d := fun n => (p n).d
        have p_e := fun n => (p n).e
        have p_f := fun n => (p n).f
        have p_g := fun n => (p n).g
        have p_i := fun n => (p n).i
        clear p
        have r := fun n => Lies.up (x := x) (k := w.heap.size) L3.out (hf n).out
        have r_a := fun n => (r n).a
        have r_b := fun n => (r n).b
        have r_c := fun n => (r n).c
        have r_d := fun n => (r n).d
        clear r
        have t := fun n => Lies.up (x := z) (k := w.heap.size + 1 + 1) L4.out (hf n).out
        have t_a := fun n => (t n).a
        have t_b := fun n => (t n).b
        have t_c := fun n => (t n).c
        have t_d := fun n => (t n).d
        clear t
        repeat (go_big_quiet_step (first | (go_at_call_of 30 (mulL x y).a; exact (low_fun (mulL x y) (mulH x y) _).mono fun e w'' ⟨he, hb⟩ => ⟨he, hcl.out _ _ hb⟩) | (go_at_call_of 30 (mulL y z).a; exact (low_fun (mulL y z) (mulH y z) _).mono fun e w'' ⟨he, hb⟩ => ⟨he, hcl.out _ _ hb⟩) | (go_at_call_of 17 z.a; exact (M3.out _).mono fun e w'' ⟨he, hb⟩ => ⟨he, hcl.out _ _ hb⟩) | (go_at_call_of 17 x.a; exact (mul_fun x (mulL y z) hx (mulL_ok _ _) _).mono fun e w'' ⟨he, hb⟩ => ⟨he, hcl.out _ _ hb⟩)))
        refine wpQuiet_nil ?_
        intro n
        have hb4 := (hf n).out
        generalize f n = w4 at hb4 ⊢
        have b4 : Hid (Below w.heap.size w w4) := b3.out.trans (hb4.mono b3.out.size)
        clear hb4 hf hcl
        go_wp2_with fail
        go_ret
        exact ⟨rfl, b4.out⟩
      · have e1 := neN (mulH x y) ⟨0, 0, 0, 0⟩
        have e2 := neN (mulH y z) ⟨0, 0, 0, 0⟩
        rw [show Nm.beq (mulH x y) ⟨0, 0, 0, 0⟩ = true from Nm.beq_iff.2 hA] at e1
        rw [show Nm.beq (mulH y z) ⟨0, 0, 0, 0⟩ = false from Nm.beq_ne hB] at e2
        clear hA hB
        refine wp_region_up (by kernel_rfl) (by kernel_rfl) (fun U hU f hf hcl => ?_)
        have q := fun n => Lies8.up (l := mulL x y) (h := mulH x y) (k := k2) (La.out.alloc _) (hf n).out
        have q_a := fun n => (q n).a
        have q_b := fun n => (q n).b
        have q_c := fun n => (q n).c
        have q_d := fun n => (q n).d
        have q_e := fun n => (q n).e
        have q_f := fun n => (q n).f
        have q_g := fun n => (q n).g
        have q_i := fun n => (q n).i
        clear q
        have p := fun n => Lies8.up (l := mulL y z) (h := mulH y z) (k := j2) (Lb.out.alloc _) (hf n).out
        have p_a := fun n => (p n).a
        have p_b := fun n => (p n).b
        have p_c := fun n => (p n).c
        have p_d := fun n => (p n).d
        have p_e := fun n => (p n).e
        have p_f := fun n => (p n).f
        have p_g := fun n => (p n).g
        have p_i := fun n => (p n).i
        clear p
        have r := fun n => Lies.up (x := ⟨0, 0, 0, 0⟩) (k := w2.heap.size) (by have := Lies.new (st8 (st8 w2 k2 (mulL x y) (mulH x y)) j2 (mulL y z) (mulH y z)) ⟨0, 0, 0, 0⟩ 24; rwa [size_st8, size_st8] at this) (hf n).out
        have r_a := fun n => (r n).a
        have r_b := fun n => (r n).b
        have r_c := fun n => (r n).c
        have r_d := fun n => (r n).d
        clear r
        repeat (go_big_quiet_step (first | (go_at_call_of 31 (mulL x y).a; exact (high_fun (mulL x y) (mulH x y) _).mono fun e w'' ⟨he, hb⟩ => ⟨he, hcl.out _ _ hb⟩) | (go_at_call_of 31 (mulL y z).a; exact (high_fun (mulL y z) (mulH y z) _).mono fun e w'' ⟨he, hb⟩ => ⟨he, hcl.out _ _ hb⟩)))
        refine wpQuiet_nil ?_
        intro n
        have hb3 := (hf n).out
        generalize f n = w3 at hb3 ⊢
        have b3 : Hid (Below w.heap.size w w3) := (b2.out.alloc b2.out.size _).trans (hb3.mono (by have := b2.out.size; simp; omega))
        clear hb3 hf hcl La Lb Lx2 Lz2 b2
        clear q_a q_b q_c q_d q_e q_f q_g q_i p_a p_b p_c p_d p_e p_f p_g p_i r_a r_b r_c r_d
        go_wp2_with fail
        go_ret
        exact ⟨rfl, b3.out⟩
    · have e1 := neN (mulH x y) ⟨0, 0, 0, 0⟩
      rw [show Nm.beq (mulH x y) ⟨0, 0, 0, 0⟩ = false from Nm.beq_ne hA] at e1
      clear hA
      refine wp_region_up (by kernel_rfl) (by kernel_rfl) (fun U hU f hf hcl => ?_)
      have q := fun n => Lies8.up (l := mulL x y) (h := mulH x y) (k := k2) (La.out.alloc _) (hf n).out
      have q_a := fun n => (q n).a
      have q_b := fun n => (q n).b
      have q_c := fun n => (q n).c
      have q_d := fun n => (q n).d
      have q_e := fun n => (q n).e
      have q_f := fun n => (q n).f
      have q_g := fun n => (q n).g
      have q_i := fun n => (q n).i
      clear q
      have p := fun n => Lies8.up (l := mulL y z) (h := mulH y z) (k := j2) (Lb.out.alloc _) (hf n).out
      have p_a := fun n => (p n).a
      have p_b := fun n => (p n).b
      have p_c := fun n => (p n).c
      have p_d := fun n => (p n).d
      have p_e := fun n => (p n).e
      have p_f := fun n => (p n).f
      have p_g := fun n => (p n).g
      have p_i := fun n => (p n).i
      clear p
      have r := fun n => Lies.up (x := ⟨0, 0, 0, 0⟩) (k := w2.heap.size) (by have := Lies.new (st8 (st8 w2 k2 (mulL x y) (mulH x y)) j2 (mulL y z) (mulH y z)) ⟨0, 0, 0, 0⟩ 24; rwa [size_st8, size_st8] at this) (hf n).out
      have r_a := fun n => (r n).a
      have r_b := fun n => (r n).b
      have r_c := fun n => (r n).c
      have r_d := fun n => (r n).d
      clear r
      repeat (go_big_quiet_step (first | (go_at_call_of 31 (mulL x y).a; exact (high_fun (mulL x y) (mulH x y) _).mono fun e w'' ⟨he, hb⟩ => ⟨he, hcl.out _ _ hb⟩) | (go_at_call_of 31 (mulL y z).a; exact (high_fun (mulL y z) (mulH y z) _).mono fun e w'' ⟨he, hb⟩ => ⟨he, hcl.out _ _ hb⟩)))
      refine wpQuiet_nil ?_
      intro n
      have hb3 := (hf n).out
      generalize f n = w3 at hb3 ⊢
      have b3 : Hid (Below w.heap.size w w3) := (b2.out.alloc b2.out.size _).trans (hb3.mono (by have := b2.out.size; simp; omega))
      clear hb3 hf hcl La Lb Lx2 Lz2 b2
      clear q_a q_b q_c q_d q_e q_f q_g q_i p_a p_b p_c p_d p_e p_f p_g p_i r_a r_b r_c r_d
      go_wp2_with fail
      go_ret
      exact ⟨rfl, b3.out⟩

set_option maxRecDepth 100000 in
theorem limbThrice_lifted (os : Os) (started : os.Started) (H : Type) (enc : TypeId × Value → H) :
    ReturnsInHanded {} Try.checked os 8 .any (Rows.limbThriceSpec.pre6 enc Try.prog Try.f8 Rows.limbThriceRow.domain false) (Rows.limbThriceSpec.post enc Try.prog Try.f8 false true false false) := by
  refine returnsInHanded_of_change (C := Try.checked) Try.own started (by kernel_rfl) Try.func8
    (ChangeSpec.witness6 (enc := enc) (C := Try.checked) false ⟨#[], #[.agg #[.int .u64 0, .int .u64 0, .int .u64 0, .int .u64 0], .agg #[.int .u64 0, .int .u64 0, .int .u64 0, .int .u64 0], .agg #[.int .u64 0, .int .u64 0, .int .u64 0, .int .u64 0]], []⟩ 8 (by kernel_rfl) (by kernel_rfl) (by kernel_rfl) (by kernel_rfl)) ?_
  intro W base args ds gs before hval0 hW hcnd _
  have hval : ∀ (j : Nat) t v, Try.f8.params[j]? = some t → args[j]? = some v → Value.okWide Try.prog W .any base t v := hval0
  have hW' := hW
  obtain ⟨p, q, hA0, hV, rfl, hfz, hnd⟩ := hW
  have hA : DataW.TrodAll enc Try.prog W 0 (fun _ => true) true Try.f8.params.toList args.toList ds p := hA0
  rw [Try.params8] at hA hval
  obtain ⟨v0, v1, v2, d0, d1, d2, p0, p1, p2, rfl, rfl, rfl, h0, h1, h2⟩ := trodAll_three hA
  obtain ⟨rfl, rfl⟩ := trodVars_none hV
  obtain ⟨xs0, l0, rfl, rfl, rfl, w0⟩ := open_arr Try.underlying24 Try.underlying22 Try.cellsU64 Try.cellsNum (hval 0 24 v0 rfl rfl) h0
  obtain ⟨xs1, l1, rfl, rfl, rfl, w1⟩ := open_arr Try.underlying24 Try.underlying22 Try.cellsU64 Try.cellsNum (hval 1 24 v1 rfl rfl) h1
  obtain ⟨xs2, l2, rfl, rfl, rfl, w2⟩ := open_arr Try.underlying24 Try.underlying22 Try.cellsU64 Try.cellsNum (hval 2 24 v2 rfl rfl) h2
  clear hA0 hval0 hval hA h0 h1 h2
  obtain ⟨a0, b0, c0, d0, rfl⟩ := list4 xs0 l0
  have ok0 : (⟨a0, b0, c0, d0⟩ : Nm).ok := ⟨word_of_wf (w0 _ (by simp)), word_of_wf (w0 _ (by simp)), word_of_wf (w0 _ (by simp)), word_of_wf (w0 _ (by simp))⟩
  obtain ⟨a1, b1, c1, d1, rfl⟩ := list4 xs1 l1
  have ok1 : (⟨a1, b1, c1, d1⟩ : Nm).ok := ⟨word_of_wf (w1 _ (by simp)), word_of_wf (w1 _ (by simp)), word_of_wf (w1 _ (by simp)), word_of_wf (w1 _ (by simp))⟩
  obtain ⟨a2, b2, c2, d2, rfl⟩ := list4 xs2 l2
  have ok2 : (⟨a2, b2, c2, d2⟩ : Nm).ok := ⟨word_of_wf (w2 _ (by simp)), word_of_wf (w2 _ (by simp)), word_of_wf (w2 _ (by simp)), word_of_wf (w2 _ (by simp))⟩
  simp only [List.append_nil] at hW'
  refine (thrice_walk ⟨a0, b0, c0, d0⟩ ⟨a1, b1, c1, d1⟩ ⟨a2, b2, c2, d2⟩ ok0 ok1 ok2 W).mono fun e W' ⟨he, hg⟩ => ?_
  subst he
  exact ⟨_, rfl, _, _, _, [], [], [], hW', trodAll_mk1 (shut_bool Try.underlying4 _), trodAll_mk3 (shut_arr Try.underlying24 Try.underlying22 Try.cellsU64 Try.cellsNum l0 w0) (shut_arr Try.underlying24 Try.underlying22 Try.cellsU64 Try.cellsNum l1 w1) (shut_arr Try.underlying24 Try.underlying22 Try.cellsU64 Try.cellsNum l2 w2), rfl, hg.frame _, fun h => by cases h⟩

theorem limbThrice_holds : Rows.LimbThriceSaid :=
  OpenClaim.holds_of_wide 8 Try.f8 rfl rfl rfl rfl rfl rfl rfl ⟨rfl, rfl, rfl, rfl, rfl⟩ rfl rfl rfl rfl rfl (by kernel_rfl) Try.func8 (by kernel_rfl)
    (of_decide_eq_true (by kernel_rfl)) (by unfold Func.isWrapper; first | (rw [if_pos (by decide +kernel)]; kernel_rfl) | (rw [if_neg (by decide +kernel)]; exact ⟨rfl, rfl⟩))
    (fun os started H enc _ => limbThrice_lifted os started H enc)
#print axioms limbThrice_holds
end Go.Proofs.Ytfnpjadfedmjiaa
