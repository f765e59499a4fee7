/- LimbTimes returns true for every three numbers: products don't hang on the order, and are shared out over a sum; one times is nothing new. No condition. -/
import Derived.Test.YtfnpjadfedmjiaaPlus
import Derived.Test.YtfnpjadfedmjiaaArr
import Derived.Test.YtfnpjadfedmjiaaOwn
namespace Go.Proofs.Ytfnpjadfedmjiaa
open Go.RowKit
open Go.ChangeShapes Go.WideShapes Go.ChangeAt
attribute [local go_sem] World.cell?_alloc_some

theorem mulL_comm (x y : Nm) : mulL x y = mulL y x := by unfold mulL; rw [Int.mul_comm]
theorem mulH_comm (x y : Nm) : mulH x y = mulH y x := by unfold mulH; rw [Int.mul_comm]
theorem mul_one_eq {x : Nm} (hx : x.ok) : mulL x ⟨1, 0, 0, 0⟩ = x ∧ mulH x ⟨1, 0, 0, 0⟩ = ⟨0, 0, 0, 0⟩ := by
  have h0 := Nm.val_nonneg hx; have h1 := Nm.val_lt hx
  have e : (⟨1, 0, 0, 0⟩ : Nm).val = 1 := by simp [Nm.val]
  refine ⟨(Nm.eq_of hx ?_).symm, (Nm.eq_of (one_ok ⟨by decide, by decide⟩) ?_).symm⟩
  · rw [e, Int.mul_one, Int.emod_eq_of_lt h0 h1]
  · rw [e, Int.mul_one, Int.ediv_eq_zero_of_lt h0 h1]; simp [Nm.val]
theorem mul_none_eq (x : Nm) : mulL x ⟨0, 0, 0, 0⟩ = ⟨0, 0, 0, 0⟩ ∧ mulH x ⟨0, 0, 0, 0⟩ = ⟨0, 0, 0, 0⟩ := by
  have e : (⟨0, 0, 0, 0⟩ : Nm).val = 0 := by simp [Nm.val]
  refine ⟨(Nm.eq_of (one_ok ⟨by decide, by decide⟩) ?_).symm, (Nm.eq_of (one_ok ⟨by decide, by decide⟩) ?_).symm⟩ <;> rw [e, Int.mul_zero] <;> rfl
/-- The sum of two numbers of eight words. -/
def plusH (l h l' h' : Nm) : Nm := addS (addS h h') ⟨addC l l', 0, 0, 0⟩
theorem plus_val (l h l' h' : Nm) : ∃ c, (addS l l').val + M * (plusH l h l' h').val + M * M * c = (l.val + M * h.val) + (l'.val + M * h'.val) := by
  have e1 := add_val' (x := l) (y := l')
  have e2 := add_val' (x := h) (y := h')
  have e3 := add_val' (x := addS h h') (y := ⟨addC l l', 0, 0, 0⟩)
  have e4 : (⟨addC l l', 0, 0, 0⟩ : Nm).val = addC l l' := by simp [Nm.val]
  refine ⟨addC h h' + addC (addS h h') ⟨addC l l', 0, 0, 0⟩, ?_⟩
  unfold plusH
  rw [e4] at e3
  generalize addC (addS h h') ⟨addC l l', 0, 0, 0⟩ = c3 at *
  generalize (addS (addS h h') ⟨addC l l', 0, 0, 0⟩).val = s3 at *
  generalize (addS h h').val = s2 at *
  generalize (addS l l').val = s1 at *
  unfold M at *
  omega
theorem wide_unique {l h l' h' : Nm} (ol : l.ok) (oh : h.ok) (ol' : l'.ok) (oh' : h'.ok) {c c' : Int} (e : l.val + M * h.val + M * M * c = l'.val + M * h'.val + M * M * c') : l = l' ∧ h = h' := by
  have := Nm.val_nonneg ol; have := Nm.val_lt ol; have := Nm.val_nonneg oh; have := Nm.val_lt oh
  have := Nm.val_nonneg ol'; have := Nm.val_lt ol'; have := Nm.val_nonneg oh'; have := Nm.val_lt oh'
  refine ⟨Nm.ext_val ol ol' ?_, Nm.ext_val oh oh' ?_⟩ <;> (unfold M at *; omega)
theorem times0 {x y z : Nm} (hx : x.ok) (hy : y.ok) (hz : z.ok) (hc : addC y z = 0) : addS (mulL x y) (mulL x z) = mulL x (addS y z) ∧ plusH (mulL x y) (mulH x y) (mulL x z) (mulH x z) = mulH x (addS y z) := by
  obtain ⟨c, e⟩ := plus_val (mulL x y) (mulH x y) (mulL x z) (mulH x z)
  have e1 := mul_val hx hy; have e2 := mul_val hx hz; have e3 := mul_val hx (addS_ok y z)
  have e4 := add_val' (x := y) (y := z)
  rw [hc] at e4
  have e5 : x.val * (addS y z).val = x.val * y.val + x.val * z.val := by rw [← Int.mul_add, ← e4]; simp
  refine wide_unique (addS_ok _ _) (addS_ok _ _) (mulL_ok _ _) (mulH_ok _ _) (c := c) (c' := 0) ?_
  rw [e, e1, e2, e3, e5]
  simp
theorem times1 {x y z : Nm} (hx : x.ok) (hy : y.ok) (hz : z.ok) (hc : addC y z = 1) : addS (mulL x y) (mulL x z) = addS (mulL x (addS y z)) ⟨0, 0, 0, 0⟩ ∧ plusH (mulL x y) (mulH x y) (mulL x z) (mulH x z) = plusH (mulL x (addS y z)) (mulH x (addS y z)) ⟨0, 0, 0, 0⟩ x := by
  obtain ⟨c, e⟩ := plus_val (mulL x y) (mulH x y) (mulL x z) (mulH x z)
  obtain ⟨c', e'⟩ := plus_val (mulL x (addS y z)) (mulH x (addS y z)) ⟨0, 0, 0, 0⟩ x
  have e1 := mul_val hx hy; have e2 := mul_val hx hz; have e3 := mul_val hx (addS_ok y z)
  have e4 := add_val' (x := y) (y := z)
  rw [hc] at e4
  have e5 : x.val * (addS y z).val + M * x.val = x.val * y.val + x.val * z.val := by rw [← Int.mul_add, ← e4, Int.mul_add, Int.mul_one, Int.mul_comm M]
  refine wide_unique (addS_ok _ _) (addS_ok _ _) (addS_ok _ _) (addS_ok _ _) (c := c) (c' := c') ?_
  rw [e, e', e1, e2, e3]
  have e6 : (⟨0, 0, 0, 0⟩ : Nm).val = 0 := by simp [Nm.val]
  rw [e6]
  omega

theorem plus_to {l h l' h' a b : Nm} (ol : l.ok) (oh : h.ok) (ol' : l'.ok) (oh' : h'.ok) (e : addS l l' = a ∧ plusH l h l' h' = b) (w : World) :
    Calls Try.prog 33 #[Wv l h, Wv l' h'] w fun e w' => e = .returned (Wv a b) ∧ Below w.heap.size w w' := by
  obtain ⟨rfl, rfl⟩ := e
  exact plus_fun l h l' h' ol oh ol' oh' w
theorem mul_to {x y a b : Nm} (hx : x.ok) (hy : y.ok) (e : mulL x y = a ∧ mulH x y = b) (w : World) :
    Calls Try.prog 17 #[N x, N y] w fun e w' => e = .returned (Wv a b) ∧ Below w.heap.size w w' := by
  obtain ⟨rfl, rfl⟩ := e
  exact mul_fun x y hx hy w
theorem eqW_self (l h : Nm) (w : World) : (binOp .eql 34 (Wv l h) (Wv l h)).run Try.prog w = .ok (.bool true) w := by
  rw [eqW, Nm.beq_self, Nm.beq_self]; rfl

set_option maxHeartbeats 1000000 in
theorem times_walk (x y z : Nm) (hx : x.ok) (hy : y.ok) (hz : z.ok) (w : World) :
    Calls Try.prog 7 #[N x, N y, N z] w fun e w' => e = .returned (.bool true) ∧ Below w.heap.size w w' := by
  go_enter Try.func7, Try.ntmps7
  go_wp2_with fail
  refine (limbs_any _).mono ?_
  rintro e w1 ⟨rfl, hb1⟩
  have z1 := hb1.size
  try simp at z1
  obtain ⟨qw_0_1, qw_1_1, qw_2_1, qw_3_1⟩ := Lies.up (x := x) (k := w.heap.size) (by constructor <;> simp [go_sem]) hb1
  obtain ⟨qw1_0_1, qw1_1_1, qw1_2_1, qw1_3_1⟩ := Lies.up (x := y) (k := w.heap.size + 1) (by constructor <;> simp [go_sem]) hb1
  obtain ⟨qw11_0_1, qw11_1_1, qw11_2_1, qw11_3_1⟩ := Lies.up (x := z) (k := w.heap.size + 1 + 1) (by constructor <;> simp [go_sem]) hb1
  have b1 : Hid (Below w.heap.size w w1) := by
    refine Below.trans ?_ (hb1.mono (by first | omega | (simp <;> omega)))
    repeat (first | exact Below.refl _ _ | refine Below.drew ?_ | refine Below.setCell ?_ (by first | omega | (simp <;> omega)) _ | refine Below.alloc ?_ (by first | omega | (simp <;> omega)) _)
  clear hb1
  go_wp2_with fail
  refine (add_fun y z hy hz _).mono ?_
  rintro e w2 ⟨rfl, hb2⟩
  have z2 := hb2.size
  try simp at z2
  obtain ⟨qw_0_2, qw_1_2, qw_2_2, qw_3_2⟩ := Lies.up (x := x) (k := w.heap.size) (by constructor <;> simp [go_sem, qw_0_1, qw_1_1, qw_2_1, qw_3_1]) hb2
  obtain ⟨qw1_0_2, qw1_1_2, qw1_2_2, qw1_3_2⟩ := Lies.up (x := y) (k := w.heap.size + 1) (by constructor <;> simp [go_sem, qw1_0_1, qw1_1_1, qw1_2_1, qw1_3_1]) hb2
  obtain ⟨qw11_0_2, qw11_1_2, qw11_2_2, qw11_3_2⟩ := Lies.up (x := z) (k := w.heap.size + 1 + 1) (by constructor <;> simp [go_sem, qw11_0_1, qw11_1_1, qw11_2_1, qw11_3_1]) hb2
  have b2 : Hid (Below w.heap.size w w2) := by
    refine Below.trans ?_ (hb2.mono (by first | omega | (simp <;> omega)))
    repeat (first | exact b1.out | refine Below.drew ?_ | refine Below.setCell ?_ (by first | omega | (simp <;> omega)) _ | refine Below.alloc ?_ (by first | omega | (simp <;> omega)) _)
  clear hb2 b1 qw_0_1 qw_1_1 qw_2_1 qw_3_1 qw1_0_1 qw1_1_1 qw1_2_1 qw1_3_1 qw11_0_1 qw11_1_1 qw11_2_1 qw11_3_1
  go_wp2_with fail
  refine (mul_fun x (addS y z) hx (addS_ok _ _) _).mono ?_
  rintro e w3 ⟨rfl, hb3⟩
  have z3 := hb3.size
  try simp at z3
  obtain ⟨qw_0_3, qw_1_3, qw_2_3, qw_3_3⟩ := Lies.up (x := x) (k := w.heap.size) (by constructor <;> simp [go_sem, qw_0_2, qw_1_2, qw_2_2, qw_3_2]) hb3
  obtain ⟨qw1_0_3, qw1_1_3, qw1_2_3, qw1_3_3⟩ := Lies.up (x := y) (k := w.heap.size + 1) (by constructor <;> simp [go_sem, qw1_0_2, qw1_1_2, qw1_2_2, qw1_3_2]) hb3
  obtain ⟨qw11_0_3, qw11_1_3, qw11_2_3, qw11_3_3⟩ := Lies.up (x := z) (k := w.heap.size + 1 + 1) (by constructor <;> simp [go_sem, qw11_0_2, qw11_1_2, qw11_2_2, qw11_3_2]) hb3
  have b3 : Hid (Below w.heap.size w w3) := by
    refine Below.trans ?_ (hb3.mono (by first | omega | (simp <;> omega)))
    repeat (first | exact b2.out | refine Below.drew ?_ | refine Below.setCell ?_ (by first | omega | (simp <;> omega)) _ | refine Below.alloc ?_ (by first | omega | (simp <;> omega)) _)
  clear hb3 b2 qw_0_2 qw_1_2 qw_2_2 qw_3_2 qw1_0_2 qw1_1_2 qw1_2_2 qw1_3_2 qw11_0_2 qw11_1_2 qw11_2_2 qw11_3_2
  have Lx0 : Hid (Lies w3 w.heap.size x) := ⟨qw_0_3, qw_1_3, qw_2_3, qw_3_3⟩
  have Ly0 : Hid (Lies w3 (w.heap.size + 1) y) := ⟨qw1_0_3, qw1_1_3, qw1_2_3, qw1_3_3⟩
  have Lz0 : Hid (Lies w3 (w.heap.size + 1 + 1) z) := ⟨qw11_0_3, qw11_1_3, qw11_2_3, qw11_3_3⟩
  have c01 := addC_01 hy hz
  obtain ⟨c0, c1⟩ := c01
  by_cases hc : addC y z = 1
  · have hb : (addC y z == 1) = true := by simp [hc]
    have HC : Hid _ := hc
    clear hc
    go_wp2_with fail
    have Lw0 : Hid (Cells8 (w3.alloc (.cells #[.int .u64 (mulL x (addS y z)).a, .int .u64 (mulL x (addS y z)).b, .int .u64 (mulL x (addS y z)).c, .int .u64 (mulL x (addS y z)).d, .int .u64 (mulH x (addS y z)).a, .int .u64 (mulH x (addS y z)).b, .int .u64 (mulH x (addS y z)).c, .int .u64 (mulH x (addS y z)).d] 34)) w3.heap.size (.int .u64 (mulL x (addS y z)).a) (.int .u64 (mulL x (addS y z)).b) (.int .u64 (mulL x (addS y z)).c) (.int .u64 (mulL x (addS y z)).d) (.int .u64 (mulH x (addS y z)).a) (.int .u64 (mulH x (addS y z)).b) (.int .u64 (mulH x (addS y z)).c) (.int .u64 (mulH x (addS y z)).d)) := by constructor <;> simp [go_sem]
    refine wp_region_up_then 5 (by kernel_rfl) (by kernel_rfl) (by kernel_rfl) (by kernel_rfl) (by decide) (fun _ _ d _ _ h => by cases d <;> exact h) (fun U hU f hf hcl => ?_)
    have q := fun n => Lies.up (x := x) (k := w.heap.size) (Lx0.out.alloc _) (hf n).out
    have q_a := fun n => (q n).a
    have q_b := fun n => (q n).b
    have q_c := fun n => (q n).c
    have q_d := fun n => (q n).d
    clear q
    have t := fun n => Lies8.up (l := mulL x (addS y z)) (h := mulH x (addS y z)) (k := w3.heap.size) Lw0.out.lies (hf n).out
    have t_a := fun n => (t n).a
    have t_b := fun n => (t n).b
    have t_c := fun n => (t n).c
    have t_d := fun n => (t n).d
    have t_e := fun n => (t n).e
    have t_f := fun n => (t n).f
    have t_g := fun n => (t n).g
    have t_i := fun n => (t n).i
    clear t
    simp only [List.take_succ_cons, List.take_zero, List.drop_succ_cons, List.drop_zero]
    repeat (go_big_quiet_step (fail))
    go_big_quiet_step ((exact (wideOf_fun ⟨0, 0, 0, 0⟩ x _).mono fun e w'' ⟨he, hb⟩ => ⟨he, hcl.out _ _ hb⟩))
    repeat (go_big_quiet_step (fail))
    go_big_quiet_step ((exact (plus_to (mulL_ok _ _) (mulH_ok _ _) (one_ok ⟨by decide, by decide⟩) hx ⟨rfl, rfl⟩ _).mono fun e w'' ⟨he, hb⟩ => ⟨he, hcl.out _ _ hb⟩))
    refine wpQuiet_nil ?_
    intro n
    have hb4 := (hf n).out
    generalize f n = w4 at hb4 ⊢
    clear hf hcl q_a q_b q_c q_d t_a t_b t_c t_d t_e t_f t_g t_i
    have Lw4 : Hid _ := Lw0.out.up hb4
    obtain ⟨d0, d1, d2, d3, d4, d5, d6, d7, dz⟩ := Lw4.out
    have n0 := lt_of_cell Lx0.out.a
    have n1 := lt_of_cell Ly0.out.a
    have n2 := lt_of_cell Lz0.out.a
    have Lx : Hid (Lies (st8 w4 w3.heap.size (addS (mulL x (addS y z)) ⟨0, 0, 0, 0⟩) (plusH (mulL x (addS y z)) (mulH x (addS y z)) ⟨0, 0, 0, 0⟩ x)) w.heap.size x) := ((Lx0.out.alloc _).up hb4).st8_ne (by omega)
    have Ly : Hid (Lies (st8 w4 w3.heap.size (addS (mulL x (addS y z)) ⟨0, 0, 0, 0⟩) (plusH (mulL x (addS y z)) (mulH x (addS y z)) ⟨0, 0, 0, 0⟩ x)) (w.heap.size + 1) y) := ((Ly0.out.alloc _).up hb4).st8_ne (by omega)
    have Lz : Hid (Lies (st8 w4 w3.heap.size (addS (mulL x (addS y z)) ⟨0, 0, 0, 0⟩) (plusH (mulL x (addS y z)) (mulH x (addS y z)) ⟨0, 0, 0, 0⟩ x)) (w.heap.size + 1 + 1) z) := ((Lz0.out.alloc _).up hb4).st8_ne (by omega)
    have Lw : Hid (Lies8 (st8 w4 w3.heap.size (addS (mulL x (addS y z)) ⟨0, 0, 0, 0⟩) (plusH (mulL x (addS y z)) (mulH x (addS y z)) ⟨0, 0, 0, 0⟩ x)) w3.heap.size (addS (mulL x (addS y z)) ⟨0, 0, 0, 0⟩) (plusH (mulL x (addS y z)) (mulH x (addS y z)) ⟨0, 0, 0, 0⟩ x)) := Lw4.out.st8_self
    have bE : Hid (Below w.heap.size w (st8 w4 w3.heap.size (addS (mulL x (addS y z)) ⟨0, 0, 0, 0⟩) (plusH (mulL x (addS y z)) (mulH x (addS y z)) ⟨0, 0, 0, 0⟩ x))) := below_st8 ((b3.out.alloc b3.out.size _).trans (hb4.mono (by have := b3.out.size; simp; omega))) b3.out.size
    clear hb4 Lx0 Ly0 Lz0 Lw0 Lw4 n0 n1 n2
    go_wp2_with fail
    clear d0 d1 d2 d3 d4 d5 d6 d7 dz
    refine wp_region_up (by kernel_rfl) (by kernel_rfl) (fun U hU f hf hcl => ?_)
    have q := fun n => Lies.up (x := x) (k := w.heap.size) Lx.out (hf n).out
    have q_a := fun n => (q n).a
    have q_b := fun n => (q n).b
    have q_c := fun n => (q n).c
    have q_d := fun n => (q n).d
    clear q
    have p := fun n => Lies.up (x := y) (k := w.heap.size + 1) Ly.out (hf n).out
    have p_a := fun n => (p n).a
    have p_b := fun n => (p n).b
    have p_c := fun n => (p n).c
    have p_d := fun n => (p n).d
    clear p
    have r := fun n => Lies.up (x := z) (k := w.heap.size + 1 + 1) Lz.out (hf n).out
    have r_a := fun n => (r n).a
    have r_b := fun n => (r n).b
    have r_c := fun n => (r n).c
    have r_d := fun n => (r n).d
    clear r
    have t := fun n => Lies8.up (l := addS (mulL x (addS y z)) ⟨0, 0, 0, 0⟩) (h := plusH (mulL x (addS y z)) (mulH x (addS y z)) ⟨0, 0, 0, 0⟩ x) (k := w3.heap.size) Lw.out (hf n).out
    have t_a := fun n => (t n).a
    have t_b := fun n => (t n).b
    have t_c := fun n => (t n).c
    have t_d := fun n => (t n).d
    have t_e := fun n => (t n).e
    have t_f := fun n => (t n).f
    have t_g := fun n => (t n).g
    have t_i := fun n => (t n).i
    clear t
    have E1 := eqW_self (mulL x y) (mulH x y)
    have E2 := eqW_self (addS (mulL x (addS y z)) ⟨0, 0, 0, 0⟩) (plusH (mulL x (addS y z)) (mulH x (addS y z)) ⟨0, 0, 0, 0⟩ x)
    have E3 := eqW_self x ⟨0, 0, 0, 0⟩
    have E4 := eqW_self ⟨0, 0, 0, 0⟩ ⟨0, 0, 0, 0⟩
    repeat (go_big_quiet_step (fail))
    go_big_quiet_step ((exact (mul_fun x y hx hy _).mono fun e w'' ⟨he, hb⟩ => ⟨he, hcl.out _ _ hb⟩))
    repeat (go_big_quiet_step (fail))
    go_big_quiet_step ((exact (mul_to hy hx ⟨mulL_comm y x, mulH_comm y x⟩ _).mono fun e w'' ⟨he, hb⟩ => ⟨he, hcl.out _ _ hb⟩))
    repeat (go_big_quiet_step (fail))
    go_big_quiet_step ((exact (mul_fun x y hx hy _).mono fun e w'' ⟨he, hb⟩ => ⟨he, hcl.out _ _ hb⟩))
    repeat (go_big_quiet_step (fail))
    go_big_quiet_step ((exact (mul_fun x z hx hz _).mono fun e w'' ⟨he, hb⟩ => ⟨he, hcl.out _ _ hb⟩))
    repeat (go_big_quiet_step (fail))
    go_big_quiet_step ((exact (plus_to (mulL_ok _ _) (mulH_ok _ _) (mulL_ok _ _) (mulH_ok _ _) (times1 hx hy hz HC.out) _).mono fun e w'' ⟨he, hb⟩ => ⟨he, hcl.out _ _ hb⟩))
    repeat (go_big_quiet_step (fail))
    go_big_quiet_step ((exact (mul_to hx (one_ok ⟨by decide, by decide⟩) (mul_one_eq hx) _).mono fun e w'' ⟨he, hb⟩ => ⟨he, hcl.out _ _ hb⟩))
    repeat (go_big_quiet_step (fail))
    go_big_quiet_step ((exact (wide_fun x _).mono fun e w'' ⟨he, hb⟩ => ⟨he, hcl.out _ _ hb⟩))
    repeat (go_big_quiet_step (fail))
    go_big_quiet_step ((exact (mul_to hx (one_ok ⟨by decide, by decide⟩) (mul_none_eq x) _).mono fun e w'' ⟨he, hb⟩ => ⟨he, hcl.out _ _ hb⟩))
    repeat (go_big_quiet_step (fail))
    refine wpQuiet_nil ?_
    intro n
    have hb5 := (hf n).out
    generalize f n = w5 at hb5 ⊢
    have b5 : Hid (Below w.heap.size w w5) := bE.out.trans (hb5.mono bE.out.size)
    clear hb5 hf hcl E1 E2 E3 E4
    go_wp2_with fail
    go_ret
    exact ⟨rfl, b5.out⟩
  · have hb : (addC y z == 1) = false := by simp [hc]
    have HC : Hid (addC y z = 0) := by show _ = _; omega
    clear hc
    go_wp2_with fail
    have Lx : Hid _ := Lx0.out.alloc (.cells #[.int .u64 (mulL x (addS y z)).a, .int .u64 (mulL x (addS y z)).b, .int .u64 (mulL x (addS y z)).c, .int .u64 (mulL x (addS y z)).d, .int .u64 (mulH x (addS y z)).a, .int .u64 (mulH x (addS y z)).b, .int .u64 (mulH x (addS y z)).c, .int .u64 (mulH x (addS y z)).d] 34)
    have Ly : Hid _ := Ly0.out.alloc (.cells #[.int .u64 (mulL x (addS y z)).a, .int .u64 (mulL x (addS y z)).b, .int .u64 (mulL x (addS y z)).c, .int .u64 (mulL x (addS y z)).d, .int .u64 (mulH x (addS y z)).a, .int .u64 (mulH x (addS y z)).b, .int .u64 (mulH x (addS y z)).c, .int .u64 (mulH x (addS y z)).d] 34)
    have Lz : Hid _ := Lz0.out.alloc (.cells #[.int .u64 (mulL x (addS y z)).a, .int .u64 (mulL x (addS y z)).b, .int .u64 (mulL x (addS y z)).c, .int .u64 (mulL x (addS y z)).d, .int .u64 (mulH x (addS y z)).a, .int .u64 (mulH x (addS y z)).b, .int .u64 (mulH x (addS y z)).c, .int .u64 (mulH x (addS y z)).d] 34)
    have Lw : Hid (Lies8 (w3.alloc (.cells #[.int .u64 (mulL x (addS y z)).a, .int .u64 (mulL x (addS y z)).b, .int .u64 (mulL x (addS y z)).c, .int .u64 (mulL x (addS y z)).d, .int .u64 (mulH x (addS y z)).a, .int .u64 (mulH x (addS y z)).b, .int .u64 (mulH x (addS y z)).c, .int .u64 (mulH x (addS y z)).d] 34)) w3.heap.size (mulL x (addS y z)) (mulH x (addS y z))) := by constructor <;> simp [go_sem]
    have bE : Hid (Below w.heap.size w (w3.alloc (.cells #[.int .u64 (mulL x (addS y z)).a, .int .u64 (mulL x (addS y z)).b, .int .u64 (mulL x (addS y z)).c, .int .u64 (mulL x (addS y z)).d, .int .u64 (mulH x (addS y z)).a, .int .u64 (mulH x (addS y z)).b, .int .u64 (mulH x (addS y z)).c, .int .u64 (mulH x (addS y z)).d] 34))) := b3.out.alloc b3.out.size _
    clear Lx0 Ly0 Lz0
    refine wp_region_up (by kernel_rfl) (by kernel_rfl) (fun U hU f hf hcl => ?_)
    have q := fun n => Lies.up (x := x) (k := w.heap.size) Lx.out (hf n).out
    have q_a := fun n => (q n).a
    have q_b := fun n => (q n).b
    have q_c := fun n => (q n).c
    have q_d := fun n => (q n).d
    clear q
    have p := fun n => Lies.up (x := y) (k := w.heap.size + 1) Ly.out (hf n).out
    have p_a := fun n => (p n).a
    have p_b := fun n => (p n).b
    have p_c := fun n => (p n).c
    have p_d := fun n => (p n).d
    clear p
    have r := fun n => Lies.up (x := z) (k := w.heap.size + 1 + 1) Lz.out (hf n).out
    have r_a := fun n => (r n).a
    have r_b := fun n => (r n).b
    have r_c := fun n => (r n).c
    have r_d := fun n => (r n).d
    clear r
    have t := fun n => Lies8.up (l := mulL x (addS y z)) (h := mulH x (addS y z)) (k := w3.heap.size) Lw.out (hf n).out
    have t_a := fun n => (t n).a
    have t_b := fun n => (t n).b
    have t_c := fun n => (t n).c
    have t_d := fun n => (t n).d
    have t_e := fun n => (t n).e
    have t_f := fun n => (t n).f
    have t_g := fun n => (t n).g
    have t_i := fun n => (t n).i
    clear t
    have E1 := eqW_self (mulL x y) (mulH x y)
    have E2 := eqW_self (mulL x (addS y z)) (mulH x (addS y z))
    have E3 := eqW_self x ⟨0, 0, 0, 0⟩
    have E4 := eqW_self ⟨0, 0, 0, 0⟩ ⟨0, 0, 0, 0⟩
    repeat (go_big_quiet_step (fail))
    go_big_quiet_step ((exact (mul_fun x y hx hy _).mono fun e w'' ⟨he, hb⟩ => ⟨he, hcl.out _ _ hb⟩))
    repeat (go_big_quiet_step (fail))
    go_big_quiet_step ((exact (mul_to hy hx ⟨mulL_comm y x, mulH_comm y x⟩ _).mono fun e w'' ⟨he, hb⟩ => ⟨he, hcl.out _ _ hb⟩))
    repeat (go_big_quiet_step (fail))
    go_big_quiet_step ((exact (mul_fun x y hx hy _).mono fun e w'' ⟨he, hb⟩ => ⟨he, hcl.out _ _ hb⟩))
    repeat (go_big_quiet_step (fail))
    go_big_quiet_step ((exact (mul_fun x z hx hz _).mono fun e w'' ⟨he, hb⟩ => ⟨he, hcl.out _ _ hb⟩))
    repeat (go_big_quiet_step (fail))
    go_big_quiet_step ((exact (plus_to (mulL_ok _ _) (mulH_ok _ _) (mulL_ok _ _) (mulH_ok _ _) (times0 hx hy hz HC.out) _).mono fun e w'' ⟨he, hb⟩ => ⟨he, hcl.out _ _ hb⟩))
    repeat (go_big_quiet_step (fail))
    go_big_quiet_step ((exact (mul_to hx (one_ok ⟨by decide, by decide⟩) (mul_one_eq hx) _).mono fun e w'' ⟨he, hb⟩ => ⟨he, hcl.out _ _ hb⟩))
    repeat (go_big_quiet_step (fail))
    go_big_quiet_step ((exact (wide_fun x _).mono fun e w'' ⟨he, hb⟩ => ⟨he, hcl.out _ _ hb⟩))
    repeat (go_big_quiet_step (fail))
    go_big_quiet_step ((exact (mul_to hx (one_ok ⟨by decide, by decide⟩) (mul_none_eq x) _).mono fun e w'' ⟨he, hb⟩ => ⟨he, hcl.out _ _ hb⟩))
    repeat (go_big_quiet_step (fail))
    refine wpQuiet_nil ?_
    intro n
    have hb5 := (hf n).out
    generalize f n = w5 at hb5 ⊢
    have b5 : Hid (Below w.heap.size w w5) := bE.out.trans (hb5.mono bE.out.size)
    clear hb5 hf hcl E1 E2 E3 E4
    go_wp2_with fail
    go_ret
    exact ⟨rfl, b5.out⟩

set_option maxRecDepth 100000 in
theorem limbTimes_lifted (os : Os) (started : os.Started) (H : Type) (enc : TypeId × Value → H) :
    ReturnsInHanded {} Try.checked os 7 .any (Rows.limbTimesSpec.pre6 enc Try.prog Try.f7 Rows.limbTimesRow.domain false) (Rows.limbTimesSpec.post enc Try.prog Try.f7 false true false false) := by
  refine returnsInHanded_of_change (C := Try.checked) Try.own started (by kernel_rfl) Try.func7
    (ChangeSpec.witness6 (enc := enc) (C := Try.checked) false ⟨#[], #[.agg #[.int .u64 0, .int .u64 0, .int .u64 0, .int .u64 0], .agg #[.int .u64 0, .int .u64 0, .int .u64 0, .int .u64 0], .agg #[.int .u64 0, .int .u64 0, .int .u64 0, .int .u64 0]], []⟩ 8 (by kernel_rfl) (by kernel_rfl) (by kernel_rfl) (by kernel_rfl)) ?_
  intro W base args ds gs before hval0 hW hcnd _
  have hval : ∀ (j : Nat) t v, Try.f7.params[j]? = some t → args[j]? = some v → Value.okWide Try.prog W .any base t v := hval0
  have hW' := hW
  obtain ⟨p, q, hA0, hV, rfl, hfz, hnd⟩ := hW
  have hA : DataW.TrodAll enc Try.prog W 0 (fun _ => true) true Try.f7.params.toList args.toList ds p := hA0
  rw [Try.params7] at hA hval
  obtain ⟨v0, v1, v2, d0, d1, d2, p0, p1, p2, rfl, rfl, rfl, h0, h1, h2⟩ := trodAll_three hA
  obtain ⟨rfl, rfl⟩ := trodVars_none hV
  obtain ⟨xs0, l0, rfl, rfl, rfl, w0⟩ := open_arr Try.underlying24 Try.underlying22 Try.cellsU64 Try.cellsNum (hval 0 24 v0 rfl rfl) h0
  obtain ⟨xs1, l1, rfl, rfl, rfl, w1⟩ := open_arr Try.underlying24 Try.underlying22 Try.cellsU64 Try.cellsNum (hval 1 24 v1 rfl rfl) h1
  obtain ⟨xs2, l2, rfl, rfl, rfl, w2⟩ := open_arr Try.underlying24 Try.underlying22 Try.cellsU64 Try.cellsNum (hval 2 24 v2 rfl rfl) h2
  clear hA0 hval0 hval hA h0 h1 h2
  obtain ⟨a0, b0, c0, d0, rfl⟩ := list4 xs0 l0
  have ok0 : (⟨a0, b0, c0, d0⟩ : Nm).ok := ⟨word_of_wf (w0 _ (by simp)), word_of_wf (w0 _ (by simp)), word_of_wf (w0 _ (by simp)), word_of_wf (w0 _ (by simp))⟩
  obtain ⟨a1, b1, c1, d1, rfl⟩ := list4 xs1 l1
  have ok1 : (⟨a1, b1, c1, d1⟩ : Nm).ok := ⟨word_of_wf (w1 _ (by simp)), word_of_wf (w1 _ (by simp)), word_of_wf (w1 _ (by simp)), word_of_wf (w1 _ (by simp))⟩
  obtain ⟨a2, b2, c2, d2, rfl⟩ := list4 xs2 l2
  have ok2 : (⟨a2, b2, c2, d2⟩ : Nm).ok := ⟨word_of_wf (w2 _ (by simp)), word_of_wf (w2 _ (by simp)), word_of_wf (w2 _ (by simp)), word_of_wf (w2 _ (by simp))⟩
  simp only [List.append_nil] at hW'
  refine (times_walk ⟨a0, b0, c0, d0⟩ ⟨a1, b1, c1, d1⟩ ⟨a2, b2, c2, d2⟩ ok0 ok1 ok2 W).mono fun e W' ⟨he, hg⟩ => ?_
  subst he
  exact ⟨_, rfl, _, _, _, [], [], [], hW', trodAll_mk1 (shut_bool Try.underlying4 _), trodAll_mk3 (shut_arr Try.underlying24 Try.underlying22 Try.cellsU64 Try.cellsNum l0 w0) (shut_arr Try.underlying24 Try.underlying22 Try.cellsU64 Try.cellsNum l1 w1) (shut_arr Try.underlying24 Try.underlying22 Try.cellsU64 Try.cellsNum l2 w2), rfl, hg.frame _, fun h => by cases h⟩

theorem limbTimes_holds : Rows.LimbTimesSaid :=
  OpenClaim.holds_of_wide 7 Try.f7 rfl rfl rfl rfl rfl rfl rfl ⟨rfl, rfl, rfl, rfl, rfl⟩ rfl rfl rfl rfl rfl (by kernel_rfl) Try.func7 (by kernel_rfl)
    (of_decide_eq_true (by kernel_rfl)) (by unfold Func.isWrapper; first | (rw [if_pos (by decide +kernel)]; kernel_rfl) | (rw [if_neg (by decide +kernel)]; exact ⟨rfl, rfl⟩))
    (fun os started H enc _ => limbTimes_lifted os started H enc)
#print axioms limbTimes_holds
end Go.Proofs.Ytfnpjadfedmjiaa
