/- Texts that were joined: MulW, MulV, NmN, Prime, PrimeL, OrdN, ScD, AdN. -/
import Derived.Test.YtfknkfninjjgbabDoorQNumToMul
import Derived.Test.YtfknkfninjjgbabDoorQUp
import Derived.Test.YtfknkfninjjgbabDoorRows
/- The contract of limb.Mul: the product of two numbers of four words, as one of eight. -/
namespace Go.Proofs.YtfknkfninjjgbabDoor
open Go.RowKit
attribute [local go_sem] setCell_drewN
set_option maxHeartbeats 4000000 in
theorem mul_walk (x y : Nm) (r00 k00 r01 k01 r02 k02 r03 k03 r10 k10 r11 k11 r12 k12 r13 k13 r20 k20 r21 k21 r22 k22 r23 k23 r30 k30 r31 k31 r32 k32 r33 k33 : Int) (w : World)
    (h00 : Hid (∀ w, Calls Tryd.prog 75 #[.int .u64 x.a, .int .u64 y.a, .int .u64 0, .int .u64 0] w fun e w' => e = .returned (.tuple #[.int .u64 r00, .int .u64 k00]) ∧ w' = w))
    (h01 : Hid (∀ w, Calls Tryd.prog 75 #[.int .u64 x.a, .int .u64 y.b, .int .u64 0, .int .u64 k00] w fun e w' => e = .returned (.tuple #[.int .u64 r01, .int .u64 k01]) ∧ w' = w))
    (h02 : Hid (∀ w, Calls Tryd.prog 75 #[.int .u64 x.a, .int .u64 y.c, .int .u64 0, .int .u64 k01] w fun e w' => e = .returned (.tuple #[.int .u64 r02, .int .u64 k02]) ∧ w' = w))
    (h03 : Hid (∀ w, Calls Tryd.prog 75 #[.int .u64 x.a, .int .u64 y.d, .int .u64 0, .int .u64 k02] w fun e w' => e = .returned (.tuple #[.int .u64 r03, .int .u64 k03]) ∧ w' = w))
    (h10 : Hid (∀ w, Calls Tryd.prog 75 #[.int .u64 x.b, .int .u64 y.a, .int .u64 r01, .int .u64 0] w fun e w' => e = .returned (.tuple #[.int .u64 r10, .int .u64 k10]) ∧ w' = w))
    (h11 : Hid (∀ w, Calls Tryd.prog 75 #[.int .u64 x.b, .int .u64 y.b, .int .u64 r02, .int .u64 k10] w fun e w' => e = .returned (.tuple #[.int .u64 r11, .int .u64 k11]) ∧ w' = w))
    (h12 : Hid (∀ w, Calls Tryd.prog 75 #[.int .u64 x.b, .int .u64 y.c, .int .u64 r03, .int .u64 k11] w fun e w' => e = .returned (.tuple #[.int .u64 r12, .int .u64 k12]) ∧ w' = w))
    (h13 : Hid (∀ w, Calls Tryd.prog 75 #[.int .u64 x.b, .int .u64 y.d, .int .u64 k03, .int .u64 k12] w fun e w' => e = .returned (.tuple #[.int .u64 r13, .int .u64 k13]) ∧ w' = w))
    (h20 : Hid (∀ w, Calls Tryd.prog 75 #[.int .u64 x.c, .int .u64 y.a, .int .u64 r11, .int .u64 0] w fun e w' => e = .returned (.tuple #[.int .u64 r20, .int .u64 k20]) ∧ w' = w))
    (h21 : Hid (∀ w, Calls Tryd.prog 75 #[.int .u64 x.c, .int .u64 y.b, .int .u64 r12, .int .u64 k20] w fun e w' => e = .returned (.tuple #[.int .u64 r21, .int .u64 k21]) ∧ w' = w))
    (h22 : Hid (∀ w, Calls Tryd.prog 75 #[.int .u64 x.c, .int .u64 y.c, .int .u64 r13, .int .u64 k21] w fun e w' => e = .returned (.tuple #[.int .u64 r22, .int .u64 k22]) ∧ w' = w))
    (h23 : Hid (∀ w, Calls Tryd.prog 75 #[.int .u64 x.c, .int .u64 y.d, .int .u64 k13, .int .u64 k22] w fun e w' => e = .returned (.tuple #[.int .u64 r23, .int .u64 k23]) ∧ w' = w))
    (h30 : Hid (∀ w, Calls Tryd.prog 75 #[.int .u64 x.d, .int .u64 y.a, .int .u64 r21, .int .u64 0] w fun e w' => e = .returned (.tuple #[.int .u64 r30, .int .u64 k30]) ∧ w' = w))
    (h31 : Hid (∀ w, Calls Tryd.prog 75 #[.int .u64 x.d, .int .u64 y.b, .int .u64 r22, .int .u64 k30] w fun e w' => e = .returned (.tuple #[.int .u64 r31, .int .u64 k31]) ∧ w' = w))
    (h32 : Hid (∀ w, Calls Tryd.prog 75 #[.int .u64 x.d, .int .u64 y.c, .int .u64 r23, .int .u64 k31] w fun e w' => e = .returned (.tuple #[.int .u64 r32, .int .u64 k32]) ∧ w' = w))
    (h33 : Hid (∀ w, Calls Tryd.prog 75 #[.int .u64 x.d, .int .u64 y.d, .int .u64 k23, .int .u64 k32] w fun e w' => e = .returned (.tuple #[.int .u64 r33, .int .u64 k33]) ∧ w' = w)) :
    Calls Tryd.prog 59 #[N x, N y] w fun e w' => e = .returned (Wv ⟨r00, r10, r20, r30⟩ ⟨r31, r32, r33, k33⟩) ∧ Below w.heap.size w w' := by
  go_enter Tryd.func59, Tryd.ntmps59
  go_wp2
  refine wp_loop_rounds 5 ?_
  rw [rounds_succ]
  go_wp2
  refine wp_loop_rounds 5 ?_
  rw [rounds_succ]
  go_wp2
  refine wp_region_drew_then 20 (by kernel_rfl) (by kernel_rfl) (by kernel_rfl) (by kernel_rfl) (by decide) (fun _ _ d _ _ h => by cases d <;> exact h) ?_
  simp only [List.take_succ_cons, List.take_zero, List.drop_succ_cons, List.drop_zero]
  repeat (go_big_quiet_step ((go_at_call 75; exact (h00.out _).mono fun e w'' ⟨he, hw⟩ => ⟨he, _, hw⟩)))
  refine wpQuiet_nil ?_
  intro n
  go_wp2
  rw [rounds_succ]
  go_wp2
  refine wp_region_drew_then 20 (by kernel_rfl) (by kernel_rfl) (by kernel_rfl) (by kernel_rfl) (by decide) (fun _ _ d _ _ h => by cases d <;> exact h) ?_
  simp only [List.take_succ_cons, List.take_zero, List.drop_succ_cons, List.drop_zero]
  repeat (go_big_quiet_step ((go_at_call 75; exact (h01.out _).mono fun e w'' ⟨he, hw⟩ => ⟨he, _, hw⟩)))
  refine wpQuiet_nil ?_
  intro n
  go_wp2
  rw [rounds_succ]
  go_wp2
  refine wp_region_drew_then 20 (by kernel_rfl) (by kernel_rfl) (by kernel_rfl) (by kernel_rfl) (by decide) (fun _ _ d _ _ h => by cases d <;> exact h) ?_
  simp only [List.take_succ_cons, List.take_zero, List.drop_succ_cons, List.drop_zero]
  repeat (go_big_quiet_step ((go_at_call 75; exact (h02.out _).mono fun e w'' ⟨he, hw⟩ => ⟨he, _, hw⟩)))
  refine wpQuiet_nil ?_
  intro n
  go_wp2
  rw [rounds_succ]
  go_wp2
  refine wp_region_drew_then 20 (by kernel_rfl) (by kernel_rfl) (by kernel_rfl) (by kernel_rfl) (by decide) (fun _ _ d _ _ h => by cases d <;> exact h) ?_
  simp only [List.take_succ_cons, List.take_zero, List.drop_succ_cons, List.drop_zero]
  repeat (go_big_quiet_step ((go_at_call 75; exact (h03.out _).mono fun e w'' ⟨he, hw⟩ => ⟨he, _, hw⟩)))
  refine wpQuiet_nil ?_
  intro n
  go_wp2
  rw [rounds_succ]
  go_wp2
  rw [rounds_succ]
  go_wp2
  refine wp_loop_rounds 5 ?_
  rw [rounds_succ]
  go_wp2
  refine wp_region_drew_then 20 (by kernel_rfl) (by kernel_rfl) (by kernel_rfl) (by kernel_rfl) (by decide) (fun _ _ d _ _ h => by cases d <;> exact h) ?_
  simp only [List.take_succ_cons, List.take_zero, List.drop_succ_cons, List.drop_zero]
  repeat (go_big_quiet_step ((go_at_call 75; exact (h10.out _).mono fun e w'' ⟨he, hw⟩ => ⟨he, _, hw⟩)))
  refine wpQuiet_nil ?_
  intro n
  go_wp2
  rw [rounds_succ]
  go_wp2
  refine wp_region_drew_then 20 (by kernel_rfl) (by kernel_rfl) (by kernel_rfl) (by kernel_rfl) (by decide) (fun _ _ d _ _ h => by cases d <;> exact h) ?_
  simp only [List.take_succ_cons, List.take_zero, List.drop_succ_cons, List.drop_zero]
  repeat (go_big_quiet_step ((go_at_call 75; exact (h11.out _).mono fun e w'' ⟨he, hw⟩ => ⟨he, _, hw⟩)))
  refine wpQuiet_nil ?_
  intro n
  go_wp2
  rw [rounds_succ]
  go_wp2
  refine wp_region_drew_then 20 (by kernel_rfl) (by kernel_rfl) (by kernel_rfl) (by kernel_rfl) (by decide) (fun _ _ d _ _ h => by cases d <;> exact h) ?_
  simp only [List.take_succ_cons, List.take_zero, List.drop_succ_cons, List.drop_zero]
  repeat (go_big_quiet_step ((go_at_call 75; exact (h12.out _).mono fun e w'' ⟨he, hw⟩ => ⟨he, _, hw⟩)))
  refine wpQuiet_nil ?_
  intro n
  go_wp2
  rw [rounds_succ]
  go_wp2
  refine wp_region_drew_then 20 (by kernel_rfl) (by kernel_rfl) (by kernel_rfl) (by kernel_rfl) (by decide) (fun _ _ d _ _ h => by cases d <;> exact h) ?_
  simp only [List.take_succ_cons, List.take_zero, List.drop_succ_cons, List.drop_zero]
  repeat (go_big_quiet_step ((go_at_call 75; exact (h13.out _).mono fun e w'' ⟨he, hw⟩ => ⟨he, _, hw⟩)))
  refine wpQuiet_nil ?_
  intro n
  go_wp2
  rw [rounds_succ]
  go_wp2
  rw [rounds_succ]
  go_wp2
  refine wp_loop_rounds 5 ?_
  rw [rounds_succ]
  go_wp2
  refine wp_region_drew_then 20 (by kernel_rfl) (by kernel_rfl) (by kernel_rfl) (by kernel_rfl) (by decide) (fun _ _ d _ _ h => by cases d <;> exact h) ?_
  simp only [List.take_succ_cons, List.take_zero, List.drop_succ_cons, List.drop_zero]
  repeat (go_big_quiet_step ((go_at_call 75; exact (h20.out _).mono fun e w'' ⟨he, hw⟩ => ⟨he, _, hw⟩)))
  refine wpQuiet_nil ?_
  intro n
  go_wp2
  rw [rounds_succ]
  go_wp2
  refine wp_region_drew_then 20 (by kernel_rfl) (by kernel_rfl) (by kernel_rfl) (by kernel_rfl) (by decide) (fun _ _ d _ _ h => by cases d <;> exact h) ?_
  simp only [List.take_succ_cons, List.take_zero, List.drop_succ_cons, List.drop_zero]
  repeat (go_big_quiet_step ((go_at_call 75; exact (h21.out _).mono fun e w'' ⟨he, hw⟩ => ⟨he, _, hw⟩)))
  refine wpQuiet_nil ?_
  intro n
  go_wp2
  rw [rounds_succ]
  go_wp2
  refine wp_region_drew_then 20 (by kernel_rfl) (by kernel_rfl) (by kernel_rfl) (by kernel_rfl) (by decide) (fun _ _ d _ _ h => by cases d <;> exact h) ?_
  simp only [List.take_succ_cons, List.take_zero, List.drop_succ_cons, List.drop_zero]
  repeat (go_big_quiet_step ((go_at_call 75; exact (h22.out _).mono fun e w'' ⟨he, hw⟩ => ⟨he, _, hw⟩)))
  refine wpQuiet_nil ?_
  intro n
  go_wp2
  rw [rounds_succ]
  go_wp2
  refine wp_region_drew_then 20 (by kernel_rfl) (by kernel_rfl) (by kernel_rfl) (by kernel_rfl) (by decide) (fun _ _ d _ _ h => by cases d <;> exact h) ?_
  simp only [List.take_succ_cons, List.take_zero, List.drop_succ_cons, List.drop_zero]
  repeat (go_big_quiet_step ((go_at_call 75; exact (h23.out _).mono fun e w'' ⟨he, hw⟩ => ⟨he, _, hw⟩)))
  refine wpQuiet_nil ?_
  intro n
  go_wp2
  rw [rounds_succ]
  go_wp2
  rw [rounds_succ]
  go_wp2
  refine wp_loop_rounds 5 ?_
  rw [rounds_succ]
  go_wp2
  refine wp_region_drew_then 20 (by kernel_rfl) (by kernel_rfl) (by kernel_rfl) (by kernel_rfl) (by decide) (fun _ _ d _ _ h => by cases d <;> exact h) ?_
  simp only [List.take_succ_cons, List.take_zero, List.drop_succ_cons, List.drop_zero]
  repeat (go_big_quiet_step ((go_at_call 75; exact (h30.out _).mono fun e w'' ⟨he, hw⟩ => ⟨he, _, hw⟩)))
  refine wpQuiet_nil ?_
  intro n
  go_wp2
  rw [rounds_succ]
  go_wp2
  refine wp_region_drew_then 20 (by kernel_rfl) (by kernel_rfl) (by kernel_rfl) (by kernel_rfl) (by decide) (fun _ _ d _ _ h => by cases d <;> exact h) ?_
  simp only [List.take_succ_cons, List.take_zero, List.drop_succ_cons, List.drop_zero]
  repeat (go_big_quiet_step ((go_at_call 75; exact (h31.out _).mono fun e w'' ⟨he, hw⟩ => ⟨he, _, hw⟩)))
  refine wpQuiet_nil ?_
  intro n
  go_wp2
  rw [rounds_succ]
  go_wp2
  refine wp_region_drew_then 20 (by kernel_rfl) (by kernel_rfl) (by kernel_rfl) (by kernel_rfl) (by decide) (fun _ _ d _ _ h => by cases d <;> exact h) ?_
  simp only [List.take_succ_cons, List.take_zero, List.drop_succ_cons, List.drop_zero]
  repeat (go_big_quiet_step ((go_at_call 75; exact (h32.out _).mono fun e w'' ⟨he, hw⟩ => ⟨he, _, hw⟩)))
  refine wpQuiet_nil ?_
  intro n
  go_wp2
  rw [rounds_succ]
  go_wp2
  refine wp_region_drew_then 20 (by kernel_rfl) (by kernel_rfl) (by kernel_rfl) (by kernel_rfl) (by decide) (fun _ _ d _ _ h => by cases d <;> exact h) ?_
  simp only [List.take_succ_cons, List.take_zero, List.drop_succ_cons, List.drop_zero]
  repeat (go_big_quiet_step ((go_at_call 75; exact (h33.out _).mono fun e w'' ⟨he, hw⟩ => ⟨he, _, hw⟩)))
  refine wpQuiet_nil ?_
  intro n
  go_wp2
  rw [rounds_succ]
  go_wp2
  rw [rounds_succ]
  go_wp2
  refine bodyPost_ret (v := Wv ⟨r00, r10, r20, r30⟩ ⟨r31, r32, r33, k33⟩) (by simp [results, Tryd.results59, go_sem]) rfl ⟨rfl, ?_⟩
  repeat (first | exact Below.refl _ _ | refine Below.drew ?_ | refine below_drewN ?_ | refine Below.setCell ?_ (by simp <;> omega) _ | refine Below.alloc ?_ (by simp <;> omega) _)

/-- limb.Mul. -/
theorem mul_any (x y : Nm) (hx : x.ok) (hy : y.ok) (w : World) :
    Calls Tryd.prog 59 #[N x, N y] w fun e w' => ∃ l h, e = .returned (Wv l h) ∧ Hid (l.ok ∧ h.ok ∧ l.val + M * h.val = x.val * y.val) ∧ Below w.heap.size w w' := by
  have zw : Word 0 := ⟨by decide, by decide⟩
  obtain ⟨r00, k00, h00, w_r00, w_k00, e00⟩ := mulAdd_ex x.a y.a 0 0 hx.a hy.a zw zw
  obtain ⟨r01, k01, h01, w_r01, w_k01, e01⟩ := mulAdd_ex x.a y.b 0 k00 hx.a hy.b zw w_k00
  obtain ⟨r02, k02, h02, w_r02, w_k02, e02⟩ := mulAdd_ex x.a y.c 0 k01 hx.a hy.c zw w_k01
  obtain ⟨r03, k03, h03, w_r03, w_k03, e03⟩ := mulAdd_ex x.a y.d 0 k02 hx.a hy.d zw w_k02
  obtain ⟨r10, k10, h10, w_r10, w_k10, e10⟩ := mulAdd_ex x.b y.a r01 0 hx.b hy.a w_r01 zw
  obtain ⟨r11, k11, h11, w_r11, w_k11, e11⟩ := mulAdd_ex x.b y.b r02 k10 hx.b hy.b w_r02 w_k10
  obtain ⟨r12, k12, h12, w_r12, w_k12, e12⟩ := mulAdd_ex x.b y.c r03 k11 hx.b hy.c w_r03 w_k11
  obtain ⟨r13, k13, h13, w_r13, w_k13, e13⟩ := mulAdd_ex x.b y.d k03 k12 hx.b hy.d w_k03 w_k12
  obtain ⟨r20, k20, h20, w_r20, w_k20, e20⟩ := mulAdd_ex x.c y.a r11 0 hx.c hy.a w_r11 zw
  obtain ⟨r21, k21, h21, w_r21, w_k21, e21⟩ := mulAdd_ex x.c y.b r12 k20 hx.c hy.b w_r12 w_k20
  obtain ⟨r22, k22, h22, w_r22, w_k22, e22⟩ := mulAdd_ex x.c y.c r13 k21 hx.c hy.c w_r13 w_k21
  obtain ⟨r23, k23, h23, w_r23, w_k23, e23⟩ := mulAdd_ex x.c y.d k13 k22 hx.c hy.d w_k13 w_k22
  obtain ⟨r30, k30, h30, w_r30, w_k30, e30⟩ := mulAdd_ex x.d y.a r21 0 hx.d hy.a w_r21 zw
  obtain ⟨r31, k31, h31, w_r31, w_k31, e31⟩ := mulAdd_ex x.d y.b r22 k30 hx.d hy.b w_r22 w_k30
  obtain ⟨r32, k32, h32, w_r32, w_k32, e32⟩ := mulAdd_ex x.d y.c r23 k31 hx.d hy.c w_r23 w_k31
  obtain ⟨r33, k33, h33, w_r33, w_k33, e33⟩ := mulAdd_ex x.d y.d k23 k32 hx.d hy.d w_k23 w_k32
  refine (mul_walk x y r00 k00 r01 k01 r02 k02 r03 k03 r10 k10 r11 k11 r12 k12 r13 k13 r20 k20 r21 k21 r22 k22 r23 k23 r30 k30 r31 k31 r32 k32 r33 k33 w h00 h01 h02 h03 h10 h11 h12 h13 h20 h21 h22 h23 h30 h31 h32 h33).mono ?_
  rintro e w' ⟨rfl, hb⟩
  refine ⟨_, _, rfl, ⟨⟨w_r00, w_r10, w_r20, w_r30⟩, ⟨w_r31, w_r32, w_r33, w_k33⟩, ?_⟩, hb⟩
  exact rows_val (row_val e00 e01 e02 e03) (row_val e10 e11 e12 e13) (row_val e20 e21 e22 e23) (row_val e30 e31 e32 e33)

/-- The product's halves. -/
def mulL (x y : Nm) : Nm := Nm.of (x.val * y.val % M)
def mulH (x y : Nm) : Nm := Nm.of (x.val * y.val / M)
/-- limb.Mul, its answer told. -/
theorem mul_fun (x y : Nm) (hx : x.ok) (hy : y.ok) (w : World) :
    Calls Tryd.prog 59 #[N x, N y] w fun e w' => e = .returned (Wv (mulL x y) (mulH x y)) ∧ Below w.heap.size w w' := by
  refine (mul_any x y hx hy w).mono ?_
  rintro e w' ⟨l, h, rfl, H, hb⟩
  obtain ⟨ol, oh, hv⟩ := H.out
  have h0 := Nm.val_nonneg ol; have h1 := Nm.val_lt ol
  have e1 : l = mulL x y := Nm.eq_of ol (by rw [← hv]; unfold M at *; omega)
  have e2 : h = mulH x y := Nm.eq_of oh (by rw [← hv]; unfold M at *; omega)
  rw [← e1, ← e2]
  exact ⟨rfl, hb⟩
end Go.Proofs.YtfknkfninjjgbabDoor

/- limb.Mul, told by what numbers of eight words stand for. -/
namespace Go.Proofs.YtfknkfninjjgbabDoor
open Go.RowKit

/-- What a number stands for, as a natural number. -/
def Nm.nat (x : Nm) : Nat := x.val.toNat
theorem Nm.nat_cast {x : Nm} (h : x.ok) : ((x.nat : Nat) : Int) = x.val := Int.toNat_of_nonneg (Nm.val_nonneg h)
theorem Nm.nat_lt {x : Nm} (h : x.ok) : x.nat < 2 ^ 256 := by
  have := Nm.val_lt h
  rw [← Nm.nat_cast h, M_cast] at this
  exact Int.ofNat_lt.1 this
theorem Nm.of_nat {n : Nat} (h : n < 2 ^ 256) : (Nm.of ((n : Nat) : Int)).nat = n := by
  unfold Nm.nat
  rw [Nm.of_val (Int.natCast_nonneg _) (by rw [M_cast]; exact Int.ofNat_lt.2 h)]
  rfl
theorem Nm.eq_of_nat {x : Nm} (h : x.ok) : x = Nm.of ((x.nat : Nat) : Int) := Nm.eq_of h (Nm.nat_cast h).symm
theorem pow512' : (2 : Nat) ^ 512 = 2 ^ 256 * 2 ^ 256 := pow_twice 512 256 rfl
theorem mul_lt512 {x y : Nm} (ox : x.ok) (oy : y.ok) : x.nat * y.nat < 2 ^ 512 := by
  rw [pow512']
  exact Nat.mul_lt_mul'' (Nm.nat_lt ox) (Nm.nat_lt oy)
/-- limb.Mul. -/
theorem mul_V (x y : Nm) (ox : x.ok) (oy : y.ok) (w : World) :
    Calls Tryd.prog 59 #[N x, N y] w fun e w' => e = .returned (Wv (WL (x.nat * y.nat)) (WH (x.nat * y.nat))) ∧ Below w.heap.size w w' := by
  have := mul_fun x y ox oy w
  have e : ((x.nat * y.nat : Nat) : Int) = x.val * y.val := by rw [Int.natCast_mul, Nm.nat_cast ox, Nm.nat_cast oy]
  unfold WL WH
  rw [e]
  exact this
end Go.Proofs.YtfknkfninjjgbabDoor

/- A natural number as Go has it: four words. -/
namespace Go.Proofs.YtfknkfninjjgbabDoor
open Go.RowKit
/-- A number as Go has it. -/
abbrev nm (n : Nat) : Nm := Nm.of ((n : Nat) : Int)
theorem nm_ok (n : Nat) : (nm n).ok := Nm.of_ok _
theorem nm_nat {n : Nat} (h : n < 2 ^ 256) : (nm n).nat = n := Nm.of_nat h
theorem Nm.eq_nm {x : Nm} {n : Nat} (h : x.ok) (e : x.nat = n) : x = nm n := by rw [← e]; exact Nm.eq_of_nat h
end Go.Proofs.YtfknkfninjjgbabDoor

/- Fermat's little theorem, Pocklington's test, and that 2^255 - 19 is a prime. -/
namespace Go.Proofs.YtfknkfninjjgbabDoor.P
def Pr (p : Nat) : Prop := 2 ≤ p ∧ ∀ d, d ∣ p → d = 1 ∨ d = p
theorem Pr.cop {p k : Nat} (h : Pr p) (hk : ¬ p ∣ k) : Nat.gcd p k = 1 := by
  rcases h.2 _ (Nat.gcd_dvd_left p k) with e | e
  · exact e
  · exact absurd (e ▸ Nat.gcd_dvd_right p k) hk
theorem Pr.euclid {p a b : Nat} (h : Pr p) (hd : p ∣ a * b) : p ∣ a ∨ p ∣ b := by
  by_cases ha : p ∣ a
  · exact .inl ha
  · exact .inr (Nat.Coprime.dvd_of_dvd_mul_left (h.cop ha) hd)
/-- choose -/
def C : Nat → Nat → Nat
  | _, 0 => 1
  | 0, _ + 1 => 0
  | n + 1, k + 1 => C n k + C n (k + 1)
theorem C_big : ∀ n k, n < k → C n k = 0
  | 0, 0, h => absurd h (by omega)
  | 0, k + 1, _ => rfl
  | n + 1, 0, h => absurd h (by omega)
  | n + 1, k + 1, h => by rw [C, C_big n k (by omega), C_big n (k + 1) (by omega)]
theorem C_self : ∀ n, C n n = 1
  | 0 => rfl
  | n + 1 => by rw [C, C_self n, C_big n (n + 1) (by omega)]
theorem C_mul : ∀ n k, (k + 1) * C (n + 1) (k + 1) = (n + 1) * C n k
  | 0, 0 => rfl
  | 0, k + 1 => by simp [C]
  | n + 1, 0 => by
    have := C_mul n 0
    simp [C] at this ⊢
    omega
  | n + 1, k + 1 => by
    have h1 := C_mul n k
    have h2 := C_mul n (k + 1)
    rw [C]
    have e : C (n + 1) (k + 1) = C n k + C n (k + 1) := by rw [C]
    grind
/-- sum of f 0 .. f (n-1) -/
def S (f : Nat → Nat) : Nat → Nat
  | 0 => 0
  | n + 1 => S f n + f n
theorem S_congr {f g : Nat → Nat} : ∀ n, (∀ k, k < n → f k = g k) → S f n = S g n
  | 0, _ => rfl
  | n + 1, h => by rw [S, S, S_congr n (fun k hk => h k (by omega)), h n (by omega)]
theorem S_add {f g : Nat → Nat} : ∀ n, S (fun k => f k + g k) n = S f n + S g n
  | 0 => rfl
  | n + 1 => by simp only [S, S_add n]; omega
theorem S_mul {f : Nat → Nat} (c : Nat) : ∀ n, S (fun k => c * f k) n = c * S f n
  | 0 => rfl
  | n + 1 => by simp only [S, S_mul c n, Nat.mul_add]
theorem S_front {f : Nat → Nat} : ∀ n, S f (n + 1) = f 0 + S (fun k => f (k + 1)) n
  | 0 => by simp [S]
  | n + 1 => by rw [S, S_front n, S]; omega
theorem S_dvd {f : Nat → Nat} (p : Nat) : ∀ n, (∀ k, k < n → p ∣ f k) → p ∣ S f n
  | 0, _ => Nat.dvd_zero p
  | n + 1, h => Nat.dvd_add (S_dvd p n fun k hk => h k (by omega)) (h n (by omega))
theorem binom (a : Nat) : ∀ n, (a + 1) ^ n = S (fun k => C n k * a ^ k) (n + 1)
  | 0 => by simp [S, C]
  | n + 1 => by
    rw [Nat.pow_succ, binom a n, S_front (n + 1)]
    have e : S (fun k => C (n + 1) (k + 1) * a ^ (k + 1)) (n + 1) = S (fun k => a * (C n k * a ^ k)) (n + 1) + S (fun k => C n (k + 1) * a ^ (k + 1)) (n + 1) := by
      rw [← S_add]
      refine S_congr _ fun k _ => ?_
      rw [C, Nat.pow_succ]
      grind
    rw [e, S_mul]
    have f : S (fun k => C n k * a ^ k) (n + 2) = S (fun k => C n k * a ^ k) (n + 1) := by
      rw [S, C_big n (n + 1) (by omega)]; simp
    rw [S_front (n + 1)] at f
    have c0 : C (n + 1) 0 = C n 0 := by cases n <;> rfl
    rw [c0]
    generalize S (fun k => C n (k + 1) * a ^ (k + 1)) (n + 1) = u at *
    generalize S (fun k => C n k * a ^ k) (n + 1) = v at *
    rw [Nat.mul_add, Nat.mul_comm v a]
    omega
theorem fermat0 {p : Nat} (h : Pr p) : ∀ a, a ^ p % p = a % p
  | 0 => by rw [Nat.zero_pow (by have := h.1; omega)]
  | a + 1 => by
    have h1 := h.1
    obtain ⟨q, rfl⟩ : ∃ q, p = q + 2 := ⟨p - 2, by omega⟩
    rw [binom, S_front, S]
    have d : (q + 2) ∣ S (fun k => C (q + 2) (k + 1) * a ^ (k + 1)) (q + 1) := by
      refine S_dvd _ _ fun k hk => ?_
      refine Nat.dvd_trans ?_ (Nat.dvd_mul_right _ _)
      rcases h.euclid (a := k + 1) (b := C (q + 2) (k + 1)) (C_mul (q + 1) k ▸ Nat.dvd_mul_right _ _) with e | e
      · exact absurd (Nat.le_of_dvd (by omega) e) (by omega)
      · exact e
    have ih := fermat0 h a
    obtain ⟨s, hs⟩ := d
    rw [hs, C_self]
    simp only [C, Nat.pow_zero, Nat.one_mul]
    rw [show 1 + ((q + 2) * s + a ^ (q + 1 + 1)) = 1 + a ^ (q + 2) + (q + 2) * s by rw [show q + 1 + 1 = q + 2 from rfl]; omega, Nat.add_mul_mod_self_left, Nat.add_mod, ih, ← Nat.add_mod, Nat.add_comm]
/-- the same modulo m, for naturals -/
theorem dvd_sub_of_mod {m a b : Nat} (h : a % m = b % m) (_ : b ≤ a) : m ∣ a - b := (Nat.dvd_iff_mod_eq_zero ..).2 (Nat.sub_mod_eq_zero_of_mod_eq h)
theorem fermat {p a : Nat} (h : Pr p) (ha : ¬ p ∣ a) : a ^ (p - 1) % p = 1 := by
  have h1 := h.1
  have a0 : 0 < a := Nat.pos_of_ne_zero fun e => ha (e ▸ Nat.dvd_zero p)
  have e := fermat0 h a
  have e2 : a ^ p = a * a ^ (p - 1) := by
    conv => lhs; rw [show p = (p - 1) + 1 by omega]
    rw [Nat.pow_succ, Nat.mul_comm]
  have pp : 0 < a ^ (p - 1) := Nat.pow_pos a0
  have d : p ∣ a * (a ^ (p - 1) - 1) := by
    rw [Nat.mul_sub, Nat.mul_one, ← e2]
    refine dvd_sub_of_mod e ?_
    rw [e2]
    exact Nat.le_mul_of_pos_right _ pp
  rcases h.euclid d with f | f
  · exact absurd f ha
  · obtain ⟨s, hs⟩ := f
    rw [show a ^ (p - 1) = 1 + p * s by omega, Nat.add_mul_mod_self_left, Nat.mod_eq_of_lt (by omega)]
theorem pow_gcd {p b : Nat} (hp : 2 ≤ p) : ∀ m n, b ^ m % p = 1 → b ^ n % p = 1 → b ^ (Nat.gcd m n) % p = 1 := by
  intro m n
  induction m, n using Nat.gcd.induction with
  | H0 n => intro _ h; simpa using h
  | H1 m n hm ih =>
    intro h1 h2
    rw [Nat.gcd_rec]
    refine ih ?_ h1
    have e : b ^ n = (b ^ m) ^ (n / m) * b ^ (n % m) := by
      rw [← Nat.pow_mul, ← Nat.pow_add, Nat.div_add_mod]
    rw [e, Nat.mul_mod, Nat.pow_mod, h1, Nat.one_pow, Nat.mod_eq_of_lt (show 1 < p by omega), Nat.one_mul, Nat.mod_mod] at h2
    exact h2
/-- Pocklington's step -/
theorem pock {N q s a p : Nat} (hq : Pr q) (hN : N = q * s + 1) (h1 : a ^ (q * s) % N = 1) (h2 : Nat.gcd (a ^ s % N + N - 1) N = 1) (hp : Pr p) (hd : p ∣ N) : q ∣ p - 1 := by
  have p2 := hp.1
  refine Classical.byContradiction fun hn => ?_
  have m1 : a ^ (q * s) % p = 1 := by
    rw [← Nat.mod_mod_of_dvd _ hd, h1]
    exact Nat.mod_eq_of_lt (by omega)
  have na : ¬ p ∣ a := by
    intro hpa
    have s0 : q * s ≠ 0 := by
      intro e
      rw [e] at hN
      subst hN
      have := Nat.le_of_dvd (by omega) hd
      omega
    have : p ∣ a ^ (q * s) := Nat.dvd_trans hpa (Nat.dvd_trans (by simp) (Nat.pow_dvd_pow a (Nat.one_le_iff_ne_zero.2 s0)))
    rw [(Nat.dvd_iff_mod_eq_zero ..).1 this] at m1
    omega
  have F := fermat hp na
  have c : Nat.gcd q (p - 1) = 1 := hq.cop hn
  have b1 : (a ^ s) ^ q % p = 1 := by rw [← Nat.pow_mul, Nat.mul_comm s q]; exact m1
  have b2 : (a ^ s) ^ (p - 1) % p = 1 := by rw [← Nat.pow_mul, Nat.mul_comm, Nat.pow_mul, Nat.pow_mod, F, Nat.one_pow]; exact Nat.mod_eq_of_lt (by omega)
  have b := pow_gcd p2 _ _ b1 b2
  rw [c, Nat.pow_one] at b
  have : p ∣ a ^ s % N + N - 1 := by
    have e1 : (a ^ s % N) % p = 1 := by rw [Nat.mod_mod_of_dvd _ hd, b]
    obtain ⟨k, rfl⟩ := hd
    generalize a ^ s % (p * k) = x at *
    have := Nat.div_add_mod x p
    rw [e1] at this
    rw [← this, show p * (x / p) + 1 + p * k - 1 = p * (x / p + k) by rw [Nat.mul_add]; omega]
    exact Nat.dvd_mul_right _ _
  have := Nat.dvd_gcd this hd
  rw [h2] at this
  have := Nat.le_of_dvd (by omega) this
  omega
/-- each number from 2 on has a prime divisor -/
theorem has_prime : ∀ n, 2 ≤ n → ∃ p, Pr p ∧ p ∣ n := by
  intro n
  induction n using Nat.strongRecOn with
  | _ n ih =>
    intro h2
    by_cases h : Pr n
    · exact ⟨n, h, Nat.dvd_refl n⟩
    · have : ∃ d, d ∣ n ∧ d ≠ 1 ∧ d ≠ n := by
        refine Classical.byContradiction fun hn => h ⟨h2, fun d hd => ?_⟩
        refine Classical.byContradiction fun hc => hn ⟨d, hd, fun e => hc (.inl e), fun e => hc (.inr e)⟩
      obtain ⟨d, hd, d1, dn⟩ := this
      have dle := Nat.le_of_dvd (by omega) hd
      have d0 : d ≠ 0 := by
        rintro rfl
        have := Nat.zero_dvd.1 hd
        omega
      obtain ⟨p, hp, hpd⟩ := ih d (by omega) (by omega)
      exact ⟨p, hp, Nat.dvd_trans hpd hd⟩
/-- a number none of whose prime divisors is small is prime -/
theorem prime_of {n f : Nat} (h2 : 2 ≤ n) (hf : n < f * f) (h : ∀ p, Pr p → p ∣ n → f ≤ p) : Pr n := by
  refine ⟨h2, fun d hd => ?_⟩
  obtain ⟨e, rfl⟩ := hd
  by_cases d1 : d = 1
  · exact .inl d1
  by_cases e1 : e = 1
  · exact .inr (by rw [e1, Nat.mul_one])
  have d0 : d ≠ 0 := by rintro rfl; omega
  have e0 : e ≠ 0 := by rintro rfl; omega
  obtain ⟨p, hp, pd⟩ := has_prime d (by omega)
  obtain ⟨q, hq, qe⟩ := has_prime e (by omega)
  have l1 := h p hp (Nat.dvd_trans pd (Nat.dvd_mul_right _ _))
  have l2 := h q hq (Nat.dvd_trans qe (Nat.dvd_mul_left _ _))
  have := Nat.mul_le_mul (Nat.le_trans l1 (Nat.le_of_dvd (by omega) pd)) (Nat.le_trans l2 (Nat.le_of_dvd (by omega) qe))
  omega
/-- powers modulo m, by squares -/
def pw (m : Nat) : Nat → Nat → Nat → Nat
  | 0, _, _ => 1 % m
  | k + 1, a, n => bif n % 2 == 1 then pw m k (a * a % m) (n / 2) * a % m else pw m k (a * a % m) (n / 2)
theorem pw_eq (m : Nat) : ∀ k a n, n < 2 ^ k → pw m k a n = a ^ n % m
  | 0, a, n, h => by
    have : n = 0 := by simpa using h
    subst this
    simp [pw]
  | k + 1, a, n, h => by
    have ih := pw_eq m k (a * a % m) (n / 2) (by rw [Nat.pow_succ] at h; omega)
    rw [pw, ih]
    have e : (a * a % m) ^ (n / 2) % m = a ^ (2 * (n / 2)) % m := by
      rw [← Nat.pow_mod, Nat.pow_mul, Nat.pow_two]
    rw [e]
    rcases Nat.mod_two_eq_zero_or_one n with h0 | h1
    · rw [h0]
      simp only [show ((0 : Nat) == 1) = false from rfl, cond_false]
      congr 2
      omega
    · rw [h1]
      simp only [show ((1 : Nat) == 1) = true from rfl, cond_true]
      conv => rhs; rw [show n = 2 * (n / 2) + 1 by omega, Nat.pow_succ, Nat.mul_mod]
      rw [Nat.mul_mod, Nat.mod_mod]
/-- no divisor among k, k+2, .. -/
def tri (n : Nat) : Nat → Nat → Bool
  | 0, _ => true
  | f + 1, k => (n % k != 0) && tri n f (k + 1)
theorem tri_spec (n : Nat) : ∀ f k, tri n f k = true → ∀ d, k ≤ d → d < k + f → ¬ d ∣ n
  | 0, k, _, d, h1, h2 => absurd h2 (by omega)
  | f + 1, k, h, d, h1, h2 => by
    rw [tri, Bool.and_eq_true] at h
    by_cases e : d = k
    · subst e
      intro hd
      rw [(Nat.dvd_iff_mod_eq_zero ..).1 hd] at h
      simp at h
    · exact tri_spec n f (k + 1) h.2 d (by omega) (by omega)
theorem prime_tri {n f : Nat} (h2 : 2 ≤ n) (h : tri n f 2 = true) (hf : n < (f + 2) * (f + 2)) : Pr n := by
  refine prime_of h2 hf fun p hp hd => ?_
  refine Classical.byContradiction fun hn => ?_
  exact tri_spec n f 2 h p hp.1 (by omega) hd
/-- what has to be computed for one prime q of N - 1 -/
def chk (N q s a k : Nat) : Bool := (N == q * s + 1) && (Nat.blt (q * s) (2 ^ k)) && (pw N k a (q * s) == 1) && (Nat.gcd (pw N k a s + N - 1) N == 1)
theorem chk_dvd {N q s a k p : Nat} (hq : Pr q) (h : chk N q s a k = true) (hp : Pr p) (hd : p ∣ N) : q ∣ p - 1 := by
  simp only [chk, Bool.and_eq_true, beq_iff_eq] at h
  obtain ⟨⟨⟨h1, h2⟩, h3⟩, h4⟩ := h
  have h2 : q * s < 2 ^ k := by simpa using h2
  have sl : s < 2 ^ k := Nat.lt_of_le_of_lt (Nat.le_mul_of_pos_left _ (by have := hq.1; omega)) h2
  rw [pw_eq _ _ _ _ h2] at h3
  rw [pw_eq _ _ _ _ sl] at h4
  exact pock hq h1 h3 h4 hp hd
theorem prime_chk2 {N q s a k r t b : Nat} (hq : Pr q) (hr : Pr r) (h0 : 2 ≤ N) (h1 : chk N q s a k = true) (h2 : chk N r t b k = true) (hne : ¬ q ∣ r) (hf : N < (q * r) * (q * r)) : Pr N := by
  refine prime_of h0 hf fun p hp hd => ?_
  have k1 := chk_dvd hq h1 hp hd
  have k2 := chk_dvd hr h2 hp hd
  have : q * r ∣ p - 1 := Nat.Coprime.mul_dvd_of_dvd_of_dvd (hq.cop hne) k1 k2
  have := Nat.le_of_dvd (by have := hp.1; omega) this
  omega
theorem prime_chk1 {N q s a k : Nat} (hq : Pr q) (h0 : 2 ≤ N) (h1 : chk N q s a k = true) (hf : N < q * q) : Pr N := by
  refine prime_of h0 hf fun p hp hd => ?_
  have k1 := chk_dvd hq h1 hp hd
  have := Nat.le_of_dvd (by have := hp.1; omega) k1
  omega
theorem pr_8574133 : Pr 8574133 := prime_tri (f := 2930) (by decide) (by decide +kernel) (by decide)
theorem pr_127 : Pr 127 := prime_tri (f := 10) (by decide) (by decide +kernel) (by decide)
theorem pr_75707 : Pr 75707 := prime_tri (f := 280) (by decide) (by decide +kernel) (by decide)
theorem pr_1923133 : Pr 1923133 := prime_tri (f := 1390) (by decide) (by decide +kernel) (by decide)
theorem pr_q3 : Pr 1919519569386763 :=
  prime_chk2 (q := 8574133) (s := 223873314) (a := 2) (r := 127) (t := 15114327318006) (b := 2) (k := 64) pr_8574133 pr_127 (by decide) (by decide +kernel) (by decide +kernel) (by decide) (by decide)
theorem pr_q2 : Pr 75445702479781427272750846543864801 :=
  prime_chk2 (q := 1919519569386763) (s := 39304471641247389600) (a := 2) (r := 75707) (t := 996548568557483816196003626400) (b := 2) (k := 128) pr_q3 pr_75707 (by decide) (by decide +kernel) (by decide +kernel) (by decide) (by decide)
theorem pr_q1 : Pr 74058212732561358302231226437062788676166966415465897661863160754340907 :=
  prime_chk2 (q := 75445702479781427272750846543864801) (s := 981609426360740691344999861639072106) (a := 2) (r := 1923133) (t := 38509147694185143878364744631319200843710219946028640589009268082) (b := 2) (k := 256) pr_q2 pr_1923133 (by decide) (by decide +kernel) (by decide +kernel) (by decide) (by decide)
theorem pr_25519 : Pr 57896044618658097711785492504343953926634992332820282019728792003956564819949 :=
  prime_chk1 (q := 74058212732561358302231226437062788676166966415465897661863160754340907) (s := 781764) (a := 2) (k := 256) pr_q1 (by decide) (by decide +kernel) (by decide)
end Go.Proofs.YtfknkfninjjgbabDoor.P

/- That 2^252 + 27742317777372353535851937790883648493 is a prime. Mathematics alone (the factors were found by a program of algebra; that they fit is shown here). -/
namespace Go.Proofs.YtfknkfninjjgbabDoor.P
theorem prL_1224481 : Pr 1224481 := prime_tri (f := 1106) (by decide) (by decide +kernel) (by decide)
theorem prL_531581 : Pr 531581 := prime_tri (f := 729) (by decide) (by decide +kernel) (by decide)
theorem prL_12575597_51 : Pr 1257559732178653 :=
  prime_chk2 (q := 1224481) (s := 1027014492) (a := 2) (r := 531581) (t := 2365697292) (b := 2) (k := 64) prL_1224481 prL_531581 (by decide) (by decide +kernel) (by decide +kernel) (by decide) (by decide)
theorem prL_44341556_62 : Pr 4434155615661930479 :=
  prime_chk1 (q := 1257559732178653) (s := 3526) (a := 2) (k := 64) prL_12575597_51 (by decide) (by decide +kernel) (by decide)
theorem prL_17205459_88 : Pr 172054593956031949258510691 :=
  prime_chk1 (q := 4434155615661930479) (s := 38802110) (a := 2) (k := 128) prL_44341556_62 (by decide) (by decide +kernel) (by decide)
theorem prL_19757330_134 : Pr 19757330305831588566944191468367130476339 :=
  prime_chk1 (q := 172054593956031949258510691) (s := 114831751082918) (a := 2) (k := 256) prL_17205459_88 (by decide) (by decide +kernel) (by decide)
theorem prL_27660262_138 : Pr 276602624281642239937218680557139826668747 :=
  prime_chk1 (q := 19757330305831588566944191468367130476339) (s := 14) (a := 2) (k := 256) prL_19757330_134 (by decide) (by decide +kernel) (by decide)
theorem pr_L : Pr 7237005577332262213973186563042994240857116359379907606001950938285454250989 :=
  prime_chk1 (q := 276602624281642239937218680557139826668747) (s := 26163907866482859529727157400808004) (a := 2) (k := 256) prL_27660262_138 (by decide) (by decide +kernel) (by decide)
end Go.Proofs.YtfknkfninjjgbabDoor.P

/- How often the base makes nothing: a prime. Mathematics alone. -/
namespace Go.Proofs.YtfknkfninjjgbabDoor.Cv
open Go.Proofs.YtfknkfninjjgbabDoor
def ord : Nat := 7237005577332262213973186563042994240857116359379907606001950938285454250989
theorem ord_pr : P.Pr ord := P.pr_L
end Go.Proofs.YtfknkfninjjgbabDoor.Cv

/- What package scalar must keep: its calls' contracts, by numbers modulo the order. -/
namespace Go.Proofs.YtfknkfninjjgbabDoor
open Go.RowKit
set_option linter.unusedSimpArgs false
theorem ord_lt : Cv.ord < 2 ^ 256 := by decide
theorem ord_pos : 0 < Cv.ord := by decide
def SLC : Prop := ∀ w, Calls Tryd.prog 11 #[] w fun e w' => e = .returned (N (nm Cv.ord)) ∧ Below w.heap.size w w'
def SLowC : Prop := ∀ x : Nm, x.ok → ∀ w, Calls Tryd.prog 56 #[N x] w fun e w' => e = .returned (N (nm (x.nat % Cv.ord))) ∧ Below w.heap.size w w'
def SAddC : Prop := ∀ x y : Nm, x.ok → y.ok → ∀ w, Calls Tryd.prog 29 #[N x, N y] w fun e w' => e = .returned (N (nm ((x.nat + y.nat) % Cv.ord))) ∧ Below w.heap.size w w'
def SMulC : Prop := ∀ x y : Nm, x.ok → y.ok → ∀ w, Calls Tryd.prog 30 #[N x, N y] w fun e w' => e = .returned (N (nm (x.nat * y.nat % Cv.ord))) ∧ Below w.heap.size w w'
theorem s_nat (n : Nat) : (nm (n % Cv.ord)).nat = n % Cv.ord := nm_nat (Nat.lt_trans (Nat.mod_lt _ ord_pos) ord_lt)
end Go.Proofs.YtfknkfninjjgbabDoor

/- limb.Add, limb.Sub and the halves of a product, by numbers. -/
namespace Go.Proofs.YtfknkfninjjgbabDoor
open Go.RowKit
set_option linter.unusedSimpArgs false
/-- limb.Add and limb.Sub by the numbers that they answer. -/
theorem add_nat (x y : Nm) (ox : x.ok) (oy : y.ok) (w : World) : Calls Tryd.prog 55 #[N x, N y] w fun e w' => e = .returned (.tuple #[N (nm ((x.nat + y.nat) % 2 ^ 256)), .int .u64 (((x.nat + y.nat) / 2 ^ 256 : Nat) : Int)]) ∧ Below w.heap.size w w' := by
  have h := add_fun x y ox oy w
  have e1 : addS x y = nm ((x.nat + y.nat) % 2 ^ 256) := by
    unfold addS nm
    rw [← Nm.nat_cast ox, ← Nm.nat_cast oy, M_cast, ← Int.natCast_add, ← Int.natCast_emod]
  have e2 : addC x y = (((x.nat + y.nat) / 2 ^ 256 : Nat) : Int) := by
    unfold addC
    rw [← Nm.nat_cast ox, ← Nm.nat_cast oy, M_cast, ← Int.natCast_add, ← Int.natCast_ediv]
  rw [e1, e2] at h
  exact h
theorem sub_nat (x y : Nm) (ox : x.ok) (oy : y.ok) (w : World) : Calls Tryd.prog 33 #[N x, N y] w fun e w' => e = .returned (.tuple #[N (nm ((x.nat + 2 ^ 256 - y.nat) % 2 ^ 256)), .int .u64 (if x.nat < y.nat then 1 else 0)]) ∧ Below w.heap.size w w' := by
  have h := sub_fun x y ox oy w
  have lx := Nm.nat_lt ox; have ly := Nm.nat_lt oy
  have p2 : (2 : Nat) ^ 256 = 115792089237316195423570985008687907853269984665640564039457584007913129639936 := by decide
  have e1 : subS x y = nm ((x.nat + 2 ^ 256 - y.nat) % 2 ^ 256) := by
    unfold subS nm M
    rw [← Nm.nat_cast ox, ← Nm.nat_cast oy]
    congr 1
    rw [p2] at *
    omega
  have e2 : subC x y = if x.nat < y.nat then 1 else 0 := by
    unfold subC M
    rw [← Nm.nat_cast ox, ← Nm.nat_cast oy]
    rw [p2] at *
    split <;> omega
  rw [e1, e2] at h
  exact h
theorem WL_nm (n : Nat) : WL n = nm (n % 2 ^ 256) := by
  unfold WL nm
  rw [M_cast, ← Int.natCast_emod]
theorem WH_nm (n : Nat) : WH n = nm (n / 2 ^ 256) := by
  unfold WH nm
  rw [M_cast, ← Int.natCast_ediv]
end Go.Proofs.YtfknkfninjjgbabDoor
