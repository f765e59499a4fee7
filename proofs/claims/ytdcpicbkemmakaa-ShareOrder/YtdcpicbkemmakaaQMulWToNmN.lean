/- Texts that were joined: MulW, MulV, NmN. -/
import Derived.Test.YtdcpicbkemmakaaQAddSubToMul
import Derived.Test.YtdcpicbkemmakaaQUp
import Derived.Test.YtdcpicbkemmakaaQNumToQMath
/- The contract of limb.Mul: the product of two numbers of four words, as one of eight. -/
namespace Go.Proofs.Ytdcpicbkemmakaa
open Go.RowKit
attribute [local go_sem] setCell_drewN
set_option maxHeartbeats 4000000 in
theorem mul_walk (x y : Nm) (r00 k00 r01 k01 r02 k02 r03 k03 r10 k10 r11 k11 r12 k12 r13 k13 r20 k20 r21 k21 r22 k22 r23 k23 r30 k30 r31 k31 r32 k32 r33 k33 : Int) (w : World)
    (h00 : Hid (∀ w, Calls Try.prog 47 #[.int .u64 x.a, .int .u64 y.a, .int .u64 0, .int .u64 0] w fun e w' => e = .returned (.tuple #[.int .u64 r00, .int .u64 k00]) ∧ w' = w))
    (h01 : Hid (∀ w, Calls Try.prog 47 #[.int .u64 x.a, .int .u64 y.b, .int .u64 0, .int .u64 k00] w fun e w' => e = .returned (.tuple #[.int .u64 r01, .int .u64 k01]) ∧ w' = w))
    (h02 : Hid (∀ w, Calls Try.prog 47 #[.int .u64 x.a, .int .u64 y.c, .int .u64 0, .int .u64 k01] w fun e w' => e = .returned (.tuple #[.int .u64 r02, .int .u64 k02]) ∧ w' = w))
    (h03 : Hid (∀ w, Calls Try.prog 47 #[.int .u64 x.a, .int .u64 y.d, .int .u64 0, .int .u64 k02] w fun e w' => e = .returned (.tuple #[.int .u64 r03, .int .u64 k03]) ∧ w' = w))
    (h10 : Hid (∀ w, Calls Try.prog 47 #[.int .u64 x.b, .int .u64 y.a, .int .u64 r01, .int .u64 0] w fun e w' => e = .returned (.tuple #[.int .u64 r10, .int .u64 k10]) ∧ w' = w))
    (h11 : Hid (∀ w, Calls Try.prog 47 #[.int .u64 x.b, .int .u64 y.b, .int .u64 r02, .int .u64 k10] w fun e w' => e = .returned (.tuple #[.int .u64 r11, .int .u64 k11]) ∧ w' = w))
    (h12 : Hid (∀ w, Calls Try.prog 47 #[.int .u64 x.b, .int .u64 y.c, .int .u64 r03, .int .u64 k11] w fun e w' => e = .returned (.tuple #[.int .u64 r12, .int .u64 k12]) ∧ w' = w))
    (h13 : Hid (∀ w, Calls Try.prog 47 #[.int .u64 x.b, .int .u64 y.d, .int .u64 k03, .int .u64 k12] w fun e w' => e = .returned (.tuple #[.int .u64 r13, .int .u64 k13]) ∧ w' = w))
    (h20 : Hid (∀ w, Calls Try.prog 47 #[.int .u64 x.c, .int .u64 y.a, .int .u64 r11, .int .u64 0] w fun e w' => e = .returned (.tuple #[.int .u64 r20, .int .u64 k20]) ∧ w' = w))
    (h21 : Hid (∀ w, Calls Try.prog 47 #[.int .u64 x.c, .int .u64 y.b, .int .u64 r12, .int .u64 k20] w fun e w' => e = .returned (.tuple #[.int .u64 r21, .int .u64 k21]) ∧ w' = w))
    (h22 : Hid (∀ w, Calls Try.prog 47 #[.int .u64 x.c, .int .u64 y.c, .int .u64 r13, .int .u64 k21] w fun e w' => e = .returned (.tuple #[.int .u64 r22, .int .u64 k22]) ∧ w' = w))
    (h23 : Hid (∀ w, Calls Try.prog 47 #[.int .u64 x.c, .int .u64 y.d, .int .u64 k13, .int .u64 k22] w fun e w' => e = .returned (.tuple #[.int .u64 r23, .int .u64 k23]) ∧ w' = w))
    (h30 : Hid (∀ w, Calls Try.prog 47 #[.int .u64 x.d, .int .u64 y.a, .int .u64 r21, .int .u64 0] w fun e w' => e = .returned (.tuple #[.int .u64 r30, .int .u64 k30]) ∧ w' = w))
    (h31 : Hid (∀ w, Calls Try.prog 47 #[.int .u64 x.d, .int .u64 y.b, .int .u64 r22, .int .u64 k30] w fun e w' => e = .returned (.tuple #[.int .u64 r31, .int .u64 k31]) ∧ w' = w))
    (h32 : Hid (∀ w, Calls Try.prog 47 #[.int .u64 x.d, .int .u64 y.c, .int .u64 r23, .int .u64 k31] w fun e w' => e = .returned (.tuple #[.int .u64 r32, .int .u64 k32]) ∧ w' = w))
    (h33 : Hid (∀ w, Calls Try.prog 47 #[.int .u64 x.d, .int .u64 y.d, .int .u64 k23, .int .u64 k32] w fun e w' => e = .returned (.tuple #[.int .u64 r33, .int .u64 k33]) ∧ w' = w)) :
    Calls Try.prog 31 #[N x, N y] w fun e w' => e = .returned (Wv ⟨r00, r10, r20, r30⟩ ⟨r31, r32, r33, k33⟩) ∧ Below w.heap.size w w' := by
  go_enter Try.func31, Try.ntmps31
  go_wp2
  refine wp_loop_rounds 5 ?_
  rw [rounds_succ]
  go_wp2
  refine wp_loop_rounds 5 ?_
  rw [rounds_succ]
  go_wp2
  refine wp_region_drew_then 20 (by kernel_rfl) (by kernel_rfl) (by kernel_rfl) (by kernel_rfl) (by decide) (fun _ _ d _ _ h => by cases d <;> exact h) ?_
  simp only [List.take_succ_cons, List.take_zero, List.drop_succ_cons, List.drop_zero]
  repeat (go_big_quiet_step ((go_at_call 47; exact (h00.out _).mono fun e w'' ⟨he, hw⟩ => ⟨he, _, hw⟩)))
  refine wpQuiet_nil ?_
  intro n
  go_wp2
  rw [rounds_succ]
  go_wp2
  refine wp_region_drew_then 20 (by kernel_rfl) (by kernel_rfl) (by kernel_rfl) (by kernel_rfl) (by decide) (fun _ _ d _ _ h => by cases d <;> exact h) ?_
  simp only [List.take_succ_cons, List.take_zero, List.drop_succ_cons, List.drop_zero]
  repeat (go_big_quiet_step ((go_at_call 47; exact (h01.out _).mono fun e w'' ⟨he, hw⟩ => ⟨he, _, hw⟩)))
  refine wpQuiet_nil ?_
  intro n
  go_wp2
  rw [rounds_succ]
  go_wp2
  refine wp_region_drew_then 20 (by kernel_rfl) (by kernel_rfl) (by kernel_rfl) (by kernel_rfl) (by decide) (fun _ _ d _ _ h => by cases d <;> exact h) ?_
  simp only [List.take_succ_cons, List.take_zero, List.drop_succ_cons, List.drop_zero]
  repeat (go_big_quiet_step ((go_at_call 47; exact (h02.out _).mono fun e w'' ⟨he, hw⟩ => ⟨he, _, hw⟩)))
  refine wpQuiet_nil ?_
  intro n
  go_wp2
  rw [rounds_succ]
  go_wp2
  refine wp_region_drew_then 20 (by kernel_rfl) (by kernel_rfl) (by kernel_rfl) (by kernel_rfl) (by decide) (fun _ _ d _ _ h => by cases d <;> exact h) ?_
  simp only [List.take_succ_cons, List.take_zero, List.drop_succ_cons, List.drop_zero]
  repeat (go_big_quiet_step ((go_at_call 47; exact (h03.out _).mono fun e w'' ⟨he, hw⟩ => ⟨he, _, hw⟩)))
  refine wpQuiet_nil ?_
  intro n
  go_wp2
  rw [rounds_succ]
  go_wp2
  rw [rounds_succ]
  go_wp2
  refine wp_loop_rounds 5 ?_
  rw [rounds_succ]
  go_wp2
  refine wp_region_drew_then 20 (by kernel_rfl) (by kernel_rfl) (by kernel_rfl) (by kernel_rfl) (by decide) (fun _ _ d _ _ h => by cases d <;> exact h) ?_
  simp only [List.take_succ_cons, List.take_zero, List.drop_succ_cons, List.drop_zero]
  repeat (go_big_quiet_step ((go_at_call 47; exact (h10.out _).mono fun e w'' ⟨he, hw⟩ => ⟨he, _, hw⟩)))
  refine wpQuiet_nil ?_
  intro n
  go_wp2
  rw [rounds_succ]
  go_wp2
  refine wp_region_drew_then 20 (by kernel_rfl) (by kernel_rfl) (by kernel_rfl) (by kernel_rfl) (by decide) (fun _ _ d _ _ h => by cases d <;> exact h) ?_
  simp only [List.take_succ_cons, List.take_zero, List.drop_succ_cons, List.drop_zero]
  repeat (go_big_quiet_step ((go_at_call 47; exact (h11.out _).mono fun e w'' ⟨he, hw⟩ => ⟨he, _, hw⟩)))
  refine wpQuiet_nil ?_
  intro n
  go_wp2
  rw [rounds_succ]
  go_wp2
  refine wp_region_drew_then 20 (by kernel_rfl) (by kernel_rfl) (by kernel_rfl) (by kernel_rfl) (by decide) (fun _ _ d _ _ h => by cases d <;> exact h) ?_
  simp only [List.take_succ_cons, List.take_zero, List.drop_succ_cons, List.drop_zero]
  repeat (go_big_quiet_step ((go_at_call 47; exact (h12.out _).mono fun e w'' ⟨he, hw⟩ => ⟨he, _, hw⟩)))
  refine wpQuiet_nil ?_
  intro n
  go_wp2
  rw [rounds_succ]
  go_wp2
  refine wp_region_drew_then 20 (by kernel_rfl) (by kernel_rfl) (by kernel_rfl) (by kernel_rfl) (by decide) (fun _ _ d _ _ h => by cases d <;> exact h) ?_
  simp only [List.take_succ_cons, List.take_zero, List.drop_succ_cons, List.drop_zero]
  repeat (go_big_quiet_step ((go_at_call 47; exact (h13.out _).mono fun e w'' ⟨he, hw⟩ => ⟨he, _, hw⟩)))
  refine wpQuiet_nil ?_
  intro n
  go_wp2
  rw [rounds_succ]
  go_wp2
  rw [rounds_succ]
  go_wp2
  refine wp_loop_rounds 5 ?_
  rw [rounds_succ]
  go_wp2
  refine wp_region_drew_then 20 (by kernel_rfl) (by kernel_rfl) (by kernel_rfl) (by kernel_rfl) (by decide) (fun _ _ d _ _ h => by cases d <;> exact h) ?_
  simp only [List.take_succ_cons, List.take_zero, List.drop_succ_cons, List.drop_zero]
  repeat (go_big_quiet_step ((go_at_call 47; exact (h20.out _).mono fun e w'' ⟨he, hw⟩ => ⟨he, _, hw⟩)))
  refine wpQuiet_nil ?_
  intro n
  go_wp2
  rw [rounds_succ]
  go_wp2
  refine wp_region_drew_then 20 (by kernel_rfl) (by kernel_rfl) (by kernel_rfl) (by kernel_rfl) (by decide) (fun _ _ d _ _ h => by cases d <;> exact h) ?_
  simp only [List.take_succ_cons, List.take_zero, List.drop_succ_cons, List.drop_zero]
  repeat (go_big_quiet_step ((go_at_call 47; exact (h21.out _).mono fun e w'' ⟨he, hw⟩ => ⟨he, _, hw⟩)))
  refine wpQuiet_nil ?_
  intro n
  go_wp2
  rw [rounds_succ]
  go_wp2
  refine wp_region_drew_then 20 (by kernel_rfl) (by kernel_rfl) (by kernel_rfl) (by kernel_rfl) (by decide) (fun _ _ d _ _ h => by cases d <;> exact h) ?_
  simp only [List.take_succ_cons, List.take_zero, List.drop_succ_cons, List.drop_zero]
  repeat (go_big_quiet_step ((go_at_call 47; exact (h22.out _).mono fun e w'' ⟨he, hw⟩ => ⟨he, _, hw⟩)))
  refine wpQuiet_nil ?_
  intro n
  go_wp2
  rw [rounds_succ]
  go_wp2
  refine wp_region_drew_then 20 (by kernel_rfl) (by kernel_rfl) (by kernel_rfl) (by kernel_rfl) (by decide) (fun _ _ d _ _ h => by cases d <;> exact h) ?_
  simp only [List.take_succ_cons, List.take_zero, List.drop_succ_cons, List.drop_zero]
  repeat (go_big_quiet_step ((go_at_call 47; exact (h23.out _).mono fun e w'' ⟨he, hw⟩ => ⟨he, _, hw⟩)))
  refine wpQuiet_nil ?_
  intro n
  go_wp2
  rw [rounds_succ]
  go_wp2
  rw [rounds_succ]
  go_wp2
  refine wp_loop_rounds 5 ?_
  rw [rounds_succ]
  go_wp2
  refine wp_region_drew_then 20 (by kernel_rfl) (by kernel_rfl) (by kernel_rfl) (by kernel_rfl) (by decide) (fun _ _ d _ _ h => by cases d <;> exact h) ?_
  simp only [List.take_succ_cons, List.take_zero, List.drop_succ_cons, List.drop_zero]
  repeat (go_big_quiet_step ((go_at_call 47; exact (h30.out _).mono fun e w'' ⟨he, hw⟩ => ⟨he, _, hw⟩)))
  refine wpQuiet_nil ?_
  intro n
  go_wp2
  rw [rounds_succ]
  go_wp2
  refine wp_region_drew_then 20 (by kernel_rfl) (by kernel_rfl) (by kernel_rfl) (by kernel_rfl) (by decide) (fun _ _ d _ _ h => by cases d <;> exact h) ?_
  simp only [List.take_succ_cons, List.take_zero, List.drop_succ_cons, List.drop_zero]
  repeat (go_big_quiet_step ((go_at_call 47; exact (h31.out _).mono fun e w'' ⟨he, hw⟩ => ⟨he, _, hw⟩)))
  refine wpQuiet_nil ?_
  intro n
  go_wp2
  rw [rounds_succ]
  go_wp2
  refine wp_region_drew_then 20 (by kernel_rfl) (by kernel_rfl) (by kernel_rfl) (by kernel_rfl) (by decide) (fun _ _ d _ _ h => by cases d <;> exact h) ?_
  simp only [List.take_succ_cons, List.take_zero, List.drop_succ_cons, List.drop_zero]
  repeat (go_big_quiet_step ((go_at_call 47; exact (h32.out _).mono fun e w'' ⟨he, hw⟩ => ⟨he, _, hw⟩)))
  refine wpQuiet_nil ?_
  intro n
  go_wp2
  rw [rounds_succ]
  go_wp2
  refine wp_region_drew_then 20 (by kernel_rfl) (by kernel_rfl) (by kernel_rfl) (by kernel_rfl) (by decide) (fun _ _ d _ _ h => by cases d <;> exact h) ?_
  simp only [List.take_succ_cons, List.take_zero, List.drop_succ_cons, List.drop_zero]
  repeat (go_big_quiet_step ((go_at_call 47; exact (h33.out _).mono fun e w'' ⟨he, hw⟩ => ⟨he, _, hw⟩)))
  refine wpQuiet_nil ?_
  intro n
  go_wp2
  rw [rounds_succ]
  go_wp2
  rw [rounds_succ]
  go_wp2
  refine bodyPost_ret (v := Wv ⟨r00, r10, r20, r30⟩ ⟨r31, r32, r33, k33⟩) (by simp [results, Try.results31, go_sem]) rfl ⟨rfl, ?_⟩
  repeat (first | exact Below.refl _ _ | refine Below.drew ?_ | refine below_drewN ?_ | refine Below.setCell ?_ (by simp <;> omega) _ | refine Below.alloc ?_ (by simp <;> omega) _)

/-- limb.Mul. -/
theorem mul_any (x y : Nm) (hx : x.ok) (hy : y.ok) (w : World) :
    Calls Try.prog 31 #[N x, N y] w fun e w' => ∃ l h, e = .returned (Wv l h) ∧ Hid (l.ok ∧ h.ok ∧ l.val + M * h.val = x.val * y.val) ∧ Below w.heap.size w w' := by
  have zw : Word 0 := ⟨by decide, by decide⟩
  obtain ⟨r00, k00, h00, w_r00, w_k00, e00⟩ := mulAdd_ex x.a y.a 0 0 hx.a hy.a zw zw
  obtain ⟨r01, k01, h01, w_r01, w_k01, e01⟩ := mulAdd_ex x.a y.b 0 k00 hx.a hy.b zw w_k00
  obtain ⟨r02, k02, h02, w_r02, w_k02, e02⟩ := mulAdd_ex x.a y.c 0 k01 hx.a hy.c zw w_k01
  obtain ⟨r03, k03, h03, w_r03, w_k03, e03⟩ := mulAdd_ex x.a y.d 0 k02 hx.a hy.d zw w_k02
  obtain ⟨r10, k10, h10, w_r10, w_k10, e10⟩ := mulAdd_ex x.b y.a r01 0 hx.b hy.a w_r01 zw
  obtain ⟨r11, k11, h11, w_r11, w_k11, e11⟩ := mulAdd_ex x.b y.b r02 k10 hx.b hy.b w_r02 w_k10
  obtain ⟨r12, k12, h12, w_r12, w_k12, e12⟩ := mulAdd_ex x.b y.c r03 k11 hx.b hy.c w_r03 w_k11
  obtain ⟨r13, k13, h13, w_r13, w_k13, e13⟩ := mulAdd_ex x.b y.d k03 k12 hx.b hy.d w_k03 w_k12
  obtain ⟨r20, k20, h20, w_r20, w_k20, e20⟩ := mulAdd_ex x.c y.a r11 0 hx.c hy.a w_r11 zw
  obtain ⟨r21, k21, h21, w_r21, w_k21, e21⟩ := mulAdd_ex x.c y.b r12 k20 hx.c hy.b w_r12 w_k20
  obtain ⟨r22, k22, h22, w_r22, w_k22, e22⟩ := mulAdd_ex x.c y.c r13 k21 hx.c hy.c w_r13 w_k21
  obtain ⟨r23, k23, h23, w_r23, w_k23, e23⟩ := mulAdd_ex x.c y.d k13 k22 hx.c hy.d w_k13 w_k22
  obtain ⟨r30, k30, h30, w_r30, w_k30, e30⟩ := mulAdd_ex x.d y.a r21 0 hx.d hy.a w_r21 zw
  obtain ⟨r31, k31, h31, w_r31, w_k31, e31⟩ := mulAdd_ex x.d y.b r22 k30 hx.d hy.b w_r22 w_k30
  obtain ⟨r32, k32, h32, w_r32, w_k32, e32⟩ := mulAdd_ex x.d y.c r23 k31 hx.d hy.c w_r23 w_k31
  obtain ⟨r33, k33, h33, w_r33, w_k33, e33⟩ := mulAdd_ex x.d y.d k23 k32 hx.d hy.d w_k23 w_k32
  refine (mul_walk x y r00 k00 r01 k01 r02 k02 r03 k03 r10 k10 r11 k11 r12 k12 r13 k13 r20 k20 r21 k21 r22 k22 r23 k23 r30 k30 r31 k31 r32 k32 r33 k33 w h00 h01 h02 h03 h10 h11 h12 h13 h20 h21 h22 h23 h30 h31 h32 h33).mono ?_
  rintro e w' ⟨rfl, hb⟩
  refine ⟨_, _, rfl, ⟨⟨w_r00, w_r10, w_r20, w_r30⟩, ⟨w_r31, w_r32, w_r33, w_k33⟩, ?_⟩, hb⟩
  exact rows_val (row_val e00 e01 e02 e03) (row_val e10 e11 e12 e13) (row_val e20 e21 e22 e23) (row_val e30 e31 e32 e33)

/-- The product's halves. -/
def mulL (x y : Nm) : Nm := Nm.of (x.val * y.val % M)
def mulH (x y : Nm) : Nm := Nm.of (x.val * y.val / M)
/-- limb.Mul, its answer told. -/
theorem mul_fun (x y : Nm) (hx : x.ok) (hy : y.ok) (w : World) :
    Calls Try.prog 31 #[N x, N y] w fun e w' => e = .returned (Wv (mulL x y) (mulH x y)) ∧ Below w.heap.size w w' := by
  refine (mul_any x y hx hy w).mono ?_
  rintro e w' ⟨l, h, rfl, H, hb⟩
  obtain ⟨ol, oh, hv⟩ := H.out
  have h0 := Nm.val_nonneg ol; have h1 := Nm.val_lt ol
  have e1 : l = mulL x y := Nm.eq_of ol (by rw [← hv]; unfold M at *; omega)
  have e2 : h = mulH x y := Nm.eq_of oh (by rw [← hv]; unfold M at *; omega)
  rw [← e1, ← e2]
  exact ⟨rfl, hb⟩
end Go.Proofs.Ytdcpicbkemmakaa

/- limb.Mul, told by what numbers of eight words stand for. -/
namespace Go.Proofs.Ytdcpicbkemmakaa
open Go.RowKit

/-- What a number stands for, as a natural number. -/
def Nm.nat (x : Nm) : Nat := x.val.toNat
theorem Nm.nat_cast {x : Nm} (h : x.ok) : ((x.nat : Nat) : Int) = x.val := Int.toNat_of_nonneg (Nm.val_nonneg h)
theorem Nm.nat_lt {x : Nm} (h : x.ok) : x.nat < 2 ^ 256 := by
  have := Nm.val_lt h
  rw [← Nm.nat_cast h, M_cast] at this
  exact Int.ofNat_lt.1 this
theorem Nm.of_nat {n : Nat} (h : n < 2 ^ 256) : (Nm.of ((n : Nat) : Int)).nat = n := by
  unfold Nm.nat
  rw [Nm.of_val (Int.natCast_nonneg _) (by rw [M_cast]; exact Int.ofNat_lt.2 h)]
  rfl
theorem Nm.eq_of_nat {x : Nm} (h : x.ok) : x = Nm.of ((x.nat : Nat) : Int) := Nm.eq_of h (Nm.nat_cast h).symm
theorem pow512' : (2 : Nat) ^ 512 = 2 ^ 256 * 2 ^ 256 := pow_twice 512 256 rfl
theorem mul_lt512 {x y : Nm} (ox : x.ok) (oy : y.ok) : x.nat * y.nat < 2 ^ 512 := by
  rw [pow512']
  exact Nat.mul_lt_mul'' (Nm.nat_lt ox) (Nm.nat_lt oy)
/-- limb.Mul. -/
theorem mul_V (x y : Nm) (ox : x.ok) (oy : y.ok) (w : World) :
    Calls Try.prog 31 #[N x, N y] w fun e w' => e = .returned (Wv (WL (x.nat * y.nat)) (WH (x.nat * y.nat))) ∧ Below w.heap.size w w' := by
  have := mul_fun x y ox oy w
  have e : ((x.nat * y.nat : Nat) : Int) = x.val * y.val := by rw [Int.natCast_mul, Nm.nat_cast ox, Nm.nat_cast oy]
  unfold WL WH
  rw [e]
  exact this
end Go.Proofs.Ytdcpicbkemmakaa

/- A natural number as Go has it: four words. -/
namespace Go.Proofs.Ytdcpicbkemmakaa
open Go.RowKit
/-- A number as Go has it. -/
abbrev nm (n : Nat) : Nm := Nm.of ((n : Nat) : Int)
theorem nm_ok (n : Nat) : (nm n).ok := Nm.of_ok _
theorem nm_nat {n : Nat} (h : n < 2 ^ 256) : (nm n).nat = n := Nm.of_nat h
theorem Nm.eq_nm {x : Nm} {n : Nat} (h : x.ok) (e : x.nat = n) : x = nm n := by rw [← e]; exact Nm.eq_of_nat h
end Go.Proofs.Ytdcpicbkemmakaa
