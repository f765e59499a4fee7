/- Texts that were joined: QMath, AddSub, Mul, MulW, MulV. -/
import Derived.Test.YtdcpicbkemmakaaDoorQNumToDTimes
import Derived.Test.YtdcpicbkemmakaaDoorRows
import Derived.WalkKit
import Derived.WalkSpells
import Derived.WalkLawsBesides
import Derived.LoopN
import Derived.Shelf.Spec.BitsCarry
import Derived.Laws.MathBits
import Derived.Test.YtdcpicbkemmakaaDoorQUpToHMix
/- The plain mathematics of numbers of eight words and of a division by bits, with no program in sight. -/
namespace Go.Proofs.YtdcpicbkemmakaaDoor
open Go.RowKit

/-- What a number of eight words stands for. -/
def V (l h : Nm) : Nat := (l.val + M * h.val).toNat
/-- The number of eight words of n: its halves. -/
def WL (n : Nat) : Nm := Nm.of ((n : Int) % M)
def WH (n : Nat) : Nm := Nm.of ((n : Int) / M)
/-- The words of n. -/
def word (n j : Nat) : Nat := n / 2 ^ (64 * j) % 2 ^ 64
theorem pow_twice (k n : Nat) (h : k = n + n) : (2 : Nat) ^ k = 2 ^ n * 2 ^ n := by rw [h, Nat.pow_add]
theorem M_cast : M = ((2 ^ 256 : Nat) : Int) := rfl
end Go.Proofs.YtdcpicbkemmakaaDoor

/- The contracts of limb.Add and limb.Sub: the sum and the difference of two numbers of four words, with what is carried or borrowed. -/
namespace Go.Proofs.YtdcpicbkemmakaaDoor
open Go.RowKit Go.Shelf

theorem add64 (x y c : Int) (hx : 0 ≤ x) (hy : 0 ≤ y) (hc0 : 0 ≤ c) (hc : c ≤ 1) (w : World) : (callFunc 59 #[.int .u64 x, .int .u64 y, .int .u64 c]).run Tryd.prog w =
    .ok (.value (.tuple #[.int .u64 ((x + y + c) % 18446744073709551616), .int .u64 ((x + y + c) / 18446744073709551616)])) w := by
  rw [run_callFunc_extern Tryd.func59 (by kernel_rfl) (by kernel_rfl) (by kernel_rfl) (e := add64Entry) (by kernel_rfl), run_add64 x y c hx hy hc0 hc]
  rfl
theorem sub64 (x y b : Int) (hx : Word x) (hy : Word y) (hb0 : 0 ≤ b) (hb : b ≤ 1) (w : World) : (callFunc 66 #[.int .u64 x, .int .u64 y, .int .u64 b]).run Tryd.prog w =
    .ok (.value (.tuple #[.int .u64 ((x - y - b) % 18446744073709551616), .int .u64 (- ((x - y - b) / 18446744073709551616))])) w := by
  obtain ⟨hx0, hx1⟩ := hx; obtain ⟨hy0, hy1⟩ := hy
  obtain ⟨x, rfl⟩ := Int.eq_ofNat_of_zero_le hx0
  obtain ⟨y, rfl⟩ := Int.eq_ofNat_of_zero_le hy0
  obtain ⟨b, rfl⟩ := Int.eq_ofNat_of_zero_le hb0
  rw [run_callFunc_extern Tryd.func66 (by kernel_rfl) (by kernel_rfl) (by kernel_rfl) (e := sub64Entry) (by kernel_rfl), run_sub64 x y b (by omega)]
  have e1 : (((x + 18446744073709551616 - y - b) % 18446744073709551616 : Nat) : Int) = ((x : Int) - y - b) % 18446744073709551616 := by omega
  have e2 : ((if x < y + b then 1 else 0 : Nat) : Int) = - (((x : Int) - y - b) / 18446744073709551616) := by split <;> omega
  rw [← e1, ← e2]
  rfl

/-- The words that one call of Add64 gives, as letters. -/
theorem add64_ex (x y c : Int) (hx : Word x) (hy : Word y) (hc0 : 0 ≤ c) (hc : c ≤ 1) : ∃ s k, (∀ w, (callFunc 59 #[.int .u64 x, .int .u64 y, .int .u64 c]).run Tryd.prog w = .ok (.value (.tuple #[.int .u64 s, .int .u64 k])) w) ∧ s = (x + y + c) % 18446744073709551616 ∧ k = (x + y + c) / 18446744073709551616 ∧ 0 ≤ k ∧ k ≤ 1 := by
  obtain ⟨hx0, hx1⟩ := hx; obtain ⟨hy0, hy1⟩ := hy
  exact ⟨_, _, add64 x y c hx0 hy0 hc0 hc, rfl, rfl, by omega, by omega⟩
theorem sub64_ex (x y c : Int) (hx : Word x) (hy : Word y) (hc0 : 0 ≤ c) (hc : c ≤ 1) : ∃ s k, (∀ w, (callFunc 66 #[.int .u64 x, .int .u64 y, .int .u64 c]).run Tryd.prog w = .ok (.value (.tuple #[.int .u64 s, .int .u64 k])) w) ∧ s = (x - y - c) % 18446744073709551616 ∧ k = - ((x - y - c) / 18446744073709551616) ∧ 0 ≤ k ∧ k ≤ 1 := by
  have hs := sub64 x y c hx hy hc0 hc
  obtain ⟨hx0, hx1⟩ := hx; obtain ⟨hy0, hy1⟩ := hy
  exact ⟨_, _, hs, rfl, rfl, by omega, by omega⟩

set_option maxHeartbeats 1000000 in
theorem add_walk (x y : Nm) (s0 s1 s2 s3 c1 c2 c3 c4 : Int) (w : World)
    (h0 : ∀ w, (callFunc 59 #[.int .u64 x.a, .int .u64 y.a, .int .u64 0]).run Tryd.prog w = .ok (.value (.tuple #[.int .u64 s0, .int .u64 c1])) w)
    (h1 : ∀ w, (callFunc 59 #[.int .u64 x.b, .int .u64 y.b, .int .u64 c1]).run Tryd.prog w = .ok (.value (.tuple #[.int .u64 s1, .int .u64 c2])) w)
    (h2 : ∀ w, (callFunc 59 #[.int .u64 x.c, .int .u64 y.c, .int .u64 c2]).run Tryd.prog w = .ok (.value (.tuple #[.int .u64 s2, .int .u64 c3])) w)
    (h3 : ∀ w, (callFunc 59 #[.int .u64 x.d, .int .u64 y.d, .int .u64 c3]).run Tryd.prog w = .ok (.value (.tuple #[.int .u64 s3, .int .u64 c4])) w) :
    Calls Tryd.prog 39 #[N x, N y] w fun e w' =>
      e = .returned (.tuple #[N ⟨s0, s1, s2, s3⟩, .int .u64 c4]) ∧ Below w.heap.size w w' := by
  go_enter Tryd.func39, Tryd.ntmps39
  go_wp2
  refine wp_loop_rounds 5 ?_
  iterate 4
    rw [rounds_succ]
    go_wp2
    go_region
    go_wp2
  rw [rounds_succ]
  go_wp2
  refine bodyPost_ret (v := .tuple #[N ⟨s0, s1, s2, s3⟩, .int .u64 c4]) (by simp [results, Tryd.results39, go_sem]) rfl ⟨rfl, ?_⟩
  repeat (first | exact Below.refl _ _ | refine Below.drew ?_ | refine Below.setCell ?_ (by simp <;> omega) _ | refine Below.alloc ?_ (by simp <;> omega) _)

set_option maxHeartbeats 1000000 in
theorem sub_walk (x y : Nm) (s0 s1 s2 s3 c1 c2 c3 c4 : Int) (w : World)
    (h0 : ∀ w, (callFunc 66 #[.int .u64 x.a, .int .u64 y.a, .int .u64 0]).run Tryd.prog w = .ok (.value (.tuple #[.int .u64 s0, .int .u64 c1])) w)
    (h1 : ∀ w, (callFunc 66 #[.int .u64 x.b, .int .u64 y.b, .int .u64 c1]).run Tryd.prog w = .ok (.value (.tuple #[.int .u64 s1, .int .u64 c2])) w)
    (h2 : ∀ w, (callFunc 66 #[.int .u64 x.c, .int .u64 y.c, .int .u64 c2]).run Tryd.prog w = .ok (.value (.tuple #[.int .u64 s2, .int .u64 c3])) w)
    (h3 : ∀ w, (callFunc 66 #[.int .u64 x.d, .int .u64 y.d, .int .u64 c3]).run Tryd.prog w = .ok (.value (.tuple #[.int .u64 s3, .int .u64 c4])) w) :
    Calls Tryd.prog 44 #[N x, N y] w fun e w' =>
      e = .returned (.tuple #[N ⟨s0, s1, s2, s3⟩, .int .u64 c4]) ∧ Below w.heap.size w w' := by
  go_enter Tryd.func44, Tryd.ntmps44
  go_wp2
  refine wp_loop_rounds 5 ?_
  iterate 4
    rw [rounds_succ]
    go_wp2
    go_region
    go_wp2
  rw [rounds_succ]
  go_wp2
  refine bodyPost_ret (v := .tuple #[N ⟨s0, s1, s2, s3⟩, .int .u64 c4]) (by simp [results, Tryd.results44, go_sem]) rfl ⟨rfl, ?_⟩
  repeat (first | exact Below.refl _ _ | refine Below.drew ?_ | refine Below.setCell ?_ (by simp <;> omega) _ | refine Below.alloc ?_ (by simp <;> omega) _)

/-- limb.Add. -/
theorem add_any (x y : Nm) (hx : x.ok) (hy : y.ok) (w : World) :
    Calls Tryd.prog 39 #[N x, N y] w fun e w' =>
      ∃ s c, e = .returned (.tuple #[N s, .int .u64 c]) ∧ Hid (s.ok ∧ s.val + M * c = x.val + y.val ∧ 0 ≤ c ∧ c ≤ 1) ∧ Below w.heap.size w w' := by
  obtain ⟨s0, c1, h0, e0, k1, p1, q1⟩ := add64_ex x.a y.a 0 hx.a hy.a (by decide) (by decide)
  obtain ⟨s1, c2, h1, e1, k2, p2, q2⟩ := add64_ex x.b y.b c1 hx.b hy.b p1 q1
  obtain ⟨s2, c3, h2, e2, k3, p3, q3⟩ := add64_ex x.c y.c c2 hx.c hy.c p2 q2
  obtain ⟨s3, c4, h3, e3, k4, p4, q4⟩ := add64_ex x.d y.d c3 hx.d hy.d p3 q3
  refine (add_walk x y s0 s1 s2 s3 c1 c2 c3 c4 w h0 h1 h2 h3).mono ?_
  rintro e w' ⟨rfl, hb⟩
  exact ⟨⟨s0, s1, s2, s3⟩, c4, rfl, add_val hx hy e0 k1 e1 k2 e2 k3 e3 k4, hb⟩
/-- limb.Sub. -/
theorem sub_any (x y : Nm) (hx : x.ok) (hy : y.ok) (w : World) :
    Calls Tryd.prog 44 #[N x, N y] w fun e w' =>
      ∃ s c, e = .returned (.tuple #[N s, .int .u64 c]) ∧ Hid (s.ok ∧ s.val - M * c = x.val - y.val ∧ 0 ≤ c ∧ c ≤ 1) ∧ Below w.heap.size w w' := by
  obtain ⟨s0, c1, h0, e0, k1, p1, q1⟩ := sub64_ex x.a y.a 0 hx.a hy.a (by decide) (by decide)
  obtain ⟨s1, c2, h1, e1, k2, p2, q2⟩ := sub64_ex x.b y.b c1 hx.b hy.b p1 q1
  obtain ⟨s2, c3, h2, e2, k3, p3, q3⟩ := sub64_ex x.c y.c c2 hx.c hy.c p2 q2
  obtain ⟨s3, c4, h3, e3, k4, p4, q4⟩ := sub64_ex x.d y.d c3 hx.d hy.d p3 q3
  refine (sub_walk x y s0 s1 s2 s3 c1 c2 c3 c4 w h0 h1 h2 h3).mono ?_
  rintro e w' ⟨rfl, hb⟩
  exact ⟨⟨s0, s1, s2, s3⟩, c4, rfl, sub_val hx hy e0 k1 e1 k2 e2 k3 e3 k4, hb⟩
/-- The sum, and what is carried. -/
def addS (x y : Nm) : Nm := Nm.of ((x.val + y.val) % M)
def addC (x y : Nm) : Int := (x.val + y.val) / M
/-- The difference, and what is borrowed. -/
def subS (x y : Nm) : Nm := Nm.of ((x.val - y.val) % M)
def subC (x y : Nm) : Int := - ((x.val - y.val) / M)
/-- limb.Add, its answer told. -/
theorem add_fun (x y : Nm) (hx : x.ok) (hy : y.ok) (w : World) :
    Calls Tryd.prog 39 #[N x, N y] w fun e w' => e = .returned (.tuple #[N (addS x y), .int .u64 (addC x y)]) ∧ Below w.heap.size w w' := by
  refine (add_any x y hx hy w).mono ?_
  rintro e w' ⟨s, c, rfl, H, hb⟩
  obtain ⟨o, hv, _, _⟩ := H.out
  have h0 := Nm.val_nonneg o; have h1 := Nm.val_lt o
  have e1 : s = addS x y := Nm.eq_of o (by rw [← hv]; unfold M at *; omega)
  have e2 : c = addC x y := by unfold addC; rw [← hv]; unfold M at *; omega
  rw [← e1, ← e2]
  exact ⟨rfl, hb⟩
/-- limb.Sub, its answer told. -/
theorem sub_fun (x y : Nm) (hx : x.ok) (hy : y.ok) (w : World) :
    Calls Tryd.prog 44 #[N x, N y] w fun e w' => e = .returned (.tuple #[N (subS x y), .int .u64 (subC x y)]) ∧ Below w.heap.size w w' := by
  refine (sub_any x y hx hy w).mono ?_
  rintro e w' ⟨s, c, rfl, H, hb⟩
  obtain ⟨o, hv, _, _⟩ := H.out
  have h0 := Nm.val_nonneg o; have h1 := Nm.val_lt o
  have e1 : s = subS x y := Nm.eq_of o (by rw [← hv]; unfold M at *; omega)
  have e2 : c = subC x y := by unfold subC; rw [← hv]; unfold M at *; omega
  rw [← e1, ← e2]
  exact ⟨rfl, hb⟩
/-- A number of one word. -/
theorem one_ok {c : Int} (h : Word c) : (⟨c, 0, 0, 0⟩ : Nm).ok := by
  have z : Word 0 := ⟨by decide, by decide⟩
  exact ⟨h, z, z, z⟩
end Go.Proofs.YtdcpicbkemmakaaDoor

/- The contracts of math/bits.Mul64, limb.mulAdd and limb.Mul: the product of two numbers of four words, as one of eight. -/
namespace Go.Proofs.YtdcpicbkemmakaaDoor
open Go.RowKit Go.Shelf

set_option maxHeartbeats 1000000 in
/-- math/bits.Mul64: its Go text walked; the school method's sum is the library's law mul64_arith. -/
theorem mul64_any (x y : Int) (hx : Word x) (hy : Word y) (w : World) :
    Calls Tryd.prog 74 #[.int .u64 x, .int .u64 y] w fun e w' => ∃ h l, e = .returned (.tuple #[.int .u64 h, .int .u64 l]) ∧ Hid (Word h ∧ Word l ∧ l + 18446744073709551616 * h = x * y) ∧ w' = w := by
  have hsum : Hid _ := mul64_arith x y hx.1 hx.2 hy.1 hy.2
  have hb : Hid (0 ≤ x * y ∧ x * y ≤ 18446744073709551615 * 18446744073709551615) := ⟨Int.mul_nonneg hx.1 hy.1, Int.mul_le_mul (by have := hx.2; omega) (by have := hy.2; omega) hy.1 (by decide)⟩
  have mx : Hid _ := and_low32 x hx.1 hx.2
  have my : Hid _ := and_low32 y hy.1 hy.2
  have mt : Hid (∀ t : Int, bits .and .u64 (t % 18446744073709551616) 4294967295 = t % 18446744073709551616 % 4294967296) := fun t => and_low32 _ (by omega) (by omega)
  clear hx hy
  go_enter Tryd.func74, Tryd.ntmps74
  go_wp2
  simp only [IntKind.wrap_u64, mx.out, my.out, mt.out, hsum.out]
  go_ret2
  refine ⟨_, _, rfl, ?_, rfl⟩
  have hb' := hb.out
  show _ ∧ _ ∧ _
  generalize x * y = p at *
  exact ⟨⟨by omega, by omega⟩, ⟨by omega, by omega⟩, by omega⟩

theorem prod_le {x y : Int} (hx : Word x) (hy : Word y) : x * y ≤ 18446744073709551615 * 18446744073709551615 := by
  obtain ⟨hx0, hx1⟩ := hx; obtain ⟨hy0, hy1⟩ := hy
  exact Int.mul_le_mul (by omega) (by omega) hy0 (by omega)

theorem mulAdd_val {p s t h l l1 c1 l2 c2 : Int} (hp : p ≤ 18446744073709551615 * 18446744073709551615) (hs : Word s) (ht : Word t) (H : Word h ∧ Word l ∧ l + 18446744073709551616 * h = p)
    (e1 : l1 = (l + s + 0) % 18446744073709551616) (k1 : c1 = (l + s + 0) / 18446744073709551616) (e2 : l2 = (l1 + t + 0) % 18446744073709551616) (k2 : c2 = (l1 + t + 0) / 18446744073709551616) :
    IntKind.u64.wrap (h + c1) = h + c1 ∧ IntKind.u64.wrap (h + c1 + c2) = h + c1 + c2 ∧ Word l2 ∧ Word (h + c1 + c2) ∧ l2 + 18446744073709551616 * (h + c1 + c2) = p + s + t := by
  obtain ⟨⟨h0, h1⟩, ⟨_, _⟩, hl⟩ := H
  obtain ⟨_, _⟩ := hs; obtain ⟨_, _⟩ := ht
  refine ⟨by rw [IntKind.wrap_u64]; omega, by rw [IntKind.wrap_u64]; omega, ⟨?_, ?_⟩, ⟨?_, ?_⟩, ?_⟩ <;> omega
set_option maxHeartbeats 400000 in
/-- limb.mulAdd. -/
theorem mulAdd_any (x y s t : Int) (hx : Word x) (hy : Word y) (hs : Word s) (ht : Word t) (w : World) :
    Calls Tryd.prog 65 #[.int .u64 x, .int .u64 y, .int .u64 s, .int .u64 t] w fun e w' => ∃ l h, e = .returned (.tuple #[.int .u64 l, .int .u64 h]) ∧ Hid (Word l ∧ Word h ∧ l + 18446744073709551616 * h = x * y + s + t) ∧ w' = w := by
  go_enter Tryd.func65, Tryd.ntmps65
  go_wp2_with fail
  refine (mul64_any x y hx hy _).mono ?_
  rintro e w1 ⟨h, l, rfl, H1, hw1⟩
  subst hw1
  obtain ⟨l1, c1, a1, e1, k1, p1, q1⟩ := add64_ex l s 0 H1.out.2.1 hs (by decide) (by decide)
  obtain ⟨l2, c2, a2, e2, k2, p2, q2⟩ := add64_ex l1 t 0 ⟨by omega, by omega⟩ ht (by decide) (by decide)
  have fin : Hid _ := mulAdd_val (prod_le hx hy) hs ht H1.out e1 k1 e2 k2
  clear e1 k1 e2 k2 H1
  go_wp2
  simp only [fin.out.1, fin.out.2.1]
  go_ret2
  exact ⟨_, _, rfl, fin.out.2.2, rfl⟩

/-- A step of the product, its words as letters. -/
theorem mulAdd_ex (x y s t : Int) (hx : Word x) (hy : Word y) (hs : Word s) (ht : Word t) : ∃ l h, Hid (∀ w, Calls Tryd.prog 65 #[.int .u64 x, .int .u64 y, .int .u64 s, .int .u64 t] w fun e w' => e = .returned (.tuple #[.int .u64 l, .int .u64 h]) ∧ w' = w) ∧ Word l ∧ Word h ∧ l + 18446744073709551616 * h = x * y + s + t := by
  refine ⟨(x * y + s + t) % 18446744073709551616, (x * y + s + t) / 18446744073709551616, fun w => ?_, ?_⟩
  · refine (mulAdd_any x y s t hx hy hs ht w).mono ?_
    rintro e w' ⟨l, h, rfl, H, hw⟩
    obtain ⟨⟨_, _⟩, ⟨_, _⟩, hl⟩ := H.out
    rw [← hl]
    have e1 : (l + 18446744073709551616 * h) % 18446744073709551616 = l := by omega
    have e2 : (l + 18446744073709551616 * h) / 18446744073709551616 = h := by omega
    rw [e1, e2]
    exact ⟨rfl, hw⟩
  · have hp := prod_le hx hy
    have hq : 0 ≤ x * y := Int.mul_nonneg hx.1 hy.1
    obtain ⟨_, _⟩ := hs; obtain ⟨_, _⟩ := ht
    generalize x * y = p at *
    exact ⟨⟨by omega, by omega⟩, ⟨by omega, by omega⟩, by omega⟩
/-- One row of the product: word x times y, added to what lies there. -/
theorem row_val {x : Int} {y : Nm} {s0 s1 s2 s3 r0 r1 r2 r3 c1 c2 c3 c4 : Int} (e0 : r0 + 18446744073709551616 * c1 = x * y.a + s0 + 0) (e1 : r1 + 18446744073709551616 * c2 = x * y.b + s1 + c1)
    (e2 : r2 + 18446744073709551616 * c3 = x * y.c + s2 + c2) (e3 : r3 + 18446744073709551616 * c4 = x * y.d + s3 + c3) :
    (⟨r0, r1, r2, r3⟩ : Nm).val + M * c4 = x * y.val + (⟨s0, s1, s2, s3⟩ : Nm).val := by
  simp only [Nm.val, M, Int.mul_add, Int.mul_left_comm x]
  omega
theorem rows_val {x y : Nm} {r00 r01 r02 r03 r04 r10 r11 r12 r13 r14 r20 r21 r22 r23 r24 r30 r31 r32 r33 r34 : Int}
    (h0 : (⟨r00, r01, r02, r03⟩ : Nm).val + M * r04 = x.a * y.val + (⟨0, 0, 0, 0⟩ : Nm).val) (h1 : (⟨r10, r11, r12, r13⟩ : Nm).val + M * r14 = x.b * y.val + (⟨r01, r02, r03, r04⟩ : Nm).val)
    (h2 : (⟨r20, r21, r22, r23⟩ : Nm).val + M * r24 = x.c * y.val + (⟨r11, r12, r13, r14⟩ : Nm).val) (h3 : (⟨r30, r31, r32, r33⟩ : Nm).val + M * r34 = x.d * y.val + (⟨r21, r22, r23, r24⟩ : Nm).val) :
    (⟨r00, r10, r20, r30⟩ : Nm).val + M * (⟨r31, r32, r33, r34⟩ : Nm).val = x.val * y.val := by
  have e : x.val * y.val = x.a * y.val + 18446744073709551616 * (x.b * y.val + 18446744073709551616 * (x.c * y.val + 18446744073709551616 * (x.d * y.val))) := by
    generalize y.val = v
    simp only [Nm.val, Int.add_mul, Int.mul_add, Int.mul_assoc]
  rw [e]
  generalize x.a * y.val = p0 at *
  generalize x.b * y.val = p1 at *
  generalize x.c * y.val = p2 at *
  generalize x.d * y.val = p3 at *
  simp only [Nm.val, M] at *
  omega
end Go.Proofs.YtdcpicbkemmakaaDoor

/- The contract of limb.Mul: the product of two numbers of four words, as one of eight. -/
namespace Go.Proofs.YtdcpicbkemmakaaDoor
open Go.RowKit
attribute [local go_sem] setCell_drewN
set_option maxHeartbeats 4000000 in
theorem mul_walk (x y : Nm) (r00 k00 r01 k01 r02 k02 r03 k03 r10 k10 r11 k11 r12 k12 r13 k13 r20 k20 r21 k21 r22 k22 r23 k23 r30 k30 r31 k31 r32 k32 r33 k33 : Int) (w : World)
    (h00 : Hid (∀ w, Calls Tryd.prog 65 #[.int .u64 x.a, .int .u64 y.a, .int .u64 0, .int .u64 0] w fun e w' => e = .returned (.tuple #[.int .u64 r00, .int .u64 k00]) ∧ w' = w))
    (h01 : Hid (∀ w, Calls Tryd.prog 65 #[.int .u64 x.a, .int .u64 y.b, .int .u64 0, .int .u64 k00] w fun e w' => e = .returned (.tuple #[.int .u64 r01, .int .u64 k01]) ∧ w' = w))
    (h02 : Hid (∀ w, Calls Tryd.prog 65 #[.int .u64 x.a, .int .u64 y.c, .int .u64 0, .int .u64 k01] w fun e w' => e = .returned (.tuple #[.int .u64 r02, .int .u64 k02]) ∧ w' = w))
    (h03 : Hid (∀ w, Calls Tryd.prog 65 #[.int .u64 x.a, .int .u64 y.d, .int .u64 0, .int .u64 k02] w fun e w' => e = .returned (.tuple #[.int .u64 r03, .int .u64 k03]) ∧ w' = w))
    (h10 : Hid (∀ w, Calls Tryd.prog 65 #[.int .u64 x.b, .int .u64 y.a, .int .u64 r01, .int .u64 0] w fun e w' => e = .returned (.tuple #[.int .u64 r10, .int .u64 k10]) ∧ w' = w))
    (h11 : Hid (∀ w, Calls Tryd.prog 65 #[.int .u64 x.b, .int .u64 y.b, .int .u64 r02, .int .u64 k10] w fun e w' => e = .returned (.tuple #[.int .u64 r11, .int .u64 k11]) ∧ w' = w))
    (h12 : Hid (∀ w, Calls Tryd.prog 65 #[.int .u64 x.b, .int .u64 y.c, .int .u64 r03, .int .u64 k11] w fun e w' => e = .returned (.tuple #[.int .u64 r12, .int .u64 k12]) ∧ w' = w))
    (h13 : Hid (∀ w, Calls Tryd.prog 65 #[.int .u64 x.b, .int .u64 y.d, .int .u64 k03, .int .u64 k12] w fun e w' => e = .returned (.tuple #[.int .u64 r13, .int .u64 k13]) ∧ w' = w))
    (h20 : Hid (∀ w, Calls Tryd.prog 65 #[.int .u64 x.c, .int .u64 y.a, .int .u64 r11, .int .u64 0] w fun e w' => e = .returned (.tuple #[.int .u64 r20, .int .u64 k20]) ∧ w' = w))
    (h21 : Hid (∀ w, Calls Tryd.prog 65 #[.int .u64 x.c, .int .u64 y.b, .int .u64 r12, .int .u64 k20] w fun e w' => e = .returned (.tuple #[.int .u64 r21, .int .u64 k21]) ∧ w' = w))
    (h22 : Hid (∀ w, Calls Tryd.prog 65 #[.int .u64 x.c, .int .u64 y.c, .int .u64 r13, .int .u64 k21] w fun e w' => e = .returned (.tuple #[.int .u64 r22, .int .u64 k22]) ∧ w' = w))
    (h23 : Hid (∀ w, Calls Tryd.prog 65 #[.int .u64 x.c, .int .u64 y.d, .int .u64 k13, .int .u64 k22] w fun e w' => e = .returned (.tuple #[.int .u64 r23, .int .u64 k23]) ∧ w' = w))
    (h30 : Hid (∀ w, Calls Tryd.prog 65 #[.int .u64 x.d, .int .u64 y.a, .int .u64 r21, .int .u64 0] w fun e w' => e = .returned (.tuple #[.int .u64 r30, .int .u64 k30]) ∧ w' = w))
    (h31 : Hid (∀ w, Calls Tryd.prog 65 #[.int .u64 x.d, .int .u64 y.b, .int .u64 r22, .int .u64 k30] w fun e w' => e = .returned (.tuple #[.int .u64 r31, .int .u64 k31]) ∧ w' = w))
    (h32 : Hid (∀ w, Calls Tryd.prog 65 #[.int .u64 x.d, .int .u64 y.c, .int .u64 r23, .int .u64 k31] w fun e w' => e = .returned (.tuple #[.int .u64 r32, .int .u64 k32]) ∧ w' = w))
    (h33 : Hid (∀ w, Calls Tryd.prog 65 #[.int .u64 x.d, .int .u64 y.d, .int .u64 k23, .int .u64 k32] w fun e w' => e = .returned (.tuple #[.int .u64 r33, .int .u64 k33]) ∧ w' = w)) :
    Calls Tryd.prog 43 #[N x, N y] w fun e w' => e = .returned (Wv ⟨r00, r10, r20, r30⟩ ⟨r31, r32, r33, k33⟩) ∧ Below w.heap.size w w' := by
  go_enter Tryd.func43, Tryd.ntmps43
  go_wp2
  refine wp_loop_rounds 5 ?_
  rw [rounds_succ]
  go_wp2
  refine wp_loop_rounds 5 ?_
  rw [rounds_succ]
  go_wp2
  refine wp_region_drew_then 20 (by kernel_rfl) (by kernel_rfl) (by kernel_rfl) (by kernel_rfl) (by decide) (fun _ _ d _ _ h => by cases d <;> exact h) ?_
  simp only [List.take_succ_cons, List.take_zero, List.drop_succ_cons, List.drop_zero]
  repeat (go_big_quiet_step ((go_at_call 65; exact (h00.out _).mono fun e w'' ⟨he, hw⟩ => ⟨he, _, hw⟩)))
  refine wpQuiet_nil ?_
  intro n
  go_wp2
  rw [rounds_succ]
  go_wp2
  refine wp_region_drew_then 20 (by kernel_rfl) (by kernel_rfl) (by kernel_rfl) (by kernel_rfl) (by decide) (fun _ _ d _ _ h => by cases d <;> exact h) ?_
  simp only [List.take_succ_cons, List.take_zero, List.drop_succ_cons, List.drop_zero]
  repeat (go_big_quiet_step ((go_at_call 65; exact (h01.out _).mono fun e w'' ⟨he, hw⟩ => ⟨he, _, hw⟩)))
  refine wpQuiet_nil ?_
  intro n
  go_wp2
  rw [rounds_succ]
  go_wp2
  refine wp_region_drew_then 20 (by kernel_rfl) (by kernel_rfl) (by kernel_rfl) (by kernel_rfl) (by decide) (fun _ _ d _ _ h => by cases d <;> exact h) ?_
  simp only [List.take_succ_cons, List.take_zero, List.drop_succ_cons, List.drop_zero]
  repeat (go_big_quiet_step ((go_at_call 65; exact (h02.out _).mono fun e w'' ⟨he, hw⟩ => ⟨he, _, hw⟩)))
  refine wpQuiet_nil ?_
  intro n
  go_wp2
  rw [rounds_succ]
  go_wp2
  refine wp_region_drew_then 20 (by kernel_rfl) (by kernel_rfl) (by kernel_rfl) (by kernel_rfl) (by decide) (fun _ _ d _ _ h => by cases d <;> exact h) ?_
  simp only [List.take_succ_cons, List.take_zero, List.drop_succ_cons, List.drop_zero]
  repeat (go_big_quiet_step ((go_at_call 65; exact (h03.out _).mono fun e w'' ⟨he, hw⟩ => ⟨he, _, hw⟩)))
  refine wpQuiet_nil ?_
  intro n
  go_wp2
  rw [rounds_succ]
  go_wp2
  rw [rounds_succ]
  go_wp2
  refine wp_loop_rounds 5 ?_
  rw [rounds_succ]
  go_wp2
  refine wp_region_drew_then 20 (by kernel_rfl) (by kernel_rfl) (by kernel_rfl) (by kernel_rfl) (by decide) (fun _ _ d _ _ h => by cases d <;> exact h) ?_
  simp only [List.take_succ_cons, List.take_zero, List.drop_succ_cons, List.drop_zero]
  repeat (go_big_quiet_step ((go_at_call 65; exact (h10.out _).mono fun e w'' ⟨he, hw⟩ => ⟨he, _, hw⟩)))
  refine wpQuiet_nil ?_
  intro n
  go_wp2
  rw [rounds_succ]
  go_wp2
  refine wp_region_drew_then 20 (by kernel_rfl) (by kernel_rfl) (by kernel_rfl) (by kernel_rfl) (by decide) (fun _ _ d _ _ h => by cases d <;> exact h) ?_
  simp only [List.take_succ_cons, List.take_zero, List.drop_succ_cons, List.drop_zero]
  repeat (go_big_quiet_step ((go_at_call 65; exact (h11.out _).mono fun e w'' ⟨he, hw⟩ => ⟨he, _, hw⟩)))
  refine wpQuiet_nil ?_
  intro n
  go_wp2
  rw [rounds_succ]
  go_wp2
  refine wp_region_drew_then 20 (by kernel_rfl) (by kernel_rfl) (by kernel_rfl) (by kernel_rfl) (by decide) (fun _ _ d _ _ h => by cases d <;> exact h) ?_
  simp only [List.take_succ_cons, List.take_zero, List.drop_succ_cons, List.drop_zero]
  repeat (go_big_quiet_step ((go_at_call 65; exact (h12.out _).mono fun e w'' ⟨he, hw⟩ => ⟨he, _, hw⟩)))
  refine wpQuiet_nil ?_
  intro n
  go_wp2
  rw [rounds_succ]
  go_wp2
  refine wp_region_drew_then 20 (by kernel_rfl) (by kernel_rfl) (by kernel_rfl) (by kernel_rfl) (by decide) (fun _ _ d _ _ h => by cases d <;> exact h) ?_
  simp only [List.take_succ_cons, List.take_zero, List.drop_succ_cons, List.drop_zero]
  repeat (go_big_quiet_step ((go_at_call 65; exact (h13.out _).mono fun e w'' ⟨he, hw⟩ => ⟨he, _, hw⟩)))
  refine wpQuiet_nil ?_
  intro n
  go_wp2
  rw [rounds_succ]
  go_wp2
  rw [rounds_succ]
  go_wp2
  refine wp_loop_rounds 5 ?_
  rw [rounds_succ]
  go_wp2
  refine wp_region_drew_then 20 (by kernel_rfl) (by kernel_rfl) (by kernel_rfl) (by kernel_rfl) (by decide) (fun _ _ d _ _ h => by cases d <;> exact h) ?_
  simp only [List.take_succ_cons, List.take_zero, List.drop_succ_cons, List.drop_zero]
  repeat (go_big_quiet_step ((go_at_call 65; exact (h20.out _).mono fun e w'' ⟨he, hw⟩ => ⟨he, _, hw⟩)))
  refine wpQuiet_nil ?_
  intro n
  go_wp2
  rw [rounds_succ]
  go_wp2
  refine wp_region_drew_then 20 (by kernel_rfl) (by kernel_rfl) (by kernel_rfl) (by kernel_rfl) (by decide) (fun _ _ d _ _ h => by cases d <;> exact h) ?_
  simp only [List.take_succ_cons, List.take_zero, List.drop_succ_cons, List.drop_zero]
  repeat (go_big_quiet_step ((go_at_call 65; exact (h21.out _).mono fun e w'' ⟨he, hw⟩ => ⟨he, _, hw⟩)))
  refine wpQuiet_nil ?_
  intro n
  go_wp2
  rw [rounds_succ]
  go_wp2
  refine wp_region_drew_then 20 (by kernel_rfl) (by kernel_rfl) (by kernel_rfl) (by kernel_rfl) (by decide) (fun _ _ d _ _ h => by cases d <;> exact h) ?_
  simp only [List.take_succ_cons, List.take_zero, List.drop_succ_cons, List.drop_zero]
  repeat (go_big_quiet_step ((go_at_call 65; exact (h22.out _).mono fun e w'' ⟨he, hw⟩ => ⟨he, _, hw⟩)))
  refine wpQuiet_nil ?_
  intro n
  go_wp2
  rw [rounds_succ]
  go_wp2
  refine wp_region_drew_then 20 (by kernel_rfl) (by kernel_rfl) (by kernel_rfl) (by kernel_rfl) (by decide) (fun _ _ d _ _ h => by cases d <;> exact h) ?_
  simp only [List.take_succ_cons, List.take_zero, List.drop_succ_cons, List.drop_zero]
  repeat (go_big_quiet_step ((go_at_call 65; exact (h23.out _).mono fun e w'' ⟨he, hw⟩ => ⟨he, _, hw⟩)))
  refine wpQuiet_nil ?_
  intro n
  go_wp2
  rw [rounds_succ]
  go_wp2
  rw [rounds_succ]
  go_wp2
  refine wp_loop_rounds 5 ?_
  rw [rounds_succ]
  go_wp2
  refine wp_region_drew_then 20 (by kernel_rfl) (by kernel_rfl) (by kernel_rfl) (by kernel_rfl) (by decide) (fun _ _ d _ _ h => by cases d <;> exact h) ?_
  simp only [List.take_succ_cons, List.take_zero, List.drop_succ_cons, List.drop_zero]
  repeat (go_big_quiet_step ((go_at_call 65; exact (h30.out _).mono fun e w'' ⟨he, hw⟩ => ⟨he, _, hw⟩)))
  refine wpQuiet_nil ?_
  intro n
  go_wp2
  rw [rounds_succ]
  go_wp2
  refine wp_region_drew_then 20 (by kernel_rfl) (by kernel_rfl) (by kernel_rfl) (by kernel_rfl) (by decide) (fun _ _ d _ _ h => by cases d <;> exact h) ?_
  simp only [List.take_succ_cons, List.take_zero, List.drop_succ_cons, List.drop_zero]
  repeat (go_big_quiet_step ((go_at_call 65; exact (h31.out _).mono fun e w'' ⟨he, hw⟩ => ⟨he, _, hw⟩)))
  refine wpQuiet_nil ?_
  intro n
  go_wp2
  rw [rounds_succ]
  go_wp2
  refine wp_region_drew_then 20 (by kernel_rfl) (by kernel_rfl) (by kernel_rfl) (by kernel_rfl) (by decide) (fun _ _ d _ _ h => by cases d <;> exact h) ?_
  simp only [List.take_succ_cons, List.take_zero, List.drop_succ_cons, List.drop_zero]
  repeat (go_big_quiet_step ((go_at_call 65; exact (h32.out _).mono fun e w'' ⟨he, hw⟩ => ⟨he, _, hw⟩)))
  refine wpQuiet_nil ?_
  intro n
  go_wp2
  rw [rounds_succ]
  go_wp2
  refine wp_region_drew_then 20 (by kernel_rfl) (by kernel_rfl) (by kernel_rfl) (by kernel_rfl) (by decide) (fun _ _ d _ _ h => by cases d <;> exact h) ?_
  simp only [List.take_succ_cons, List.take_zero, List.drop_succ_cons, List.drop_zero]
  repeat (go_big_quiet_step ((go_at_call 65; exact (h33.out _).mono fun e w'' ⟨he, hw⟩ => ⟨he, _, hw⟩)))
  refine wpQuiet_nil ?_
  intro n
  go_wp2
  rw [rounds_succ]
  go_wp2
  rw [rounds_succ]
  go_wp2
  refine bodyPost_ret (v := Wv ⟨r00, r10, r20, r30⟩ ⟨r31, r32, r33, k33⟩) (by simp [results, Tryd.results43, go_sem]) rfl ⟨rfl, ?_⟩
  repeat (first | exact Below.refl _ _ | refine Below.drew ?_ | refine below_drewN ?_ | refine Below.setCell ?_ (by simp <;> omega) _ | refine Below.alloc ?_ (by simp <;> omega) _)

/-- limb.Mul. -/
theorem mul_any (x y : Nm) (hx : x.ok) (hy : y.ok) (w : World) :
    Calls Tryd.prog 43 #[N x, N y] w fun e w' => ∃ l h, e = .returned (Wv l h) ∧ Hid (l.ok ∧ h.ok ∧ l.val + M * h.val = x.val * y.val) ∧ Below w.heap.size w w' := by
  have zw : Word 0 := ⟨by decide, by decide⟩
  obtain ⟨r00, k00, h00, w_r00, w_k00, e00⟩ := mulAdd_ex x.a y.a 0 0 hx.a hy.a zw zw
  obtain ⟨r01, k01, h01, w_r01, w_k01, e01⟩ := mulAdd_ex x.a y.b 0 k00 hx.a hy.b zw w_k00
  obtain ⟨r02, k02, h02, w_r02, w_k02, e02⟩ := mulAdd_ex x.a y.c 0 k01 hx.a hy.c zw w_k01
  obtain ⟨r03, k03, h03, w_r03, w_k03, e03⟩ := mulAdd_ex x.a y.d 0 k02 hx.a hy.d zw w_k02
  obtain ⟨r10, k10, h10, w_r10, w_k10, e10⟩ := mulAdd_ex x.b y.a r01 0 hx.b hy.a w_r01 zw
  obtain ⟨r11, k11, h11, w_r11, w_k11, e11⟩ := mulAdd_ex x.b y.b r02 k10 hx.b hy.b w_r02 w_k10
  obtain ⟨r12, k12, h12, w_r12, w_k12, e12⟩ := mulAdd_ex x.b y.c r03 k11 hx.b hy.c w_r03 w_k11
  obtain ⟨r13, k13, h13, w_r13, w_k13, e13⟩ := mulAdd_ex x.b y.d k03 k12 hx.b hy.d w_k03 w_k12
  obtain ⟨r20, k20, h20, w_r20, w_k20, e20⟩ := mulAdd_ex x.c y.a r11 0 hx.c hy.a w_r11 zw
  obtain ⟨r21, k21, h21, w_r21, w_k21, e21⟩ := mulAdd_ex x.c y.b r12 k20 hx.c hy.b w_r12 w_k20
  obtain ⟨r22, k22, h22, w_r22, w_k22, e22⟩ := mulAdd_ex x.c y.c r13 k21 hx.c hy.c w_r13 w_k21
  obtain ⟨r23, k23, h23, w_r23, w_k23, e23⟩ := mulAdd_ex x.c y.d k13 k22 hx.c hy.d w_k13 w_k22
  obtain ⟨r30, k30, h30, w_r30, w_k30, e30⟩ := mulAdd_ex x.d y.a r21 0 hx.d hy.a w_r21 zw
  obtain ⟨r31, k31, h31, w_r31, w_k31, e31⟩ := mulAdd_ex x.d y.b r22 k30 hx.d hy.b w_r22 w_k30
  obtain ⟨r32, k32, h32, w_r32, w_k32, e32⟩ := mulAdd_ex x.d y.c r23 k31 hx.d hy.c w_r23 w_k31
  obtain ⟨r33, k33, h33, w_r33, w_k33, e33⟩ := mulAdd_ex x.d y.d k23 k32 hx.d hy.d w_k23 w_k32
  refine (mul_walk x y r00 k00 r01 k01 r02 k02 r03 k03 r10 k10 r11 k11 r12 k12 r13 k13 r20 k20 r21 k21 r22 k22 r23 k23 r30 k30 r31 k31 r32 k32 r33 k33 w h00 h01 h02 h03 h10 h11 h12 h13 h20 h21 h22 h23 h30 h31 h32 h33).mono ?_
  rintro e w' ⟨rfl, hb⟩
  refine ⟨_, _, rfl, ⟨⟨w_r00, w_r10, w_r20, w_r30⟩, ⟨w_r31, w_r32, w_r33, w_k33⟩, ?_⟩, hb⟩
  exact rows_val (row_val e00 e01 e02 e03) (row_val e10 e11 e12 e13) (row_val e20 e21 e22 e23) (row_val e30 e31 e32 e33)

/-- The product's halves. -/
def mulL (x y : Nm) : Nm := Nm.of (x.val * y.val % M)
def mulH (x y : Nm) : Nm := Nm.of (x.val * y.val / M)
/-- limb.Mul, its answer told. -/
theorem mul_fun (x y : Nm) (hx : x.ok) (hy : y.ok) (w : World) :
    Calls Tryd.prog 43 #[N x, N y] w fun e w' => e = .returned (Wv (mulL x y) (mulH x y)) ∧ Below w.heap.size w w' := by
  refine (mul_any x y hx hy w).mono ?_
  rintro e w' ⟨l, h, rfl, H, hb⟩
  obtain ⟨ol, oh, hv⟩ := H.out
  have h0 := Nm.val_nonneg ol; have h1 := Nm.val_lt ol
  have e1 : l = mulL x y := Nm.eq_of ol (by rw [← hv]; unfold M at *; omega)
  have e2 : h = mulH x y := Nm.eq_of oh (by rw [← hv]; unfold M at *; omega)
  rw [← e1, ← e2]
  exact ⟨rfl, hb⟩
end Go.Proofs.YtdcpicbkemmakaaDoor

/- limb.Mul, told by what numbers of eight words stand for. -/
namespace Go.Proofs.YtdcpicbkemmakaaDoor
open Go.RowKit

/-- What a number stands for, as a natural number. -/
def Nm.nat (x : Nm) : Nat := x.val.toNat
theorem Nm.nat_cast {x : Nm} (h : x.ok) : ((x.nat : Nat) : Int) = x.val := Int.toNat_of_nonneg (Nm.val_nonneg h)
theorem Nm.nat_lt {x : Nm} (h : x.ok) : x.nat < 2 ^ 256 := by
  have := Nm.val_lt h
  rw [← Nm.nat_cast h, M_cast] at this
  exact Int.ofNat_lt.1 this
theorem Nm.of_nat {n : Nat} (h : n < 2 ^ 256) : (Nm.of ((n : Nat) : Int)).nat = n := by
  unfold Nm.nat
  rw [Nm.of_val (Int.natCast_nonneg _) (by rw [M_cast]; exact Int.ofNat_lt.2 h)]
  rfl
theorem Nm.eq_of_nat {x : Nm} (h : x.ok) : x = Nm.of ((x.nat : Nat) : Int) := Nm.eq_of h (Nm.nat_cast h).symm
theorem pow512' : (2 : Nat) ^ 512 = 2 ^ 256 * 2 ^ 256 := pow_twice 512 256 rfl
theorem mul_lt512 {x y : Nm} (ox : x.ok) (oy : y.ok) : x.nat * y.nat < 2 ^ 512 := by
  rw [pow512']
  exact Nat.mul_lt_mul'' (Nm.nat_lt ox) (Nm.nat_lt oy)
/-- limb.Mul. -/
theorem mul_V (x y : Nm) (ox : x.ok) (oy : y.ok) (w : World) :
    Calls Tryd.prog 43 #[N x, N y] w fun e w' => e = .returned (Wv (WL (x.nat * y.nat)) (WH (x.nat * y.nat))) ∧ Below w.heap.size w w' := by
  have := mul_fun x y ox oy w
  have e : ((x.nat * y.nat : Nat) : Int) = x.val * y.val := by rw [Int.natCast_mul, Nm.nat_cast ox, Nm.nat_cast oy]
  unfold WL WH
  rw [e]
  exact this
end Go.Proofs.YtdcpicbkemmakaaDoor
