/- The contracts of math/bits.Mul64, limb.mulAdd and limb.Mul: the product of two numbers of four words, as one of eight. -/
import Derived.Test.YtjdamgfichlgpaaAddSub
import Derived.Laws.MathBits
namespace Go.Proofs.Ytjdamgfichlgpaa
open Go.RowKit Go.Shelf

set_option maxHeartbeats 1000000 in
/-- math/bits.Mul64: its Go text walked; the school method's sum is the library's law mul64_arith. -/
theorem mul64_any (x y : Int) (hx : Word x) (hy : Word y) (w : World) :
    Calls Try.prog 75 #[.int .u64 x, .int .u64 y] w fun e w' => ∃ h l, e = .returned (.tuple #[.int .u64 h, .int .u64 l]) ∧ Hid (Word h ∧ Word l ∧ l + 18446744073709551616 * h = x * y) ∧ w' = w := by
  have hsum : Hid _ := mul64_arith x y hx.1 hx.2 hy.1 hy.2
  have hb : Hid (0 ≤ x * y ∧ x * y ≤ 18446744073709551615 * 18446744073709551615) := ⟨Int.mul_nonneg hx.1 hy.1, Int.mul_le_mul (by have := hx.2; omega) (by have := hy.2; omega) hy.1 (by decide)⟩
  have mx : Hid _ := and_low32 x hx.1 hx.2
  have my : Hid _ := and_low32 y hy.1 hy.2
  have mt : Hid (∀ t : Int, bits .and .u64 (t % 18446744073709551616) 4294967295 = t % 18446744073709551616 % 4294967296) := fun t => and_low32 _ (by omega) (by omega)
  clear hx hy
  go_enter Try.func75, Try.ntmps75
  go_wp2
  simp only [IntKind.wrap_u64, mx.out, my.out, mt.out, hsum.out]
  go_ret2
  refine ⟨_, _, rfl, ?_, rfl⟩
  have hb' := hb.out
  show _ ∧ _ ∧ _
  generalize x * y = p at *
  exact ⟨⟨by omega, by omega⟩, ⟨by omega, by omega⟩, by omega⟩

theorem prod_le {x y : Int} (hx : Word x) (hy : Word y) : x * y ≤ 18446744073709551615 * 18446744073709551615 := by
  obtain ⟨hx0, hx1⟩ := hx; obtain ⟨hy0, hy1⟩ := hy
  exact Int.mul_le_mul (by omega) (by omega) hy0 (by omega)

theorem mulAdd_val {p s t h l l1 c1 l2 c2 : Int} (hp : p ≤ 18446744073709551615 * 18446744073709551615) (hs : Word s) (ht : Word t) (H : Word h ∧ Word l ∧ l + 18446744073709551616 * h = p)
    (e1 : l1 = (l + s + 0) % 18446744073709551616) (k1 : c1 = (l + s + 0) / 18446744073709551616) (e2 : l2 = (l1 + t + 0) % 18446744073709551616) (k2 : c2 = (l1 + t + 0) / 18446744073709551616) :
    IntKind.u64.wrap (h + c1) = h + c1 ∧ IntKind.u64.wrap (h + c1 + c2) = h + c1 + c2 ∧ Word l2 ∧ Word (h + c1 + c2) ∧ l2 + 18446744073709551616 * (h + c1 + c2) = p + s + t := by
  obtain ⟨⟨h0, h1⟩, ⟨_, _⟩, hl⟩ := H
  obtain ⟨_, _⟩ := hs; obtain ⟨_, _⟩ := ht
  refine ⟨by rw [IntKind.wrap_u64]; omega, by rw [IntKind.wrap_u64]; omega, ⟨?_, ?_⟩, ⟨?_, ?_⟩, ?_⟩ <;> omega
set_option maxHeartbeats 400000 in
/-- limb.mulAdd. -/
theorem mulAdd_any (x y s t : Int) (hx : Word x) (hy : Word y) (hs : Word s) (ht : Word t) (w : World) :
    Calls Try.prog 54 #[.int .u64 x, .int .u64 y, .int .u64 s, .int .u64 t] w fun e w' => ∃ l h, e = .returned (.tuple #[.int .u64 l, .int .u64 h]) ∧ Hid (Word l ∧ Word h ∧ l + 18446744073709551616 * h = x * y + s + t) ∧ w' = w := by
  go_enter Try.func54, Try.ntmps54
  go_wp2_with fail
  refine (mul64_any x y hx hy _).mono ?_
  rintro e w1 ⟨h, l, rfl, H1, hw1⟩
  subst hw1
  obtain ⟨l1, c1, a1, e1, k1, p1, q1⟩ := add64_ex l s 0 H1.out.2.1 hs (by decide) (by decide)
  obtain ⟨l2, c2, a2, e2, k2, p2, q2⟩ := add64_ex l1 t 0 ⟨by omega, by omega⟩ ht (by decide) (by decide)
  have fin : Hid _ := mulAdd_val (prod_le hx hy) hs ht H1.out e1 k1 e2 k2
  clear e1 k1 e2 k2 H1
  go_wp2
  simp only [fin.out.1, fin.out.2.1]
  go_ret2
  exact ⟨_, _, rfl, fin.out.2.2, rfl⟩

/-- A step of the product, its words as letters. -/
theorem mulAdd_ex (x y s t : Int) (hx : Word x) (hy : Word y) (hs : Word s) (ht : Word t) : ∃ l h, Hid (∀ w, Calls Try.prog 54 #[.int .u64 x, .int .u64 y, .int .u64 s, .int .u64 t] w fun e w' => e = .returned (.tuple #[.int .u64 l, .int .u64 h]) ∧ w' = w) ∧ Word l ∧ Word h ∧ l + 18446744073709551616 * h = x * y + s + t := by
  refine ⟨(x * y + s + t) % 18446744073709551616, (x * y + s + t) / 18446744073709551616, fun w => ?_, ?_⟩
  · refine (mulAdd_any x y s t hx hy hs ht w).mono ?_
    rintro e w' ⟨l, h, rfl, H, hw⟩
    obtain ⟨⟨_, _⟩, ⟨_, _⟩, hl⟩ := H.out
    rw [← hl]
    have e1 : (l + 18446744073709551616 * h) % 18446744073709551616 = l := by omega
    have e2 : (l + 18446744073709551616 * h) / 18446744073709551616 = h := by omega
    rw [e1, e2]
    exact ⟨rfl, hw⟩
  · have hp := prod_le hx hy
    have hq : 0 ≤ x * y := Int.mul_nonneg hx.1 hy.1
    obtain ⟨_, _⟩ := hs; obtain ⟨_, _⟩ := ht
    generalize x * y = p at *
    exact ⟨⟨by omega, by omega⟩, ⟨by omega, by omega⟩, by omega⟩
/-- One row of the product: word x times y, added to what lies there. -/
theorem row_val {x : Int} {y : Nm} {s0 s1 s2 s3 r0 r1 r2 r3 c1 c2 c3 c4 : Int} (e0 : r0 + 18446744073709551616 * c1 = x * y.a + s0 + 0) (e1 : r1 + 18446744073709551616 * c2 = x * y.b + s1 + c1)
    (e2 : r2 + 18446744073709551616 * c3 = x * y.c + s2 + c2) (e3 : r3 + 18446744073709551616 * c4 = x * y.d + s3 + c3) :
    (⟨r0, r1, r2, r3⟩ : Nm).val + M * c4 = x * y.val + (⟨s0, s1, s2, s3⟩ : Nm).val := by
  simp only [Nm.val, M, Int.mul_add, Int.mul_left_comm x]
  omega
theorem rows_val {x y : Nm} {r00 r01 r02 r03 r04 r10 r11 r12 r13 r14 r20 r21 r22 r23 r24 r30 r31 r32 r33 r34 : Int}
    (h0 : (⟨r00, r01, r02, r03⟩ : Nm).val + M * r04 = x.a * y.val + (⟨0, 0, 0, 0⟩ : Nm).val) (h1 : (⟨r10, r11, r12, r13⟩ : Nm).val + M * r14 = x.b * y.val + (⟨r01, r02, r03, r04⟩ : Nm).val)
    (h2 : (⟨r20, r21, r22, r23⟩ : Nm).val + M * r24 = x.c * y.val + (⟨r11, r12, r13, r14⟩ : Nm).val) (h3 : (⟨r30, r31, r32, r33⟩ : Nm).val + M * r34 = x.d * y.val + (⟨r21, r22, r23, r24⟩ : Nm).val) :
    (⟨r00, r10, r20, r30⟩ : Nm).val + M * (⟨r31, r32, r33, r34⟩ : Nm).val = x.val * y.val := by
  have e : x.val * y.val = x.a * y.val + 18446744073709551616 * (x.b * y.val + 18446744073709551616 * (x.c * y.val + 18446744073709551616 * (x.d * y.val))) := by
    generalize y.val = v
    simp only [Nm.val, Int.add_mul, Int.mul_add, Int.mul_assoc]
  rw [e]
  generalize x.a * y.val = p0 at *
  generalize x.b * y.val = p1 at *
  generalize x.c * y.val = p2 at *
  generalize x.d * y.val = p3 at *
  simp only [Nm.val, M] at *
  omega
end Go.Proofs.Ytjdamgfichlgpaa
