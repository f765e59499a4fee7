/- The contracts of math/bits.Mul64, limb.mulAdd and limb.Mul: the product of two numbers of four words, as one of eight. -/
import Derived.Test.YtgdekdmdidahdaaDoorAddSub
import Derived.Laws.MathBits
namespace Go.Proofs.YtgdekdmdidahdaaDoor
open Go.RowKit Go.Shelf

theorem prod_le {x y : Int} (hx : Word x) (hy : Word y) : x * y ≤ 18446744073709551615 * 18446744073709551615 := by
  obtain ⟨hx0, hx1⟩ := hx; obtain ⟨hy0, hy1⟩ := hy
  exact Int.mul_le_mul (by omega) (by omega) hy0 (by omega)

theorem mulAdd_val {p s t h l l1 c1 l2 c2 : Int} (hp : p ≤ 18446744073709551615 * 18446744073709551615) (hs : Word s) (ht : Word t) (H : Word h ∧ Word l ∧ l + 18446744073709551616 * h = p)
    (e1 : l1 = (l + s + 0) % 18446744073709551616) (k1 : c1 = (l + s + 0) / 18446744073709551616) (e2 : l2 = (l1 + t + 0) % 18446744073709551616) (k2 : c2 = (l1 + t + 0) / 18446744073709551616) :
    IntKind.u64.wrap (h + c1) = h + c1 ∧ IntKind.u64.wrap (h + c1 + c2) = h + c1 + c2 ∧ Word l2 ∧ Word (h + c1 + c2) ∧ l2 + 18446744073709551616 * (h + c1 + c2) = p + s + t := by
  obtain ⟨⟨h0, h1⟩, ⟨_, _⟩, hl⟩ := H
  obtain ⟨_, _⟩ := hs; obtain ⟨_, _⟩ := ht
  refine ⟨by rw [IntKind.wrap_u64]; omega, by rw [IntKind.wrap_u64]; omega, ⟨?_, ?_⟩, ⟨?_, ?_⟩, ?_⟩ <;> omega
/-- One row of the product: word x times y, added to what lies there. -/
theorem row_val {x : Int} {y : Nm} {s0 s1 s2 s3 r0 r1 r2 r3 c1 c2 c3 c4 : Int} (e0 : r0 + 18446744073709551616 * c1 = x * y.a + s0 + 0) (e1 : r1 + 18446744073709551616 * c2 = x * y.b + s1 + c1)
    (e2 : r2 + 18446744073709551616 * c3 = x * y.c + s2 + c2) (e3 : r3 + 18446744073709551616 * c4 = x * y.d + s3 + c3) :
    (⟨r0, r1, r2, r3⟩ : Nm).val + M * c4 = x * y.val + (⟨s0, s1, s2, s3⟩ : Nm).val := by
  simp only [Nm.val, M, Int.mul_add, Int.mul_left_comm x]
  omega
theorem rows_val {x y : Nm} {r00 r01 r02 r03 r04 r10 r11 r12 r13 r14 r20 r21 r22 r23 r24 r30 r31 r32 r33 r34 : Int}
    (h0 : (⟨r00, r01, r02, r03⟩ : Nm).val + M * r04 = x.a * y.val + (⟨0, 0, 0, 0⟩ : Nm).val) (h1 : (⟨r10, r11, r12, r13⟩ : Nm).val + M * r14 = x.b * y.val + (⟨r01, r02, r03, r04⟩ : Nm).val)
    (h2 : (⟨r20, r21, r22, r23⟩ : Nm).val + M * r24 = x.c * y.val + (⟨r11, r12, r13, r14⟩ : Nm).val) (h3 : (⟨r30, r31, r32, r33⟩ : Nm).val + M * r34 = x.d * y.val + (⟨r21, r22, r23, r24⟩ : Nm).val) :
    (⟨r00, r10, r20, r30⟩ : Nm).val + M * (⟨r31, r32, r33, r34⟩ : Nm).val = x.val * y.val := by
  have e : x.val * y.val = x.a * y.val + 18446744073709551616 * (x.b * y.val + 18446744073709551616 * (x.c * y.val + 18446744073709551616 * (x.d * y.val))) := by
    generalize y.val = v
    simp only [Nm.val, Int.add_mul, Int.mul_add, Int.mul_assoc]
  rw [e]
  generalize x.a * y.val = p0 at *
  generalize x.b * y.val = p1 at *
  generalize x.c * y.val = p2 at *
  generalize x.d * y.val = p3 at *
  simp only [Nm.val, M] at *
  omega
end Go.Proofs.YtgdekdmdidahdaaDoor
