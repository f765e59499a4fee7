/- Texts that were joined: AddSub, Mul. -/
import Derived.Test.YtdcpicbkemmakaaRows
import Derived.Test.YtdcpicbkemmakaaQNumToQMath
import Derived.WalkKit
import Derived.WalkSpells
import Derived.WalkLawsBesides
import Derived.LoopN
import Derived.Shelf.Spec.BitsCarry
import Derived.Laws.MathBits
/- The contracts of limb.Add and limb.Sub: the sum and the difference of two numbers of four words, with what is carried or borrowed. -/
namespace Go.Proofs.Ytdcpicbkemmakaa
open Go.RowKit Go.Shelf

theorem add64 (x y c : Int) (hx : 0 ≤ x) (hy : 0 ≤ y) (hc0 : 0 ≤ c) (hc : c ≤ 1) (w : World) : (callFunc 48 #[.int .u64 x, .int .u64 y, .int .u64 c]).run Try.prog w =
    .ok (.value (.tuple #[.int .u64 ((x + y + c) % 18446744073709551616), .int .u64 ((x + y + c) / 18446744073709551616)])) w := by
  rw [run_callFunc_extern Try.func48 (by kernel_rfl) (by kernel_rfl) (by kernel_rfl) (e := add64Entry) (by kernel_rfl), run_add64 x y c hx hy hc0 hc]
  rfl
theorem sub64 (x y b : Int) (hx : Word x) (hy : Word y) (hb0 : 0 ≤ b) (hb : b ≤ 1) (w : World) : (callFunc 51 #[.int .u64 x, .int .u64 y, .int .u64 b]).run Try.prog w =
    .ok (.value (.tuple #[.int .u64 ((x - y - b) % 18446744073709551616), .int .u64 (- ((x - y - b) / 18446744073709551616))])) w := by
  obtain ⟨hx0, hx1⟩ := hx; obtain ⟨hy0, hy1⟩ := hy
  obtain ⟨x, rfl⟩ := Int.eq_ofNat_of_zero_le hx0
  obtain ⟨y, rfl⟩ := Int.eq_ofNat_of_zero_le hy0
  obtain ⟨b, rfl⟩ := Int.eq_ofNat_of_zero_le hb0
  rw [run_callFunc_extern Try.func51 (by kernel_rfl) (by kernel_rfl) (by kernel_rfl) (e := sub64Entry) (by kernel_rfl), run_sub64 x y b (by omega)]
  have e1 : (((x + 18446744073709551616 - y - b) % 18446744073709551616 : Nat) : Int) = ((x : Int) - y - b) % 18446744073709551616 := by omega
  have e2 : ((if x < y + b then 1 else 0 : Nat) : Int) = - (((x : Int) - y - b) / 18446744073709551616) := by split <;> omega
  rw [← e1, ← e2]
  rfl

/-- The words that one call of Add64 gives, as letters. -/
theorem add64_ex (x y c : Int) (hx : Word x) (hy : Word y) (hc0 : 0 ≤ c) (hc : c ≤ 1) : ∃ s k, (∀ w, (callFunc 48 #[.int .u64 x, .int .u64 y, .int .u64 c]).run Try.prog w = .ok (.value (.tuple #[.int .u64 s, .int .u64 k])) w) ∧ s = (x + y + c) % 18446744073709551616 ∧ k = (x + y + c) / 18446744073709551616 ∧ 0 ≤ k ∧ k ≤ 1 := by
  obtain ⟨hx0, hx1⟩ := hx; obtain ⟨hy0, hy1⟩ := hy
  exact ⟨_, _, add64 x y c hx0 hy0 hc0 hc, rfl, rfl, by omega, by omega⟩
theorem sub64_ex (x y c : Int) (hx : Word x) (hy : Word y) (hc0 : 0 ≤ c) (hc : c ≤ 1) : ∃ s k, (∀ w, (callFunc 51 #[.int .u64 x, .int .u64 y, .int .u64 c]).run Try.prog w = .ok (.value (.tuple #[.int .u64 s, .int .u64 k])) w) ∧ s = (x - y - c) % 18446744073709551616 ∧ k = - ((x - y - c) / 18446744073709551616) ∧ 0 ≤ k ∧ k ≤ 1 := by
  have hs := sub64 x y c hx hy hc0 hc
  obtain ⟨hx0, hx1⟩ := hx; obtain ⟨hy0, hy1⟩ := hy
  exact ⟨_, _, hs, rfl, rfl, by omega, by omega⟩

set_option maxHeartbeats 1000000 in
theorem add_walk (x y : Nm) (s0 s1 s2 s3 c1 c2 c3 c4 : Int) (w : World)
    (h0 : ∀ w, (callFunc 48 #[.int .u64 x.a, .int .u64 y.a, .int .u64 0]).run Try.prog w = .ok (.value (.tuple #[.int .u64 s0, .int .u64 c1])) w)
    (h1 : ∀ w, (callFunc 48 #[.int .u64 x.b, .int .u64 y.b, .int .u64 c1]).run Try.prog w = .ok (.value (.tuple #[.int .u64 s1, .int .u64 c2])) w)
    (h2 : ∀ w, (callFunc 48 #[.int .u64 x.c, .int .u64 y.c, .int .u64 c2]).run Try.prog w = .ok (.value (.tuple #[.int .u64 s2, .int .u64 c3])) w)
    (h3 : ∀ w, (callFunc 48 #[.int .u64 x.d, .int .u64 y.d, .int .u64 c3]).run Try.prog w = .ok (.value (.tuple #[.int .u64 s3, .int .u64 c4])) w) :
    Calls Try.prog 32 #[N x, N y] w fun e w' =>
      e = .returned (.tuple #[N ⟨s0, s1, s2, s3⟩, .int .u64 c4]) ∧ Below w.heap.size w w' := by
  go_enter Try.func32, Try.ntmps32
  go_wp2
  refine wp_loop_rounds 5 ?_
  iterate 4
    rw [rounds_succ]
    go_wp2
    go_region
    go_wp2
  rw [rounds_succ]
  go_wp2
  refine bodyPost_ret (v := .tuple #[N ⟨s0, s1, s2, s3⟩, .int .u64 c4]) (by simp [results, Try.results32, go_sem]) rfl ⟨rfl, ?_⟩
  repeat (first | exact Below.refl _ _ | refine Below.drew ?_ | refine Below.setCell ?_ (by simp <;> omega) _ | refine Below.alloc ?_ (by simp <;> omega) _)

set_option maxHeartbeats 1000000 in
theorem sub_walk (x y : Nm) (s0 s1 s2 s3 c1 c2 c3 c4 : Int) (w : World)
    (h0 : ∀ w, (callFunc 51 #[.int .u64 x.a, .int .u64 y.a, .int .u64 0]).run Try.prog w = .ok (.value (.tuple #[.int .u64 s0, .int .u64 c1])) w)
    (h1 : ∀ w, (callFunc 51 #[.int .u64 x.b, .int .u64 y.b, .int .u64 c1]).run Try.prog w = .ok (.value (.tuple #[.int .u64 s1, .int .u64 c2])) w)
    (h2 : ∀ w, (callFunc 51 #[.int .u64 x.c, .int .u64 y.c, .int .u64 c2]).run Try.prog w = .ok (.value (.tuple #[.int .u64 s2, .int .u64 c3])) w)
    (h3 : ∀ w, (callFunc 51 #[.int .u64 x.d, .int .u64 y.d, .int .u64 c3]).run Try.prog w = .ok (.value (.tuple #[.int .u64 s3, .int .u64 c4])) w) :
    Calls Try.prog 36 #[N x, N y] w fun e w' =>
      e = .returned (.tuple #[N ⟨s0, s1, s2, s3⟩, .int .u64 c4]) ∧ Below w.heap.size w w' := by
  go_enter Try.func36, Try.ntmps36
  go_wp2
  refine wp_loop_rounds 5 ?_
  iterate 4
    rw [rounds_succ]
    go_wp2
    go_region
    go_wp2
  rw [rounds_succ]
  go_wp2
  refine bodyPost_ret (v := .tuple #[N ⟨s0, s1, s2, s3⟩, .int .u64 c4]) (by simp [results, Try.results36, go_sem]) rfl ⟨rfl, ?_⟩
  repeat (first | exact Below.refl _ _ | refine Below.drew ?_ | refine Below.setCell ?_ (by simp <;> omega) _ | refine Below.alloc ?_ (by simp <;> omega) _)

/-- limb.Add. -/
theorem add_any (x y : Nm) (hx : x.ok) (hy : y.ok) (w : World) :
    Calls Try.prog 32 #[N x, N y] w fun e w' =>
      ∃ s c, e = .returned (.tuple #[N s, .int .u64 c]) ∧ Hid (s.ok ∧ s.val + M * c = x.val + y.val ∧ 0 ≤ c ∧ c ≤ 1) ∧ Below w.heap.size w w' := by
  obtain ⟨s0, c1, h0, e0, k1, p1, q1⟩ := add64_ex x.a y.a 0 hx.a hy.a (by decide) (by decide)
  obtain ⟨s1, c2, h1, e1, k2, p2, q2⟩ := add64_ex x.b y.b c1 hx.b hy.b p1 q1
  obtain ⟨s2, c3, h2, e2, k3, p3, q3⟩ := add64_ex x.c y.c c2 hx.c hy.c p2 q2
  obtain ⟨s3, c4, h3, e3, k4, p4, q4⟩ := add64_ex x.d y.d c3 hx.d hy.d p3 q3
  refine (add_walk x y s0 s1 s2 s3 c1 c2 c3 c4 w h0 h1 h2 h3).mono ?_
  rintro e w' ⟨rfl, hb⟩
  exact ⟨⟨s0, s1, s2, s3⟩, c4, rfl, add_val hx hy e0 k1 e1 k2 e2 k3 e3 k4, hb⟩
/-- limb.Sub. -/
theorem sub_any (x y : Nm) (hx : x.ok) (hy : y.ok) (w : World) :
    Calls Try.prog 36 #[N x, N y] w fun e w' =>
      ∃ s c, e = .returned (.tuple #[N s, .int .u64 c]) ∧ Hid (s.ok ∧ s.val - M * c = x.val - y.val ∧ 0 ≤ c ∧ c ≤ 1) ∧ Below w.heap.size w w' := by
  obtain ⟨s0, c1, h0, e0, k1, p1, q1⟩ := sub64_ex x.a y.a 0 hx.a hy.a (by decide) (by decide)
  obtain ⟨s1, c2, h1, e1, k2, p2, q2⟩ := sub64_ex x.b y.b c1 hx.b hy.b p1 q1
  obtain ⟨s2, c3, h2, e2, k3, p3, q3⟩ := sub64_ex x.c y.c c2 hx.c hy.c p2 q2
  obtain ⟨s3, c4, h3, e3, k4, p4, q4⟩ := sub64_ex x.d y.d c3 hx.d hy.d p3 q3
  refine (sub_walk x y s0 s1 s2 s3 c1 c2 c3 c4 w h0 h1 h2 h3).mono ?_
  rintro e w' ⟨rfl, hb⟩
  exact ⟨⟨s0, s1, s2, s3⟩, c4, rfl, sub_val hx hy e0 k1 e1 k2 e2 k3 e3 k4, hb⟩
/-- The sum, and what is carried. -/
def addS (x y : Nm) : Nm := Nm.of ((x.val + y.val) % M)
def addC (x y : Nm) : Int := (x.val + y.val) / M
/-- The difference, and what is borrowed. -/
def subS (x y : Nm) : Nm := Nm.of ((x.val - y.val) % M)
def subC (x y : Nm) : Int := - ((x.val - y.val) / M)
/-- limb.Add, its answer told. -/
theorem add_fun (x y : Nm) (hx : x.ok) (hy : y.ok) (w : World) :
    Calls Try.prog 32 #[N x, N y] w fun e w' => e = .returned (.tuple #[N (addS x y), .int .u64 (addC x y)]) ∧ Below w.heap.size w w' := by
  refine (add_any x y hx hy w).mono ?_
  rintro e w' ⟨s, c, rfl, H, hb⟩
  obtain ⟨o, hv, _, _⟩ := H.out
  have h0 := Nm.val_nonneg o; have h1 := Nm.val_lt o
  have e1 : s = addS x y := Nm.eq_of o (by rw [← hv]; unfold M at *; omega)
  have e2 : c = addC x y := by unfold addC; rw [← hv]; unfold M at *; omega
  rw [← e1, ← e2]
  exact ⟨rfl, hb⟩
/-- limb.Sub, its answer told. -/
theorem sub_fun (x y : Nm) (hx : x.ok) (hy : y.ok) (w : World) :
    Calls Try.prog 36 #[N x, N y] w fun e w' => e = .returned (.tuple #[N (subS x y), .int .u64 (subC x y)]) ∧ Below w.heap.size w w' := by
  refine (sub_any x y hx hy w).mono ?_
  rintro e w' ⟨s, c, rfl, H, hb⟩
  obtain ⟨o, hv, _, _⟩ := H.out
  have h0 := Nm.val_nonneg o; have h1 := Nm.val_lt o
  have e1 : s = subS x y := Nm.eq_of o (by rw [← hv]; unfold M at *; omega)
  have e2 : c = subC x y := by unfold subC; rw [← hv]; unfold M at *; omega
  rw [← e1, ← e2]
  exact ⟨rfl, hb⟩
/-- A number of one word. -/
theorem one_ok {c : Int} (h : Word c) : (⟨c, 0, 0, 0⟩ : Nm).ok := by
  have z : Word 0 := ⟨by decide, by decide⟩
  exact ⟨h, z, z, z⟩
end Go.Proofs.Ytdcpicbkemmakaa

/- The contracts of math/bits.Mul64, limb.mulAdd and limb.Mul: the product of two numbers of four words, as one of eight. -/
namespace Go.Proofs.Ytdcpicbkemmakaa
open Go.RowKit Go.Shelf

set_option maxHeartbeats 1000000 in
/-- math/bits.Mul64: its Go text walked; the school method's sum is the library's law mul64_arith. -/
theorem mul64_any (x y : Int) (hx : Word x) (hy : Word y) (w : World) :
    Calls Try.prog 53 #[.int .u64 x, .int .u64 y] w fun e w' => ∃ h l, e = .returned (.tuple #[.int .u64 h, .int .u64 l]) ∧ Hid (Word h ∧ Word l ∧ l + 18446744073709551616 * h = x * y) ∧ w' = w := by
  have hsum : Hid _ := mul64_arith x y hx.1 hx.2 hy.1 hy.2
  have hb : Hid (0 ≤ x * y ∧ x * y ≤ 18446744073709551615 * 18446744073709551615) := ⟨Int.mul_nonneg hx.1 hy.1, Int.mul_le_mul (by have := hx.2; omega) (by have := hy.2; omega) hy.1 (by decide)⟩
  have mx : Hid _ := and_low32 x hx.1 hx.2
  have my : Hid _ := and_low32 y hy.1 hy.2
  have mt : Hid (∀ t : Int, bits .and .u64 (t % 18446744073709551616) 4294967295 = t % 18446744073709551616 % 4294967296) := fun t => and_low32 _ (by omega) (by omega)
  clear hx hy
  go_enter Try.func53, Try.ntmps53
  go_wp2
  simp only [IntKind.wrap_u64, mx.out, my.out, mt.out, hsum.out]
  go_ret2
  refine ⟨_, _, rfl, ?_, rfl⟩
  have hb' := hb.out
  show _ ∧ _ ∧ _
  generalize x * y = p at *
  exact ⟨⟨by omega, by omega⟩, ⟨by omega, by omega⟩, by omega⟩

theorem prod_le {x y : Int} (hx : Word x) (hy : Word y) : x * y ≤ 18446744073709551615 * 18446744073709551615 := by
  obtain ⟨hx0, hx1⟩ := hx; obtain ⟨hy0, hy1⟩ := hy
  exact Int.mul_le_mul (by omega) (by omega) hy0 (by omega)

theorem mulAdd_val {p s t h l l1 c1 l2 c2 : Int} (hp : p ≤ 18446744073709551615 * 18446744073709551615) (hs : Word s) (ht : Word t) (H : Word h ∧ Word l ∧ l + 18446744073709551616 * h = p)
    (e1 : l1 = (l + s + 0) % 18446744073709551616) (k1 : c1 = (l + s + 0) / 18446744073709551616) (e2 : l2 = (l1 + t + 0) % 18446744073709551616) (k2 : c2 = (l1 + t + 0) / 18446744073709551616) :
    IntKind.u64.wrap (h + c1) = h + c1 ∧ IntKind.u64.wrap (h + c1 + c2) = h + c1 + c2 ∧ Word l2 ∧ Word (h + c1 + c2) ∧ l2 + 18446744073709551616 * (h + c1 + c2) = p + s + t := by
  obtain ⟨⟨h0, h1⟩, ⟨_, _⟩, hl⟩ := H
  obtain ⟨_, _⟩ := hs; obtain ⟨_, _⟩ := ht
  refine ⟨by rw [IntKind.wrap_u64]; omega, by rw [IntKind.wrap_u64]; omega, ⟨?_, ?_⟩, ⟨?_, ?_⟩, ?_⟩ <;> omega
set_option maxHeartbeats 400000 in
/-- limb.mulAdd. -/
theorem mulAdd_any (x y s t : Int) (hx : Word x) (hy : Word y) (hs : Word s) (ht : Word t) (w : World) :
    Calls Try.prog 47 #[.int .u64 x, .int .u64 y, .int .u64 s, .int .u64 t] w fun e w' => ∃ l h, e = .returned (.tuple #[.int .u64 l, .int .u64 h]) ∧ Hid (Word l ∧ Word h ∧ l + 18446744073709551616 * h = x * y + s + t) ∧ w' = w := by
  go_enter Try.func47, Try.ntmps47
  go_wp2_with fail
  refine (mul64_any x y hx hy _).mono ?_
  rintro e w1 ⟨h, l, rfl, H1, hw1⟩
  subst hw1
  obtain ⟨l1, c1, a1, e1, k1, p1, q1⟩ := add64_ex l s 0 H1.out.2.1 hs (by decide) (by decide)
  obtain ⟨l2, c2, a2, e2, k2, p2, q2⟩ := add64_ex l1 t 0 ⟨by omega, by omega⟩ ht (by decide) (by decide)
  have fin : Hid _ := mulAdd_val (prod_le hx hy) hs ht H1.out e1 k1 e2 k2
  clear e1 k1 e2 k2 H1
  go_wp2
  simp only [fin.out.1, fin.out.2.1]
  go_ret2
  exact ⟨_, _, rfl, fin.out.2.2, rfl⟩

/-- A step of the product, its words as letters. -/
theorem mulAdd_ex (x y s t : Int) (hx : Word x) (hy : Word y) (hs : Word s) (ht : Word t) : ∃ l h, Hid (∀ w, Calls Try.prog 47 #[.int .u64 x, .int .u64 y, .int .u64 s, .int .u64 t] w fun e w' => e = .returned (.tuple #[.int .u64 l, .int .u64 h]) ∧ w' = w) ∧ Word l ∧ Word h ∧ l + 18446744073709551616 * h = x * y + s + t := by
  refine ⟨(x * y + s + t) % 18446744073709551616, (x * y + s + t) / 18446744073709551616, fun w => ?_, ?_⟩
  · refine (mulAdd_any x y s t hx hy hs ht w).mono ?_
    rintro e w' ⟨l, h, rfl, H, hw⟩
    obtain ⟨⟨_, _⟩, ⟨_, _⟩, hl⟩ := H.out
    rw [← hl]
    have e1 : (l + 18446744073709551616 * h) % 18446744073709551616 = l := by omega
    have e2 : (l + 18446744073709551616 * h) / 18446744073709551616 = h := by omega
    rw [e1, e2]
    exact ⟨rfl, hw⟩
  · have hp := prod_le hx hy
    have hq : 0 ≤ x * y := Int.mul_nonneg hx.1 hy.1
    obtain ⟨_, _⟩ := hs; obtain ⟨_, _⟩ := ht
    generalize x * y = p at *
    exact ⟨⟨by omega, by omega⟩, ⟨by omega, by omega⟩, by omega⟩
/-- One row of the product: word x times y, added to what lies there. -/
theorem row_val {x : Int} {y : Nm} {s0 s1 s2 s3 r0 r1 r2 r3 c1 c2 c3 c4 : Int} (e0 : r0 + 18446744073709551616 * c1 = x * y.a + s0 + 0) (e1 : r1 + 18446744073709551616 * c2 = x * y.b + s1 + c1)
    (e2 : r2 + 18446744073709551616 * c3 = x * y.c + s2 + c2) (e3 : r3 + 18446744073709551616 * c4 = x * y.d + s3 + c3) :
    (⟨r0, r1, r2, r3⟩ : Nm).val + M * c4 = x * y.val + (⟨s0, s1, s2, s3⟩ : Nm).val := by
  simp only [Nm.val, M, Int.mul_add, Int.mul_left_comm x]
  omega
theorem rows_val {x y : Nm} {r00 r01 r02 r03 r04 r10 r11 r12 r13 r14 r20 r21 r22 r23 r24 r30 r31 r32 r33 r34 : Int}
    (h0 : (⟨r00, r01, r02, r03⟩ : Nm).val + M * r04 = x.a * y.val + (⟨0, 0, 0, 0⟩ : Nm).val) (h1 : (⟨r10, r11, r12, r13⟩ : Nm).val + M * r14 = x.b * y.val + (⟨r01, r02, r03, r04⟩ : Nm).val)
    (h2 : (⟨r20, r21, r22, r23⟩ : Nm).val + M * r24 = x.c * y.val + (⟨r11, r12, r13, r14⟩ : Nm).val) (h3 : (⟨r30, r31, r32, r33⟩ : Nm).val + M * r34 = x.d * y.val + (⟨r21, r22, r23, r24⟩ : Nm).val) :
    (⟨r00, r10, r20, r30⟩ : Nm).val + M * (⟨r31, r32, r33, r34⟩ : Nm).val = x.val * y.val := by
  have e : x.val * y.val = x.a * y.val + 18446744073709551616 * (x.b * y.val + 18446744073709551616 * (x.c * y.val + 18446744073709551616 * (x.d * y.val))) := by
    generalize y.val = v
    simp only [Nm.val, Int.add_mul, Int.mul_add, Int.mul_assoc]
  rw [e]
  generalize x.a * y.val = p0 at *
  generalize x.b * y.val = p1 at *
  generalize x.c * y.val = p2 at *
  generalize x.d * y.val = p3 at *
  simp only [Nm.val, M] at *
  omega
end Go.Proofs.Ytdcpicbkemmakaa
