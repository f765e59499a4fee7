/- The contract of limb.Pick: the first of two numbers where c is even, else the second. -/
import Derived.Test.YtdcpicbkemmakaaDoorRows
import Derived.Test.YtdcpicbkemmakaaDoorQNumToDTimes
import Derived.WalkKit
import Derived.WalkSpells
import Derived.WalkLawsBesides
import Derived.LoopN
import Derived.WalkSmall
import Derived.Laws.Bits64
import Derived.Laws.Bits64b
namespace Go.Proofs.YtdcpicbkemmakaaDoor
open Go.RowKit

/-- Which one. -/
def pick (c : Int) (x y : Nm) : Nm := if c % 2 = 0 then x else y
theorem pick_mask {c a b : Int} (hc : Word c) (ha : Word a) (hb : Word b) : bits .xor .u64 a (bits .and .u64 (IntKind.u64.wrap (-bits .and .u64 c 1)) (bits .xor .u64 a b)) = if c % 2 = 0 then a else b := by
  have h1 := and_one_u64 c hc.1 (by have := hc.2; omega)
  rw [h1]
  obtain ⟨a, rfl⟩ := Int.eq_ofNat_of_zero_le ha.1
  obtain ⟨b, rfl⟩ := Int.eq_ofNat_of_zero_le hb.1
  have ha2 : a < 18446744073709551616 := by have := ha.2; omega
  have hb2 : b < 18446744073709551616 := by have := hb.2; omega
  have hx : a ^^^ b < 18446744073709551616 := Nat.xor_lt_two_pow (n := 64) ha2 hb2
  rw [bits_xor_u64_nat a b ha2 hb2]
  by_cases e : c % 2 = 0
  · rw [if_pos e, e]
    have w0 : IntKind.u64.wrap (-0) = ((0 : Nat) : Int) := by rw [IntKind.wrap_u64]; rfl
    rw [w0, bits_and_u64_nat 0 (a ^^^ b) (by decide) hx, Nat.zero_and, bits_xor_u64_nat a 0 ha2 (by decide), Nat.xor_zero]
  · have e1 : c % 2 = 1 := by omega
    rw [if_neg e, e1]
    have w1 : IntKind.u64.wrap (-1) = ((18446744073709551615 : Nat) : Int) := by rw [IntKind.wrap_u64]; rfl
    have m : 18446744073709551615 &&& (a ^^^ b) = a ^^^ b := by
      have h := Nat.and_two_pow_sub_one_eq_mod (a ^^^ b) 64
      rw [Nat.and_comm]
      have h64 : 2 ^ 64 - 1 = 18446744073709551615 := rfl
      rw [h64] at h
      rw [h]
      exact Nat.mod_eq_of_lt hx
    rw [w1, bits_and_u64_nat 18446744073709551615 (a ^^^ b) (by decide) hx, m, bits_xor_u64_nat a (a ^^^ b) ha2 hx, ← Nat.xor_assoc, Nat.xor_self, Nat.zero_xor]

set_option maxHeartbeats 400000 in
theorem pick_fun (c : Int) (x y : Nm) (hc : Word c) (hx : x.ok) (hy : y.ok) (w : World) :
    Calls Tryd.prog 62 #[.int .u64 c, N x, N y] w fun e w' => e = .returned (N (pick c x y)) ∧ Below w.heap.size w w' := by
  have p0 : Hid _ := pick_mask hc hx.a hy.a
  have p1 : Hid _ := pick_mask hc hx.b hy.b
  have p2 : Hid _ := pick_mask hc hx.c hy.c
  have p3 : Hid _ := pick_mask hc hx.d hy.d
  have e : N (pick c x y) = .agg #[.int .u64 (if c % 2 = 0 then x.a else y.a), .int .u64 (if c % 2 = 0 then x.b else y.b), .int .u64 (if c % 2 = 0 then x.c else y.c), .int .u64 (if c % 2 = 0 then x.d else y.d)] := by
    unfold pick; split <;> rfl
  rw [e, ← p0.out, ← p1.out, ← p2.out, ← p3.out]
  clear e p0 p1 p2 p3 hc hx hy
  go_enter Tryd.func62, Tryd.ntmps62
  go_wp2
  refine wp_loop_rounds 5 ?_
  iterate 4
    rw [rounds_succ]
    go_wp2
    go_region
    go_wp2
  rw [rounds_succ]
  go_wp2
  refine bodyPost_ret (v := _) (by simp [results, Tryd.results62, go_sem]) rfl ⟨rfl, ?_⟩
  repeat (first | exact Below.refl _ _ | refine Below.drew ?_ | refine Below.setCell ?_ (by simp <;> omega) _ | refine Below.alloc ?_ (by simp <;> omega) _)
end Go.Proofs.YtdcpicbkemmakaaDoor
