/- The contracts of limb.shiftLeft, limb.shiftRight and limb.Shift, by what they are worth. -/
import Derived.Test.YtkgfeacednomfaaShl
import Derived.Test.YtkgfeacednomfaaShMath
import Derived.Test.YtkgfeacednomfaaStore
import Derived.Deep.RegionHeld
namespace Go.Proofs.Ytkgfeacednomfaa
open Go.RowKit
attribute [local go_sem] World.cell?_alloc_some

theorem ret_n {x y : Nm} (h : x = y) : Ending.returned (N x) = .returned (N y) := by rw [h]
theorem zw : Word 0 := ⟨by decide, by decide⟩
theorem wrap0 (s : Nat) : IntKind.u64.wrap (0 * 2 ^ s) = 0 := by rw [Int.zero_mul, IntKind.wrap_u64]; rfl

theorem shl_fun (x : Nm) (hx : x.ok) (n : Nat) (hn : n < 256) (w : World) :
    Calls Try.prog 65 #[N x, .int .i64 n] w fun e w' => e = .returned (N (Nm.of (x.val * 2 ^ n % M))) ∧ Below w.heap.size w w' := by
  have hs : n % 64 < 64 := by omega
  have hq : n / 64 = 0 ∨ n / 64 = 1 ∨ n / 64 = 2 ∨ n / 64 = 3 := by omega
  rcases hq with h | h | h | h
  · refine (shl_walk0 x n (n % 64) h rfl hs w).mono ?_
    rintro e w' ⟨rfl, hb⟩
    refine ⟨ret_n ?_, hb⟩
    rw [(shl_or hx.b hx.a hs).1, (shl_or hx.c hx.b hs).1, (shl_or hx.d hx.c hs).1]
    obtain ⟨t, ht⟩ := shl_val (y := ⟨x.a, x.b, x.c, x.d⟩) ⟨hx.a, hx.b, hx.c, hx.d⟩ hs
    refine shl_of (q := 0) (t := t) (t' := 0) ⟨(shl_split hx.a hs).2, (shl_or hx.b hx.a hs).2, (shl_or hx.c hx.b hs).2, (shl_or hx.d hx.c hs).2⟩ ht ?_ (by omega)
    simp only [Nm.val, M]
    have : (2 : Int) ^ (64 * 0) = 1 := rfl
    omega
  · refine (shl_walk1 x n (n % 64) h rfl hs w).mono ?_
    rintro e w' ⟨rfl, hb⟩
    refine ⟨ret_n ?_, hb⟩
    rw [(shl_or hx.b hx.a hs).1, (shl_or hx.c hx.b hs).1]
    obtain ⟨t, ht⟩ := shl_val (y := ⟨0, x.a, x.b, x.c⟩) ⟨zw, hx.a, hx.b, hx.c⟩ hs
    simp only [wrap0, Int.zero_ediv, Int.add_zero] at ht
    refine shl_of (q := 1) (t := t) (t' := 1 * x.d) ⟨zw, (shl_split hx.a hs).2, (shl_or hx.b hx.a hs).2, (shl_or hx.c hx.b hs).2⟩ ht ?_ (by omega)
    simp only [Nm.val, M]
    have : (2 : Int) ^ (64 * 1) = 18446744073709551616 := rfl
    omega
  · refine (shl_walk2 x n (n % 64) h rfl hs w).mono ?_
    rintro e w' ⟨rfl, hb⟩
    refine ⟨ret_n ?_, hb⟩
    rw [(shl_or hx.b hx.a hs).1]
    obtain ⟨t, ht⟩ := shl_val (y := ⟨0, 0, x.a, x.b⟩) ⟨zw, zw, hx.a, hx.b⟩ hs
    simp only [wrap0, Int.zero_ediv, Int.add_zero] at ht
    refine shl_of (q := 2) (t := t) (t' := 1 * x.c + 18446744073709551616 * x.d) ⟨zw, zw, (shl_split hx.a hs).2, (shl_or hx.b hx.a hs).2⟩ ht ?_ (by omega)
    simp only [Nm.val, M]
    have : (2 : Int) ^ (64 * 2) = 340282366920938463463374607431768211456 := rfl
    omega
  · refine (shl_walk3 x n (n % 64) h rfl hs w).mono ?_
    rintro e w' ⟨rfl, hb⟩
    refine ⟨ret_n ?_, hb⟩
    obtain ⟨t, ht⟩ := shl_val (y := ⟨0, 0, 0, x.a⟩) ⟨zw, zw, zw, hx.a⟩ hs
    simp only [wrap0, Int.zero_ediv, Int.add_zero] at ht
    refine shl_of (q := 3) (t := t) (t' := 1 * x.b + 18446744073709551616 * x.c + 340282366920938463463374607431768211456 * x.d) ⟨zw, zw, zw, (shl_split hx.a hs).2⟩ ht ?_ (by omega)
    simp only [Nm.val, M]
    have : (2 : Int) ^ (64 * 3) = 6277101735386680763835789423207666416102355444464034512896 := rfl
    omega
theorem shr_fun (x : Nm) (hx : x.ok) (n : Nat) (hn : n < 256) (w : World) :
    Calls Try.prog 64 #[N x, .int .i64 n] w fun e w' => e = .returned (N (Nm.of (x.val / 2 ^ n))) ∧ Below w.heap.size w w' := by
  have hs : n % 64 < 64 := by omega
  have hq : n / 64 = 0 ∨ n / 64 = 1 ∨ n / 64 = 2 ∨ n / 64 = 3 := by omega
  have hd := shr_or hx.d zw hs
  simp only [Int.zero_emod, Int.zero_mul, Int.add_zero] at hd
  rcases hq with h | h | h | h
  · refine (shr_walk0 x n (n % 64) h rfl hs w).mono ?_
    rintro e w' ⟨rfl, hb⟩
    refine ⟨ret_n ?_, hb⟩
    rw [(shr_or hx.a hx.b hs).1, (shr_or hx.b hx.c hs).1, (shr_or hx.c hx.d hs).1]
    have ht := shr_val ⟨x.a, x.b, x.c, x.d⟩ hs
    refine shr_of (q := 0) ⟨(shr_or hx.a hx.b hs).2, (shr_or hx.b hx.c hs).2, (shr_or hx.c hx.d hs).2, hd.2⟩ ht ?_ (by omega)
    obtain ⟨⟨_, _⟩, ⟨_, _⟩, ⟨_, _⟩, ⟨_, _⟩⟩ := hx
    simp only [Nm.val]
    have : (2 : Int) ^ (64 * 0) = 1 := rfl
    rw [this]
    omega
  · refine (shr_walk1 x n (n % 64) h rfl hs w).mono ?_
    rintro e w' ⟨rfl, hb⟩
    refine ⟨ret_n ?_, hb⟩
    rw [(shr_or hx.b hx.c hs).1, (shr_or hx.c hx.d hs).1]
    have ht := shr_val ⟨x.b, x.c, x.d, 0⟩ hs
    simp only [Int.zero_ediv, Int.zero_emod, Int.zero_mul, Int.add_zero] at ht
    refine shr_of (q := 1) ⟨(shr_or hx.b hx.c hs).2, (shr_or hx.c hx.d hs).2, hd.2, zw⟩ ht ?_ (by omega)
    obtain ⟨⟨_, _⟩, ⟨_, _⟩, ⟨_, _⟩, ⟨_, _⟩⟩ := hx
    simp only [Nm.val]
    have : (2 : Int) ^ (64 * 1) = 18446744073709551616 := rfl
    rw [this]
    omega
  · refine (shr_walk2 x n (n % 64) h rfl hs w).mono ?_
    rintro e w' ⟨rfl, hb⟩
    refine ⟨ret_n ?_, hb⟩
    rw [(shr_or hx.c hx.d hs).1]
    have ht := shr_val ⟨x.c, x.d, 0, 0⟩ hs
    simp only [Int.zero_ediv, Int.zero_emod, Int.zero_mul, Int.add_zero] at ht
    refine shr_of (q := 2) ⟨(shr_or hx.c hx.d hs).2, hd.2, zw, zw⟩ ht ?_ (by omega)
    obtain ⟨⟨_, _⟩, ⟨_, _⟩, ⟨_, _⟩, ⟨_, _⟩⟩ := hx
    simp only [Nm.val]
    have : (2 : Int) ^ (64 * 2) = 340282366920938463463374607431768211456 := rfl
    rw [this]
    omega
  · refine (shr_walk3 x n (n % 64) h rfl hs w).mono ?_
    rintro e w' ⟨rfl, hb⟩
    refine ⟨ret_n ?_, hb⟩
    have ht := shr_val ⟨x.d, 0, 0, 0⟩ hs
    simp only [Int.zero_ediv, Int.zero_emod, Int.zero_mul, Int.add_zero] at ht
    refine shr_of (q := 3) ⟨hd.2, zw, zw, zw⟩ ht ?_ (by omega)
    obtain ⟨⟨_, _⟩, ⟨_, _⟩, ⟨_, _⟩, ⟨_, _⟩⟩ := hx
    simp only [Nm.val]
    have : (2 : Int) ^ (64 * 3) = 6277101735386680763835789423207666416102355444464034512896 := rfl
    rw [this]
    omega
end Go.Proofs.Ytkgfeacednomfaa
