/- Texts that were joined: Len, LenW, Cmp, DBelM. -/
import Derived.Test.YtdcpicbkemmakaaDoorQShlToShift
import Derived.Lib.Tables
import Derived.Lib.BitFns
import Derived.Test.YtdcpicbkemmakaaDoorRows
import Derived.Test.YtdcpicbkemmakaaDoorQNumToDTimes
import Derived.WalkKit
import Derived.WalkSpells
import Derived.WalkLawsBesides
import Derived.LoopN
import Derived.Test.YtdcpicbkemmakaaDoorQDDigPToDrawCB
import Derived.Test.YtdcpicbkemmakaaDoorQEqToOf
import Derived.Test.YtdcpicbkemmakaaDoorQQMathToMulV
/- The contracts of math/bits.Len64 and limb.Len: how many bits are needed. -/
namespace Go.Proofs.YtdcpicbkemmakaaDoor
open Go.RowKit

theorem len_end {x : Int} (k : Nat) (kk p : Int) (hkk : kk = k) (hp : p = 2 ^ k) (hk : k ≤ 56) (h0 : 0 ≤ x) (hx : x < 18446744073709551616) (h1 : p ≤ x ∨ k = 0) (hb : x / p ≤ 255) :
    wrap64 (kk + wrap64 (Lib.len8 (x / p))) = Lib.bitLen x.toNat := by
  obtain ⟨n, rfl⟩ := Int.eq_ofNat_of_zero_le h0
  have hp' : p = ((2 ^ k : Nat) : Int) := by rw [hp]; simp
  have e : ((n : Int) / p) = ((n / 2 ^ k : Nat) : Int) := by rw [hp']; exact (Int.natCast_ediv _ _).symm
  rw [e] at hb ⊢
  rw [Lib.len8_of _ (Int.natCast_nonneg _) hb]
  have l8 := Lib.bitLen_le8' _ (Int.natCast_nonneg (n / 2 ^ k)) hb
  simp only [Int.toNat_natCast] at l8 ⊢
  have s : Lib.bitLen n = k + Lib.bitLen (n / 2 ^ k) := by
    rcases h1 with h | h
    · exact Lib.bitLen_shift k n (by omega) (by omega)
    · subst h; simp
  rw [s]
  unfold wrap64
  omega

set_option maxHeartbeats 1000000 in
set_option maxRecDepth 100000 in
theorem len64_fun (x : Int) (h0 : 0 ≤ x) (hx : x < 18446744073709551616) (w : World) :
    Calls Tryd.prog 67 #[.int .u64 x] w fun e w' => e = .returned (.int .i64 (Lib.bitLen x.toNat)) ∧ w' = w := by
  by_cases c32 : x ≥ 4294967296
  · by_cases c16 : x / 4294967296 ≥ 65536
    · by_cases c8 : x / 4294967296 / 65536 ≥ 256
      · have e := len_end (x := x) 56 56 72057594037927936 rfl rfl (by omega) h0 hx (Or.inl (by omega)) (by omega)
        rw [show x / 72057594037927936 = x / 4294967296 / 65536 / 256 by omega] at e
        have i0 : 0 ≤ x / 4294967296 / 65536 / 256 := by omega
        have i1 : x / 4294967296 / 65536 / 256 ≤ 255 := by omega
        go_enter Tryd.func67, Tryd.ntmps67
        go_wp2_with fail
        go_ret
        refine ⟨congrArg Ending.returned (congrArg (Value.int IntKind.i64) ?_), rfl⟩
        first | rfl | exact e
      · have e := len_end (x := x) 48 48 281474976710656 rfl rfl (by omega) h0 hx (Or.inl (by omega)) (by omega)
        rw [show x / 281474976710656 = x / 4294967296 / 65536 by omega] at e
        have i0 : 0 ≤ x / 4294967296 / 65536 := by omega
        have i1 : x / 4294967296 / 65536 ≤ 255 := by omega
        go_enter Tryd.func67, Tryd.ntmps67
        go_wp2_with fail
        go_ret
        refine ⟨congrArg Ending.returned (congrArg (Value.int IntKind.i64) ?_), rfl⟩
        first | rfl | exact e
    · by_cases c8 : x / 4294967296 ≥ 256
      · have e := len_end (x := x) 40 40 1099511627776 rfl rfl (by omega) h0 hx (Or.inl (by omega)) (by omega)
        rw [show x / 1099511627776 = x / 4294967296 / 256 by omega] at e
        have i0 : 0 ≤ x / 4294967296 / 256 := by omega
        have i1 : x / 4294967296 / 256 ≤ 255 := by omega
        go_enter Tryd.func67, Tryd.ntmps67
        go_wp2_with fail
        go_ret
        refine ⟨congrArg Ending.returned (congrArg (Value.int IntKind.i64) ?_), rfl⟩
        first | rfl | exact e
      · have e := len_end (x := x) 32 32 4294967296 rfl rfl (by omega) h0 hx (Or.inl (by omega)) (by omega)
        rw [show x / 4294967296 = x / 4294967296 by omega] at e
        have i0 : 0 ≤ x / 4294967296 := by omega
        have i1 : x / 4294967296 ≤ 255 := by omega
        go_enter Tryd.func67, Tryd.ntmps67
        go_wp2_with fail
        go_ret
        refine ⟨congrArg Ending.returned (congrArg (Value.int IntKind.i64) ?_), rfl⟩
        first | rfl | exact e
  · by_cases c16 : x ≥ 65536
    · by_cases c8 : x / 65536 ≥ 256
      · have e := len_end (x := x) 24 24 16777216 rfl rfl (by omega) h0 hx (Or.inl (by omega)) (by omega)
        rw [show x / 16777216 = x / 65536 / 256 by omega] at e
        have i0 : 0 ≤ x / 65536 / 256 := by omega
        have i1 : x / 65536 / 256 ≤ 255 := by omega
        go_enter Tryd.func67, Tryd.ntmps67
        go_wp2_with fail
        go_ret
        refine ⟨congrArg Ending.returned (congrArg (Value.int IntKind.i64) ?_), rfl⟩
        first | rfl | exact e
      · have e := len_end (x := x) 16 16 65536 rfl rfl (by omega) h0 hx (Or.inl (by omega)) (by omega)
        rw [show x / 65536 = x / 65536 by omega] at e
        have i0 : 0 ≤ x / 65536 := by omega
        have i1 : x / 65536 ≤ 255 := by omega
        go_enter Tryd.func67, Tryd.ntmps67
        go_wp2_with fail
        go_ret
        refine ⟨congrArg Ending.returned (congrArg (Value.int IntKind.i64) ?_), rfl⟩
        first | rfl | exact e
    · by_cases c8 : x ≥ 256
      · have e := len_end (x := x) 8 8 256 rfl rfl (by omega) h0 hx (Or.inl (by omega)) (by omega)
        rw [show x / 256 = x / 256 by omega] at e
        have i0 : 0 ≤ x / 256 := by omega
        have i1 : x / 256 ≤ 255 := by omega
        go_enter Tryd.func67, Tryd.ntmps67
        go_wp2_with fail
        go_ret
        refine ⟨congrArg Ending.returned (congrArg (Value.int IntKind.i64) ?_), rfl⟩
        first | rfl | exact e
      · have e := len_end (x := x) 0 0 1 rfl rfl (by omega) h0 hx (Or.inr rfl) (by omega)
        rw [show x / 1 = x by omega] at e
        simp only [Int.zero_add] at e
        have i0 : 0 ≤ x := by omega
        have i1 : x ≤ 255 := by omega
        go_enter Tryd.func67, Tryd.ntmps67
        go_wp2_with fail
        go_ret
        refine ⟨congrArg Ending.returned (congrArg (Value.int IntKind.i64) ?_), rfl⟩
        first | rfl | exact e
end Go.Proofs.YtdcpicbkemmakaaDoor

/- How many bits a number needs, and the contract of limb.Len. -/
namespace Go.Proofs.YtdcpicbkemmakaaDoor
open Go.RowKit

/-- How many bits n needs. -/
def lenN (n : Nat) : Nat := if n = 0 then 0 else n.log2 + 1
theorem lenN_le {n k : Nat} : lenN n ≤ k ↔ n < 2 ^ k := by
  unfold lenN
  split
  · subst_vars; simp [Nat.two_pow_pos]
  · rename_i h
    rw [← Nat.log2_lt h]
    omega
theorem lenN_eq {n m : Nat} (h : ∀ k, m ≤ k ↔ n < 2 ^ k) : lenN n = m := by
  have h1 := (h (lenN n)).2 (lenN_le.1 (Nat.le_refl _))
  have h2 := lenN_le.2 ((h m).1 (Nat.le_refl _))
  omega
theorem lenN_half {n : Nat} (h : n ≠ 0) : lenN n = 1 + lenN (n / 2) := by
  refine lenN_eq ?_
  intro k
  cases k with
  | zero => simp; omega
  | succ k =>
    have := lenN_le (n := n / 2) (k := k)
    rw [Nat.pow_succ]
    omega
theorem bitLenAux_lenN : ∀ (f n : Nat), n < 2 ^ f → Lib.bitLenAux f n = lenN n
  | 0, n, h => by
    have : n = 0 := by simpa using h
    subst this; rfl
  | f + 1, n, h => by
    simp only [Lib.bitLenAux]
    split
    · subst_vars; rfl
    · rename_i h0
      rw [bitLenAux_lenN f (n / 2) (by rw [Nat.pow_succ] at h; omega), lenN_half h0]
theorem bitLen_lenN {n : Nat} (h : n < 18446744073709551616) : Lib.bitLen n = lenN n := bitLenAux_lenN 64 n h
theorem lenN_cat {s l a : Nat} (hl : l < 2 ^ s) (ha : a ≠ 0) : lenN (l + 2 ^ s * a) = s + lenN a := by
  refine lenN_eq ?_
  intro k
  have h1 : 2 ^ s * 1 ≤ 2 ^ s * a := Nat.mul_le_mul_left _ (by omega)
  by_cases hk : s ≤ k
  · obtain ⟨m, rfl⟩ := Nat.exists_eq_add_of_le hk
    have := lenN_le (n := a) (k := m)
    rw [Nat.pow_add]
    constructor
    · intro h
      have : a + 1 ≤ 2 ^ m := by omega
      have := Nat.mul_le_mul_left (2 ^ s) this
      rw [Nat.mul_add] at this
      omega
    · intro h
      have h3 : 2 ^ s * a < 2 ^ s * 2 ^ m := by omega
      have := Nat.lt_of_mul_lt_mul_left h3
      omega
  · have : 2 ^ k ≤ 2 ^ s := Nat.pow_le_pow_right (by omega) (by omega)
    have : ¬ lenN a ≤ 0 := by rw [lenN_le]; simp; omega
    omega
theorem len_word {v l a : Int} {s : Nat} (q : Int) (hq : q = 2 ^ s) (hv : v = l + q * a) (l0 : 0 ≤ l) (l1 : l < q) (a0 : 0 < a) : lenN v.toNat = s + lenN a.toNat := by
  have q' : q = ((2 ^ s : Nat) : Int) := by rw [hq]; simp
  obtain ⟨l', rfl⟩ := Int.eq_ofNat_of_zero_le l0
  obtain ⟨a', rfl⟩ := Int.eq_ofNat_of_zero_le (Int.le_of_lt a0)
  have e : v = ((l' + 2 ^ s * a' : Nat) : Int) := by rw [hv, q']; simp
  rw [e, Int.toNat_natCast, Int.toNat_natCast]
  exact lenN_cat (by omega) (by omega)
theorem len_d {x : Nm} (hx : x.ok)  (h : x.d ≠ 0) : (lenN x.val.toNat : Int) = wrap64 (192 + (Lib.bitLen x.d.toNat : Int)) ∧ (Lib.bitLen x.d.toNat : Int) ≤ 64 := by
  obtain ⟨⟨_, _⟩, ⟨_, _⟩, ⟨_, _⟩, ⟨_, _⟩⟩ := hx
  have b : Lib.bitLen x.d.toNat = lenN x.d.toNat := bitLen_lenN (by omega)
  have m := (lenN_le (n := x.d.toNat) (k := 64)).2 (by omega)
  have e := len_word (v := x.val) (l := x.a + 18446744073709551616 * x.b + 340282366920938463463374607431768211456 * x.c) (a := x.d) (s := 192) 6277101735386680763835789423207666416102355444464034512896 rfl (by simp only [Nm.val]; omega) (by omega) (by omega) (by omega)
  rw [e, b]
  unfold wrap64
  omega
theorem len_c {x : Nm} (hx : x.ok) (hd : x.d = 0) (h : x.c ≠ 0) : (lenN x.val.toNat : Int) = wrap64 (128 + (Lib.bitLen x.c.toNat : Int)) ∧ (Lib.bitLen x.c.toNat : Int) ≤ 64 := by
  obtain ⟨⟨_, _⟩, ⟨_, _⟩, ⟨_, _⟩, ⟨_, _⟩⟩ := hx
  have b : Lib.bitLen x.c.toNat = lenN x.c.toNat := bitLen_lenN (by omega)
  have m := (lenN_le (n := x.c.toNat) (k := 64)).2 (by omega)
  have e := len_word (v := x.val) (l := x.a + 18446744073709551616 * x.b) (a := x.c) (s := 128) 340282366920938463463374607431768211456 rfl (by simp only [Nm.val, hd]; omega) (by omega) (by omega) (by omega)
  rw [e, b]
  unfold wrap64
  omega
theorem len_b {x : Nm} (hx : x.ok) (hd : x.d = 0) (hc : x.c = 0) (h : x.b ≠ 0) : (lenN x.val.toNat : Int) = wrap64 (64 + (Lib.bitLen x.b.toNat : Int)) ∧ (Lib.bitLen x.b.toNat : Int) ≤ 64 := by
  obtain ⟨⟨_, _⟩, ⟨_, _⟩, ⟨_, _⟩, ⟨_, _⟩⟩ := hx
  have b : Lib.bitLen x.b.toNat = lenN x.b.toNat := bitLen_lenN (by omega)
  have m := (lenN_le (n := x.b.toNat) (k := 64)).2 (by omega)
  have e := len_word (v := x.val) (l := x.a) (a := x.b) (s := 64) 18446744073709551616 rfl (by simp only [Nm.val, hd, hc]; omega) (by omega) (by omega) (by omega)
  rw [e, b]
  unfold wrap64
  omega
theorem len_a {x : Nm} (hx : x.ok) (hd : x.d = 0) (hc : x.c = 0) (hb : x.b = 0) (h : x.a ≠ 0) : (lenN x.val.toNat : Int) = wrap64 (0 + (Lib.bitLen x.a.toNat : Int)) ∧ (Lib.bitLen x.a.toNat : Int) ≤ 64 := by
  obtain ⟨⟨_, _⟩, ⟨_, _⟩, ⟨_, _⟩, ⟨_, _⟩⟩ := hx
  have b : Lib.bitLen x.a.toNat = lenN x.a.toNat := bitLen_lenN (by omega)
  have m := (lenN_le (n := x.a.toNat) (k := 64)).2 (by omega)
  have e := len_word (v := x.val) (l := 0) (a := x.a) (s := 0) 1 rfl (by simp only [Nm.val, hd, hc, hb]; omega) (by omega) (by omega) (by omega)
  rw [e, b]
  unfold wrap64
  omega
theorem len_zero {x : Nm} (hd : x.d = 0) (hc : x.c = 0) (hb : x.b = 0) (ha : x.a = 0) : (lenN x.val.toNat : Int) = 0 := by
  simp [Nm.val, hd, hc, hb, ha, lenN]
theorem ret_i' {k : IntKind} {a b : Int} (h : a = b) : Ending.returned (.int k a) = .returned (.int k b) := by rw [h]

set_option maxHeartbeats 2000000 in
set_option maxRecDepth 100000 in
theorem len_fun (x : Nm) (hx : x.ok) (w : World) :
    Calls Tryd.prog 45 #[N x] w fun e w' => e = .returned (.int .i64 (lenN x.val.toNat)) ∧ Below w.heap.size w w' := by
  have hx' := hx
  obtain ⟨⟨a0, a1⟩, ⟨b0, b1⟩, ⟨c0, c1⟩, ⟨d0, d1⟩⟩ := hx'
  go_enter Tryd.func45, Tryd.ntmps45
  go_wp2
  refine wp_loop_rounds 5 ?_
  rw [rounds_succ]
  by_cases hd : x.d = 0
  case neg =>
    go_wp2_with fail
    refine (len64_fun x.d d0 d1 _).mono ?_
    rintro e w' ⟨rfl, rfl⟩
    have hl := len_d hx  hd
    go_wp2_with fail
    go_ret
    refine ⟨ret_i' (by first | exact hl.1.symm | (have := hl.1; unfold wrap64 at *; omega)), ?_⟩
    repeat (first | exact Below.refl _ _ | refine Below.drew ?_ | refine Below.alloc ?_ (by simp <;> omega) _)
  go_wp2_with fail
  rw [rounds_succ]
  by_cases hc : x.c = 0
  case neg =>
    go_wp2_with fail
    refine (len64_fun x.c c0 c1 _).mono ?_
    rintro e w' ⟨rfl, rfl⟩
    have hl := len_c hx hd hc
    go_wp2_with fail
    go_ret
    refine ⟨ret_i' (by first | exact hl.1.symm | (have := hl.1; unfold wrap64 at *; omega)), ?_⟩
    repeat (first | exact Below.refl _ _ | refine Below.drew ?_ | refine Below.alloc ?_ (by simp <;> omega) _)
  go_wp2_with fail
  rw [rounds_succ]
  by_cases hb : x.b = 0
  case neg =>
    go_wp2_with fail
    refine (len64_fun x.b b0 b1 _).mono ?_
    rintro e w' ⟨rfl, rfl⟩
    have hl := len_b hx hd hc hb
    go_wp2_with fail
    go_ret
    refine ⟨ret_i' (by first | exact hl.1.symm | (have := hl.1; unfold wrap64 at *; omega)), ?_⟩
    repeat (first | exact Below.refl _ _ | refine Below.drew ?_ | refine Below.alloc ?_ (by simp <;> omega) _)
  go_wp2_with fail
  rw [rounds_succ]
  by_cases ha : x.a = 0
  case neg =>
    go_wp2_with fail
    refine (len64_fun x.a a0 a1 _).mono ?_
    rintro e w' ⟨rfl, rfl⟩
    have hl := len_a hx hd hc hb ha
    go_wp2_with fail
    go_ret
    refine ⟨ret_i' (by first | exact hl.1.symm | (have := hl.1; unfold wrap64 at *; omega)), ?_⟩
    repeat (first | exact Below.refl _ _ | refine Below.drew ?_ | refine Below.alloc ?_ (by simp <;> omega) _)
  go_wp2_with fail
  rw [rounds_succ]
  go_wp2
  go_ret
  refine ⟨ret_i' (len_zero hd hc hb ha).symm, ?_⟩
  repeat (first | exact Below.refl _ _ | refine Below.drew ?_ | refine Below.alloc ?_ (by simp <;> omega) _)
end Go.Proofs.YtdcpicbkemmakaaDoor

/- The contract of limb.Cmp: which of two numbers of four words is greater. -/
namespace Go.Proofs.YtdcpicbkemmakaaDoor
open Go.RowKit

/-- -1, 0 or 1. -/
def cmpV (x y : Nm) : Int := if x.val < y.val then -1 else if y.val < x.val then 1 else 0
theorem cmp_lt {x y : Nm} (hx : x.ok) (hy : y.ok) (h : x.d < y.d ∨ x.d = y.d ∧ (x.c < y.c ∨ x.c = y.c ∧ (x.b < y.b ∨ x.b = y.b ∧ x.a < y.a))) : cmpV x y = -1 := by
  obtain ⟨⟨_, _⟩, ⟨_, _⟩, ⟨_, _⟩, ⟨_, _⟩⟩ := hx
  obtain ⟨⟨_, _⟩, ⟨_, _⟩, ⟨_, _⟩, ⟨_, _⟩⟩ := hy
  unfold cmpV
  rw [if_pos]
  unfold Nm.val
  omega
theorem cmp_gt {x y : Nm} (hx : x.ok) (hy : y.ok) (h : y.d < x.d ∨ x.d = y.d ∧ (y.c < x.c ∨ x.c = y.c ∧ (y.b < x.b ∨ x.b = y.b ∧ y.a < x.a))) : cmpV x y = 1 := by
  obtain ⟨⟨_, _⟩, ⟨_, _⟩, ⟨_, _⟩, ⟨_, _⟩⟩ := hx
  obtain ⟨⟨_, _⟩, ⟨_, _⟩, ⟨_, _⟩, ⟨_, _⟩⟩ := hy
  unfold cmpV
  have hv : y.val < x.val := by unfold Nm.val; omega
  rw [if_neg (by omega), if_pos hv]
theorem cmp_eq {x y : Nm} (h : x.d = y.d ∧ x.c = y.c ∧ x.b = y.b ∧ x.a = y.a) : cmpV x y = 0 := by
  unfold cmpV
  have hv : x.val = y.val := by unfold Nm.val; omega
  rw [if_neg (by omega), if_neg (by omega)]
theorem ret_i {k : IntKind} {a b : Int} (h : a = b) : Ending.returned (.int k a) = .returned (.int k b) := by rw [h]

set_option maxHeartbeats 2000000 in
theorem cmp_fun (x y : Nm) (hx : x.ok) (hy : y.ok) (w : World) :
    Calls Tryd.prog 13 #[N x, N y] w fun e w' => e = .returned (.int .i64 (cmpV x y)) ∧ Below w.heap.size w w' := by
  go_enter Tryd.func13, Tryd.ntmps13
  go_wp2
  refine wp_loop_rounds 5 ?_
  rw [rounds_succ]
  go_wp2
  by_cases ld : x.d < y.d
  · go_region
    go_wp2
    go_ret
    refine ⟨ret_i (cmp_lt hx hy (by omega)).symm, ?_⟩
    repeat (first | exact Below.refl _ _ | refine Below.drew ?_ | refine Below.alloc ?_ (by simp <;> omega) _)
  go_region
  go_wp2
  by_cases gd : y.d < x.d
  · go_region
    go_wp2
    go_ret
    refine ⟨ret_i (cmp_gt hx hy (by omega)).symm, ?_⟩
    repeat (first | exact Below.refl _ _ | refine Below.drew ?_ | refine Below.alloc ?_ (by simp <;> omega) _)
  go_region
  go_wp2
  rw [rounds_succ]
  go_wp2
  by_cases lc : x.c < y.c
  · go_region
    go_wp2
    go_ret
    refine ⟨ret_i (cmp_lt hx hy (by omega)).symm, ?_⟩
    repeat (first | exact Below.refl _ _ | refine Below.drew ?_ | refine Below.alloc ?_ (by simp <;> omega) _)
  go_region
  go_wp2
  by_cases gc : y.c < x.c
  · go_region
    go_wp2
    go_ret
    refine ⟨ret_i (cmp_gt hx hy (by omega)).symm, ?_⟩
    repeat (first | exact Below.refl _ _ | refine Below.drew ?_ | refine Below.alloc ?_ (by simp <;> omega) _)
  go_region
  go_wp2
  rw [rounds_succ]
  go_wp2
  by_cases lb : x.b < y.b
  · go_region
    go_wp2
    go_ret
    refine ⟨ret_i (cmp_lt hx hy (by omega)).symm, ?_⟩
    repeat (first | exact Below.refl _ _ | refine Below.drew ?_ | refine Below.alloc ?_ (by simp <;> omega) _)
  go_region
  go_wp2
  by_cases gb : y.b < x.b
  · go_region
    go_wp2
    go_ret
    refine ⟨ret_i (cmp_gt hx hy (by omega)).symm, ?_⟩
    repeat (first | exact Below.refl _ _ | refine Below.drew ?_ | refine Below.alloc ?_ (by simp <;> omega) _)
  go_region
  go_wp2
  rw [rounds_succ]
  go_wp2
  by_cases la : x.a < y.a
  · go_region
    go_wp2
    go_ret
    refine ⟨ret_i (cmp_lt hx hy (by omega)).symm, ?_⟩
    repeat (first | exact Below.refl _ _ | refine Below.drew ?_ | refine Below.alloc ?_ (by simp <;> omega) _)
  go_region
  go_wp2
  by_cases ga : y.a < x.a
  · go_region
    go_wp2
    go_ret
    refine ⟨ret_i (cmp_gt hx hy (by omega)).symm, ?_⟩
    repeat (first | exact Below.refl _ _ | refine Below.drew ?_ | refine Below.alloc ?_ (by simp <;> omega) _)
  go_region
  go_wp2
  rw [rounds_succ]
  go_wp2
  go_ret
  refine ⟨ret_i (cmp_eq (by omega)).symm, ?_⟩
  repeat (first | exact Below.refl _ _ | refine Below.drew ?_ | refine Below.alloc ?_ (by simp <;> omega) _)
end Go.Proofs.YtdcpicbkemmakaaDoor

/- Numbers out of bytes, cut to so many bits: what limb says of them, by numbers. -/
namespace Go.Proofs.YtdcpicbkemmakaaDoor
open Go.RowKit
set_option linter.unusedSimpArgs false
theorem acc_sum (bs : List Nat) (hl : bs.length = 32) : ∀ k, k ≤ 32 → acc (bs.map Int.ofNat) k 0 + 18446744073709551616 * (acc (bs.map Int.ofNat) k 1 + 18446744073709551616 * (acc (bs.map Int.ofNat) k 2 + 18446744073709551616 * acc (bs.map Int.ofNat) k 3)) + ((256 ^ k * leN (bs.drop k) : Nat) : Int) = ((leN bs : Nat) : Int)
  | 0, _ => by simp [acc]
  | k + 1, hk => by
    have ih := acc_sum bs hl k (by omega)
    rw [← ih, leN_drop (show k < bs.length by omega)]
    have hg : (bs.map Int.ofNat).getD k 0 = ((bs.getD k 0 : Nat) : Int) := by
      rw [List.getD_eq_getElem?_getD, List.getD_eq_getElem?_getD, List.getElem?_map]
      cases bs[k]? <;> rfl
    simp only [acc, hg]
    generalize bs.getD k 0 = b
    generalize leN (bs.drop (k + 1)) = r
    have hp : (256 : Nat) ^ k = 2 ^ (k % 8 * 8) * 18446744073709551616 ^ (k / 8) := by
      rw [show (256 : Nat) = 2 ^ 8 from rfl, show (18446744073709551616 : Nat) = 2 ^ 64 from rfl, ← Nat.pow_mul, ← Nat.pow_mul, ← Nat.pow_add]
      congr 1
      omega
    have hq : ((2 ^ (k % 8 * 8) : Int)) = ((2 ^ (k % 8 * 8) : Nat) : Int) := by simp
    rw [hq, Nat.pow_succ]
    have e1 : ∀ q : Nat, ((q * (r * 256 + b) : Nat) : Int) = ((q * 256 * r : Nat) : Int) + (q : Int) * (b : Int) := fun q => by
      rw [show q * (r * 256 + b) = q * 256 * r + q * b by rw [Nat.mul_add, Nat.mul_comm r 256, Nat.mul_assoc], Int.natCast_add, Int.natCast_mul q b]
    rw [e1]
    generalize ((256 ^ k * 256 * r : Nat) : Int) = R
    have e2 : ∀ j u : Nat, ((u * 18446744073709551616 ^ j : Nat) : Int) * (b : Int) = ((18446744073709551616 ^ j : Nat) : Int) * ((b : Int) * (u : Int)) := fun j u => by
      rw [Int.natCast_mul, Int.mul_comm (u : Int), Int.mul_assoc, Int.mul_comm (u : Int)]
    rw [hp, e2]
    generalize (b : Int) * ((2 ^ (k % 8 * 8) : Nat) : Int) = z
    generalize acc (bs.map Int.ofNat) k 0 = A0
    generalize acc (bs.map Int.ofNat) k 1 = A1
    generalize acc (bs.map Int.ofNat) k 2 = A2
    generalize acc (bs.map Int.ofNat) k 3 = A3
    have hd : k / 8 = 0 ∨ k / 8 = 1 ∨ k / 8 = 2 ∨ k / 8 = 3 := by omega
    rcases hd with h | h | h | h <;> rw [h] <;> simp (config := { decide := true }) only [Nat.reducePow, ↓reduceIte] <;> omega
theorem of_num (bs : List Nat) (hl : bs.length = 32) (h : ∀ x ∈ bs, x < 256) (w : World) :
    Calls Tryd.prog 71 #[.agg (bs.map b8).toArray] w fun e w' => e = .returned (N (Nm.of ((leN bs : Nat) : Int))) ∧ Below w.heap.size w w' := by
  have hx : ∀ x ∈ bs.map Int.ofNat, 0 ≤ x ∧ x < 256 := by
    intro x hx
    obtain ⟨y, hy, rfl⟩ := List.mem_map.1 hx
    have := h y hy
    exact ⟨Int.natCast_nonneg y, by simpa using Int.ofNat_lt.2 this⟩
  have A := acc_inv _ hx 32
  have e : (⟨acc (bs.map Int.ofNat) 32 0, acc (bs.map Int.ofNat) 32 1, acc (bs.map Int.ofNat) 32 2, acc (bs.map Int.ofNat) 32 3⟩ : Nm) = Nm.of ((leN bs : Nat) : Int) := by
    refine Nm.eq_of ⟨⟨(A 0).1, (A 0).2.2.2 (by decide)⟩, ⟨(A 1).1, (A 1).2.2.2 (by decide)⟩, ⟨(A 2).1, (A 2).2.2.2 (by decide)⟩, ⟨(A 3).1, (A 3).2.2.2 (by decide)⟩⟩ ?_
    have := acc_sum bs hl 32 (by omega)
    rw [List.drop_of_length_le (by omega)] at this
    simpa [leN, Nm.val] using this
  have := of_fun (bs.map Int.ofNat) (by rw [List.length_map]; exact hl) hx w
  rw [e] at this
  have eB : Bs (bs.map Int.ofNat) = .agg (bs.map b8).toArray := by simp [Bs, b8, Function.comp_def]
  rw [eB] at this
  exact this
theorem M_nat : M = ((2 ^ 256 : Nat) : Int) := by decide
theorem of_nat_val {X : Nat} (h : X < 2 ^ 256) : (Nm.of ((X : Nat) : Int)).val = (X : Int) := Nm.of_val (Int.natCast_nonneg _) (by rw [M_nat]; exact Int.ofNat_lt.2 h)
theorem two_split {k : Nat} (hk : k ≤ 256) : 2 ^ 256 = 2 ^ k * 2 ^ (256 - k) := by
  rw [← Nat.pow_add]
  congr 1
  omega
theorem shift_up (X k : Nat) (hX : X < 2 ^ 256) (h0 : 0 < k) (hk : k ≤ 256) (w : World) :
    Calls Tryd.prog 77 #[N (Nm.of ((X : Nat) : Int)), .int .i64 (256 - (k : Int))] w fun e w' => e = .returned (N (Nm.of ((X % 2 ^ k * 2 ^ (256 - k) : Nat) : Int))) ∧ Below w.heap.size w w' := by
  have h := shift_pos (Nm.of ((X : Nat) : Int)) (Nm.of_ok _) (256 - k) (by omega) w
  rw [of_nat_val hX, M_nat, show (X : Int) * 2 ^ (256 - k) % ((2 ^ 256 : Nat) : Int) = ((X % 2 ^ k * 2 ^ (256 - k) : Nat) : Int) by
    rw [show (X : Int) * 2 ^ (256 - k) = ((X * 2 ^ (256 - k) : Nat) : Int) by simp, ← Int.natCast_emod, two_split hk, Nat.mul_mod_mul_right], show ((256 - k : Nat) : Int) = 256 - (k : Int) by omega] at h
  exact h
theorem shift_dn (X k : Nat) (h0 : 0 < k) (hk : k ≤ 256) (w : World) :
    Calls Tryd.prog 77 #[N (Nm.of ((X % 2 ^ k * 2 ^ (256 - k) : Nat) : Int)), .int .i64 ((k : Int) - 256)] w fun e w' => e = .returned (N (Nm.of ((X % 2 ^ k : Nat) : Int))) ∧ Below w.heap.size w w' := by
  have hm := Nat.mod_lt X (Nat.two_pow_pos k)
  have hlt : X % 2 ^ k * 2 ^ (256 - k) < 2 ^ 256 := by
    rw [two_split hk]
    exact Nat.mul_lt_mul_of_pos_right hm (Nat.two_pow_pos _)
  rcases Nat.lt_or_ge k 256 with h | h
  · have g := shift_neg (Nm.of ((X % 2 ^ k * 2 ^ (256 - k) : Nat) : Int)) (Nm.of_ok _) (256 - k) (by omega) (by omega) w
    rw [of_nat_val hlt, show ((X % 2 ^ k * 2 ^ (256 - k) : Nat) : Int) / 2 ^ (256 - k) = ((X % 2 ^ k : Nat) : Int) by
      rw [show (2 : Int) ^ (256 - k) = ((2 ^ (256 - k) : Nat) : Int) by simp, ← Int.natCast_ediv, Nat.mul_div_cancel _ (Nat.two_pow_pos _)], show -((256 - k : Nat) : Int) = (k : Int) - 256 by omega] at g
    exact g
  · obtain rfl : k = 256 := by omega
    have e1 : X % 2 ^ 256 * 2 ^ (256 - 256) = X % 2 ^ 256 := by simp
    rw [e1] at hlt ⊢
    have g := shift_pos (Nm.of ((X % 2 ^ 256 : Nat) : Int)) (Nm.of_ok _) 0 (by decide) w
    rw [of_nat_val hlt, M_nat, show ((X % 2 ^ 256 : Nat) : Int) * 2 ^ 0 % ((2 ^ 256 : Nat) : Int) = ((X % 2 ^ 256 : Nat) : Int) by
      rw [Int.pow_zero, Int.mul_one, ← Int.natCast_emod, Nat.mod_mod]] at g
    exact g
theorem cmp_num (X M' : Nat) (x : Nm) (hx : x.ok) (hM : x.nat = M') (hX : X < 2 ^ 256) (w : World) :
    Calls Tryd.prog 13 #[N (Nm.of ((X : Nat) : Int)), N x] w fun e w' => e = .returned (.int .i64 (cmpN X M')) ∧ Below w.heap.size w w' := by
  have h := cmp_fun (Nm.of ((X : Nat) : Int)) x (Nm.of_ok _) hx w
  have e : cmpV (Nm.of ((X : Nat) : Int)) x = cmpN X M' := by
    unfold cmpV cmpN
    rw [of_nat_val hX, ← Nm.nat_cast hx, hM]
    simp only [Int.ofNat_lt]
  rw [e] at h
  exact h
theorem sub_one (x : Nm) (hx : x.ok) (M' : Nat) (hM : x.nat = M') (h0 : 0 < M') (w : World) :
    Calls Tryd.prog 44 #[N x, N ⟨1, 0, 0, 0⟩] w fun e w' => (∃ c, e = .returned (.tuple #[N (Nm.of ((M' - 1 : Nat) : Int)), .int .u64 c])) ∧ Below w.heap.size w w' := by
  have h := sub_fun x ⟨1, 0, 0, 0⟩ hx (by constructor <;> simp [Word]) w
  have hlt := Nm.nat_lt hx
  rw [hM] at hlt
  have e : subS x ⟨1, 0, 0, 0⟩ = Nm.of ((M' - 1 : Nat) : Int) := by
    unfold subS
    rw [← Nm.nat_cast hx, hM, show (⟨1, 0, 0, 0⟩ : Nm).val = 1 from rfl, show (M' : Int) - 1 = ((M' - 1 : Nat) : Int) by omega, Int.emod_eq_of_lt (Int.natCast_nonneg _) (by rw [M_nat]; exact Int.ofNat_lt.2 (by omega))]
  rw [e] at h
  exact h.mono fun e w' ⟨he, hb⟩ => ⟨⟨_, he⟩, hb⟩
theorem len_bl {M' : Nat} (h0 : 0 < M') : BL M' (lenN (M' - 1)) := by
  refine ⟨?_, fun j hj => ?_⟩
  · have := (lenN_le (n := M' - 1) (k := lenN (M' - 1))).1 (Nat.le_refl _)
    omega
  · have h : ¬ (M' - 1 < 2 ^ j) := fun h => by
      have := lenN_le.2 h
      omega
    omega
theorem len_num (x : Nm) (hx : x.ok) (M' n : Nat) (hM : x.nat = M') (h0 : 0 < M') (hn : BL M' n) (w : World) :
    Calls Tryd.prog 45 #[N (Nm.of ((M' - 1 : Nat) : Int))] w fun e w' => e = .returned (.int .i64 (n : Int)) ∧ Below w.heap.size w w' := by
  have hlt := Nm.nat_lt hx
  rw [hM] at hlt
  have h := len_fun (Nm.of ((M' - 1 : Nat) : Int)) (Nm.of_ok _) w
  rw [of_nat_val (by omega), Int.toNat_natCast] at h
  have e : lenN (M' - 1) = n := hn.only (len_bl h0).2 (by have := (len_bl h0).1; omega)
  rw [e] at h
  exact h
/-- A number read in a walk, also behind a guard. -/
theorem wp_ldN {ops : Array Oper} {rest : List Oper} {o : Oper} {a : Act} {Q : Exit → Act → World → Prop} {w : World} (hgd : Region.wanted o (yielded ops a.tmps) = true) (x : Operand) (ho : o.op = .load 24 x) (k : Nat) (hx : a.eval x = .pointer (some ⟨k, 0, none⟩))
    (n : Nm) (hr : Blk w k (nC n)) (h : wpList Tryd.prog ops Q rest (a.put o.dst (N n)) w) : wpList Tryd.prog ops Q (o :: rest) a w := by
  refine wpList_wanted hgd fun K hK => ?_
  exact wp_load_mid 24 x ho k 0 hx _ _ hr.all u_num rfl (info_num.trans (congrArg some (by simp [nC]))) (hK _ _ h)
/-- Two numbers held against each other. -/
theorem wp_eqN {ops : Array Oper} {rest : List Oper} {o : Oper} {a : Act} {Q : Exit → Act → World → Prop} {w : World} (hgd : Region.wanted o (yielded ops a.tmps) = true) (x y : Operand) (u : TypeId)
    (ho : o.op = .binOp .eql 24 x y u) (n m : Nm) (hx : a.eval x = N n) (hy : a.eval y = N m) (b : Bool) (hb : Nm.beq n m = b) (h : wpList Tryd.prog ops Q rest (a.put o.dst (.bool b)) w) : wpList Tryd.prog ops Q (o :: rest) a w := by
  subst hb
  refine wpList_wanted hgd fun K hK => ?_
  have e := eqN n m w
  unfold Oper.wp
  simp [execOp, ho, hx, hy, e, eqGuard, Result.andThen]
  exact hK _ _ h
/-- A number stored in a walk. -/
theorem wp_stN {ops : Array Oper} {rest : List Oper} {o : Oper} {a : Act} {Q : Exit → Act → World → Prop} {w : World} (hgd : o.guard = none) (x y : Operand) (ho : o.op = .store 24 x y) (k : Nat) (hx : a.eval x = .pointer (some ⟨k, 0, none⟩))
    (n : Nm) (hy : a.eval y = N n) (ht : w.there k 0 4) (h : ∀ w2, Hid (w2 = w.setCells k 0 (nC n)) → wpList Tryd.prog ops Q rest (a.put o.dst undef) w2) : wpList Tryd.prog ops Q (o :: rest) a w :=
  wp_store_eq hgd 24 x y ho k 0 (nC n) hx hy ht info_num (one_nC n) h
/-- A number stored over another. -/
theorem Blk.num {w : World} {k : Nat} {m : Nm} (h : Blk w k (nC m)) (n : Nm) : Blk (w.setCells k 0 (nC n)) k (nC n) := by
  have h' : Blk w k ([] ++ (nC m ++ [])) := by simpa using h
  have := h'.store (o := 0) (b' := nC n) rfl rfl
  simpa using this
theorem Blk.fr {w a : World} {k g : Nat} {vs : List Value} (h : Blk w k vs) (hf : Fr w g a) (hk : k ≠ g) : Blk a k vs := by
  have e : a.heap[k]? = w.heap[k]? := hf.block k h.lt (by simpa using hk)
  refine ⟨Nat.lt_of_lt_of_le h.lt hf.size, fun j v hv => ?_, fun j => ?_⟩
  · rw [← h.cell j v hv]
    simp [World.cell?, e]
  · rw [← h.fz j]
    simp [World.frozen?, e]
/-- What Below answers, told by one number of tries. -/
theorem SrcB.told {Src : World → Nat → (Nat → Prop) → List Nat → Nat → Prop} (B : SrcB Src) {seed : List Nat} {F : Nat → Prop} {k p : Nat} (x : Nm) (hx : x.ok) (M n : Nat) (hM : x.nat = M) (h0 : 0 < M) (hn : BL M n) (w : World) (hs : Src w k F seed p) (hK : KTab w) (hk : 0 < k) :
    ∃ X ec TT, TT ≤ 100 ∧ ((ec = 0 ∧ ∃ t, TT = t + 1 ∧ X = Nm.of ((tryS seed p n t : Nat) : Int) ∧ tryS seed p n t < M ∧ ∀ j, j < t → ¬ tryS seed p n j < M) ∨ (ec = 6 ∧ X = ⟨0, 0, 0, 0⟩ ∧ TT = 100 ∧ ∀ j, j < 100 → ¬ tryS seed p n j < M)) ∧
      Calls Tryd.prog 25 #[ptr k, N x] w fun e w' => e = .returned (.tuple #[N X, .int .i64 ec]) ∧ Src w' k F seed ((p + 32 * TT) % 18446744073709551616) ∧ Fr w k w' := by
  have h := B.below x hx M n hM h0 hn w hs hK hk
  cases hb : belS seed p n M with
  | none =>
    rw [hb] at h
    refine ⟨⟨0, 0, 0, 0⟩, 6, 100, by omega, .inr ⟨rfl, rfl, rfl, fun j hj => ?_⟩, h⟩
    have := (List.find?_eq_none.1 hb) j (List.mem_range.2 hj)
    simpa using this
  | some t =>
    rw [hb] at h
    have g := hb
    rw [belS, List.find?_range_eq_some] at g
    obtain ⟨g1, g2, g3⟩ := g
    refine ⟨_, 0, t + 1, Nat.succ_le_of_lt (by simpa using g2), .inl ⟨rfl, t, rfl, rfl, by simpa using g1, fun j hj => by simpa using g3 j hj⟩, h⟩
end Go.Proofs.YtdcpicbkemmakaaDoor
