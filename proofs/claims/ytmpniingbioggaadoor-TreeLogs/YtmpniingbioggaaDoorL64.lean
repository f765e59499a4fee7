/- The contracts of math/bits.Len64, math/bits.Len and tree.cut: how many bits are needed. -/
import Derived.Test.YtmpniingbioggaaDoorBs
import Derived.Lib.Tables
import Derived.Lib.BitFns
namespace Go.Proofs.YtmpniingbioggaaDoor
open Go.RowKit

theorem len_end {x : Int} (k : Nat) (kk p : Int) (hkk : kk = k) (hp : p = 2 ^ k) (hk : k ≤ 56) (h0 : 0 ≤ x) (hx : x < 18446744073709551616) (h1 : p ≤ x ∨ k = 0) (hb : x / p ≤ 255) :
    wrap64 (kk + wrap64 (Lib.len8 (x / p))) = Lib.bitLen x.toNat := by
  obtain ⟨n, rfl⟩ := Int.eq_ofNat_of_zero_le h0
  have hp' : p = ((2 ^ k : Nat) : Int) := by rw [hp]; simp
  have e : ((n : Int) / p) = ((n / 2 ^ k : Nat) : Int) := by rw [hp']; exact (Int.natCast_ediv _ _).symm
  rw [e] at hb ⊢
  rw [Lib.len8_of _ (Int.natCast_nonneg _) hb]
  have l8 := Lib.bitLen_le8' _ (Int.natCast_nonneg (n / 2 ^ k)) hb
  simp only [Int.toNat_natCast] at l8 ⊢
  have s : Lib.bitLen n = k + Lib.bitLen (n / 2 ^ k) := by
    rcases h1 with h | h
    · exact Lib.bitLen_shift k n (by omega) (by omega)
    · subst h; simp
  rw [s]
  unfold wrap64
  omega

set_option maxHeartbeats 1000000 in
set_option maxRecDepth 100000 in
theorem len64_fun (x : Int) (h0 : 0 ≤ x) (hx : x < 18446744073709551616) (w : World) :
    Calls Tryd.prog 48 #[.int .u64 x] w fun e w' => e = .returned (.int .i64 (Lib.bitLen x.toNat)) ∧ w' = w := by
  by_cases c32 : x ≥ 4294967296
  · by_cases c16 : x / 4294967296 ≥ 65536
    · by_cases c8 : x / 4294967296 / 65536 ≥ 256
      · have e := len_end (x := x) 56 56 72057594037927936 rfl rfl (by omega) h0 hx (Or.inl (by omega)) (by omega)
        rw [show x / 72057594037927936 = x / 4294967296 / 65536 / 256 by omega] at e
        have i0 : 0 ≤ x / 4294967296 / 65536 / 256 := by omega
        have i1 : x / 4294967296 / 65536 / 256 ≤ 255 := by omega
        go_enter Tryd.func48, Tryd.ntmps48
        go_wp2_with fail
        go_ret
        refine ⟨congrArg Ending.returned (congrArg (Value.int IntKind.i64) ?_), rfl⟩
        first | rfl | exact e
      · have e := len_end (x := x) 48 48 281474976710656 rfl rfl (by omega) h0 hx (Or.inl (by omega)) (by omega)
        rw [show x / 281474976710656 = x / 4294967296 / 65536 by omega] at e
        have i0 : 0 ≤ x / 4294967296 / 65536 := by omega
        have i1 : x / 4294967296 / 65536 ≤ 255 := by omega
        go_enter Tryd.func48, Tryd.ntmps48
        go_wp2_with fail
        go_ret
        refine ⟨congrArg Ending.returned (congrArg (Value.int IntKind.i64) ?_), rfl⟩
        first | rfl | exact e
    · by_cases c8 : x / 4294967296 ≥ 256
      · have e := len_end (x := x) 40 40 1099511627776 rfl rfl (by omega) h0 hx (Or.inl (by omega)) (by omega)
        rw [show x / 1099511627776 = x / 4294967296 / 256 by omega] at e
        have i0 : 0 ≤ x / 4294967296 / 256 := by omega
        have i1 : x / 4294967296 / 256 ≤ 255 := by omega
        go_enter Tryd.func48, Tryd.ntmps48
        go_wp2_with fail
        go_ret
        refine ⟨congrArg Ending.returned (congrArg (Value.int IntKind.i64) ?_), rfl⟩
        first | rfl | exact e
      · have e := len_end (x := x) 32 32 4294967296 rfl rfl (by omega) h0 hx (Or.inl (by omega)) (by omega)
        rw [show x / 4294967296 = x / 4294967296 by omega] at e
        have i0 : 0 ≤ x / 4294967296 := by omega
        have i1 : x / 4294967296 ≤ 255 := by omega
        go_enter Tryd.func48, Tryd.ntmps48
        go_wp2_with fail
        go_ret
        refine ⟨congrArg Ending.returned (congrArg (Value.int IntKind.i64) ?_), rfl⟩
        first | rfl | exact e
  · by_cases c16 : x ≥ 65536
    · by_cases c8 : x / 65536 ≥ 256
      · have e := len_end (x := x) 24 24 16777216 rfl rfl (by omega) h0 hx (Or.inl (by omega)) (by omega)
        rw [show x / 16777216 = x / 65536 / 256 by omega] at e
        have i0 : 0 ≤ x / 65536 / 256 := by omega
        have i1 : x / 65536 / 256 ≤ 255 := by omega
        go_enter Tryd.func48, Tryd.ntmps48
        go_wp2_with fail
        go_ret
        refine ⟨congrArg Ending.returned (congrArg (Value.int IntKind.i64) ?_), rfl⟩
        first | rfl | exact e
      · have e := len_end (x := x) 16 16 65536 rfl rfl (by omega) h0 hx (Or.inl (by omega)) (by omega)
        rw [show x / 65536 = x / 65536 by omega] at e
        have i0 : 0 ≤ x / 65536 := by omega
        have i1 : x / 65536 ≤ 255 := by omega
        go_enter Tryd.func48, Tryd.ntmps48
        go_wp2_with fail
        go_ret
        refine ⟨congrArg Ending.returned (congrArg (Value.int IntKind.i64) ?_), rfl⟩
        first | rfl | exact e
    · by_cases c8 : x ≥ 256
      · have e := len_end (x := x) 8 8 256 rfl rfl (by omega) h0 hx (Or.inl (by omega)) (by omega)
        rw [show x / 256 = x / 256 by omega] at e
        have i0 : 0 ≤ x / 256 := by omega
        have i1 : x / 256 ≤ 255 := by omega
        go_enter Tryd.func48, Tryd.ntmps48
        go_wp2_with fail
        go_ret
        refine ⟨congrArg Ending.returned (congrArg (Value.int IntKind.i64) ?_), rfl⟩
        first | rfl | exact e
      · have e := len_end (x := x) 0 0 1 rfl rfl (by omega) h0 hx (Or.inr rfl) (by omega)
        rw [show x / 1 = x by omega] at e
        simp only [Int.zero_add] at e
        have i0 : 0 ≤ x := by omega
        have i1 : x ≤ 255 := by omega
        go_enter Tryd.func48, Tryd.ntmps48
        go_wp2_with fail
        go_ret
        refine ⟨congrArg Ending.returned (congrArg (Value.int IntKind.i64) ?_), rfl⟩
        first | rfl | exact e

set_option maxHeartbeats 1000000 in
set_option maxRecDepth 100000 in
theorem blen_fun (x : Int) (h0 : 0 ≤ x) (hx : x < 18446744073709551616) (w : World) :
    Calls Tryd.prog 42 #[.int .u64 x] w fun e w' => e = .returned (.int .i64 (Lib.bitLen x.toNat)) ∧ w' = w := by
  have L : Hid _ := len64_fun x h0 hx w
  go_enter Tryd.func42, Tryd.ntmps42
  go_wp2_with fail
  refine Calls.mono L.out ?_
  rintro e w1 ⟨rfl, rfl⟩
  go_wp2_with fail
  go_ret
  exact ⟨rfl, rfl⟩
theorem bitLen_cut {n j : Nat} (h1 : 2 ^ j < n) (h2 : n ≤ 2 ^ (j + 1)) (hn : n ≤ 18446744073709551616) : Lib.bitLen (n - 1) = j + 1 := by
  rw [Lib.bitLen_shift j (n - 1) (by omega) (by omega)]
  have e : (n - 1) / 2 ^ j = 1 := by
    rw [Nat.pow_succ] at h2
    have h0 : 0 < 2 ^ j := Nat.two_pow_pos j
    have a1 : (n - 1) / 2 ^ j < 2 := (Nat.div_lt_iff_lt_mul h0).2 (by omega)
    have a2 : 1 ≤ (n - 1) / 2 ^ j := (Nat.le_div_iff_mul_le h0).2 (by omega)
    omega
  rw [e]
  rfl
set_option maxHeartbeats 1000000 in
set_option maxRecDepth 100000 in
theorem cut_fun (n j : Nat) (h1 : 2 ^ j < n) (h2 : n ≤ 2 ^ (j + 1)) (hn : n ≤ 1073741824) (w : World) :
    Calls Tryd.prog 35 #[.int .i64 (n : Int)] w fun e w' => e = .returned (.int .i64 ((2 ^ j : Nat) : Int)) ∧ w' = w := by
  have e := bitLen_cut h1 h2 (by omega)
  have n1 : 1 < n := by have := Nat.two_pow_pos j; omega
  have L : Hid _ := blen_fun ((n : Int) - 1) (by omega) (by omega) w
  rw [show ((n : Int) - 1).toNat = n - 1 by omega, e] at L
  have hj : j < 30 := by
    apply Classical.byContradiction
    intro h
    have := Nat.pow_le_pow_right (n := 2) (by decide) (show 30 ≤ j by omega)
    omega
  have hw : wrap64 ((2 : Int) ^ j) = ((2 ^ j : Nat) : Int) := by
    have := Nat.pow_le_pow_right (n := 2) (by decide) (show j ≤ 30 by omega)
    rw [show ((2 : Int) ^ j) = ((2 ^ j : Nat) : Int) by simp]
    generalize 2 ^ j = q at *
    unfold wrap64
    omega
  clear h1 h2 e
  have w0 : IntKind.i64.wrap ((n : Int) - 1) = (n : Int) - 1 := by rw [IntKind.wrap_i64]; omega
  have w1 : IntKind.u64.wrap ((n : Int) - 1) = (n : Int) - 1 := by rw [IntKind.wrap_u64]; omega
  go_enter Tryd.func35, Tryd.ntmps35
  go_wp2_with fail
  refine Calls.mono L.out ?_
  rintro e w1 ⟨rfl, rfl⟩
  go_wp2_with fail
  go_ret
  exact ⟨congrArg Ending.returned (congrArg (Value.int IntKind.i64) hw), rfl⟩
end Go.Proofs.YtmpniingbioggaaDoor
