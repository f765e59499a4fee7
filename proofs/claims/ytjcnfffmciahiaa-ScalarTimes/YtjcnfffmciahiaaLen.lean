/- The contracts of math/bits.Len64 and limb.Len: how many bits are needed. -/
import Derived.Test.YtjcnfffmciahiaaShl
import Derived.Lib.Tables
import Derived.Lib.BitFns
namespace Go.Proofs.Ytjcnfffmciahiaa
open Go.RowKit

theorem len_end {x : Int} (k : Nat) (kk p : Int) (hkk : kk = k) (hp : p = 2 ^ k) (hk : k ≤ 56) (h0 : 0 ≤ x) (hx : x < 18446744073709551616) (h1 : p ≤ x ∨ k = 0) (hb : x / p ≤ 255) :
    wrap64 (kk + wrap64 (Lib.len8 (x / p))) = Lib.bitLen x.toNat := by
  obtain ⟨n, rfl⟩ := Int.eq_ofNat_of_zero_le h0
  have hp' : p = ((2 ^ k : Nat) : Int) := by rw [hp]; simp
  have e : ((n : Int) / p) = ((n / 2 ^ k : Nat) : Int) := by rw [hp']; exact (Int.natCast_ediv _ _).symm
  rw [e] at hb ⊢
  rw [Lib.len8_of _ (Int.natCast_nonneg _) hb]
  have l8 := Lib.bitLen_le8' _ (Int.natCast_nonneg (n / 2 ^ k)) hb
  simp only [Int.toNat_natCast] at l8 ⊢
  have s : Lib.bitLen n = k + Lib.bitLen (n / 2 ^ k) := by
    rcases h1 with h | h
    · exact Lib.bitLen_shift k n (by omega) (by omega)
    · subst h; simp
  rw [s]
  unfold wrap64
  omega

set_option maxHeartbeats 1000000 in
set_option maxRecDepth 100000 in
theorem len64_fun (x : Int) (h0 : 0 ≤ x) (hx : x < 18446744073709551616) (w : World) :
    Calls Try.prog 54 #[.int .u64 x] w fun e w' => e = .returned (.int .i64 (Lib.bitLen x.toNat)) ∧ w' = w := by
  by_cases c32 : x ≥ 4294967296
  · by_cases c16 : x / 4294967296 ≥ 65536
    · by_cases c8 : x / 4294967296 / 65536 ≥ 256
      · have e := len_end (x := x) 56 56 72057594037927936 rfl rfl (by omega) h0 hx (Or.inl (by omega)) (by omega)
        rw [show x / 72057594037927936 = x / 4294967296 / 65536 / 256 by omega] at e
        have i0 : 0 ≤ x / 4294967296 / 65536 / 256 := by omega
        have i1 : x / 4294967296 / 65536 / 256 ≤ 255 := by omega
        go_enter Try.func54, Try.ntmps54
        go_wp2_with fail
        go_ret
        refine ⟨congrArg Ending.returned (congrArg (Value.int IntKind.i64) ?_), rfl⟩
        first | rfl | exact e
      · have e := len_end (x := x) 48 48 281474976710656 rfl rfl (by omega) h0 hx (Or.inl (by omega)) (by omega)
        rw [show x / 281474976710656 = x / 4294967296 / 65536 by omega] at e
        have i0 : 0 ≤ x / 4294967296 / 65536 := by omega
        have i1 : x / 4294967296 / 65536 ≤ 255 := by omega
        go_enter Try.func54, Try.ntmps54
        go_wp2_with fail
        go_ret
        refine ⟨congrArg Ending.returned (congrArg (Value.int IntKind.i64) ?_), rfl⟩
        first | rfl | exact e
    · by_cases c8 : x / 4294967296 ≥ 256
      · have e := len_end (x := x) 40 40 1099511627776 rfl rfl (by omega) h0 hx (Or.inl (by omega)) (by omega)
        rw [show x / 1099511627776 = x / 4294967296 / 256 by omega] at e
        have i0 : 0 ≤ x / 4294967296 / 256 := by omega
        have i1 : x / 4294967296 / 256 ≤ 255 := by omega
        go_enter Try.func54, Try.ntmps54
        go_wp2_with fail
        go_ret
        refine ⟨congrArg Ending.returned (congrArg (Value.int IntKind.i64) ?_), rfl⟩
        first | rfl | exact e
      · have e := len_end (x := x) 32 32 4294967296 rfl rfl (by omega) h0 hx (Or.inl (by omega)) (by omega)
        rw [show x / 4294967296 = x / 4294967296 by omega] at e
        have i0 : 0 ≤ x / 4294967296 := by omega
        have i1 : x / 4294967296 ≤ 255 := by omega
        go_enter Try.func54, Try.ntmps54
        go_wp2_with fail
        go_ret
        refine ⟨congrArg Ending.returned (congrArg (Value.int IntKind.i64) ?_), rfl⟩
        first | rfl | exact e
  · by_cases c16 : x ≥ 65536
    · by_cases c8 : x / 65536 ≥ 256
      · have e := len_end (x := x) 24 24 16777216 rfl rfl (by omega) h0 hx (Or.inl (by omega)) (by omega)
        rw [show x / 16777216 = x / 65536 / 256 by omega] at e
        have i0 : 0 ≤ x / 65536 / 256 := by omega
        have i1 : x / 65536 / 256 ≤ 255 := by omega
        go_enter Try.func54, Try.ntmps54
        go_wp2_with fail
        go_ret
        refine ⟨congrArg Ending.returned (congrArg (Value.int IntKind.i64) ?_), rfl⟩
        first | rfl | exact e
      · have e := len_end (x := x) 16 16 65536 rfl rfl (by omega) h0 hx (Or.inl (by omega)) (by omega)
        rw [show x / 65536 = x / 65536 by omega] at e
        have i0 : 0 ≤ x / 65536 := by omega
        have i1 : x / 65536 ≤ 255 := by omega
        go_enter Try.func54, Try.ntmps54
        go_wp2_with fail
        go_ret
        refine ⟨congrArg Ending.returned (congrArg (Value.int IntKind.i64) ?_), rfl⟩
        first | rfl | exact e
    · by_cases c8 : x ≥ 256
      · have e := len_end (x := x) 8 8 256 rfl rfl (by omega) h0 hx (Or.inl (by omega)) (by omega)
        rw [show x / 256 = x / 256 by omega] at e
        have i0 : 0 ≤ x / 256 := by omega
        have i1 : x / 256 ≤ 255 := by omega
        go_enter Try.func54, Try.ntmps54
        go_wp2_with fail
        go_ret
        refine ⟨congrArg Ending.returned (congrArg (Value.int IntKind.i64) ?_), rfl⟩
        first | rfl | exact e
      · have e := len_end (x := x) 0 0 1 rfl rfl (by omega) h0 hx (Or.inr rfl) (by omega)
        rw [show x / 1 = x by omega] at e
        simp only [Int.zero_add] at e
        have i0 : 0 ≤ x := by omega
        have i1 : x ≤ 255 := by omega
        go_enter Try.func54, Try.ntmps54
        go_wp2_with fail
        go_ret
        refine ⟨congrArg Ending.returned (congrArg (Value.int IntKind.i64) ?_), rfl⟩
        first | rfl | exact e
end Go.Proofs.Ytjcnfffmciahiaa
