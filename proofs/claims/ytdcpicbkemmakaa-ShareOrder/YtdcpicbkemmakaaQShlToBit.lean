/- Texts that were joined: Shl, Len, LenW, ShMath, Sh, Bit. -/
import Derived.Test.YtdcpicbkemmakaaRows
import Derived.Test.YtdcpicbkemmakaaQNumToQMath
import Derived.WalkKit
import Derived.WalkSpells
import Derived.WalkLawsBesides
import Derived.LoopN
import Derived.Lib.Tables
import Derived.Lib.BitFns
import Derived.Laws.Bits64b
import Derived.Test.YtdcpicbkemmakaaQStoreToKn
import Derived.Deep.RegionHeld
import Derived.Test.YtdcpicbkemmakaaQPick
/- The walks of limb.shiftLeft and limb.shiftRight, word by word. -/
namespace Go.Proofs.Ytdcpicbkemmakaa
open Go.RowKit

end Go.Proofs.Ytdcpicbkemmakaa

/- The contracts of math/bits.Len64 and limb.Len: how many bits are needed. -/
namespace Go.Proofs.Ytdcpicbkemmakaa
open Go.RowKit

theorem len_end {x : Int} (k : Nat) (kk p : Int) (hkk : kk = k) (hp : p = 2 ^ k) (hk : k ≤ 56) (h0 : 0 ≤ x) (hx : x < 18446744073709551616) (h1 : p ≤ x ∨ k = 0) (hb : x / p ≤ 255) :
    wrap64 (kk + wrap64 (Lib.len8 (x / p))) = Lib.bitLen x.toNat := by
  obtain ⟨n, rfl⟩ := Int.eq_ofNat_of_zero_le h0
  have hp' : p = ((2 ^ k : Nat) : Int) := by rw [hp]; simp
  have e : ((n : Int) / p) = ((n / 2 ^ k : Nat) : Int) := by rw [hp']; exact (Int.natCast_ediv _ _).symm
  rw [e] at hb ⊢
  rw [Lib.len8_of _ (Int.natCast_nonneg _) hb]
  have l8 := Lib.bitLen_le8' _ (Int.natCast_nonneg (n / 2 ^ k)) hb
  simp only [Int.toNat_natCast] at l8 ⊢
  have s : Lib.bitLen n = k + Lib.bitLen (n / 2 ^ k) := by
    rcases h1 with h | h
    · exact Lib.bitLen_shift k n (by omega) (by omega)
    · subst h; simp
  rw [s]
  unfold wrap64
  omega

set_option maxHeartbeats 1000000 in
set_option maxRecDepth 100000 in
theorem len64_fun (x : Int) (h0 : 0 ≤ x) (hx : x < 18446744073709551616) (w : World) :
    Calls Try.prog 52 #[.int .u64 x] w fun e w' => e = .returned (.int .i64 (Lib.bitLen x.toNat)) ∧ w' = w := by
  by_cases c32 : x ≥ 4294967296
  · by_cases c16 : x / 4294967296 ≥ 65536
    · by_cases c8 : x / 4294967296 / 65536 ≥ 256
      · have e := len_end (x := x) 56 56 72057594037927936 rfl rfl (by omega) h0 hx (Or.inl (by omega)) (by omega)
        rw [show x / 72057594037927936 = x / 4294967296 / 65536 / 256 by omega] at e
        have i0 : 0 ≤ x / 4294967296 / 65536 / 256 := by omega
        have i1 : x / 4294967296 / 65536 / 256 ≤ 255 := by omega
        go_enter Try.func52, Try.ntmps52
        go_wp2_with fail
        go_ret
        refine ⟨congrArg Ending.returned (congrArg (Value.int IntKind.i64) ?_), rfl⟩
        first | rfl | exact e
      · have e := len_end (x := x) 48 48 281474976710656 rfl rfl (by omega) h0 hx (Or.inl (by omega)) (by omega)
        rw [show x / 281474976710656 = x / 4294967296 / 65536 by omega] at e
        have i0 : 0 ≤ x / 4294967296 / 65536 := by omega
        have i1 : x / 4294967296 / 65536 ≤ 255 := by omega
        go_enter Try.func52, Try.ntmps52
        go_wp2_with fail
        go_ret
        refine ⟨congrArg Ending.returned (congrArg (Value.int IntKind.i64) ?_), rfl⟩
        first | rfl | exact e
    · by_cases c8 : x / 4294967296 ≥ 256
      · have e := len_end (x := x) 40 40 1099511627776 rfl rfl (by omega) h0 hx (Or.inl (by omega)) (by omega)
        rw [show x / 1099511627776 = x / 4294967296 / 256 by omega] at e
        have i0 : 0 ≤ x / 4294967296 / 256 := by omega
        have i1 : x / 4294967296 / 256 ≤ 255 := by omega
        go_enter Try.func52, Try.ntmps52
        go_wp2_with fail
        go_ret
        refine ⟨congrArg Ending.returned (congrArg (Value.int IntKind.i64) ?_), rfl⟩
        first | rfl | exact e
      · have e := len_end (x := x) 32 32 4294967296 rfl rfl (by omega) h0 hx (Or.inl (by omega)) (by omega)
        rw [show x / 4294967296 = x / 4294967296 by omega] at e
        have i0 : 0 ≤ x / 4294967296 := by omega
        have i1 : x / 4294967296 ≤ 255 := by omega
        go_enter Try.func52, Try.ntmps52
        go_wp2_with fail
        go_ret
        refine ⟨congrArg Ending.returned (congrArg (Value.int IntKind.i64) ?_), rfl⟩
        first | rfl | exact e
  · by_cases c16 : x ≥ 65536
    · by_cases c8 : x / 65536 ≥ 256
      · have e := len_end (x := x) 24 24 16777216 rfl rfl (by omega) h0 hx (Or.inl (by omega)) (by omega)
        rw [show x / 16777216 = x / 65536 / 256 by omega] at e
        have i0 : 0 ≤ x / 65536 / 256 := by omega
        have i1 : x / 65536 / 256 ≤ 255 := by omega
        go_enter Try.func52, Try.ntmps52
        go_wp2_with fail
        go_ret
        refine ⟨congrArg Ending.returned (congrArg (Value.int IntKind.i64) ?_), rfl⟩
        first | rfl | exact e
      · have e := len_end (x := x) 16 16 65536 rfl rfl (by omega) h0 hx (Or.inl (by omega)) (by omega)
        rw [show x / 65536 = x / 65536 by omega] at e
        have i0 : 0 ≤ x / 65536 := by omega
        have i1 : x / 65536 ≤ 255 := by omega
        go_enter Try.func52, Try.ntmps52
        go_wp2_with fail
        go_ret
        refine ⟨congrArg Ending.returned (congrArg (Value.int IntKind.i64) ?_), rfl⟩
        first | rfl | exact e
    · by_cases c8 : x ≥ 256
      · have e := len_end (x := x) 8 8 256 rfl rfl (by omega) h0 hx (Or.inl (by omega)) (by omega)
        rw [show x / 256 = x / 256 by omega] at e
        have i0 : 0 ≤ x / 256 := by omega
        have i1 : x / 256 ≤ 255 := by omega
        go_enter Try.func52, Try.ntmps52
        go_wp2_with fail
        go_ret
        refine ⟨congrArg Ending.returned (congrArg (Value.int IntKind.i64) ?_), rfl⟩
        first | rfl | exact e
      · have e := len_end (x := x) 0 0 1 rfl rfl (by omega) h0 hx (Or.inr rfl) (by omega)
        rw [show x / 1 = x by omega] at e
        simp only [Int.zero_add] at e
        have i0 : 0 ≤ x := by omega
        have i1 : x ≤ 255 := by omega
        go_enter Try.func52, Try.ntmps52
        go_wp2_with fail
        go_ret
        refine ⟨congrArg Ending.returned (congrArg (Value.int IntKind.i64) ?_), rfl⟩
        first | rfl | exact e
end Go.Proofs.Ytdcpicbkemmakaa

/- How many bits a number needs, and the contract of limb.Len. -/
namespace Go.Proofs.Ytdcpicbkemmakaa
open Go.RowKit

/-- How many bits n needs. -/
def lenN (n : Nat) : Nat := if n = 0 then 0 else n.log2 + 1
theorem lenN_le {n k : Nat} : lenN n ≤ k ↔ n < 2 ^ k := by
  unfold lenN
  split
  · subst_vars; simp [Nat.two_pow_pos]
  · rename_i h
    rw [← Nat.log2_lt h]
    omega
theorem lenN_eq {n m : Nat} (h : ∀ k, m ≤ k ↔ n < 2 ^ k) : lenN n = m := by
  have h1 := (h (lenN n)).2 (lenN_le.1 (Nat.le_refl _))
  have h2 := lenN_le.2 ((h m).1 (Nat.le_refl _))
  omega
theorem lenN_half {n : Nat} (h : n ≠ 0) : lenN n = 1 + lenN (n / 2) := by
  refine lenN_eq ?_
  intro k
  cases k with
  | zero => simp; omega
  | succ k =>
    have := lenN_le (n := n / 2) (k := k)
    rw [Nat.pow_succ]
    omega
theorem bitLenAux_lenN : ∀ (f n : Nat), n < 2 ^ f → Lib.bitLenAux f n = lenN n
  | 0, n, h => by
    have : n = 0 := by simpa using h
    subst this; rfl
  | f + 1, n, h => by
    simp only [Lib.bitLenAux]
    split
    · subst_vars; rfl
    · rename_i h0
      rw [bitLenAux_lenN f (n / 2) (by rw [Nat.pow_succ] at h; omega), lenN_half h0]
theorem bitLen_lenN {n : Nat} (h : n < 18446744073709551616) : Lib.bitLen n = lenN n := bitLenAux_lenN 64 n h
theorem lenN_cat {s l a : Nat} (hl : l < 2 ^ s) (ha : a ≠ 0) : lenN (l + 2 ^ s * a) = s + lenN a := by
  refine lenN_eq ?_
  intro k
  have h1 : 2 ^ s * 1 ≤ 2 ^ s * a := Nat.mul_le_mul_left _ (by omega)
  by_cases hk : s ≤ k
  · obtain ⟨m, rfl⟩ := Nat.exists_eq_add_of_le hk
    have := lenN_le (n := a) (k := m)
    rw [Nat.pow_add]
    constructor
    · intro h
      have : a + 1 ≤ 2 ^ m := by omega
      have := Nat.mul_le_mul_left (2 ^ s) this
      rw [Nat.mul_add] at this
      omega
    · intro h
      have h3 : 2 ^ s * a < 2 ^ s * 2 ^ m := by omega
      have := Nat.lt_of_mul_lt_mul_left h3
      omega
  · have : 2 ^ k ≤ 2 ^ s := Nat.pow_le_pow_right (by omega) (by omega)
    have : ¬ lenN a ≤ 0 := by rw [lenN_le]; simp; omega
    omega
theorem len_word {v l a : Int} {s : Nat} (q : Int) (hq : q = 2 ^ s) (hv : v = l + q * a) (l0 : 0 ≤ l) (l1 : l < q) (a0 : 0 < a) : lenN v.toNat = s + lenN a.toNat := by
  have q' : q = ((2 ^ s : Nat) : Int) := by rw [hq]; simp
  obtain ⟨l', rfl⟩ := Int.eq_ofNat_of_zero_le l0
  obtain ⟨a', rfl⟩ := Int.eq_ofNat_of_zero_le (Int.le_of_lt a0)
  have e : v = ((l' + 2 ^ s * a' : Nat) : Int) := by rw [hv, q']; simp
  rw [e, Int.toNat_natCast, Int.toNat_natCast]
  exact lenN_cat (by omega) (by omega)
theorem len_d {x : Nm} (hx : x.ok)  (h : x.d ≠ 0) : (lenN x.val.toNat : Int) = wrap64 (192 + (Lib.bitLen x.d.toNat : Int)) ∧ (Lib.bitLen x.d.toNat : Int) ≤ 64 := by
  obtain ⟨⟨_, _⟩, ⟨_, _⟩, ⟨_, _⟩, ⟨_, _⟩⟩ := hx
  have b : Lib.bitLen x.d.toNat = lenN x.d.toNat := bitLen_lenN (by omega)
  have m := (lenN_le (n := x.d.toNat) (k := 64)).2 (by omega)
  have e := len_word (v := x.val) (l := x.a + 18446744073709551616 * x.b + 340282366920938463463374607431768211456 * x.c) (a := x.d) (s := 192) 6277101735386680763835789423207666416102355444464034512896 rfl (by simp only [Nm.val]; omega) (by omega) (by omega) (by omega)
  rw [e, b]
  unfold wrap64
  omega
theorem len_c {x : Nm} (hx : x.ok) (hd : x.d = 0) (h : x.c ≠ 0) : (lenN x.val.toNat : Int) = wrap64 (128 + (Lib.bitLen x.c.toNat : Int)) ∧ (Lib.bitLen x.c.toNat : Int) ≤ 64 := by
  obtain ⟨⟨_, _⟩, ⟨_, _⟩, ⟨_, _⟩, ⟨_, _⟩⟩ := hx
  have b : Lib.bitLen x.c.toNat = lenN x.c.toNat := bitLen_lenN (by omega)
  have m := (lenN_le (n := x.c.toNat) (k := 64)).2 (by omega)
  have e := len_word (v := x.val) (l := x.a + 18446744073709551616 * x.b) (a := x.c) (s := 128) 340282366920938463463374607431768211456 rfl (by simp only [Nm.val, hd]; omega) (by omega) (by omega) (by omega)
  rw [e, b]
  unfold wrap64
  omega
theorem len_b {x : Nm} (hx : x.ok) (hd : x.d = 0) (hc : x.c = 0) (h : x.b ≠ 0) : (lenN x.val.toNat : Int) = wrap64 (64 + (Lib.bitLen x.b.toNat : Int)) ∧ (Lib.bitLen x.b.toNat : Int) ≤ 64 := by
  obtain ⟨⟨_, _⟩, ⟨_, _⟩, ⟨_, _⟩, ⟨_, _⟩⟩ := hx
  have b : Lib.bitLen x.b.toNat = lenN x.b.toNat := bitLen_lenN (by omega)
  have m := (lenN_le (n := x.b.toNat) (k := 64)).2 (by omega)
  have e := len_word (v := x.val) (l := x.a) (a := x.b) (s := 64) 18446744073709551616 rfl (by simp only [Nm.val, hd, hc]; omega) (by omega) (by omega) (by omega)
  rw [e, b]
  unfold wrap64
  omega
theorem len_a {x : Nm} (hx : x.ok) (hd : x.d = 0) (hc : x.c = 0) (hb : x.b = 0) (h : x.a ≠ 0) : (lenN x.val.toNat : Int) = wrap64 (0 + (Lib.bitLen x.a.toNat : Int)) ∧ (Lib.bitLen x.a.toNat : Int) ≤ 64 := by
  obtain ⟨⟨_, _⟩, ⟨_, _⟩, ⟨_, _⟩, ⟨_, _⟩⟩ := hx
  have b : Lib.bitLen x.a.toNat = lenN x.a.toNat := bitLen_lenN (by omega)
  have m := (lenN_le (n := x.a.toNat) (k := 64)).2 (by omega)
  have e := len_word (v := x.val) (l := 0) (a := x.a) (s := 0) 1 rfl (by simp only [Nm.val, hd, hc, hb]; omega) (by omega) (by omega) (by omega)
  rw [e, b]
  unfold wrap64
  omega
theorem len_zero {x : Nm} (hd : x.d = 0) (hc : x.c = 0) (hb : x.b = 0) (ha : x.a = 0) : (lenN x.val.toNat : Int) = 0 := by
  simp [Nm.val, hd, hc, hb, ha, lenN]
theorem ret_i' {k : IntKind} {a b : Int} (h : a = b) : Ending.returned (.int k a) = .returned (.int k b) := by rw [h]

set_option maxHeartbeats 2000000 in
set_option maxRecDepth 100000 in
theorem len_fun (x : Nm) (hx : x.ok) (w : World) :
    Calls Try.prog 37 #[N x] w fun e w' => e = .returned (.int .i64 (lenN x.val.toNat)) ∧ Below w.heap.size w w' := by
  have hx' := hx
  obtain ⟨⟨a0, a1⟩, ⟨b0, b1⟩, ⟨c0, c1⟩, ⟨d0, d1⟩⟩ := hx'
  go_enter Try.func37, Try.ntmps37
  go_wp2
  refine wp_loop_rounds 5 ?_
  rw [rounds_succ]
  by_cases hd : x.d = 0
  case neg =>
    go_wp2_with fail
    refine (len64_fun x.d d0 d1 _).mono ?_
    rintro e w' ⟨rfl, rfl⟩
    have hl := len_d hx  hd
    go_wp2_with fail
    go_ret
    refine ⟨ret_i' (by first | exact hl.1.symm | (have := hl.1; unfold wrap64 at *; omega)), ?_⟩
    repeat (first | exact Below.refl _ _ | refine Below.drew ?_ | refine Below.alloc ?_ (by simp <;> omega) _)
  go_wp2_with fail
  rw [rounds_succ]
  by_cases hc : x.c = 0
  case neg =>
    go_wp2_with fail
    refine (len64_fun x.c c0 c1 _).mono ?_
    rintro e w' ⟨rfl, rfl⟩
    have hl := len_c hx hd hc
    go_wp2_with fail
    go_ret
    refine ⟨ret_i' (by first | exact hl.1.symm | (have := hl.1; unfold wrap64 at *; omega)), ?_⟩
    repeat (first | exact Below.refl _ _ | refine Below.drew ?_ | refine Below.alloc ?_ (by simp <;> omega) _)
  go_wp2_with fail
  rw [rounds_succ]
  by_cases hb : x.b = 0
  case neg =>
    go_wp2_with fail
    refine (len64_fun x.b b0 b1 _).mono ?_
    rintro e w' ⟨rfl, rfl⟩
    have hl := len_b hx hd hc hb
    go_wp2_with fail
    go_ret
    refine ⟨ret_i' (by first | exact hl.1.symm | (have := hl.1; unfold wrap64 at *; omega)), ?_⟩
    repeat (first | exact Below.refl _ _ | refine Below.drew ?_ | refine Below.alloc ?_ (by simp <;> omega) _)
  go_wp2_with fail
  rw [rounds_succ]
  by_cases ha : x.a = 0
  case neg =>
    go_wp2_with fail
    refine (len64_fun x.a a0 a1 _).mono ?_
    rintro e w' ⟨rfl, rfl⟩
    have hl := len_a hx hd hc hb ha
    go_wp2_with fail
    go_ret
    refine ⟨ret_i' (by first | exact hl.1.symm | (have := hl.1; unfold wrap64 at *; omega)), ?_⟩
    repeat (first | exact Below.refl _ _ | refine Below.drew ?_ | refine Below.alloc ?_ (by simp <;> omega) _)
  go_wp2_with fail
  rw [rounds_succ]
  go_wp2
  go_ret
  refine ⟨ret_i' (len_zero hd hc hb ha).symm, ?_⟩
  repeat (first | exact Below.refl _ _ | refine Below.drew ?_ | refine Below.alloc ?_ (by simp <;> omega) _)
end Go.Proofs.Ytdcpicbkemmakaa

/- Shifts of numbers of four words, as plain mathematics. -/
namespace Go.Proofs.Ytdcpicbkemmakaa
open Go.RowKit

end Go.Proofs.Ytdcpicbkemmakaa

/- The contracts of limb.shiftLeft, limb.shiftRight and limb.Shift, by what they are worth. -/
namespace Go.Proofs.Ytdcpicbkemmakaa
open Go.RowKit
attribute [local go_sem] World.cell?_alloc_some

theorem zw : Word 0 := ⟨by decide, by decide⟩
end Go.Proofs.Ytdcpicbkemmakaa

/- The contract of limb.Bit. -/
namespace Go.Proofs.Ytdcpicbkemmakaa
open Go.RowKit

/-- The bit s of a word, with whatever stands above the word. -/
theorem bit_word {v l a g q : Int} {s k n : Nat} (hs : s < 64) (hn : n = k + s) (hq : q = 2 ^ k) (hv : v = l + q * (a + 18446744073709551616 * g)) (l0 : 0 ≤ l) (l1 : l < q) : v / 2 ^ n % 2 = a / 2 ^ s % 2 := by
  have q0 : 0 < q := by omega
  have e1 : v / q = a + 18446744073709551616 * g := by
    rw [hv, Int.add_mul_ediv_left _ _ (by omega), Int.ediv_eq_zero_of_lt l0 l1, Int.zero_add]
  have e2 : v / 2 ^ n = v / q / 2 ^ s := by
    rw [hn, Int.pow_add, ← hq, Int.ediv_ediv_of_nonneg (by omega)]
  have p : (18446744073709551616 : Int) = 2 ^ s * (2 ^ (63 - s) * 2) := by
    rw [← Int.mul_assoc, ← Int.pow_add, show s + (63 - s) = 63 by omega]; rfl
  have ps : (0 : Int) < 2 ^ s := Int.pow_pos (by omega)
  rw [e2, e1, p, Int.mul_assoc, Int.add_mul_ediv_left _ _ (by omega), Int.mul_comm (2 ^ (63 - s)) 2, Int.mul_assoc]
  omega
set_option maxHeartbeats 1000000 in
theorem bit_walk0 (x : Nm) (hx : x.ok) (n s : Nat) (h1 : n / 64 = 0) (h2 : n % 64 = s) (hs : s < 64) (w : World) :
    Calls Try.prog 38 #[N x, .int .i64 n] w fun e w' => e = .returned (.int .u64 (x.val / 2 ^ n % 2)) ∧ Below w.heap.size w w' := by
  have h3 : (n : Int) / 64 = 0 := by omega
  have h4 : (n : Int) % 64 = s := by omega
  have h5 : ¬ ((n : Int) < 0) := by omega
  have h6 : ¬ ((n : Int) ≥ 256) := by omega
  obtain ⟨⟨a0, a1⟩, ⟨b0, b1⟩, ⟨c0, c1⟩, ⟨d0, d1⟩⟩ := hx
  have e := bit_word (v := x.val) (l := 0) (a := x.a) (g := x.b + 18446744073709551616 * x.c + 340282366920938463463374607431768211456 * x.d) (q := 1) (s := s) (k := 0) (n := n) hs (by omega) rfl (by simp only [Nm.val] <;> omega) (by omega) (by omega)
  have e' : bits .and .u64 (x.a / 2 ^ s) 1 = x.val / 2 ^ n % 2 := by
    have ps : (0 : Int) < 2 ^ s := Int.pow_pos (by omega)
    have v0 : 0 ≤ x.a / 2 ^ s := Int.ediv_nonneg a0 (by omega)
    have v1 : x.a / 2 ^ s ≤ x.a := Int.ediv_le_self _ a0
    rw [e]
    exact and_one_u64 _ v0 (by omega)
  have E : Hid _ := e'
  clear e e'
  go_enter Try.func38, Try.ntmps38
  go_wp2_with fail
  go_ret
  exact ⟨by rw [E.out]; rfl, (Below.refl _ _).alloc (by simp) _⟩
set_option maxHeartbeats 1000000 in
theorem bit_walk1 (x : Nm) (hx : x.ok) (n s : Nat) (h1 : n / 64 = 1) (h2 : n % 64 = s) (hs : s < 64) (w : World) :
    Calls Try.prog 38 #[N x, .int .i64 n] w fun e w' => e = .returned (.int .u64 (x.val / 2 ^ n % 2)) ∧ Below w.heap.size w w' := by
  have h3 : (n : Int) / 64 = 1 := by omega
  have h4 : (n : Int) % 64 = s := by omega
  have h5 : ¬ ((n : Int) < 0) := by omega
  have h6 : ¬ ((n : Int) ≥ 256) := by omega
  obtain ⟨⟨a0, a1⟩, ⟨b0, b1⟩, ⟨c0, c1⟩, ⟨d0, d1⟩⟩ := hx
  have e := bit_word (v := x.val) (l := x.a) (a := x.b) (g := x.c + 18446744073709551616 * x.d) (q := 18446744073709551616) (s := s) (k := 64) (n := n) hs (by omega) rfl (by simp only [Nm.val] <;> omega) (by omega) (by omega)
  have e' : bits .and .u64 (x.b / 2 ^ s) 1 = x.val / 2 ^ n % 2 := by
    have ps : (0 : Int) < 2 ^ s := Int.pow_pos (by omega)
    have v0 : 0 ≤ x.b / 2 ^ s := Int.ediv_nonneg b0 (by omega)
    have v1 : x.b / 2 ^ s ≤ x.b := Int.ediv_le_self _ b0
    rw [e]
    exact and_one_u64 _ v0 (by omega)
  have E : Hid _ := e'
  clear e e'
  go_enter Try.func38, Try.ntmps38
  go_wp2_with fail
  go_ret
  exact ⟨by rw [E.out]; rfl, (Below.refl _ _).alloc (by simp) _⟩
set_option maxHeartbeats 1000000 in
theorem bit_walk2 (x : Nm) (hx : x.ok) (n s : Nat) (h1 : n / 64 = 2) (h2 : n % 64 = s) (hs : s < 64) (w : World) :
    Calls Try.prog 38 #[N x, .int .i64 n] w fun e w' => e = .returned (.int .u64 (x.val / 2 ^ n % 2)) ∧ Below w.heap.size w w' := by
  have h3 : (n : Int) / 64 = 2 := by omega
  have h4 : (n : Int) % 64 = s := by omega
  have h5 : ¬ ((n : Int) < 0) := by omega
  have h6 : ¬ ((n : Int) ≥ 256) := by omega
  obtain ⟨⟨a0, a1⟩, ⟨b0, b1⟩, ⟨c0, c1⟩, ⟨d0, d1⟩⟩ := hx
  have e := bit_word (v := x.val) (l := x.a + 18446744073709551616 * x.b) (a := x.c) (g := x.d) (q := 340282366920938463463374607431768211456) (s := s) (k := 128) (n := n) hs (by omega) rfl (by simp only [Nm.val] <;> omega) (by omega) (by omega)
  have e' : bits .and .u64 (x.c / 2 ^ s) 1 = x.val / 2 ^ n % 2 := by
    have ps : (0 : Int) < 2 ^ s := Int.pow_pos (by omega)
    have v0 : 0 ≤ x.c / 2 ^ s := Int.ediv_nonneg c0 (by omega)
    have v1 : x.c / 2 ^ s ≤ x.c := Int.ediv_le_self _ c0
    rw [e]
    exact and_one_u64 _ v0 (by omega)
  have E : Hid _ := e'
  clear e e'
  go_enter Try.func38, Try.ntmps38
  go_wp2_with fail
  go_ret
  exact ⟨by rw [E.out]; rfl, (Below.refl _ _).alloc (by simp) _⟩
set_option maxHeartbeats 1000000 in
theorem bit_walk3 (x : Nm) (hx : x.ok) (n s : Nat) (h1 : n / 64 = 3) (h2 : n % 64 = s) (hs : s < 64) (w : World) :
    Calls Try.prog 38 #[N x, .int .i64 n] w fun e w' => e = .returned (.int .u64 (x.val / 2 ^ n % 2)) ∧ Below w.heap.size w w' := by
  have h3 : (n : Int) / 64 = 3 := by omega
  have h4 : (n : Int) % 64 = s := by omega
  have h5 : ¬ ((n : Int) < 0) := by omega
  have h6 : ¬ ((n : Int) ≥ 256) := by omega
  obtain ⟨⟨a0, a1⟩, ⟨b0, b1⟩, ⟨c0, c1⟩, ⟨d0, d1⟩⟩ := hx
  have e := bit_word (v := x.val) (l := x.a + 18446744073709551616 * x.b + 340282366920938463463374607431768211456 * x.c) (a := x.d) (g := 0) (q := 6277101735386680763835789423207666416102355444464034512896) (s := s) (k := 192) (n := n) hs (by omega) rfl (by simp only [Nm.val] <;> omega) (by omega) (by omega)
  have e' : bits .and .u64 (x.d / 2 ^ s) 1 = x.val / 2 ^ n % 2 := by
    have ps : (0 : Int) < 2 ^ s := Int.pow_pos (by omega)
    have v0 : 0 ≤ x.d / 2 ^ s := Int.ediv_nonneg d0 (by omega)
    have v1 : x.d / 2 ^ s ≤ x.d := Int.ediv_le_self _ d0
    rw [e]
    exact and_one_u64 _ v0 (by omega)
  have E : Hid _ := e'
  clear e e'
  go_enter Try.func38, Try.ntmps38
  go_wp2_with fail
  go_ret
  exact ⟨by rw [E.out]; rfl, (Below.refl _ _).alloc (by simp) _⟩
theorem bit_fun (x : Nm) (hx : x.ok) (n : Nat) (hn : n < 256) (w : World) :
    Calls Try.prog 38 #[N x, .int .i64 n] w fun e w' => e = .returned (.int .u64 (x.val / 2 ^ n % 2)) ∧ Below w.heap.size w w' := by
  have hq : n / 64 = 0 ∨ n / 64 = 1 ∨ n / 64 = 2 ∨ n / 64 = 3 := by omega
  rcases hq with h | h | h | h
  · exact bit_walk0 x hx n _ h rfl (by omega) w
  · exact bit_walk1 x hx n _ h rfl (by omega) w
  · exact bit_walk2 x hx n _ h rfl (by omega) w
  · exact bit_walk3 x hx n _ h rfl (by omega) w
end Go.Proofs.Ytdcpicbkemmakaa
