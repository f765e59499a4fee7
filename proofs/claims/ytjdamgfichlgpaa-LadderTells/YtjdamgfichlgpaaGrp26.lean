/- Texts that were joined: Shl, ShMath, Sh, Bit. -/
import Derived.Test.YtjdamgfichlgpaaRows
import Derived.Test.YtjdamgfichlgpaaGrp1
import Derived.WalkKit
import Derived.WalkSpells
import Derived.WalkLawsBesides
import Derived.LoopN
import Derived.Laws.Bits64b
import Derived.Deep.RegionHeld
import Derived.Test.YtjdamgfichlgpaaPick
/- The walks of limb.shiftLeft and limb.shiftRight, word by word. -/
namespace Go.Proofs.Ytjdamgfichlgpaa
open Go.RowKit

end Go.Proofs.Ytjdamgfichlgpaa

/- Shifts of numbers of four words, as plain mathematics. -/
namespace Go.Proofs.Ytjdamgfichlgpaa
open Go.RowKit

theorem pq {s : Nat} (h : s < 64) : 2 ^ s * 2 ^ (64 - s) = 18446744073709551616 := by
  rw [← Nat.pow_add, show s + (64 - s) = 64 by omega]
theorem nat_split (v P Q : Nat) : v * P = v % Q * P + P * Q * (v / Q) := by
  have h := Nat.mod_add_div v Q
  have e : (v % Q + Q * (v / Q)) * P = v % Q * P + P * Q * (v / Q) := by
    rw [Nat.add_mul, Nat.mul_comm (Q * (v / Q)) P, Nat.mul_assoc]
  rw [← e, h]
theorem word_nat {v : Int} (h : Word v) : ∃ n : Nat, v = n ∧ n < 18446744073709551616 := by
  obtain ⟨n, rfl⟩ := Int.eq_ofNat_of_zero_le h.1
  exact ⟨n, rfl, by have := h.2; omega⟩
/-- v * 2^s in two words. -/
theorem shl_split {v : Int} {s : Nat} (hv : Word v) (hs : s < 64) : IntKind.u64.wrap (v * 2 ^ s) + 18446744073709551616 * (v / 2 ^ (64 - s)) = v * 2 ^ s ∧ Word (IntKind.u64.wrap (v * 2 ^ s)) := by
  obtain ⟨n, rfl, hn⟩ := word_nat hv
  rw [IntKind.wrap_u64]
  have h := nat_split n (2 ^ s) (2 ^ (64 - s))
  rw [pq hs] at h
  have hlt : n % 2 ^ (64 - s) * 2 ^ s < 18446744073709551616 := by
    have := Nat.mul_lt_mul_of_pos_right (Nat.mod_lt n (Nat.two_pow_pos (64 - s))) (Nat.two_pow_pos s)
    rw [Nat.mul_comm (2 ^ (64 - s)), pq hs] at this
    exact this
  have c1 : (n : Int) * 2 ^ s = ((n * 2 ^ s : Nat) : Int) := by simp
  have c2 : (n : Int) / 2 ^ (64 - s) = ((n / 2 ^ (64 - s) : Nat) : Int) := by simp
  rw [c1, c2]
  exact ⟨by omega, by omega, by omega⟩
/-- Its words don't meet those of its neighbour. -/
theorem shl_or {v u : Int} {s : Nat} (hv : Word v) (hu : Word u) (hs : s < 64) : bits .or .u64 (IntKind.u64.wrap (v * 2 ^ s)) (u / 2 ^ (64 - s)) = IntKind.u64.wrap (v * 2 ^ s) + u / 2 ^ (64 - s) ∧ Word (IntKind.u64.wrap (v * 2 ^ s) + u / 2 ^ (64 - s)) := by
  obtain ⟨n, rfl, hn⟩ := word_nat hv
  obtain ⟨k, rfl, hk⟩ := word_nat hu
  have hp1 := Nat.two_pow_pos s
  have hp2 := Nat.two_pow_pos (64 - s)
  have h := nat_split n (2 ^ s) (2 ^ (64 - s))
  rw [pq hs] at h
  have hm : n % 2 ^ (64 - s) ≤ 2 ^ (64 - s) - 1 := by have := Nat.mod_lt n (Nat.two_pow_pos (64 - s)); omega
  have hlt : n % 2 ^ (64 - s) * 2 ^ s + 2 ^ s ≤ 18446744073709551616 := by
    have h1 : (n % 2 ^ (64 - s) + 1) * 2 ^ s ≤ 2 ^ (64 - s) * 2 ^ s := Nat.mul_le_mul_right _ (by have := Nat.two_pow_pos (64 - s); omega)
    rw [Nat.add_mul, Nat.one_mul, Nat.mul_comm (2 ^ (64 - s)), pq hs] at h1
    exact h1
  have hd : k / 2 ^ (64 - s) < 2 ^ s := Nat.div_lt_of_lt_mul (by rw [Nat.mul_comm, pq hs]; exact hk)
  have e1 : IntKind.u64.wrap ((n : Int) * 2 ^ s) = ((n % 2 ^ (64 - s) * 2 ^ s : Nat) : Int) := by
    rw [IntKind.wrap_u64]
    have c1 : (n : Int) * 2 ^ s = ((n * 2 ^ s : Nat) : Int) := by simp
    rw [c1]
    have := Nat.two_pow_pos s
    omega
  have e2 : (k : Int) / 2 ^ (64 - s) = ((k / 2 ^ (64 - s) : Nat) : Int) := by simp
  rw [e1, e2, bits_or_u64_nat _ _ (by omega) (by omega)]
  have e3 : n % 2 ^ (64 - s) * 2 ^ s ||| k / 2 ^ (64 - s) = n % 2 ^ (64 - s) * 2 ^ s + k / 2 ^ (64 - s) := by
    have := Nat.shiftLeft_add_eq_or_of_lt hd (n % 2 ^ (64 - s))
    rw [Nat.shiftLeft_eq] at this
    exact this.symm
  rw [e3]
  exact ⟨by simp, by omega, by omega⟩
/-- v by s to the right, its neighbour u's lowest bits above. -/
theorem shr_or {v u : Int} {s : Nat} (hv : Word v) (hu : Word u) (hs : s < 64) : bits .or .u64 (v / 2 ^ s) (IntKind.u64.wrap (u * 2 ^ (64 - s))) = v / 2 ^ s + u % 2 ^ s * 2 ^ (64 - s) ∧ Word (v / 2 ^ s + u % 2 ^ s * 2 ^ (64 - s)) := by
  obtain ⟨n, rfl, hn⟩ := word_nat hv
  obtain ⟨k, rfl, hk⟩ := word_nat hu
  have hp1 := Nat.two_pow_pos s
  have hp2 := Nat.two_pow_pos (64 - s)
  have h := nat_split k (2 ^ (64 - s)) (2 ^ s)
  rw [Nat.mul_comm (2 ^ (64 - s)) (2 ^ s), pq hs] at h
  have hlt : k % 2 ^ s * 2 ^ (64 - s) + 2 ^ (64 - s) ≤ 18446744073709551616 := by
    have h1 : (k % 2 ^ s + 1) * 2 ^ (64 - s) ≤ 2 ^ s * 2 ^ (64 - s) := Nat.mul_le_mul_right _ (Nat.mod_lt k (Nat.two_pow_pos s))
    rw [Nat.add_mul, Nat.one_mul, pq hs] at h1
    exact h1
  have hd : n / 2 ^ s < 2 ^ (64 - s) := Nat.div_lt_of_lt_mul (by rw [pq hs]; exact hn)
  have e1 : IntKind.u64.wrap ((k : Int) * 2 ^ (64 - s)) = ((k % 2 ^ s * 2 ^ (64 - s) : Nat) : Int) := by
    rw [IntKind.wrap_u64]
    have c1 : (k : Int) * 2 ^ (64 - s) = ((k * 2 ^ (64 - s) : Nat) : Int) := by simp
    rw [c1]
    have := Nat.two_pow_pos (64 - s)
    omega
  have e2 : (n : Int) / 2 ^ s = ((n / 2 ^ s : Nat) : Int) := by simp
  have e4 : (k : Int) % 2 ^ s * 2 ^ (64 - s) = ((k % 2 ^ s * 2 ^ (64 - s) : Nat) : Int) := by simp
  rw [e1, e2, e4, bits_or_u64_nat _ _ (by omega) (by omega)]
  have e3 : n / 2 ^ s ||| k % 2 ^ s * 2 ^ (64 - s) = n / 2 ^ s + k % 2 ^ s * 2 ^ (64 - s) := by
    have := Nat.shiftLeft_add_eq_or_of_lt hd (k % 2 ^ s)
    rw [Nat.shiftLeft_eq] at this
    rw [Nat.or_comm, ← this, Nat.add_comm]
  rw [e3]
  exact ⟨by simp, by omega, by omega⟩

theorem pqI {s : Nat} (h : s < 64) : (2 : Int) ^ s * 2 ^ (64 - s) = 18446744073709551616 := by
  have := pq h
  have c : ((2 ^ s * 2 ^ (64 - s) : Nat) : Int) = (2 : Int) ^ s * 2 ^ (64 - s) := by simp
  rw [← c, this]; rfl
theorem shr_val (y : Nm) {s : Nat} (hs : s < 64) : (⟨y.a / 2 ^ s + y.b % 2 ^ s * 2 ^ (64 - s), y.b / 2 ^ s + y.c % 2 ^ s * 2 ^ (64 - s), y.c / 2 ^ s + y.d % 2 ^ s * 2 ^ (64 - s), y.d / 2 ^ s⟩ : Nm).val = y.val / 2 ^ s := by
  have hP : (0 : Int) < 2 ^ s := Int.pow_pos (by decide)
  have hPQ := pqI hs
  generalize (2 : Int) ^ s = P at *
  generalize (2 : Int) ^ (64 - s) = Q at *
  have e0 := Int.mul_ediv_add_emod y.a P
  have e1 := Int.mul_ediv_add_emod y.b P
  have e2 := Int.mul_ediv_add_emod y.c P
  have e3 := Int.mul_ediv_add_emod y.d P
  have m0 := Int.emod_nonneg y.a (Int.ne_of_gt hP)
  have m0' := Int.emod_lt_of_pos y.a hP
  have q : ∀ m : Int, P * (m * Q) = 18446744073709551616 * m := fun m => by rw [Int.mul_left_comm, hPQ, Int.mul_comm]
  have key : y.val = y.a % P + P * (⟨y.a / P + y.b % P * Q, y.b / P + y.c % P * Q, y.c / P + y.d % P * Q, y.d / P⟩ : Nm).val := by
    simp only [Nm.val, Int.mul_add, Int.mul_left_comm P]
    have r1 := q (y.b % P); have r2 := q (y.c % P); have r3 := q (y.d % P)
    simp only [Int.mul_left_comm P] at r1 r2 r3
    omega
  rw [key, Int.add_mul_ediv_left _ _ (Int.ne_of_gt hP), Int.ediv_eq_zero_of_lt m0 m0', Int.zero_add]
theorem shl_val {y : Nm} (hy : y.ok) {s : Nat} (hs : s < 64) : ∃ t, (⟨IntKind.u64.wrap (y.a * 2 ^ s), IntKind.u64.wrap (y.b * 2 ^ s) + y.a / 2 ^ (64 - s), IntKind.u64.wrap (y.c * 2 ^ s) + y.b / 2 ^ (64 - s), IntKind.u64.wrap (y.d * 2 ^ s) + y.c / 2 ^ (64 - s)⟩ : Nm).val + M * t = y.val * 2 ^ s := by
  have h0 := (shl_split hy.a hs).1
  have h1 := (shl_split hy.b hs).1
  have h2 := (shl_split hy.c hs).1
  have h3 := (shl_split hy.d hs).1
  refine ⟨y.d / 2 ^ (64 - s), ?_⟩
  generalize (2 : Int) ^ s = P at *
  generalize (2 : Int) ^ (64 - s) = Q at *
  simp only [Nm.val, M, Int.add_mul, Int.mul_assoc]
  omega
theorem of_mod {r : Nm} (hr : r.ok) {z t : Int} (e : r.val + M * t = z) : r = Nm.of (z % M) := by
  have h0 := Nm.val_nonneg hr; have h1 := Nm.val_lt hr
  refine Nm.eq_of hr ?_
  rw [← e, Int.add_mul_emod_self_left, Int.emod_eq_of_lt h0 h1]
theorem shl_of {x y r : Nm} {s n q : Nat} {t t' : Int} (hr : r.ok) (h1 : r.val + M * t = y.val * 2 ^ s) (h2 : y.val + M * t' = x.val * 2 ^ (64 * q)) (hn : n = 64 * q + s) : r = Nm.of (x.val * 2 ^ n % M) := by
  refine of_mod hr (t := t + t' * 2 ^ s) ?_
  rw [hn, Int.pow_add, ← Int.mul_assoc, ← h2, Int.add_mul, ← h1, Int.mul_add, Int.mul_assoc, Int.add_assoc]
theorem shr_of {x y r : Nm} {s n q : Nat} (hr : r.ok) (h1 : r.val = y.val / 2 ^ s) (h2 : y.val = x.val / 2 ^ (64 * q)) (hn : n = 64 * q + s) : r = Nm.of (x.val / 2 ^ n) := by
  refine Nm.eq_of hr ?_
  have hp : (0 : Int) < 2 ^ (64 * q) := Int.pow_pos (by decide)
  rw [h1, h2, hn, Int.pow_add, Int.ediv_ediv, if_neg (by omega), Int.sub_zero]
end Go.Proofs.Ytjdamgfichlgpaa

/- The contracts of limb.shiftLeft, limb.shiftRight and limb.Shift, by what they are worth. -/
namespace Go.Proofs.Ytjdamgfichlgpaa
open Go.RowKit
attribute [local go_sem] World.cell?_alloc_some

theorem ret_n {x y : Nm} (h : x = y) : Ending.returned (N x) = .returned (N y) := by rw [h]
theorem zw : Word 0 := ⟨by decide, by decide⟩
theorem wrap0 (s : Nat) : IntKind.u64.wrap (0 * 2 ^ s) = 0 := by rw [Int.zero_mul, IntKind.wrap_u64]; rfl

end Go.Proofs.Ytjdamgfichlgpaa

/- The contract of limb.Bit. -/
namespace Go.Proofs.Ytjdamgfichlgpaa
open Go.RowKit

set_option maxHeartbeats 1000000 in
theorem bit_out (x : Nm) (i : Int) (h : i < 0 ∨ 256 ≤ i) (w : World) :
    Calls Try.prog 36 #[N x, .int .i64 i] w fun e w' => e = .returned (.int .u64 0) ∧ Below w.heap.size w w' := by
  by_cases h' : i < 0
  · go_enter Try.func36, Try.ntmps36
    go_wp2_with fail
    go_ret
    exact ⟨rfl, (Below.refl _ _).alloc (by simp) _⟩
  · have h'' : i ≥ 256 := by omega
    go_enter Try.func36, Try.ntmps36
    go_wp2_with fail
    go_ret
    exact ⟨rfl, (Below.refl _ _).alloc (by simp) _⟩
/-- The bit s of a word, with whatever stands above the word. -/
theorem bit_word {v l a g q : Int} {s k n : Nat} (hs : s < 64) (hn : n = k + s) (hq : q = 2 ^ k) (hv : v = l + q * (a + 18446744073709551616 * g)) (l0 : 0 ≤ l) (l1 : l < q) : v / 2 ^ n % 2 = a / 2 ^ s % 2 := by
  have q0 : 0 < q := by omega
  have e1 : v / q = a + 18446744073709551616 * g := by
    rw [hv, Int.add_mul_ediv_left _ _ (by omega), Int.ediv_eq_zero_of_lt l0 l1, Int.zero_add]
  have e2 : v / 2 ^ n = v / q / 2 ^ s := by
    rw [hn, Int.pow_add, ← hq, Int.ediv_ediv_of_nonneg (by omega)]
  have p : (18446744073709551616 : Int) = 2 ^ s * (2 ^ (63 - s) * 2) := by
    rw [← Int.mul_assoc, ← Int.pow_add, show s + (63 - s) = 63 by omega]; rfl
  have ps : (0 : Int) < 2 ^ s := Int.pow_pos (by omega)
  rw [e2, e1, p, Int.mul_assoc, Int.add_mul_ediv_left _ _ (by omega), Int.mul_comm (2 ^ (63 - s)) 2, Int.mul_assoc]
  omega
set_option maxHeartbeats 1000000 in
theorem bit_walk0 (x : Nm) (hx : x.ok) (n s : Nat) (h1 : n / 64 = 0) (h2 : n % 64 = s) (hs : s < 64) (w : World) :
    Calls Try.prog 36 #[N x, .int .i64 n] w fun e w' => e = .returned (.int .u64 (x.val / 2 ^ n % 2)) ∧ Below w.heap.size w w' := by
  have h3 : (n : Int) / 64 = 0 := by omega
  have h4 : (n : Int) % 64 = s := by omega
  have h5 : ¬ ((n : Int) < 0) := by omega
  have h6 : ¬ ((n : Int) ≥ 256) := by omega
  obtain ⟨⟨a0, a1⟩, ⟨b0, b1⟩, ⟨c0, c1⟩, ⟨d0, d1⟩⟩ := hx
  have e := bit_word (v := x.val) (l := 0) (a := x.a) (g := x.b + 18446744073709551616 * x.c + 340282366920938463463374607431768211456 * x.d) (q := 1) (s := s) (k := 0) (n := n) hs (by omega) rfl (by simp only [Nm.val] <;> omega) (by omega) (by omega)
  have e' : bits .and .u64 (x.a / 2 ^ s) 1 = x.val / 2 ^ n % 2 := by
    have ps : (0 : Int) < 2 ^ s := Int.pow_pos (by omega)
    have v0 : 0 ≤ x.a / 2 ^ s := Int.ediv_nonneg a0 (by omega)
    have v1 : x.a / 2 ^ s ≤ x.a := Int.ediv_le_self _ a0
    rw [e]
    exact and_one_u64 _ v0 (by omega)
  have E : Hid _ := e'
  clear e e'
  go_enter Try.func36, Try.ntmps36
  go_wp2_with fail
  go_ret
  exact ⟨by rw [E.out]; rfl, (Below.refl _ _).alloc (by simp) _⟩
set_option maxHeartbeats 1000000 in
theorem bit_walk1 (x : Nm) (hx : x.ok) (n s : Nat) (h1 : n / 64 = 1) (h2 : n % 64 = s) (hs : s < 64) (w : World) :
    Calls Try.prog 36 #[N x, .int .i64 n] w fun e w' => e = .returned (.int .u64 (x.val / 2 ^ n % 2)) ∧ Below w.heap.size w w' := by
  have h3 : (n : Int) / 64 = 1 := by omega
  have h4 : (n : Int) % 64 = s := by omega
  have h5 : ¬ ((n : Int) < 0) := by omega
  have h6 : ¬ ((n : Int) ≥ 256) := by omega
  obtain ⟨⟨a0, a1⟩, ⟨b0, b1⟩, ⟨c0, c1⟩, ⟨d0, d1⟩⟩ := hx
  have e := bit_word (v := x.val) (l := x.a) (a := x.b) (g := x.c + 18446744073709551616 * x.d) (q := 18446744073709551616) (s := s) (k := 64) (n := n) hs (by omega) rfl (by simp only [Nm.val] <;> omega) (by omega) (by omega)
  have e' : bits .and .u64 (x.b / 2 ^ s) 1 = x.val / 2 ^ n % 2 := by
    have ps : (0 : Int) < 2 ^ s := Int.pow_pos (by omega)
    have v0 : 0 ≤ x.b / 2 ^ s := Int.ediv_nonneg b0 (by omega)
    have v1 : x.b / 2 ^ s ≤ x.b := Int.ediv_le_self _ b0
    rw [e]
    exact and_one_u64 _ v0 (by omega)
  have E : Hid _ := e'
  clear e e'
  go_enter Try.func36, Try.ntmps36
  go_wp2_with fail
  go_ret
  exact ⟨by rw [E.out]; rfl, (Below.refl _ _).alloc (by simp) _⟩
set_option maxHeartbeats 1000000 in
theorem bit_walk2 (x : Nm) (hx : x.ok) (n s : Nat) (h1 : n / 64 = 2) (h2 : n % 64 = s) (hs : s < 64) (w : World) :
    Calls Try.prog 36 #[N x, .int .i64 n] w fun e w' => e = .returned (.int .u64 (x.val / 2 ^ n % 2)) ∧ Below w.heap.size w w' := by
  have h3 : (n : Int) / 64 = 2 := by omega
  have h4 : (n : Int) % 64 = s := by omega
  have h5 : ¬ ((n : Int) < 0) := by omega
  have h6 : ¬ ((n : Int) ≥ 256) := by omega
  obtain ⟨⟨a0, a1⟩, ⟨b0, b1⟩, ⟨c0, c1⟩, ⟨d0, d1⟩⟩ := hx
  have e := bit_word (v := x.val) (l := x.a + 18446744073709551616 * x.b) (a := x.c) (g := x.d) (q := 340282366920938463463374607431768211456) (s := s) (k := 128) (n := n) hs (by omega) rfl (by simp only [Nm.val] <;> omega) (by omega) (by omega)
  have e' : bits .and .u64 (x.c / 2 ^ s) 1 = x.val / 2 ^ n % 2 := by
    have ps : (0 : Int) < 2 ^ s := Int.pow_pos (by omega)
    have v0 : 0 ≤ x.c / 2 ^ s := Int.ediv_nonneg c0 (by omega)
    have v1 : x.c / 2 ^ s ≤ x.c := Int.ediv_le_self _ c0
    rw [e]
    exact and_one_u64 _ v0 (by omega)
  have E : Hid _ := e'
  clear e e'
  go_enter Try.func36, Try.ntmps36
  go_wp2_with fail
  go_ret
  exact ⟨by rw [E.out]; rfl, (Below.refl _ _).alloc (by simp) _⟩
set_option maxHeartbeats 1000000 in
theorem bit_walk3 (x : Nm) (hx : x.ok) (n s : Nat) (h1 : n / 64 = 3) (h2 : n % 64 = s) (hs : s < 64) (w : World) :
    Calls Try.prog 36 #[N x, .int .i64 n] w fun e w' => e = .returned (.int .u64 (x.val / 2 ^ n % 2)) ∧ Below w.heap.size w w' := by
  have h3 : (n : Int) / 64 = 3 := by omega
  have h4 : (n : Int) % 64 = s := by omega
  have h5 : ¬ ((n : Int) < 0) := by omega
  have h6 : ¬ ((n : Int) ≥ 256) := by omega
  obtain ⟨⟨a0, a1⟩, ⟨b0, b1⟩, ⟨c0, c1⟩, ⟨d0, d1⟩⟩ := hx
  have e := bit_word (v := x.val) (l := x.a + 18446744073709551616 * x.b + 340282366920938463463374607431768211456 * x.c) (a := x.d) (g := 0) (q := 6277101735386680763835789423207666416102355444464034512896) (s := s) (k := 192) (n := n) hs (by omega) rfl (by simp only [Nm.val] <;> omega) (by omega) (by omega)
  have e' : bits .and .u64 (x.d / 2 ^ s) 1 = x.val / 2 ^ n % 2 := by
    have ps : (0 : Int) < 2 ^ s := Int.pow_pos (by omega)
    have v0 : 0 ≤ x.d / 2 ^ s := Int.ediv_nonneg d0 (by omega)
    have v1 : x.d / 2 ^ s ≤ x.d := Int.ediv_le_self _ d0
    rw [e]
    exact and_one_u64 _ v0 (by omega)
  have E : Hid _ := e'
  clear e e'
  go_enter Try.func36, Try.ntmps36
  go_wp2_with fail
  go_ret
  exact ⟨by rw [E.out]; rfl, (Below.refl _ _).alloc (by simp) _⟩
theorem bit_fun (x : Nm) (hx : x.ok) (n : Nat) (hn : n < 256) (w : World) :
    Calls Try.prog 36 #[N x, .int .i64 n] w fun e w' => e = .returned (.int .u64 (x.val / 2 ^ n % 2)) ∧ Below w.heap.size w w' := by
  have hq : n / 64 = 0 ∨ n / 64 = 1 ∨ n / 64 = 2 ∨ n / 64 = 3 := by omega
  rcases hq with h | h | h | h
  · exact bit_walk0 x hx n _ h rfl (by omega) w
  · exact bit_walk1 x hx n _ h rfl (by omega) w
  · exact bit_walk2 x hx n _ h rfl (by omega) w
  · exact bit_walk3 x hx n _ h rfl (by omega) w
end Go.Proofs.Ytjdamgfichlgpaa
