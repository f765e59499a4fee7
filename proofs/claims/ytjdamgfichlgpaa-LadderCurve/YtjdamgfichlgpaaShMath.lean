/- Shifts of numbers of four words, as plain mathematics. -/
import Derived.Test.YtjdamgfichlgpaaNum
import Derived.Laws.Bits64b
namespace Go.Proofs.Ytjdamgfichlgpaa
open Go.RowKit

theorem pq {s : Nat} (h : s < 64) : 2 ^ s * 2 ^ (64 - s) = 18446744073709551616 := by
  rw [← Nat.pow_add, show s + (64 - s) = 64 by omega]
theorem nat_split (v P Q : Nat) : v * P = v % Q * P + P * Q * (v / Q) := by
  have h := Nat.mod_add_div v Q
  have e : (v % Q + Q * (v / Q)) * P = v % Q * P + P * Q * (v / Q) := by
    rw [Nat.add_mul, Nat.mul_comm (Q * (v / Q)) P, Nat.mul_assoc]
  rw [← e, h]
theorem word_nat {v : Int} (h : Word v) : ∃ n : Nat, v = n ∧ n < 18446744073709551616 := by
  obtain ⟨n, rfl⟩ := Int.eq_ofNat_of_zero_le h.1
  exact ⟨n, rfl, by have := h.2; omega⟩
/-- v * 2^s in two words. -/
theorem shl_split {v : Int} {s : Nat} (hv : Word v) (hs : s < 64) : IntKind.u64.wrap (v * 2 ^ s) + 18446744073709551616 * (v / 2 ^ (64 - s)) = v * 2 ^ s ∧ Word (IntKind.u64.wrap (v * 2 ^ s)) := by
  obtain ⟨n, rfl, hn⟩ := word_nat hv
  rw [IntKind.wrap_u64]
  have h := nat_split n (2 ^ s) (2 ^ (64 - s))
  rw [pq hs] at h
  have hlt : n % 2 ^ (64 - s) * 2 ^ s < 18446744073709551616 := by
    have := Nat.mul_lt_mul_of_pos_right (Nat.mod_lt n (Nat.two_pow_pos (64 - s))) (Nat.two_pow_pos s)
    rw [Nat.mul_comm (2 ^ (64 - s)), pq hs] at this
    exact this
  have c1 : (n : Int) * 2 ^ s = ((n * 2 ^ s : Nat) : Int) := by simp
  have c2 : (n : Int) / 2 ^ (64 - s) = ((n / 2 ^ (64 - s) : Nat) : Int) := by simp
  rw [c1, c2]
  exact ⟨by omega, by omega, by omega⟩
/-- Its words don't meet those of its neighbour. -/
theorem shl_or {v u : Int} {s : Nat} (hv : Word v) (hu : Word u) (hs : s < 64) : bits .or .u64 (IntKind.u64.wrap (v * 2 ^ s)) (u / 2 ^ (64 - s)) = IntKind.u64.wrap (v * 2 ^ s) + u / 2 ^ (64 - s) ∧ Word (IntKind.u64.wrap (v * 2 ^ s) + u / 2 ^ (64 - s)) := by
  obtain ⟨n, rfl, hn⟩ := word_nat hv
  obtain ⟨k, rfl, hk⟩ := word_nat hu
  have hp1 := Nat.two_pow_pos s
  have hp2 := Nat.two_pow_pos (64 - s)
  have h := nat_split n (2 ^ s) (2 ^ (64 - s))
  rw [pq hs] at h
  have hm : n % 2 ^ (64 - s) ≤ 2 ^ (64 - s) - 1 := by have := Nat.mod_lt n (Nat.two_pow_pos (64 - s)); omega
  have hlt : n % 2 ^ (64 - s) * 2 ^ s + 2 ^ s ≤ 18446744073709551616 := by
    have h1 : (n % 2 ^ (64 - s) + 1) * 2 ^ s ≤ 2 ^ (64 - s) * 2 ^ s := Nat.mul_le_mul_right _ (by have := Nat.two_pow_pos (64 - s); omega)
    rw [Nat.add_mul, Nat.one_mul, Nat.mul_comm (2 ^ (64 - s)), pq hs] at h1
    exact h1
  have hd : k / 2 ^ (64 - s) < 2 ^ s := Nat.div_lt_of_lt_mul (by rw [Nat.mul_comm, pq hs]; exact hk)
  have e1 : IntKind.u64.wrap ((n : Int) * 2 ^ s) = ((n % 2 ^ (64 - s) * 2 ^ s : Nat) : Int) := by
    rw [IntKind.wrap_u64]
    have c1 : (n : Int) * 2 ^ s = ((n * 2 ^ s : Nat) : Int) := by simp
    rw [c1]
    have := Nat.two_pow_pos s
    omega
  have e2 : (k : Int) / 2 ^ (64 - s) = ((k / 2 ^ (64 - s) : Nat) : Int) := by simp
  rw [e1, e2, bits_or_u64_nat _ _ (by omega) (by omega)]
  have e3 : n % 2 ^ (64 - s) * 2 ^ s ||| k / 2 ^ (64 - s) = n % 2 ^ (64 - s) * 2 ^ s + k / 2 ^ (64 - s) := by
    have := Nat.shiftLeft_add_eq_or_of_lt hd (n % 2 ^ (64 - s))
    rw [Nat.shiftLeft_eq] at this
    exact this.symm
  rw [e3]
  exact ⟨by simp, by omega, by omega⟩
/-- v by s to the right, its neighbour u's lowest bits above. -/
theorem shr_or {v u : Int} {s : Nat} (hv : Word v) (hu : Word u) (hs : s < 64) : bits .or .u64 (v / 2 ^ s) (IntKind.u64.wrap (u * 2 ^ (64 - s))) = v / 2 ^ s + u % 2 ^ s * 2 ^ (64 - s) ∧ Word (v / 2 ^ s + u % 2 ^ s * 2 ^ (64 - s)) := by
  obtain ⟨n, rfl, hn⟩ := word_nat hv
  obtain ⟨k, rfl, hk⟩ := word_nat hu
  have hp1 := Nat.two_pow_pos s
  have hp2 := Nat.two_pow_pos (64 - s)
  have h := nat_split k (2 ^ (64 - s)) (2 ^ s)
  rw [Nat.mul_comm (2 ^ (64 - s)) (2 ^ s), pq hs] at h
  have hlt : k % 2 ^ s * 2 ^ (64 - s) + 2 ^ (64 - s) ≤ 18446744073709551616 := by
    have h1 : (k % 2 ^ s + 1) * 2 ^ (64 - s) ≤ 2 ^ s * 2 ^ (64 - s) := Nat.mul_le_mul_right _ (Nat.mod_lt k (Nat.two_pow_pos s))
    rw [Nat.add_mul, Nat.one_mul, pq hs] at h1
    exact h1
  have hd : n / 2 ^ s < 2 ^ (64 - s) := Nat.div_lt_of_lt_mul (by rw [pq hs]; exact hn)
  have e1 : IntKind.u64.wrap ((k : Int) * 2 ^ (64 - s)) = ((k % 2 ^ s * 2 ^ (64 - s) : Nat) : Int) := by
    rw [IntKind.wrap_u64]
    have c1 : (k : Int) * 2 ^ (64 - s) = ((k * 2 ^ (64 - s) : Nat) : Int) := by simp
    rw [c1]
    have := Nat.two_pow_pos (64 - s)
    omega
  have e2 : (n : Int) / 2 ^ s = ((n / 2 ^ s : Nat) : Int) := by simp
  have e4 : (k : Int) % 2 ^ s * 2 ^ (64 - s) = ((k % 2 ^ s * 2 ^ (64 - s) : Nat) : Int) := by simp
  rw [e1, e2, e4, bits_or_u64_nat _ _ (by omega) (by omega)]
  have e3 : n / 2 ^ s ||| k % 2 ^ s * 2 ^ (64 - s) = n / 2 ^ s + k % 2 ^ s * 2 ^ (64 - s) := by
    have := Nat.shiftLeft_add_eq_or_of_lt hd (k % 2 ^ s)
    rw [Nat.shiftLeft_eq] at this
    rw [Nat.or_comm, ← this, Nat.add_comm]
  rw [e3]
  exact ⟨by simp, by omega, by omega⟩

theorem pqI {s : Nat} (h : s < 64) : (2 : Int) ^ s * 2 ^ (64 - s) = 18446744073709551616 := by
  have := pq h
  have c : ((2 ^ s * 2 ^ (64 - s) : Nat) : Int) = (2 : Int) ^ s * 2 ^ (64 - s) := by simp
  rw [← c, this]; rfl
theorem shr_val (y : Nm) {s : Nat} (hs : s < 64) : (⟨y.a / 2 ^ s + y.b % 2 ^ s * 2 ^ (64 - s), y.b / 2 ^ s + y.c % 2 ^ s * 2 ^ (64 - s), y.c / 2 ^ s + y.d % 2 ^ s * 2 ^ (64 - s), y.d / 2 ^ s⟩ : Nm).val = y.val / 2 ^ s := by
  have hP : (0 : Int) < 2 ^ s := Int.pow_pos (by decide)
  have hPQ := pqI hs
  generalize (2 : Int) ^ s = P at *
  generalize (2 : Int) ^ (64 - s) = Q at *
  have e0 := Int.mul_ediv_add_emod y.a P
  have e1 := Int.mul_ediv_add_emod y.b P
  have e2 := Int.mul_ediv_add_emod y.c P
  have e3 := Int.mul_ediv_add_emod y.d P
  have m0 := Int.emod_nonneg y.a (Int.ne_of_gt hP)
  have m0' := Int.emod_lt_of_pos y.a hP
  have q : ∀ m : Int, P * (m * Q) = 18446744073709551616 * m := fun m => by rw [Int.mul_left_comm, hPQ, Int.mul_comm]
  have key : y.val = y.a % P + P * (⟨y.a / P + y.b % P * Q, y.b / P + y.c % P * Q, y.c / P + y.d % P * Q, y.d / P⟩ : Nm).val := by
    simp only [Nm.val, Int.mul_add, Int.mul_left_comm P]
    have r1 := q (y.b % P); have r2 := q (y.c % P); have r3 := q (y.d % P)
    simp only [Int.mul_left_comm P] at r1 r2 r3
    omega
  rw [key, Int.add_mul_ediv_left _ _ (Int.ne_of_gt hP), Int.ediv_eq_zero_of_lt m0 m0', Int.zero_add]
theorem shl_val {y : Nm} (hy : y.ok) {s : Nat} (hs : s < 64) : ∃ t, (⟨IntKind.u64.wrap (y.a * 2 ^ s), IntKind.u64.wrap (y.b * 2 ^ s) + y.a / 2 ^ (64 - s), IntKind.u64.wrap (y.c * 2 ^ s) + y.b / 2 ^ (64 - s), IntKind.u64.wrap (y.d * 2 ^ s) + y.c / 2 ^ (64 - s)⟩ : Nm).val + M * t = y.val * 2 ^ s := by
  have h0 := (shl_split hy.a hs).1
  have h1 := (shl_split hy.b hs).1
  have h2 := (shl_split hy.c hs).1
  have h3 := (shl_split hy.d hs).1
  refine ⟨y.d / 2 ^ (64 - s), ?_⟩
  generalize (2 : Int) ^ s = P at *
  generalize (2 : Int) ^ (64 - s) = Q at *
  simp only [Nm.val, M, Int.add_mul, Int.mul_assoc]
  omega
theorem of_mod {r : Nm} (hr : r.ok) {z t : Int} (e : r.val + M * t = z) : r = Nm.of (z % M) := by
  have h0 := Nm.val_nonneg hr; have h1 := Nm.val_lt hr
  refine Nm.eq_of hr ?_
  rw [← e, Int.add_mul_emod_self_left, Int.emod_eq_of_lt h0 h1]
theorem shl_of {x y r : Nm} {s n q : Nat} {t t' : Int} (hr : r.ok) (h1 : r.val + M * t = y.val * 2 ^ s) (h2 : y.val + M * t' = x.val * 2 ^ (64 * q)) (hn : n = 64 * q + s) : r = Nm.of (x.val * 2 ^ n % M) := by
  refine of_mod hr (t := t + t' * 2 ^ s) ?_
  rw [hn, Int.pow_add, ← Int.mul_assoc, ← h2, Int.add_mul, ← h1, Int.mul_add, Int.mul_assoc, Int.add_assoc]
theorem shr_of {x y r : Nm} {s n q : Nat} (hr : r.ok) (h1 : r.val = y.val / 2 ^ s) (h2 : y.val = x.val / 2 ^ (64 * q)) (hn : n = 64 * q + s) : r = Nm.of (x.val / 2 ^ n) := by
  refine Nm.eq_of hr ?_
  have hp : (0 : Int) < 2 ^ (64 * q) := Int.pow_pos (by decide)
  rw [h1, h2, hn, Int.pow_add, Int.ediv_ediv, if_neg (by omega), Int.sub_zero]
end Go.Proofs.Ytjdamgfichlgpaa
