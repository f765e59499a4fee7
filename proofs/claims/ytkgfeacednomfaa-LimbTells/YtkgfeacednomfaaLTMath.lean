/- LimbTells: the bits, told as the document's answer tells them. -/
import Derived.Test.YtkgfeacednomfaaMulV
import Derived.Test.YtkgfeacednomfaaLenW
namespace Go.Proofs.Ytkgfeacednomfaa
/-- The bit at place i of those below k. -/
def BVf (X : Nat) (i : Int) (k : Nat) : Nat := if 0 ≤ i ∧ i < (k : Int) then X / 2 ^ i.toNat % 2 else 0
theorem BVf_zero (X : Nat) (i : Int) : BVf X i 0 = 0 := by
  unfold BVf
  rw [if_neg (by omega)]
theorem BVf_le (X : Nat) (i : Int) (k : Nat) : BVf X i k ≤ 1 := by
  unfold BVf
  split
  · have := Nat.mod_lt (X / 2 ^ i.toNat) (show 0 < 2 by decide)
    omega
  · omega
theorem BVf_hit (X : Nat) (i : Int) (k : Nat) (h : i = (k : Int)) : BVf X i (k + 1) = X / 2 ^ k % 2 := by
  unfold BVf
  rw [if_pos (by omega), show i.toNat = k by omega]
theorem BVf_miss (X : Nat) (i : Int) (k : Nat) (h : i ≠ (k : Int)) : BVf X i (k + 1) = BVf X i k := by
  unfold BVf
  by_cases c : 0 ≤ i ∧ i < (k : Int)
  · rw [if_pos c, if_pos (by omega)]
  · rw [if_neg c, if_neg (by omega)]
/-- How long the lowest k bits are. -/
def LNf (X k : Nat) : Nat := lenN (X % 2 ^ k)
theorem mod_succ (X k : Nat) : X % 2 ^ (k + 1) = X % 2 ^ k + 2 ^ k * (X / 2 ^ k % 2) := by
  rw [Nat.pow_succ, Nat.mod_mul]
theorem LNf_zero (X : Nat) : LNf X 0 = 0 := by simp [LNf, lenN, Nat.mod_one]
theorem LNf_hit (X k : Nat) (h : X / 2 ^ k % 2 = 1) : LNf X (k + 1) = k + 1 := by
  unfold LNf
  rw [mod_succ, h, Nat.mul_one]
  have l1 : X % 2 ^ k < 2 ^ k := Nat.mod_lt _ (Nat.two_pow_pos k)
  refine lenN_eq fun j => ?_
  constructor
  · intro hj
    have : (2 : Nat) ^ (k + 1) ≤ 2 ^ j := Nat.pow_le_pow_right (by decide) hj
    rw [Nat.pow_succ] at this
    omega
  · intro hj
    rcases Nat.lt_or_ge k j with h | h
    · omega
    · have : (2 : Nat) ^ j ≤ 2 ^ k := Nat.pow_le_pow_right (by decide) h
      omega
theorem LNf_miss (X k : Nat) (h : X / 2 ^ k % 2 ≠ 1) : LNf X (k + 1) = LNf X k := by
  unfold LNf
  have : X / 2 ^ k % 2 = 0 := by
    have := Nat.mod_lt (X / 2 ^ k) (show 0 < 2 by decide)
    omega
  rw [mod_succ, this, Nat.mul_zero, Nat.add_zero]
/-- The bit at place m when the lowest k bits have been shifted. -/
def SVf (X : Nat) (i : Int) (k m : Nat) : Nat := if (-255 ≤ i ∧ i ≤ 255) ∧ 0 ≤ (m : Int) - i ∧ (m : Int) - i < (k : Int) then X / 2 ^ ((m : Int) - i).toNat % 2 else 0
theorem SVf_zero (X : Nat) (i : Int) (m : Nat) : SVf X i 0 m = 0 := by
  unfold SVf
  rw [if_neg (by omega)]
theorem SVf_hit (X : Nat) (i : Int) (k j : Nat) (h1 : -255 ≤ i) (h2 : i ≤ 255) (h : (k : Int) + i = (j : Int)) (m : Nat) : SVf X i (k + 1) m = if m = j then X / 2 ^ k % 2 else SVf X i k m := by
  unfold SVf
  by_cases e : m = j
  · rw [if_pos e, if_pos (by omega), show ((m : Int) - i).toNat = k by omega]
  · rw [if_neg e]
    by_cases c : (-255 ≤ i ∧ i ≤ 255) ∧ 0 ≤ (m : Int) - i ∧ (m : Int) - i < (k : Int)
    · rw [if_pos c, if_pos (by omega)]
    · rw [if_neg c, if_neg (by omega)]
theorem SVf_miss (X : Nat) (i : Int) (k : Nat) (h : ¬ (-255 ≤ i ∧ i ≤ 255 ∧ 0 ≤ (k : Int) + i ∧ (k : Int) + i < 256)) (m : Nat) (hm : m < 256) : SVf X i (k + 1) m = SVf X i k m := by
  unfold SVf
  by_cases c : (-255 ≤ i ∧ i ≤ 255) ∧ 0 ≤ (m : Int) - i ∧ (m : Int) - i < (k : Int)
  · rw [if_pos c, if_pos (by omega)]
  · rw [if_neg c, if_neg (by omega)]
/-- The number that is shifted. -/
def Zf (X : Nat) (i : Int) : Nat := if -255 ≤ i ∧ i ≤ 255 then if 0 ≤ i then X * 2 ^ i.toNat % 2 ^ 256 else X / 2 ^ (-i).toNat else 0
theorem Zf_lt (X : Nat) (i : Int) (hX : X < 2 ^ 256) : Zf X i < 2 ^ 256 := by
  unfold Zf
  split
  · split
    · exact Nat.mod_lt _ (Nat.two_pow_pos 256)
    · exact Nat.lt_of_le_of_lt (Nat.div_le_self _ _) hX
  · exact Nat.two_pow_pos 256
theorem div_high {X m : Nat} (hX : X < 2 ^ 256) (h : 256 ≤ m) : X / 2 ^ m = 0 :=
  Nat.div_eq_of_lt (Nat.lt_of_lt_of_le hX (Nat.pow_le_pow_right (by decide) h))
theorem shl_bit (X n m : Nat) (hm : m < 256) : X * 2 ^ n % 2 ^ 256 / 2 ^ m % 2 = if n ≤ m then X / 2 ^ (m - n) % 2 else 0 := by
  have e : (2 : Nat) ^ 256 = 2 ^ m * 2 ^ (256 - m) := by rw [← Nat.pow_add, show m + (256 - m) = 256 by omega]
  rw [e, Nat.mod_mul_right_div_self]
  have e3 : (2 : Nat) ^ (256 - m) = 2 * 2 ^ (255 - m) := by rw [show 256 - m = 255 - m + 1 by omega, Nat.pow_succ, Nat.mul_comm]
  rw [e3, Nat.mod_mul_right_mod]
  by_cases h : n ≤ m
  · rw [if_pos h]
    have e4 : (2 : Nat) ^ m = 2 ^ (m - n) * 2 ^ n := by rw [← Nat.pow_add, show m - n + n = m by omega]
    rw [e4, Nat.mul_comm (2 ^ (m - n)), ← Nat.div_div_eq_div_mul, Nat.mul_div_cancel _ (Nat.two_pow_pos n)]
  · rw [if_neg h]
    have e4 : (2 : Nat) ^ n = 2 ^ m * (2 * 2 ^ (n - m - 1)) := by rw [← Nat.pow_succ', ← Nat.pow_add, show m + (n - m - 1 + 1) = n by omega]
    rw [e4, ← Nat.mul_assoc, Nat.mul_comm X, Nat.mul_assoc, Nat.mul_div_cancel_left _ (Nat.two_pow_pos m), ← Nat.mul_assoc, Nat.mul_comm X, Nat.mul_assoc, Nat.mul_mod_right]
theorem Zf_bits (X : Nat) (i : Int) (hX : X < 2 ^ 256) (m : Nat) (hm : m < 256) : SVf X i 256 m = Zf X i / 2 ^ m % 2 := by
  unfold SVf Zf
  by_cases h : -255 ≤ i ∧ i ≤ 255
  · rw [if_pos h]
    by_cases h0 : 0 ≤ i
    · rw [if_pos h0, shl_bit X i.toNat m hm]
      by_cases c : i.toNat ≤ m
      · rw [if_pos (by omega), if_pos c, show ((m : Int) - i).toNat = m - i.toNat by omega]
      · rw [if_neg (by omega), if_neg c]
    · rw [if_neg h0, Nat.div_div_eq_div_mul, ← Nat.pow_add]
      by_cases c : (m : Int) - i < 256
      · rw [if_pos (by omega), show ((m : Int) - i).toNat = (-i).toNat + m by omega]
      · rw [if_neg (by omega), div_high hX (by omega)]
  · rw [if_neg (by omega), if_neg h, Nat.zero_div]
end Go.Proofs.Ytkgfeacednomfaa
