/- The plain mathematics of numbers of eight words and of a division by bits, with no program in sight. -/
import Derived.Test.YtjdamgfichlgpaaGrp1
namespace Go.Proofs.Ytjdamgfichlgpaa
open Go.RowKit

/-- What a number of eight words stands for. -/
def V (l h : Nm) : Nat := (l.val + M * h.val).toNat
/-- The number of eight words of n: its halves. -/
def WL (n : Nat) : Nm := Nm.of ((n : Int) % M)
def WH (n : Nat) : Nm := Nm.of ((n : Int) / M)
/-- The words of n. -/
def word (n j : Nat) : Nat := n / 2 ^ (64 * j) % 2 ^ 64
/-- The words of a number of eight. -/
def getV (l h : Nm) : Nat → Int
  | 0 => l.a
  | 1 => l.b
  | 2 => l.c
  | 3 => l.d
  | 4 => h.a
  | 5 => h.b
  | 6 => h.c
  | _ => h.d
theorem WL_ok (n : Nat) : (WL n).ok := Nm.of_ok _
theorem WH_ok (n : Nat) : (WH n).ok := Nm.of_ok _
theorem pow_twice (k n : Nat) (h : k = n + n) : (2 : Nat) ^ k = 2 ^ n * 2 ^ n := by rw [h, Nat.pow_add]
theorem pow512 : (2 : Nat) ^ 512 = 13407807929942597099574024998205846127479365820592393377723561443721764030073546976801874298166903427690031858186486050853753882811946569946433649006084096 := (pow_twice 512 256 rfl).trans (by simp only [Nat.reducePow, Nat.reduceMul])
theorem V_lt {l h : Nm} (ol : l.ok) (oh : h.ok) : V l h < 2 ^ 512 := by
  have a0 := Nm.val_nonneg ol; have a1 := Nm.val_lt ol; have b0 := Nm.val_nonneg oh; have b1 := Nm.val_lt oh
  rw [pow512]; unfold V M at *; omega
theorem V_cast {l h : Nm} (ol : l.ok) (oh : h.ok) : ((V l h : Nat) : Int) = l.val + M * h.val := by
  have a0 := Nm.val_nonneg ol; have b0 := Nm.val_nonneg oh
  unfold V M at *; omega
theorem V_of {n : Nat} (hn : n < 2 ^ 512) : V (WL n) (WH n) = n := by
  rw [pow512] at hn
  unfold V WL WH
  rw [Nm.of_val (by unfold M; omega) (by unfold M; omega), Nm.of_val (by unfold M; omega) (by unfold M; omega)]
  unfold M; omega
theorem V_halves {l h : Nm} (ol : l.ok) (oh : h.ok) : l = WL (V l h) ∧ h = WH (V l h) := by
  have a0 := Nm.val_nonneg ol; have a1 := Nm.val_lt ol; have b0 := Nm.val_nonneg oh; have b1 := Nm.val_lt oh
  refine ⟨Nm.eq_of ol ?_, Nm.eq_of oh ?_⟩ <;> rw [V_cast ol oh] <;> unfold M at * <;> omega
theorem V_ext {l h l' h' : Nm} (ol : l.ok) (oh : h.ok) (ol' : l'.ok) (oh' : h'.ok) (e : V l h = V l' h') : l = l' ∧ h = h' := by
  obtain ⟨p, q⟩ := V_halves ol oh
  obtain ⟨p', q'⟩ := V_halves ol' oh'
  rw [e] at p q
  exact ⟨p.trans p'.symm, q.trans q'.symm⟩
theorem V_zero (l : Nm) : V l ⟨0, 0, 0, 0⟩ = l.val.toNat := by simp [V, Nm.val, M]
theorem word_V {l h : Nm} (ol : l.ok) (oh : h.ok) (j : Nat) (hj : j < 8) : getV l h j = ((word (V l h) j : Nat) : Int) := by
  have e := V_cast ol oh
  obtain ⟨⟨_, _⟩, ⟨_, _⟩, ⟨_, _⟩, ⟨_, _⟩⟩ := ol
  obtain ⟨⟨_, _⟩, ⟨_, _⟩, ⟨_, _⟩, ⟨_, _⟩⟩ := oh
  generalize V l h = v at *
  unfold word
  simp only [Nm.val, M] at e
  match j, hj with
  | 0, _ => simp only [getV, Nat.mul_zero, Nat.pow_zero]; omega
  | 1, _ => simp only [getV, Nat.mul_one]; omega
  | 2, _ => simp only [getV, show 64 * 2 = 128 from rfl]; omega
  | 3, _ => simp only [getV, show 64 * 3 = 192 from rfl]; omega
  | 4, _ => simp only [getV, show 64 * 4 = 256 from rfl]; omega
  | 5, _ => simp only [getV, show 64 * 5 = 320 from rfl]; omega
  | 6, _ => simp only [getV, show 64 * 6 = 384 from rfl]; omega
  | 7, _ => simp only [getV, show 64 * 7 = 448 from rfl]; omega
theorem word_lt (n j : Nat) : word n j < 18446744073709551616 := Nat.mod_lt _ (by decide)
/-- The eight words of n are those of its halves. -/
theorem words_of {n : Nat} (hn : n < 2 ^ 512) (j : Nat) (hj : j < 8) : ((word n j : Nat) : Int) = getV (WL n) (WH n) j := by
  rw [word_V (WL_ok n) (WH_ok n) j hj, V_of hn]
/-- Bit i of n is bit i mod 64 of word i / 64. -/
theorem bit_of_word (n i : Nat) : word n (i / 64) / 2 ^ (i % 64) % 2 = n / 2 ^ i % 2 := by
  have h : (word n (i / 64)).testBit (i % 64) = n.testBit i := by
    unfold word
    rw [Nat.testBit_mod_two_pow, Nat.testBit_div_two_pow]
    have : 64 * (i / 64) + i % 64 = i := by omega
    have h2 : i % 64 < 64 := by omega
    simp [h2, show i % 64 + 64 * (i / 64) = i by omega]
  rw [Nat.testBit_eq_decide_div_mod_eq, Nat.testBit_eq_decide_div_mod_eq] at h
  have := decide_eq_decide.1 h
  omega
/-- What one more bit does to the words. -/
theorem word_bit {n k : Nat} (h0 : n % 2 ^ (k + 1) = 0) (j : Nat) : word (n + 2 ^ k) j = if j = k / 64 then word n j ||| 2 ^ (k % 64) else word n j := by
  have e : n + 2 ^ k = n ||| 2 ^ k := by
    obtain ⟨c, rfl⟩ := Nat.dvd_of_mod_eq_zero h0
    have := Nat.shiftLeft_add_eq_or_of_lt (b := 2 ^ k) (i := k + 1) (Nat.pow_lt_pow_right (by omega) (by omega)) c
    rw [Nat.shiftLeft_eq, Nat.mul_comm] at this
    exact this
  rw [e]
  apply Nat.eq_of_testBit_eq
  intro i
  unfold word
  split
  · rename_i hj
    subst hj
    rw [Nat.testBit_or, Nat.testBit_mod_two_pow, Nat.testBit_mod_two_pow, Nat.testBit_div_two_pow, Nat.testBit_div_two_pow, Nat.testBit_or, Nat.testBit_two_pow, Nat.testBit_two_pow]
    by_cases hi : i < 64
    · have : (k = i + 64 * (k / 64)) ↔ k % 64 = i := by omega
      simp [hi, this]
    · have : ¬ (k % 64 = i) := by omega
      simp [hi, this]
  · rename_i hj
    rw [Nat.testBit_mod_two_pow, Nat.testBit_mod_two_pow, Nat.testBit_div_two_pow, Nat.testBit_div_two_pow, Nat.testBit_or, Nat.testBit_two_pow]
    by_cases hi : i < 64
    · have : ¬ (k = i + 64 * j) := by omega
      simp [hi, this]
    · simp [hi]
/-- One step of the division by bits. -/
theorem div_step {A m k : Nat} (hm : 0 < m) : A / 2 ^ (k+1) % m < m ∧ A / 2 ^ k % m = (if m ≤ 2 * (A / 2 ^ (k+1) % m) + A / 2 ^ k % 2 then 2 * (A / 2 ^ (k+1) % m) + A / 2 ^ k % 2 - m else 2 * (A / 2 ^ (k+1) % m) + A / 2 ^ k % 2) ∧
    A / 2 ^ k / m = 2 * (A / 2 ^ (k+1) / m) + (if m ≤ 2 * (A / 2 ^ (k+1) % m) + A / 2 ^ k % 2 then 1 else 0) := by
  have hr : A / 2 ^ (k+1) % m < m := Nat.mod_lt _ hm
  have e1 : A / 2 ^ (k + 1) = A / 2 ^ k / 2 := by rw [Nat.pow_succ, Nat.div_div_eq_div_mul]
  have e2 : A / 2 ^ (k + 1) = m * (A / 2 ^ (k+1) / m) + A / 2 ^ (k+1) % m := (Nat.div_add_mod _ _).symm
  have hb : A / 2 ^ k % 2 < 2 := Nat.mod_lt _ (by omega)
  have e3 : A / 2 ^ k = m * (2 * (A / 2 ^ (k+1) / m)) + (2 * (A / 2 ^ (k+1) % m) + A / 2 ^ k % 2) := by
    have : m * (2 * (A / 2 ^ (k+1) / m)) = 2 * (m * (A / 2 ^ (k+1) / m)) := by rw [Nat.mul_left_comm]
    omega
  generalize A / 2 ^ (k+1) % m = r at *
  generalize A / 2 ^ (k+1) / m = q at *
  generalize A / 2 ^ k % 2 = b at *
  refine ⟨hr, ?_, ?_⟩
  · rw [e3, Nat.mul_add_mod]
    split
    · rw [Nat.mod_eq_sub_mod (by omega), Nat.mod_eq_of_lt (by omega)]
    · exact Nat.mod_eq_of_lt (by omega)
  · rw [e3, Nat.mul_add_div hm]
    split
    · rw [Nat.div_eq_sub_div hm (by omega), Nat.div_eq_of_lt (by omega)]
    · rw [Nat.div_eq_of_lt (by omega)]
/-- What is left, and how often, when k bits are still to come. -/
def LK (A m k : Nat) : Nm := Nm.of ((A / 2 ^ k % m : Nat) : Int)
def QK (A m k : Nat) : Nat := A / 2 ^ k / m * 2 ^ k
theorem LK_ok (A m k : Nat) : (LK A m k).ok := Nm.of_ok _
theorem M_cast : M = ((2 ^ 256 : Nat) : Int) := rfl
theorem LK_val {A m k : Nat} (hm : 0 < m) (hM : (m : Int) < M) : (LK A m k).val = ((A / 2 ^ k % m : Nat) : Int) :=
  Nm.of_val (Int.natCast_nonneg _) (Int.lt_trans (Int.ofNat_lt.2 (Nat.mod_lt _ hm)) hM)
theorem QK_low (A m k : Nat) : QK A m (k + 1) % 2 ^ (k + 1) = 0 := by unfold QK; exact Nat.mul_mod_left _ _
theorem QK_lt {A m k : Nat} (hA : A < 2 ^ 512) : QK A m k < 2 ^ 512 := by
  unfold QK
  have h1 : A / 2 ^ k / m ≤ A / 2 ^ k := Nat.div_le_self _ _
  have h2 := Nat.mul_le_mul_right (2 ^ k) h1
  have h3 := Nat.div_mul_le_self A (2 ^ k)
  omega
theorem QK_zero (A m : Nat) : QK A m 0 = A / m := by simp [QK]
theorem QK_up {A m k : Nat} (hm : 0 < m) (h : m ≤ 2 * (A / 2 ^ (k+1) % m) + A / 2 ^ k % 2) : QK A m k = QK A m (k + 1) + 2 ^ k := by
  unfold QK
  rw [(div_step (A := A) (k := k) hm).2.2, if_pos h, Nat.pow_succ, Nat.add_mul, Nat.one_mul, Nat.mul_comm 2, Nat.mul_assoc, Nat.mul_comm 2]
theorem QK_same {A m k : Nat} (hm : 0 < m) (h : ¬ m ≤ 2 * (A / 2 ^ (k+1) % m) + A / 2 ^ k % 2) : QK A m k = QK A m (k + 1) := by
  unfold QK
  rw [(div_step (A := A) (k := k) hm).2.2, if_neg h, Nat.pow_succ, Nat.add_zero, Nat.mul_comm 2, Nat.mul_assoc, Nat.mul_comm 2]
end Go.Proofs.Ytjdamgfichlgpaa
