/- Numbers modulo an odd one: what 2^256 has as its inverse; Montgomery's step; Newton's. -/
import Derived.Test.YtkgfeacednomfaaRows
namespace Go.Proofs.Ytkgfeacednomfaa.P
theorem half_pow {m : Nat} (odd : m % 2 = 1) (k : Nat) : 2 ^ k * ((m + 1) / 2) ^ k % m = 1 % m := by
  rw [← Nat.mul_pow, show 2 * ((m + 1) / 2) = m + 1 by omega, Nat.pow_mod, Nat.add_mod_left, ← Nat.pow_mod, Nat.one_pow]
/-- what 2^256 has as its inverse modulo m -/
def rinv (m : Nat) : Nat := ((m + 1) / 2) ^ 256
/-- t / 2^256 modulo m -/
def out (m t : Nat) : Nat := t * rinv m % m
theorem rinv_mul {m : Nat} (odd : m % 2 = 1) (x : Nat) : x * (2 ^ 256 * rinv m) % m = x % m := by
  rw [Nat.mul_mod, rinv, half_pow odd, ← Nat.mul_mod, Nat.mul_one]
theorem out_mod (m t : Nat) : out m (t % m) = out m t := by
  rw [out, out, Nat.mul_mod, Nat.mod_mod, ← Nat.mul_mod]
theorem out_lt {m : Nat} (hm : 0 < m) (t : Nat) : out m t < m := Nat.mod_lt _ hm
theorem out_only {m x t : Nat} (odd : m % 2 = 1) (hx : x < m) (h : x * 2 ^ 256 % m = t % m) : x = out m t := by
  rw [← out_mod, ← h, out_mod, out, Nat.mul_assoc, rinv_mul odd, Nat.mod_eq_of_lt hx]
theorem out_in {m : Nat} (odd : m % 2 = 1) (a : Nat) : out m (a * 2 ^ 256) = a % m := by
  rw [out, Nat.mul_assoc, rinv_mul odd]
theorem out_mul {m : Nat} (odd : m % 2 = 1) (a b : Nat) : out m (a * 2 ^ 256 % m * b) = a * b % m := by
  rw [← out_mod, Nat.mul_mod, Nat.mod_mod, ← Nat.mul_mod, out_mod, Nat.mul_right_comm, out_in odd]
theorem out_back {m : Nat} (odd : m % 2 = 1) (t : Nat) : out m t * 2 ^ 256 % m = t % m := by
  rw [out, Nat.mul_mod, Nat.mod_mod, ← Nat.mul_mod, Nat.mul_assoc, Nat.mul_comm (rinv m), rinv_mul odd]
theorem fold_math {m iv l h : Nat} (odd : m % 2 = 1) (hiv : m * iv % 2 ^ 256 = 1) (hl : l < 2 ^ 256) (hh : h < m) :
    (l * iv % 2 ^ 256) * m / 2 ^ 256 < m ∧ (h + m - (l * iv % 2 ^ 256) * m / 2 ^ 256) % m = out m (l + 2 ^ 256 * h) := by
  have hm : 0 < m := by omega
  have x1 : (l * iv % 2 ^ 256) * m / 2 ^ 256 < m := by
    rw [Nat.div_lt_iff_lt_mul (Nat.pow_pos (by decide)), Nat.mul_comm]
    exact Nat.mul_lt_mul_of_pos_left (Nat.mod_lt _ (Nat.pow_pos (by decide))) hm
  refine ⟨x1, out_only odd (Nat.mod_lt _ hm) ?_⟩
  have e : (l * iv % 2 ^ 256) * m % 2 ^ 256 = l := by
    rw [Nat.mul_mod, Nat.mod_mod, ← Nat.mul_mod, Nat.mul_assoc, Nat.mul_comm iv m, Nat.mul_mod, hiv, Nat.mul_one, Nat.mod_mod, Nat.mod_eq_of_lt hl]
  have d := Nat.div_add_mod ((l * iv % 2 ^ 256) * m) (2 ^ 256)
  rw [e] at d
  generalize (l * iv % 2 ^ 256) * m / 2 ^ 256 = x at *
  generalize l * iv % 2 ^ 256 = o at *
  generalize (2 : Nat) ^ 256 = R at *
  rw [Nat.mul_mod, Nat.mod_mod, ← Nat.mul_mod]
  have : (h + m - x) * R + m * o = l + R * h + m * R := by
    obtain ⟨y, rfl⟩ : ∃ y, m = x + y := ⟨m - x, by omega⟩
    rw [show h + (x + y) - x = h + y by omega]
    grind
  have := congrArg (· % m) this
  simpa using this
theorem newton_math {m x lack R D E x' : Int} (hx : E ∣ m * x - 1) (hl : R ∣ lack - (2 - m * x)) (hD : D ∣ R) (hE : D ∣ E * E) (h' : R ∣ x' - x * lack) : D ∣ m * x' - 1 := by
  have e : m * x' - 1 = m * (x' - x * lack) + m * x * (lack - (2 - m * x)) - (m * x - 1) * (m * x - 1) := by grind
  rw [e]
  refine Int.dvd_sub (Int.dvd_add (Int.dvd_trans hD (Int.dvd_trans h' (Int.dvd_mul_left _ _))) (Int.dvd_trans hD (Int.dvd_trans hl (Int.dvd_mul_left _ _)))) (Int.dvd_trans hE (Int.mul_dvd_mul hx hx))
/-- how far the inverse is right behind k steps -/
def dk (k : Nat) : Int := ((2 ^ (min (3 * 2 ^ k) 256) : Nat) : Int)
theorem dk_sq (k : Nat) : dk (k + 1) ∣ dk k * dk k := by
  unfold dk
  rw [← Int.natCast_mul, ← Nat.pow_add]
  refine Int.natCast_dvd_natCast.2 (Nat.pow_dvd_pow 2 ?_)
  rw [Nat.pow_succ]
  omega
theorem dk_R (k : Nat) : dk k ∣ ((2 ^ 256 : Nat) : Int) := by
  unfold dk
  exact Int.natCast_dvd_natCast.2 (Nat.pow_dvd_pow 2 (by omega))
theorem dk_seven : dk 7 = ((2 ^ 256 : Nat) : Int) := rfl
theorem odd_sq {m : Int} (odd : m % 2 = 1) : dk 0 ∣ m * m - 1 := by
  show (8 : Int) ∣ m * m - 1
  obtain ⟨j, hj⟩ : ∃ j, m = 2 * j + 1 := ⟨m / 2, by omega⟩
  subst hj
  have e : (2 * j + 1) * (2 * j + 1) - 1 = 4 * (j * (j + 1)) := by grind
  rw [e]
  have : (2 : Int) ∣ j * (j + 1) := by
    rcases Int.emod_two_eq j with h | h
    · exact Int.dvd_trans (Int.dvd_of_emod_eq_zero h) (Int.dvd_mul_right _ _)
    · exact Int.dvd_trans (Int.dvd_of_emod_eq_zero (by omega)) (Int.dvd_mul_left _ _)
  obtain ⟨q, hq⟩ := this
  exact ⟨q, by rw [hq]; omega⟩
theorem inv_nat {m x : Nat} (h : ((2 ^ 256 : Nat) : Int) ∣ (m : Int) * x - 1) : m * x % 2 ^ 256 = 1 := by
  have h1 : ((m * x : Nat) : Int) % ((2 ^ 256 : Nat) : Int) = 1 % ((2 ^ 256 : Nat) : Int) := Int.emod_eq_emod_iff_emod_sub_eq_zero.2 (Int.emod_eq_zero_of_dvd (by rw [Int.natCast_mul]; exact h))
  have h2 : ((m * x % 2 ^ 256 : Nat) : Int) = 1 := by rw [Int.natCast_emod, h1]; rfl
  omega
end Go.Proofs.Ytkgfeacednomfaa.P
