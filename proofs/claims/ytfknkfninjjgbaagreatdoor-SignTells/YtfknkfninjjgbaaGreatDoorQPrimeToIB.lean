/- Texts that were joined: Prime, FMath, FeMath, IB. -/
import Derived.Test.YtfknkfninjjgbaaGreatDoorRows
import Derived.WalkKit
import Derived.WalkSpells
import Derived.WalkLawsBesides
import Derived.LoopN
import Derived.OwnWalk
import Derived.Laws.AppendOwn
import Derived.Laws.Rows
import Derived.Below
import Derived.Deep.MidRow
import Derived.BigQuiet
/- Fermat's little theorem, Pocklington's test, and that 2^255 - 19 is a prime. -/
namespace Go.Proofs.YtfknkfninjjgbaaGreatDoor.P
def Pr (p : Nat) : Prop := 2 ≤ p ∧ ∀ d, d ∣ p → d = 1 ∨ d = p
theorem Pr.cop {p k : Nat} (h : Pr p) (hk : ¬ p ∣ k) : Nat.gcd p k = 1 := by
 rcases h.2 _ (Nat.gcd_dvd_left p k) with e | e
 ·exact e
 ·exact absurd (e ▸ Nat.gcd_dvd_right p k) hk
theorem Pr.euclid {p a b : Nat} (h : Pr p) (hd : p ∣ a * b) : p ∣ a ∨ p ∣ b := by
 by_cases ha : p ∣ a
 ·exact .inl ha
 ·exact .inr (Nat.Coprime.dvd_of_dvd_mul_left (h.cop ha) hd)
/-- choose -/
def C : Nat → Nat → Nat
 | _, 0 => 1
 | 0, _ + 1 => 0
 | n + 1, k + 1 => C n k + C n (k + 1)
theorem C_big : ∀ n k, n < k → C n k = 0
 | 0, 0, h => absurd h (by omega)
 | 0, k + 1, _ => rfl
 | n + 1, 0, h => absurd h (by omega)
 | n + 1, k + 1, h => by rw [C, C_big n k (by omega), C_big n (k + 1) (by omega)]
theorem C_self : ∀ n, C n n = 1
 | 0 => rfl
 | n + 1 => by rw [C, C_self n, C_big n (n + 1) (by omega)]
theorem C_mul : ∀ n k, (k + 1) * C (n + 1) (k + 1) = (n + 1) * C n k
 | 0, 0 => rfl
 | 0, k + 1 => by simp [C]
 | n + 1, 0 => by
  have := C_mul n 0
  simp [C] at this ⊢
  omega
 | n + 1, k + 1 => by
  have h1 := C_mul n k
  have h2 := C_mul n (k + 1)
  rw [C]
  have e : C (n + 1) (k + 1) = C n k + C n (k + 1) := by rw [C]
  grind
/-- sum of f 0 .. f (n-1) -/
def S (f : Nat → Nat) : Nat → Nat
 | 0 => 0
 | n + 1 => S f n + f n
theorem S_congr {f g : Nat → Nat} : ∀ n, (∀ k, k < n → f k = g k) → S f n = S g n
 | 0, _ => rfl
 | n + 1, h => by rw [S, S, S_congr n (fun k hk => h k (by omega)), h n (by omega)]
theorem S_add {f g : Nat → Nat} : ∀ n, S (fun k => f k + g k) n = S f n + S g n
 | 0 => rfl
 | n + 1 => by simp only [S, S_add n]; omega
theorem S_mul {f : Nat → Nat} (c : Nat) : ∀ n, S (fun k => c * f k) n = c * S f n
 | 0 => rfl
 | n + 1 => by simp only [S, S_mul c n, Nat.mul_add]
theorem S_front {f : Nat → Nat} : ∀ n, S f (n + 1) = f 0 + S (fun k => f (k + 1)) n
 | 0 => by simp [S]
 | n + 1 => by rw [S, S_front n, S]; omega
theorem S_dvd {f : Nat → Nat} (p : Nat) : ∀ n, (∀ k, k < n → p ∣ f k) → p ∣ S f n
 | 0, _ => Nat.dvd_zero p
 | n + 1, h => Nat.dvd_add (S_dvd p n fun k hk => h k (by omega)) (h n (by omega))
theorem binom (a : Nat) : ∀ n, (a + 1) ^ n = S (fun k => C n k * a ^ k) (n + 1)
 | 0 => by simp [S, C]
 | n + 1 => by
  rw [Nat.pow_succ, binom a n, S_front (n + 1)]
  have e : S (fun k => C (n + 1) (k + 1) * a ^ (k + 1)) (n + 1) = S (fun k => a * (C n k * a ^ k)) (n + 1) + S (fun k => C n (k + 1) * a ^ (k + 1)) (n + 1) := by
   rw [← S_add]
   refine S_congr _ fun k _ => ?_
   rw [C, Nat.pow_succ]
   grind
  rw [e, S_mul]
  have f : S (fun k => C n k * a ^ k) (n + 2) = S (fun k => C n k * a ^ k) (n + 1) := by
   rw [S, C_big n (n + 1) (by omega)]; simp
  rw [S_front (n + 1)] at f
  have c0 : C (n + 1) 0 = C n 0 := by cases n <;> rfl
  rw [c0]
  generalize S (fun k => C n (k + 1) * a ^ (k + 1)) (n + 1) = u at *
  generalize S (fun k => C n k * a ^ k) (n + 1) = v at *
  rw [Nat.mul_add, Nat.mul_comm v a]
  omega
theorem fermat0 {p : Nat} (h : Pr p) : ∀ a, a ^ p % p = a % p
 | 0 => by rw [Nat.zero_pow (by have := h.1; omega)]
 | a + 1 => by
  have h1 := h.1
  obtain ⟨q, rfl⟩ : ∃ q, p = q + 2 := ⟨p - 2, by omega⟩
  rw [binom, S_front, S]
  have d : (q + 2) ∣ S (fun k => C (q + 2) (k + 1) * a ^ (k + 1)) (q + 1) := by
   refine S_dvd _ _ fun k hk => ?_
   refine Nat.dvd_trans ?_ (Nat.dvd_mul_right _ _)
   rcases h.euclid (a := k + 1) (b := C (q + 2) (k + 1)) (C_mul (q + 1) k ▸ Nat.dvd_mul_right _ _) with e | e
   ·exact absurd (Nat.le_of_dvd (by omega) e) (by omega)
   ·exact e
  have ih := fermat0 h a
  obtain ⟨s, hs⟩ := d
  rw [hs, C_self]
  simp only [C, Nat.pow_zero, Nat.one_mul]
  rw [show 1 + ((q + 2) * s + a ^ (q + 1 + 1)) = 1 + a ^ (q + 2) + (q + 2) * s by rw [show q + 1 + 1 = q + 2 from rfl]; omega, Nat.add_mul_mod_self_left, Nat.add_mod, ih, ← Nat.add_mod, Nat.add_comm]
/-- the same modulo m, for naturals -/
theorem dvd_sub_of_mod {m a b : Nat} (h : a % m = b % m) (_ : b ≤ a) : m ∣ a - b := (Nat.dvd_iff_mod_eq_zero ..).2 (Nat.sub_mod_eq_zero_of_mod_eq h)
theorem fermat {p a : Nat} (h : Pr p) (ha : ¬ p ∣ a) : a ^ (p - 1) % p = 1 := by
 have h1 := h.1
 have a0 : 0 < a := Nat.pos_of_ne_zero fun e => ha (e ▸ Nat.dvd_zero p)
 have e := fermat0 h a
 have e2 : a ^ p = a * a ^ (p - 1) := by
  conv => lhs; rw [show p = (p - 1) + 1 by omega]
  rw [Nat.pow_succ, Nat.mul_comm]
 have pp : 0 < a ^ (p - 1) := Nat.pow_pos a0
 have d : p ∣ a * (a ^ (p - 1) - 1) := by
  rw [Nat.mul_sub, Nat.mul_one, ← e2]
  refine dvd_sub_of_mod e ?_
  rw [e2]
  exact Nat.le_mul_of_pos_right _ pp
 rcases h.euclid d with f | f
 ·exact absurd f ha
 ·obtain ⟨s, hs⟩ := f
  rw [show a ^ (p - 1) = 1 + p * s by omega, Nat.add_mul_mod_self_left, Nat.mod_eq_of_lt (by omega)]
theorem pow_gcd {p b : Nat} (hp : 2 ≤ p) : ∀ m n, b ^ m % p = 1 → b ^ n % p = 1 → b ^ (Nat.gcd m n) % p = 1 := by
 intro m n
 induction m, n using Nat.gcd.induction with
 | H0 n => intro _ h; simpa using h
 | H1 m n hm ih =>
  intro h1 h2
  rw [Nat.gcd_rec]
  refine ih ?_ h1
  have e : b ^ n = (b ^ m) ^ (n / m) * b ^ (n % m) := by
   rw [← Nat.pow_mul, ← Nat.pow_add, Nat.div_add_mod]
  rw [e, Nat.mul_mod, Nat.pow_mod, h1, Nat.one_pow, Nat.mod_eq_of_lt (show 1 < p by omega), Nat.one_mul, Nat.mod_mod] at h2
  exact h2
/-- Pocklington's step -/
theorem pock {N q s a p : Nat} (hq : Pr q) (hN : N = q * s + 1) (h1 : a ^ (q * s) % N = 1) (h2 : Nat.gcd (a ^ s % N + N - 1) N = 1) (hp : Pr p) (hd : p ∣ N) : q ∣ p - 1 := by
 have p2 := hp.1
 refine Classical.byContradiction fun hn => ?_
 have m1 : a ^ (q * s) % p = 1 := by
  rw [← Nat.mod_mod_of_dvd _ hd, h1]
  exact Nat.mod_eq_of_lt (by omega)
 have na : ¬ p ∣ a := by
  intro hpa
  have s0 : q * s ≠ 0 := by
   intro e
   rw [e] at hN
   subst hN
   have := Nat.le_of_dvd (by omega) hd
   omega
  have : p ∣ a ^ (q * s) := Nat.dvd_trans hpa (Nat.dvd_trans (by simp) (Nat.pow_dvd_pow a (Nat.one_le_iff_ne_zero.2 s0)))
  rw [(Nat.dvd_iff_mod_eq_zero ..).1 this] at m1
  omega
 have F := fermat hp na
 have c : Nat.gcd q (p - 1) = 1 := hq.cop hn
 have b1 : (a ^ s) ^ q % p = 1 := by rw [← Nat.pow_mul, Nat.mul_comm s q]; exact m1
 have b2 : (a ^ s) ^ (p - 1) % p = 1 := by rw [← Nat.pow_mul, Nat.mul_comm, Nat.pow_mul, Nat.pow_mod, F, Nat.one_pow]; exact Nat.mod_eq_of_lt (by omega)
 have b := pow_gcd p2 _ _ b1 b2
 rw [c, Nat.pow_one] at b
 have : p ∣ a ^ s % N + N - 1 := by
  have e1 : (a ^ s % N) % p = 1 := by rw [Nat.mod_mod_of_dvd _ hd, b]
  obtain ⟨k, rfl⟩ := hd
  generalize a ^ s % (p * k) = x at *
  have := Nat.div_add_mod x p
  rw [e1] at this
  rw [← this, show p * (x / p) + 1 + p * k - 1 = p * (x / p + k) by rw [Nat.mul_add]; omega]
  exact Nat.dvd_mul_right _ _
 have := Nat.dvd_gcd this hd
 rw [h2] at this
 have := Nat.le_of_dvd (by omega) this
 omega
/-- each number from 2 on has a prime divisor -/
theorem has_prime : ∀ n, 2 ≤ n → ∃ p, Pr p ∧ p ∣ n := by
 intro n
 induction n using Nat.strongRecOn with
 | _ n ih =>
  intro h2
  by_cases h : Pr n
  ·exact ⟨n, h, Nat.dvd_refl n⟩
  ·have : ∃ d, d ∣ n ∧ d ≠ 1 ∧ d ≠ n := by
    refine Classical.byContradiction fun hn => h ⟨h2, fun d hd => ?_⟩
    refine Classical.byContradiction fun hc => hn ⟨d, hd, fun e => hc (.inl e), fun e => hc (.inr e)⟩
   obtain ⟨d, hd, d1, dn⟩ := this
   have dle := Nat.le_of_dvd (by omega) hd
   have d0 : d ≠ 0 := by
    rintro rfl
    have := Nat.zero_dvd.1 hd
    omega
   obtain ⟨p, hp, hpd⟩ := ih d (by omega) (by omega)
   exact ⟨p, hp, Nat.dvd_trans hpd hd⟩
/-- a number none of whose prime divisors is small is prime -/
theorem prime_of {n f : Nat} (h2 : 2 ≤ n) (hf : n < f * f) (h : ∀ p, Pr p → p ∣ n → f ≤ p) : Pr n := by
 refine ⟨h2, fun d hd => ?_⟩
 obtain ⟨e, rfl⟩ := hd
 by_cases d1 : d = 1
 ·exact .inl d1
 by_cases e1 : e = 1
 ·exact .inr (by rw [e1, Nat.mul_one])
 have d0 : d ≠ 0 := by rintro rfl; omega
 have e0 : e ≠ 0 := by rintro rfl; omega
 obtain ⟨p, hp, pd⟩ := has_prime d (by omega)
 obtain ⟨q, hq, qe⟩ := has_prime e (by omega)
 have l1 := h p hp (Nat.dvd_trans pd (Nat.dvd_mul_right _ _))
 have l2 := h q hq (Nat.dvd_trans qe (Nat.dvd_mul_left _ _))
 have := Nat.mul_le_mul (Nat.le_trans l1 (Nat.le_of_dvd (by omega) pd)) (Nat.le_trans l2 (Nat.le_of_dvd (by omega) qe))
 omega
/-- powers modulo m, by squares -/
def pw (m : Nat) : Nat → Nat → Nat → Nat
 | 0, _, _ => 1 % m
 | k + 1, a, n => bif n % 2 == 1 then pw m k (a * a % m) (n / 2) * a % m else pw m k (a * a % m) (n / 2)
theorem pw_eq (m : Nat) : ∀ k a n, n < 2 ^ k → pw m k a n = a ^ n % m
 | 0, a, n, h => by
  have : n = 0 := by simpa using h
  subst this
  simp [pw]
 | k + 1, a, n, h => by
  have ih := pw_eq m k (a * a % m) (n / 2) (by rw [Nat.pow_succ] at h; omega)
  rw [pw, ih]
  have e : (a * a % m) ^ (n / 2) % m = a ^ (2 * (n / 2)) % m := by
   rw [← Nat.pow_mod, Nat.pow_mul, Nat.pow_two]
  rw [e]
  rcases Nat.mod_two_eq_zero_or_one n with h0 | h1
  ·rw [h0]
   simp only [show ((0 : Nat) == 1) = false from rfl, cond_false]
   congr 2
   omega
  ·rw [h1]
   simp only [show ((1 : Nat) == 1) = true from rfl, cond_true]
   conv => rhs; rw [show n = 2 * (n / 2) + 1 by omega, Nat.pow_succ, Nat.mul_mod]
   rw [Nat.mul_mod, Nat.mod_mod]
/-- no divisor among k, k+2, .. -/
def tri (n : Nat) : Nat → Nat → Bool
 | 0, _ => true
 | f + 1, k => (n % k != 0) && tri n f (k + 1)
theorem tri_spec (n : Nat) : ∀ f k, tri n f k = true → ∀ d, k ≤ d → d < k + f → ¬ d ∣ n
 | 0, k, _, d, h1, h2 => absurd h2 (by omega)
 | f + 1, k, h, d, h1, h2 => by
  rw [tri, Bool.and_eq_true] at h
  by_cases e : d = k
  ·subst e
   intro hd
   rw [(Nat.dvd_iff_mod_eq_zero ..).1 hd] at h
   simp at h
  ·exact tri_spec n f (k + 1) h.2 d (by omega) (by omega)
theorem prime_tri {n f : Nat} (h2 : 2 ≤ n) (h : tri n f 2 = true) (hf : n < (f + 2) * (f + 2)) : Pr n := by
 refine prime_of h2 hf fun p hp hd => ?_
 refine Classical.byContradiction fun hn => ?_
 exact tri_spec n f 2 h p hp.1 (by omega) hd
/-- what has to be computed for one prime q of N - 1 -/
def chk (N q s a k : Nat) : Bool := (N == q * s + 1) && (Nat.blt (q * s) (2 ^ k)) && (pw N k a (q * s) == 1) && (Nat.gcd (pw N k a s + N - 1) N == 1)
theorem chk_dvd {N q s a k p : Nat} (hq : Pr q) (h : chk N q s a k = true) (hp : Pr p) (hd : p ∣ N) : q ∣ p - 1 := by
 simp only [chk, Bool.and_eq_true, beq_iff_eq] at h
 obtain ⟨⟨⟨h1, h2⟩, h3⟩, h4⟩ := h
 have h2 : q * s < 2 ^ k := by simpa using h2
 have sl : s < 2 ^ k := Nat.lt_of_le_of_lt (Nat.le_mul_of_pos_left _ (by have := hq.1; omega)) h2
 rw [pw_eq _ _ _ _ h2] at h3
 rw [pw_eq _ _ _ _ sl] at h4
 exact pock hq h1 h3 h4 hp hd
theorem prime_chk2 {N q s a k r t b : Nat} (hq : Pr q) (hr : Pr r) (h0 : 2 ≤ N) (h1 : chk N q s a k = true) (h2 : chk N r t b k = true) (hne : ¬ q ∣ r) (hf : N < (q * r) * (q * r)) : Pr N := by
 refine prime_of h0 hf fun p hp hd => ?_
 have k1 := chk_dvd hq h1 hp hd
 have k2 := chk_dvd hr h2 hp hd
 have : q * r ∣ p - 1 := Nat.Coprime.mul_dvd_of_dvd_of_dvd (hq.cop hne) k1 k2
 have := Nat.le_of_dvd (by have := hp.1; omega) this
 omega
theorem prime_chk1 {N q s a k : Nat} (hq : Pr q) (h0 : 2 ≤ N) (h1 : chk N q s a k = true) (hf : N < q * q) : Pr N := by
 refine prime_of h0 hf fun p hp hd => ?_
 have k1 := chk_dvd hq h1 hp hd
 have := Nat.le_of_dvd (by have := hp.1; omega) k1
 omega
theorem pr_8574133 : Pr 8574133 := prime_tri (f := 2930) (by decide) (by decide +kernel) (by decide)
theorem pr_127 : Pr 127 := prime_tri (f := 10) (by decide) (by decide +kernel) (by decide)
theorem pr_75707 : Pr 75707 := prime_tri (f := 280) (by decide) (by decide +kernel) (by decide)
theorem pr_1923133 : Pr 1923133 := prime_tri (f := 1390) (by decide) (by decide +kernel) (by decide)
theorem pr_q3 : Pr 1919519569386763 :=
 prime_chk2 (q := 8574133) (s := 223873314) (a := 2) (r := 127) (t := 15114327318006) (b := 2) (k := 64) pr_8574133 pr_127 (by decide) (by decide +kernel) (by decide +kernel) (by decide) (by decide)
theorem pr_q2 : Pr 75445702479781427272750846543864801 :=
 prime_chk2 (q := 1919519569386763) (s := 39304471641247389600) (a := 2) (r := 75707) (t := 996548568557483816196003626400) (b := 2) (k := 128) pr_q3 pr_75707 (by decide) (by decide +kernel) (by decide +kernel) (by decide) (by decide)
theorem pr_q1 : Pr 74058212732561358302231226437062788676166966415465897661863160754340907 :=
 prime_chk2 (q := 75445702479781427272750846543864801) (s := 981609426360740691344999861639072106) (a := 2) (r := 1923133) (t := 38509147694185143878364744631319200843710219946028640589009268082) (b := 2) (k := 256) pr_q2 pr_1923133 (by decide) (by decide +kernel) (by decide +kernel) (by decide) (by decide)
theorem pr_25519 : Pr 57896044618658097711785492504343953926634992332820282019728792003956564819949 :=
 prime_chk1 (q := 74058212732561358302231226437062788676166966415465897661863160754340907) (s := 781764) (a := 2) (k := 256) pr_q1 (by decide) (by decide +kernel) (by decide)
end Go.Proofs.YtfknkfninjjgbaaGreatDoor.P

/- Numbers modulo 2^255 - 19: inverses, roots, Euler's test. Mathematics alone. -/
namespace Go.Proofs.YtfknkfninjjgbaaGreatDoor.F
open Go.Proofs.YtfknkfninjjgbaaGreatDoor.P
/-- 2^255 - 19. -/
def p : Nat := 57896044618658097711785492504343953926634992332820282019728792003956564819949
theorem pr : Pr p := pr_25519
theorem p_pos : 0 < p := by decide
theorem p_lt : p < 2 ^ 256 := by decide
theorem mod_lt (n : Nat) : n % p < p := Nat.mod_lt _ p_pos
def add (a b : Nat) : Nat := (a + b) % p
def mul (a b : Nat) : Nat := a * b % p
def sub (a b : Nat) : Nat := (a + (p - b % p)) % p
theorem add_lt (a b : Nat) : add a b < p := mod_lt _
theorem mul_lt (a b : Nat) : mul a b < p := mod_lt _
theorem sub_lt (a b : Nat) : sub a b < p := mod_lt _
theorem add_comm (a b : Nat) : add a b = add b a := by unfold add; rw [Nat.add_comm]
theorem mul_comm (a b : Nat) : mul a b = mul b a := by unfold mul; rw [Nat.mul_comm]
theorem mul_modl (a b : Nat) : mul (a % p) b = mul a b := by unfold mul; rw [Nat.mod_mul_mod]
theorem mul_modr (a b : Nat) : mul a (b % p) = mul a b := by unfold mul; rw [Nat.mul_mod_mod]
theorem add_assoc (a b c : Nat) : add (add a b) c = add a (add b c) := by unfold add; rw [Nat.mod_add_mod, Nat.add_mod_mod, Nat.add_assoc]
theorem mul_assoc (a b c : Nat) : mul (mul a b) c = mul a (mul b c) := by unfold mul; rw [Nat.mod_mul_mod, Nat.mul_mod_mod, Nat.mul_assoc]
theorem mul_add (a b c : Nat) : mul a (add b c) = add (mul a b) (mul a c) := by unfold mul add; rw [Nat.mul_mod_mod, Nat.mod_add_mod, Nat.add_mod_mod, Nat.mul_add]
theorem mul_one (a : Nat) : mul a 1 = a % p := by unfold mul; rw [Nat.mul_one]
theorem sub_add (a b : Nat) : add (sub a b) b = a % p := by
 unfold add sub
 have h := mod_lt b
 rw [Nat.mod_add_mod, ← Nat.add_mod_mod, Nat.add_assoc, Nat.sub_add_cancel (Nat.le_of_lt h), Nat.add_mod_right]
theorem sub_self (a : Nat) : sub a a = 0 := by
 unfold sub
 have h := mod_lt a
 rw [← Nat.mod_add_mod, show a % p + (p - a % p) = p by omega, Nat.mod_self]
/-- Of two that are not 0 the product is not 0. -/
theorem mul_zero_iff (a b : Nat) : mul a b = 0 ↔ a % p = 0 ∨ b % p = 0 := by
 unfold mul
 rw [← Nat.dvd_iff_mod_eq_zero, ← Nat.dvd_iff_mod_eq_zero, ← Nat.dvd_iff_mod_eq_zero]
 refine ⟨fun h => pr.euclid h, fun h => ?_⟩
 rcases h with h | h
 ·exact Nat.dvd_trans h (Nat.dvd_mul_right _ _)
 ·exact Nat.dvd_trans h (Nat.dvd_mul_left _ _)
/-- Powers. -/
def pow (a n : Nat) : Nat := a ^ n % p
theorem pow_lt (a n : Nat) : pow a n < p := mod_lt _
theorem pow_modl (a n : Nat) : pow (a % p) n = pow a n := by unfold pow; rw [← Nat.pow_mod]
theorem pow_mul (a b n : Nat) : pow (mul a b) n = mul (pow a n) (pow b n) := by
 unfold mul
 rw [pow_modl]
 unfold pow
 rw [Nat.mul_pow, Nat.mul_mod]
theorem pow_add (a m n : Nat) : pow a (m + n) = mul (pow a m) (pow a n) := by
 unfold pow mul
 rw [Nat.pow_add, Nat.mul_mod]
theorem pow_pow (a m n : Nat) : pow (pow a m) n = pow a (m * n) := by
 show pow (a ^ m % p) n = _
 rw [pow_modl]
 unfold pow
 rw [Nat.pow_mul]
theorem pow_one (a : Nat) : pow a 1 = a % p := by unfold pow; rw [Nat.pow_one]
theorem fermat {a : Nat} (h : a % p ≠ 0) : pow a (p - 1) = 1 := P.fermat pr (fun hd => h ((Nat.dvd_iff_mod_eq_zero ..).1 hd))
theorem pow_zero' {a n : Nat} (h : a % p = 0) (hn : 0 < n) : pow a n = 0 := by
 rw [← pow_modl, h]
 unfold pow
 rw [Nat.zero_pow hn]
 rfl
/-- One over a; 0 of 0. -/
def inv (a : Nat) : Nat := pow a (p - 2)
theorem inv_lt (a : Nat) : inv a < p := pow_lt _ _
theorem mul_inv {a : Nat} (h : a % p ≠ 0) : mul a (inv a) = 1 := by
 rw [← mul_modl]
 unfold inv
 rw [← pow_one, ← pow_add, show 1 + (p - 2) = p - 1 by decide]
 exact fermat h
/-- Euler's number of a: 0, 1 or p - 1. -/
def chi (a : Nat) : Nat := pow a ((p - 1) / 2)
theorem chi_modl (a : Nat) : chi (a % p) = chi a := pow_modl _ _
theorem chi_mul (a b : Nat) : chi (mul a b) = mul (chi a) (chi b) := pow_mul _ _ _
theorem chi_zero {a : Nat} (h : a % p = 0) : chi a = 0 := pow_zero' h (by decide)
theorem sq_one {x : Nat} (hx : x < p) (h : mul x x = 1) : x = 1 ∨ x = p - 1 := by
 have h1 : mul (x + (p - 1)) (x + 1) = 0 := by
  unfold mul at *
  have e : (x + (p - 1)) * (x + 1) + 1 = x * x + p * (x + 1) := by
   have hp : p = (p - 1) + 1 := by decide
   generalize p - 1 = q at *
   rw [hp]
   simp only [Nat.mul_add, Nat.add_mul, Nat.mul_one, Nat.one_mul]
   omega
  have e2 : ((x + (p - 1)) * (x + 1) + 1) % p = 1 % p := by
   rw [e, Nat.add_mul_mod_self_left, h]
   rfl
  have hlt := mod_lt ((x + (p - 1)) * (x + 1))
  rw [← Nat.mod_add_mod] at e2
  generalize (x + (p - 1)) * (x + 1) % p = y at *
  rcases Nat.lt_or_ge (y + 1) p with hy | hy
  ·rw [Nat.mod_eq_of_lt hy] at e2
   have : 1 % p = 1 := rfl
   omega
  ·have hy' : y + 1 = p := by omega
   rw [hy', Nat.mod_self] at e2
   exact absurd e2 (by decide)
 rcases (mul_zero_iff _ _).1 h1 with h2 | h2
 ·left
  have hp : 1 < p := by decide
  rcases Nat.lt_or_ge x 1 with h3 | h3
  ·have : x = 0 := by omega
   subst this
   rw [Nat.zero_add, Nat.mod_eq_of_lt (by omega)] at h2
   omega
  ·rw [show x + (p - 1) = (x - 1) + p by omega, Nat.add_mod_right, Nat.mod_eq_of_lt (by omega)] at h2
   omega
 ·right
  rcases Nat.lt_or_ge (x + 1) p with h3 | h3
  ·rw [Nat.mod_eq_of_lt h3] at h2
   omega
  ·omega
theorem chi_sq {a : Nat} (h : a % p ≠ 0) : mul (chi a) (chi a) = 1 := by
 unfold chi
 rw [← pow_add, show (p - 1) / 2 + (p - 1) / 2 = p - 1 by decide]
 exact fermat h
theorem chi_one {a : Nat} (h : a % p ≠ 0) : chi a = 1 ∨ chi a = p - 1 := sq_one (pow_lt _ _) (chi_sq h)
theorem chi_pw (a : Nat) : chi a = pw p 256 a ((p - 1) / 2) := (pw_eq p 256 a ((p - 1) / 2) (by decide)).symm
theorem chi_two : chi 2 = p - 1 := (chi_pw 2).trans (by decide +kernel)
/-- A root of -1. -/
def im : Nat := pow 2 ((p - 1) / 4)
theorem im_sq : mul im im = p - 1 := by
 unfold im
 rw [← pow_add, show (p - 1) / 4 + (p - 1) / 4 = (p - 1) / 2 by decide]
 exact chi_two
/-- Is there a root? -/
def ok (a : Nat) : Bool := decide (chi a ≠ p - 1)
/-- One of the two, if there is one. -/
def cand (a : Nat) : Nat := if mul (pow a ((p + 3) / 8)) (pow a ((p + 3) / 8)) = a % p then pow a ((p + 3) / 8) else mul (pow a ((p + 3) / 8)) im
theorem neg_sq (x : Nat) : mul (p - 1) (p - 1) = 1 ∧ mul (mul x (p - 1)) (p - 1) = x % p := by
 have h : mul (p - 1) (p - 1) = 1 := by decide +kernel
 exact ⟨h, by rw [mul_assoc, h, mul_one]⟩
theorem four (a b c d : Nat) : mul (mul a b) (mul c d) = mul (mul a c) (mul b d) := by
 rw [mul_assoc, mul_assoc, ← mul_assoc b c d, mul_comm b c, mul_assoc c b d]
theorem cand_sq {a : Nat} (h : ok a = true) : mul (cand a) (cand a) = a % p := by
 have h' : chi a ≠ p - 1 := of_decide_eq_true h
 by_cases h0 : a % p = 0
 ·unfold cand
  rw [pow_zero' h0 (by decide)]
  rw [if_pos (by rw [h0]; rfl), h0]
  rfl
 have h1 : chi a = 1 := (chi_one h0).resolve_right h'
 have hq : mul (pow a ((p - 1) / 4)) (pow a ((p - 1) / 4)) = 1 := by
  rw [← pow_add, show (p - 1) / 4 + (p - 1) / 4 = (p - 1) / 2 by decide]
  exact h1
 have hr : mul (pow a ((p + 3) / 8)) (pow a ((p + 3) / 8)) = mul a (pow a ((p - 1) / 4)) := by
  rw [← pow_add, show (p + 3) / 8 + (p + 3) / 8 = 1 + (p - 1) / 4 by decide, pow_add, pow_one, mul_modl]
 unfold cand
 split
 ·assumption
 ·rename_i hne
  rcases sq_one (pow_lt _ _) hq with e | e
  ·exact absurd (by rw [hr, e, mul_one]) hne
  ·rw [four, hr, im_sq, e]
   exact (neg_sq a).2
theorem ok_iff (a : Nat) : ok a = true ↔ ∃ r, mul r r = a % p := by
 refine ⟨fun h => ⟨_, cand_sq h⟩, fun ⟨r, hr⟩ => ?_⟩
 refine decide_eq_true fun hc => ?_
 by_cases h0 : r % p = 0
 ·have : a % p = 0 := by rw [← hr]; exact (mul_zero_iff r r).2 (.inl h0)
  rw [chi_zero this] at hc
  exact absurd hc (by decide)
 ·have : chi (mul r r) = 1 := by rw [chi_mul]; exact chi_sq h0
  rw [hr, chi_modl, hc] at this
  exact absurd this (by decide)
/-- The even one of r and -r. -/
def evn (r : Nat) : Nat := if r % 2 = 0 then r else p - r
theorem neg_eq {r : Nat} (h : r < p) (h0 : r ≠ 0) : p - r = mul r (p - 1) := by
 have e : r * (p - 1) = (p - r) + p * (r - 1) := by
  obtain ⟨q, hq⟩ : ∃ q, p = q + 1 := ⟨p - 1, by decide⟩
  obtain ⟨s, rfl⟩ : ∃ s, r = s + 1 := ⟨r - 1, by omega⟩
  rw [hq] at h ⊢
  rw [Nat.add_sub_cancel, Nat.add_sub_cancel, Nat.add_mul, Nat.add_mul, Nat.mul_comm s q]
  omega
 unfold mul
 rw [e, Nat.add_mul_mod_self_left, Nat.mod_eq_of_lt (by omega)]
theorem neg_mul {r : Nat} (h : r < p) : mul (p - r) (p - r) = mul r r := by
 by_cases h0 : r = 0
 ·subst h0
  unfold mul
  rw [Nat.sub_zero, Nat.mul_mod_left]
  exact (Nat.zero_mod p).symm
 ·rw [neg_eq h h0, four, (neg_sq 0).1, mul_one]
  exact Nat.mod_eq_of_lt (mul_lt _ _)
/-- The even root; 0, if there is none. -/
def root (a : Nat) : Nat := if ok a = true then evn (cand a) else 0
/-- Two whose squares are one are one, or sum up to 0. -/
theorem sq_eq {x y : Nat} (hx : x < p) (hy : y < p) (h : mul x x = mul y y) : x = y ∨ x = sub 0 y := by
 have hs : ∀ z, z < p → sub 0 z = (p - z) % p := fun z hz => by unfold sub; rw [Nat.zero_add, Nat.mod_eq_of_lt hz]
 have h1 : mul (x + y) (x + (p - y)) = 0 := by
  unfold mul at *
  obtain ⟨z, hz⟩ : ∃ z, p = y + z := ⟨p - y, by omega⟩
  have e : (x + y) * (x + (p - y)) + y * y = x * x + p * (x + y) := by
   rw [hz, Nat.add_sub_cancel_left]
   simp only [Nat.mul_add, Nat.add_mul]
   rw [Nat.mul_comm z x, Nat.mul_comm z y, Nat.mul_comm y x]
   omega
  have e2 : ((x + y) * (x + (p - y)) + y * y) % p = y * y % p := by rw [e, Nat.add_mul_mod_self_left, h]
  have e3 : ((x + y) * (x + (p - y)) % p + y * y % p) % p = y * y % p := by rw [← Nat.add_mod]; exact e2
  have l1 := mod_lt ((x + y) * (x + (p - y)))
  have l2 := mod_lt (y * y)
  generalize (x + y) * (x + (p - y)) % p = A at *
  generalize y * y % p = B at *
  rcases Nat.lt_or_ge (A + B) p with h3 | h3
  ·rw [Nat.mod_eq_of_lt h3] at e3
   omega
  ·rw [Nat.mod_eq_sub_mod h3, Nat.mod_eq_of_lt (by omega)] at e3
   omega
 rcases (mul_zero_iff _ _).1 h1 with h2 | h2
 ·right
  rw [hs y hy]
  rcases Nat.lt_or_ge (x + y) p with h3 | h3
  ·rw [Nat.mod_eq_of_lt h3] at h2
   have hx0 : x = 0 := by omega
   have hy0 : y = 0 := by omega
   subst hx0 hy0
   rw [Nat.sub_zero, Nat.mod_self]
  ·rw [Nat.mod_eq_sub_mod h3, Nat.mod_eq_of_lt (by omega)] at h2
   rw [Nat.mod_eq_of_lt (by omega)]
   omega
 ·left
  rcases Nat.lt_or_ge (x + (p - y)) p with h3 | h3
  ·rw [Nat.mod_eq_of_lt h3] at h2
   omega
  ·rw [Nat.mod_eq_sub_mod h3, Nat.mod_eq_of_lt (by omega)] at h2
   omega
end Go.Proofs.YtfknkfninjjgbaaGreatDoor.F

/- Numbers modulo 2^255 - 19 as sixteen digits, as functions of their places: carries, borrows. Mathematics alone. -/
namespace Go.Proofs.YtfknkfninjjgbaaGreatDoor.I
/-- The number of the first n digits. -/
def sm (f : Nat → Nat) : Nat → Nat
 | 0 => 0
 | n + 1 => sm f n + f n * 65536 ^ n
theorem sm_congr {f g : Nat → Nat} : ∀ n, (∀ i, i < n → f i = g i) → sm f n = sm g n
 | 0, _ => rfl
 | n + 1, h => by
  unfold sm
  rw [sm_congr n fun i hi => h i (by omega), h n (by omega)]
theorem sm_lt {f : Nat → Nat} : ∀ n, (∀ i, i < n → f i < 65536) → sm f n < 65536 ^ n
 | 0, _ => by show 0 < 1; decide
 | n + 1, h => by
  have h1 := sm_lt n fun i hi => h i (by omega)
  have h2 := Nat.mul_le_mul_right (65536 ^ n) (show f n + 1 ≤ 65536 from h n (by omega))
  unfold sm
  rw [Nat.pow_succ]
  rw [Nat.add_mul, Nat.one_mul] at h2
  omega
/-- The digits of a number. -/
def fd (n i : Nat) : Nat := n / 65536 ^ i % 65536
theorem fd_lt (n i : Nat) : fd n i < 65536 := Nat.mod_lt _ (by decide)
theorem sm_fd (N : Nat) : ∀ n, sm (fd N) n = N % 65536 ^ n
 | 0 => by rw [Nat.pow_zero, Nat.mod_one]; rfl
 | n + 1 => by
  unfold sm
  rw [sm_fd N n, fd, Nat.pow_succ, Nat.mod_mul, Nat.mul_comm (65536 ^ n)]
theorem fd_sm {f : Nat → Nat} : ∀ n, (∀ i, i < n → f i < 65536) → ∀ i, i < n → fd (sm f n) i = f i
 | 0, _, i, hi => absurd hi (by omega)
 | n + 1, h, i, hi => by
  have h1 := sm_lt n fun i hi => h i (by omega)
  unfold sm fd
  rcases Nat.lt_or_ge i n with hl | hl
  ·obtain ⟨k, rfl⟩ : ∃ k, n = i + 1 + k := ⟨n - i - 1, by omega⟩
   have ih := fd_sm (i + 1 + k) (fun i hi => h i (by omega)) i (by omega)
   unfold fd at ih
   rw [show f (i + 1 + k) * 65536 ^ (i + 1 + k) = 65536 ^ i * (65536 * (f (i + 1 + k) * 65536 ^ k)) by rw [Nat.pow_add, Nat.pow_succ]; simp only [Nat.mul_assoc, Nat.mul_left_comm, Nat.mul_comm], Nat.add_mul_div_left _ _ (Nat.pow_pos (by decide)), Nat.add_mul_mod_self_left]
   exact ih
  ·obtain rfl : i = n := by omega
   rw [Nat.add_mul_div_right _ _ (Nat.pow_pos (by decide)), Nat.div_eq_of_lt h1, Nat.zero_add, Nat.mod_eq_of_lt (h i (by omega))]
/-- What is carried behind j digits, and the digits that stay. -/
def car (f : Nat → Nat) (c : Nat) : Nat → Nat
 | 0 => c
 | j + 1 => (car f c j + f j) / 65536
def dig (f : Nat → Nat) (c j : Nat) : Nat := (car f c j + f j) % 65536
theorem car_sum (f : Nat → Nat) (c : Nat) : ∀ n, sm (dig f c) n + car f c n * 65536 ^ n = sm f n + c
 | 0 => by unfold sm car; omega
 | n + 1 => by
  have ih := car_sum f c n
  unfold sm car
  rw [Nat.pow_succ]
  have e := Nat.div_add_mod (car f c n + f n) 65536
  have e2 : dig f c n * 65536 ^ n + (car f c n + f n) / 65536 * (65536 ^ n * 65536) = (car f c n + f n) * 65536 ^ n := by
   unfold dig
   rw [← Nat.mul_assoc, Nat.mul_right_comm, ← Nat.add_mul]
   congr 1
   omega
  rw [Nat.add_mul] at e2
  omega
theorem car_le {f : Nat → Nat} {c : Nat} (hc : c < 2 ^ 51) (hf : ∀ i, i < 16 → f i < 2 ^ 50) : ∀ j, j ≤ 16 → car f c j < 2 ^ 51
 | 0, _ => hc
 | j + 1, h => by
  have h1 := car_le hc hf j (by omega)
  have h2 := hf j (by omega)
  unfold car
  omega
/-- One round of least. -/
def rnd (f : Nat → Nat) : Nat → Nat := fun i => if i < 16 then dig f (38 * f 16) i else car f (38 * f 16) 16
theorem rnd_lt {f : Nat → Nat} {i : Nat} (h : i < 16) : rnd f i < 65536 := by
 unfold rnd
 rw [if_pos h]
 exact Nat.mod_lt _ (by decide)
theorem rnd_top {f : Nat → Nat} : rnd f 16 = car f (38 * f 16) 16 := rfl
/-- All small enough. -/
def Sm (f : Nat → Nat) : Prop := ∀ i, i < 17 → f i < 2 ^ 45
theorem rnd_Sm {f : Nat → Nat} (h : Sm f) : Sm (rnd f) ∧ rnd f 16 < 2 ^ 36 := by
 have h15 := car_le (f := f) (c := 38 * f 16) (by have := h 16 (by decide); omega) (fun i hi => by have := h i (by omega); omega) 15 (by decide)
 have h16 : rnd f 16 < 2 ^ 36 := by
  rw [rnd_top]
  show (car f (38 * f 16) 15 + f 15) / 65536 < _
  have := h 15 (by decide)
  omega
 refine ⟨fun i hi => ?_, h16⟩
 rcases Nat.lt_or_ge i 16 with hl | hl
 ·have := rnd_lt (f := f) hl; omega
 ·obtain rfl : i = 16 := by omega
  omega
theorem rnd_sum (f : Nat → Nat) : sm (rnd f) 16 + rnd f 16 * 65536 ^ 16 = sm f 16 + 38 * f 16 := by
 have h := car_sum f (38 * f 16) 16
 rw [rnd_top, sm_congr (f := rnd f) (g := dig f (38 * f 16)) 16 fun i hi => by unfold rnd; rw [if_pos hi]]
 exact h
theorem p38 (x : Nat) : (x * 65536 ^ 16) % F.p = (38 * x) % F.p := by
 have e : x * 65536 ^ 16 = 38 * x + F.p * (2 * x) := by
  rw [show (65536 : Nat) ^ 16 = 38 + F.p * 2 by decide, Nat.mul_add, Nat.mul_comm x 38, Nat.mul_left_comm, Nat.mul_comm x 2]
 rw [e, Nat.add_mul_mod_self_left]
theorem rnd_mod (f : Nat → Nat) : sm (rnd f) 17 % F.p = sm f 17 % F.p := by
 show (sm (rnd f) 16 + rnd f 16 * 65536 ^ 16) % F.p = (sm f 16 + f 16 * 65536 ^ 16) % F.p
 rw [rnd_sum, Nat.add_mod, ← p38, ← Nat.add_mod]
theorem rnd_three {f : Nat → Nat} (h : Sm f) : rnd (rnd (rnd f)) 16 = 0 ∧ sm (rnd (rnd (rnd f))) 16 % F.p = sm f 17 % F.p := by
 have a1 := rnd_Sm h
 have l1 := sm_lt (f := rnd f) 16 fun i hi => rnd_lt hi
 have l2 := sm_lt (f := rnd (rnd f)) 16 fun i hi => rnd_lt hi
 have l3 := sm_lt (f := rnd (rnd (rnd f))) 16 fun i hi => rnd_lt hi
 have s2 := rnd_sum (rnd f)
 have s3 := rnd_sum (rnd (rnd f))
 have m3 : sm (rnd (rnd (rnd f))) 17 % F.p = sm f 17 % F.p := by rw [rnd_mod, rnd_mod, rnd_mod]
 have e3 : sm (rnd (rnd (rnd f))) 17 = sm (rnd (rnd (rnd f))) 16 + rnd (rnd (rnd f)) 16 * 65536 ^ 16 := rfl
 have t1 := a1.2
 rw [show (65536 : Nat) ^ 16 = 115792089237316195423570985008687907853269984665640564039457584007913129639936 by decide] at *
 generalize rnd (rnd (rnd f)) 16 = x3 at *
 generalize rnd (rnd f) 16 = x2 at *
 generalize rnd f 16 = x1 at *
 generalize sm (rnd (rnd (rnd f))) 16 = y3 at *
 generalize sm (rnd (rnd f)) 16 = y2 at *
 generalize sm (rnd f) 16 = y1 at *
 have h0 : x3 = 0 := by omega
 refine ⟨h0, ?_⟩
 rw [← m3, e3, h0, Nat.zero_mul, Nat.add_zero]
/-- The modulus' digits. -/
def mo (i : Nat) : Nat := if i = 0 then 65517 else if i = 15 then 32767 else 65535
theorem mo_sum : sm mo 16 = F.p := by decide
theorem mo_lt (i : Nat) : mo i < 65536 := by unfold mo; split <;> (try split) <;> decide
/-- What is borrowed behind j digits, and the digits that stay. -/
def bor (f : Nat → Nat) : Nat → Nat
 | 0 => 0
 | j + 1 => if f j < mo j + bor f j then 1 else 0
theorem bor_le (f : Nat → Nat) : ∀ j, bor f j ≤ 1
 | 0 => by show 0 ≤ 1; decide
 | j + 1 => by unfold bor; split <;> decide
def sd (f : Nat → Nat) (j : Nat) : Nat := f j + 65536 * bor f (j + 1) - mo j - bor f j
theorem sd_eq {f : Nat → Nat} {j : Nat} : sd f j + mo j + bor f j = f j + 65536 * bor f (j + 1) := by
 have h1 := bor_le f j
 have h2 := mo_lt j
 unfold sd
 rw [show bor f (j + 1) = if f j < mo j + bor f j then 1 else 0 from rfl]
 split <;> omega
theorem sd_lt {f : Nat → Nat} {j : Nat} (h : f j < 65536) : sd f j < 65536 := by
 have h1 := bor_le f j
 unfold sd
 rw [show bor f (j + 1) = if f j < mo j + bor f j then 1 else 0 from rfl]
 split <;> omega
theorem bor_sum (f : Nat → Nat) : ∀ n, sm (sd f) n + sm mo n = sm f n + bor f n * 65536 ^ n
 | 0 => by unfold sm bor; rfl
 | n + 1 => by
  have ih := bor_sum f n
  unfold sm
  have e := sd_eq (f := f) (j := n)
  have e2 : (sd f n + mo n + bor f n) * 65536 ^ n = (f n + 65536 * bor f (n + 1)) * 65536 ^ n := by rw [e]
  rw [Nat.add_mul, Nat.add_mul, Nat.add_mul] at e2
  rw [Nat.pow_succ, show bor f (n + 1) * (65536 ^ n * 65536) = 65536 * bor f (n + 1) * 65536 ^ n by rw [Nat.mul_comm (65536 ^ n), ← Nat.mul_assoc, Nat.mul_comm (bor f (n + 1))]]
  omega
theorem bor_one {f : Nat → Nat} (hf : ∀ i, i < 16 → f i < 65536) (h : bor f 16 = 1) : sm f 16 < F.p := by
 have e := bor_sum f 16
 have l := sm_lt (f := sd f) 16 fun i hi => sd_lt (hf i hi)
 rw [mo_sum, h] at e
 omega
theorem bor_zero {f : Nat → Nat} (h : ¬ bor f 16 = 1) : sm (sd f) 16 + F.p = sm f 16 := by
 have e := bor_sum f 16
 have := bor_le f 16
 rw [mo_sum, show bor f 16 = 0 by omega, Nat.zero_mul, Nat.add_zero] at e
 exact e
theorem sm_top {x : Nat} (h : x < F.p) : sm (fd x) 16 = x := by rw [sm_fd, Nat.mod_eq_of_lt (Nat.lt_trans h (by decide))]
/-- Sums and differences, digit by digit. -/
def pl (a b : Nat → Nat) : Nat → Nat := fun i => if i < 16 then a i + b i else 0
theorem sm_add (a b : Nat → Nat) : ∀ n, sm (fun i => a i + b i) n = sm a n + sm b n
 | 0 => rfl
 | n + 1 => by
  unfold sm
  rw [sm_add a b n, Nat.add_mul]
  omega
theorem pl_sum (a b : Nat → Nat) : sm (pl a b) 17 = sm a 16 + sm b 16 := by
 show sm (pl a b) 16 + pl a b 16 * _ = _
 rw [sm_congr (f := pl a b) (g := fun i => a i + b i) 16 fun i hi => by unfold pl; rw [if_pos hi], sm_add, show pl a b 16 = 0 from rfl]
 omega
theorem pl_Sm {a b : Nat → Nat} (ha : ∀ i, i < 16 → a i < 65536) (hb : ∀ i, i < 16 → b i < 65536) : Sm (pl a b) := fun i _ => by
 unfold pl
 split
 ·have := ha i (by assumption); have := hb i (by assumption); omega
 ·decide
def mi (a b : Nat → Nat) : Nat → Nat := fun i => if i < 16 then a i + 4 * mo i - b i else 0
theorem mi_at {a b : Nat → Nat} (hb : ∀ i, i < 16 → b i < 65536) {i : Nat} (h : i < 16) : mi a b i + b i = a i + 4 * mo i := by
 unfold mi
 rw [if_pos h]
 have h1 := hb i h
 have h2 : 16384 ≤ mo i := by unfold mo; split <;> (try split) <;> decide
 omega
theorem sm_mul (c : Nat) (a : Nat → Nat) : ∀ n, sm (fun i => c * a i) n = c * sm a n
 | 0 => rfl
 | n + 1 => by
  unfold sm
  rw [sm_mul c a n, Nat.mul_add, Nat.mul_assoc]
theorem mi_sum {a b : Nat → Nat} (hb : ∀ i, i < 16 → b i < 65536) : sm (mi a b) 17 + sm b 16 = sm a 16 + 4 * F.p := by
 show sm (mi a b) 16 + mi a b 16 * _ + _ = _
 rw [show mi a b 16 = 0 from rfl, Nat.zero_mul, Nat.add_zero, ← sm_add, sm_congr (g := fun i => a i + 4 * mo i) 16 fun i hi => mi_at hb hi, sm_add, sm_mul, mo_sum]
theorem mi_Sm {a b : Nat → Nat} (ha : ∀ i, i < 16 → a i < 65536) : Sm (mi a b) := fun i _ => by
 unfold mi
 split
 ·have := ha i (by assumption); have := mo_lt i; omega
 ·decide
/-- A product, digit by digit. -/
def upd (f : Nat → Nat) (j x : Nat) : Nat → Nat := fun i => if i = j then x else f i
def acc (a b : Nat → Nat) (i : Nat) (f : Nat → Nat) : Nat → (Nat → Nat)
 | 0 => f
 | k + 1 => upd (acc a b i f k) (i + k) (acc a b i f k (i + k) + a i * b k)
def pro (a b : Nat → Nat) : Nat → (Nat → Nat)
 | 0 => fun _ => 0
 | i + 1 => acc a b i (pro a b i) 16
theorem sm_upd (f : Nat → Nat) (j x : Nat) : ∀ n, j < n → sm (upd f j (f j + x)) n = sm f n + x * 65536 ^ j
 | 0, h => absurd h (by omega)
 | n + 1, h => by
  unfold sm
  by_cases hj : j = n
  ·subst hj
   rw [sm_congr (f := upd f j (f j + x)) (g := f) j fun i hi => by unfold upd; rw [if_neg (by omega)]]
   unfold upd
   rw [if_pos rfl, Nat.add_mul]
   omega
  ·rw [sm_upd f j x n (by omega)]
   unfold upd
   rw [if_neg (fun e => hj e.symm)]
   omega
theorem acc_sum (a b f : Nat → Nat) {i : Nat} (hi : i < 16) : ∀ k, k ≤ 16 → sm (acc a b i f k) 32 = sm f 32 + a i * 65536 ^ i * sm b k
 | 0, _ => by unfold acc sm; omega
 | k + 1, h => by
  unfold acc
  rw [sm_upd _ _ _ 32 (by omega), acc_sum a b f hi k (by omega)]
  show _ = sm f 32 + a i * 65536 ^ i * (sm b k + b k * 65536 ^ k)
  rw [Nat.mul_add, Nat.pow_add, ← Nat.add_assoc]
  congr 1
  simp only [Nat.mul_assoc, Nat.mul_left_comm]
theorem sm_none : ∀ n, sm (fun _ => 0) n = 0
 | 0 => rfl
 | n + 1 => by
  unfold sm
  rw [sm_none n, Nat.zero_mul]
theorem pro_sum (a b : Nat → Nat) : ∀ i, i ≤ 16 → sm (pro a b i) 32 = sm a i * sm b 16
 | 0, _ => by
  rw [show sm a 0 = 0 from rfl, Nat.zero_mul]
  exact sm_none 32
 | i + 1, h => by
  show sm (acc a b i (pro a b i) 16) 32 = (sm a i + a i * 65536 ^ i) * sm b 16
  rw [acc_sum a b _ (by omega) 16 (by omega), pro_sum a b i (by omega), Nat.add_mul]
theorem acc_le {a b f : Nat → Nat} {i B : Nat} (ha : a i < 65536) (hb : ∀ k, k < 16 → b k < 65536) (hf : ∀ n, f n ≤ B) : ∀ k, k ≤ 16 → ∀ n, acc a b i f k n ≤ B + k * 4294967296
 | 0, _, n => by rw [Nat.zero_mul]; exact hf n
 | k + 1, h, n => by
  have ih := acc_le ha hb hf k (by omega)
  have h2 : a i * b k ≤ 65536 * 65536 := Nat.mul_le_mul (Nat.le_of_lt ha) (Nat.le_of_lt (hb k (by omega)))
  unfold acc upd
  split
  ·have := ih (i + k)
   generalize acc a b i f k (i + k) = t at *
   omega
  ·exact Nat.le_trans (ih n) (Nat.add_le_add_left (Nat.mul_le_mul_right _ (Nat.le_succ k)) B)
theorem pro_le {a b : Nat → Nat} (ha : ∀ i, i < 16 → a i < 65536) (hb : ∀ k, k < 16 → b k < 65536) : ∀ i, i ≤ 16 → ∀ n, pro a b i n ≤ i * 68719476736
 | 0, _, n => Nat.zero_le _
 | i + 1, h, n => by
  have := acc_le (ha i (by omega)) hb (pro_le ha hb i (by omega)) 16 (by omega) n
  unfold pro
  omega
theorem acc_pro_le {a b : Nat → Nat} (ha : ∀ i, i < 16 → a i < 65536) (hb : ∀ k, k < 16 → b k < 65536) {i k : Nat} (hi : i < 16) (hk : k ≤ 16) (n : Nat) : acc a b i (pro a b i) k n ≤ 1099511627776 := by
 have := acc_le (ha i hi) hb (pro_le ha hb i (by omega)) k hk n
 have h1 : i * 68719476736 ≤ 15 * 68719476736 := Nat.mul_le_mul_right _ (by omega)
 have h2 : k * 4294967296 ≤ 16 * 4294967296 := Nat.mul_le_mul_right _ hk
 omega
/-- The upper half, 38 times, put to the lower. -/
def fol (f : Nat → Nat) : Nat → Nat := fun i => f i + 38 * f (i + 16)
theorem sm_split (f : Nat → Nat) (m : Nat) : ∀ n, sm f (m + n) = sm f m + 65536 ^ m * sm (fun i => f (i + m)) n
 | 0 => by show sm f m = sm f m + _ * 0; omega
 | n + 1 => by
  show sm f (m + n) + f (m + n) * 65536 ^ (m + n) = _
  rw [sm_split f m n]
  show _ = sm f m + 65536 ^ m * (sm (fun i => f (i + m)) n + f (n + m) * 65536 ^ n)
  rw [Nat.mul_add, Nat.pow_add, Nat.add_comm n m, ← Nat.add_assoc]
  congr 1
  simp only [Nat.mul_left_comm]
theorem fol_mod (f : Nat → Nat) : sm (fol f) 16 % F.p = sm f 32 % F.p := by
 unfold fol
 rw [sm_add, sm_mul, sm_split f 16 16, Nat.add_mod, ← p38, ← Nat.add_mod, Nat.mul_comm (65536 ^ 16)]
/-- What By hands to least. -/
def byl (f : Nat → Nat) : Nat → Nat := fun i => if i < 16 then dig (fol f) 0 i else car (fol f) 0 16
theorem byl_sum (f : Nat → Nat) : sm (byl f) 17 % F.p = sm f 32 % F.p := by
 have h := car_sum (fol f) 0 16
 rw [Nat.add_zero] at h
 show (sm (byl f) 16 + byl f 16 * 65536 ^ 16) % F.p = _
 rw [sm_congr (f := byl f) (g := dig (fol f) 0) 16 fun i hi => by unfold byl; rw [if_pos hi], show byl f 16 = car (fol f) 0 16 from rfl, h, fol_mod]
theorem byl_Sm {f : Nat → Nat} (hf : ∀ n, f n ≤ 1099511627776) : Sm (byl f) := fun i hi => by
 have hl : ∀ i, i < 16 → fol f i < 2 ^ 50 := fun i _ => by
  have := hf i; have := hf (i + 16)
  unfold fol
  omega
 unfold byl
 split
 ·have : dig (fol f) 0 i < 65536 := Nat.mod_lt _ (by decide)
  omega
 ·have h1 := car_le (f := fol f) (c := 0) (by decide) hl 15 (by decide)
  have h2 := hl 15 (by decide)
  show (car (fol f) 0 15 + fol f 15) / 65536 < _
  omega
end Go.Proofs.YtfknkfninjjgbaaGreatDoor.I

/- What a block of memory holds, whole or in ranges; what a store of a range does to it; rows of ints. (In a name space of its own: texts of numbers have other blocks.) -/
namespace Go.Proofs.YtfknkfninjjgbaaGreatDoor.I
open Go.RowKit
/-- A number as an int. -/
abbrev dI (x : Nat) : Value := .int .i64 ((x : Nat) : Int)
/-- Block k holds these cells, and none of it is frozen. -/
structure Blk (w : World) (k : Nat) (vs : List Value) : Prop where
 lt : k < w.heap.size
 cell : ∀ j v, vs[j]? = some v → w.cell? ⟨k, j, none⟩ = some v
 fz : ∀ j, w.frozen? ⟨k, j, none⟩ = false
theorem Blk.up {W w1 : World} {k : Nat} {vs : List Value} {B : Nat} (h : Blk W k vs) (hb : Below B W w1) (hB : k < B) : Blk w1 k vs :=
 ⟨Nat.lt_of_lt_of_le h.lt hb.size, fun j v hv => (hb.cell (p := ⟨k, j, none⟩) hB).trans (h.cell j v hv), fun j => (hb.frozen (p := ⟨k, j, none⟩) hB).trans (h.fz j)⟩
theorem Blk.al {w : World} {vs : List Value} {t : TypeId} {C : Array Value} {k : Nat} (hk : k = w.heap.size) (hC : C.toList = vs) : Blk (w.alloc (.cells C t)) k vs := by
 subst hk hC
 have hb : (w.alloc (.cells C t)).heap[w.heap.size]? = some (.cells C t) := by show (w.heap.push _)[w.heap.size]? = _; simp
 refine ⟨by simp, fun j v hv => ?_, fun j => ?_⟩
 ·rw [cell_of_row _ _ j C t _ hb]; simpa using hv
 ·unfold World.frozen?
  rw [hb]
  simp
theorem Blk.range {w : World} {k : Nat} {a b c : List Value} (h : Blk w k (a ++ (b ++ c))) {o : Nat} (ho : o = a.length) : w.rangeAt k o b := by
 subst ho
 intro j v hv
 refine h.cell _ _ ?_
 have hj := (List.getElem?_eq_some_iff.1 hv).1
 rw [List.getElem?_append_right (by omega), show a.length + j - a.length = j by omega, List.getElem?_append_left hj, hv]
theorem Blk.all {w : World} {k : Nat} {a : List Value} (h : Blk w k a) : w.rangeAt k 0 a := fun j v hv => by
 rw [Nat.zero_add]; exact h.cell j v hv
theorem Blk.there {w : World} {k : Nat} {vs : List Value} (h : Blk w k vs) {o n : Nat} (hn : o + n ≤ vs.length) : w.there k o n := fun j hj => by
 refine ⟨?_, h.fz _⟩
 rw [h.cell (o + j) vs[o + j] (List.getElem?_eq_getElem (by omega))]
 rfl
theorem size_setCell (w : World) (a : Addr) (v : Value) : (w.setCell a v).heap.size = w.heap.size := by simp [World.setCell]
theorem size_setCells (k : Nat) : ∀ (vs : List Value) (o : Nat) (w : World), (w.setCells k o vs).heap.size = w.heap.size
 | [], _, _ => rfl
 | v :: vs, o, w => (size_setCells k vs (o + 1) _).trans (size_setCell w _ v)
theorem Blk.store {w : World} {k : Nat} {a b c b' : List Value} (h : Blk w k (a ++ (b ++ c))) {o : Nat} (ho : o = a.length) (hl : b'.length = b.length) : Blk (w.setCells k o b') k (a ++ (b' ++ c)) := by
 subst ho
 have ht := h.there (o := a.length) (n := b'.length) (by simp; omega)
 refine ⟨by rw [size_setCells]; exact h.lt, fun j v hv => ?_, fun j => by rw [World.frozen?_setCells]; exact h.fz j⟩
 rcases Nat.lt_or_ge j a.length with h1 | h1
 ·rw [World.cell?_setCells_out k b' a.length w ⟨k, j, none⟩ (fun _ _ => Or.inl h1)]
  refine h.cell j v ?_
  rw [List.getElem?_append_left h1] at hv ⊢
  exact hv
 ·rw [List.getElem?_append_right h1] at hv
  rcases Nat.lt_or_ge (j - a.length) b'.length with h2 | h2
  ·rw [List.getElem?_append_left h2] at hv
   have := World.rangeAt_setCells_same w k a.length b' ht (j - a.length) v hv
   rwa [show a.length + (j - a.length) = j by omega] at this
  ·rw [World.cell?_setCells_out k b' a.length w ⟨k, j, none⟩ (fun _ _ => Or.inr (by show a.length + b'.length ≤ j; omega))]
   refine h.cell j v ?_
   rw [List.getElem?_append_right h1, List.getElem?_append_right (by omega), ← hl]
   rw [List.getElem?_append_right h2] at hv
   exact hv
theorem Blk.set {w : World} {k : Nat} {vs : List Value} (h : Blk w k vs) (j : Nat) (v : Value) (hj : j < vs.length) : Blk (w.setCell ⟨k, j, none⟩ v) k (vs.set j v) := by
 have h0 : Blk w k (vs.take j ++ ([vs[j]] ++ vs.drop (j + 1))) := by
  have e : vs.take j ++ ([vs[j]] ++ vs.drop (j + 1)) = vs := by simp
  rw [e]; exact h
 have := h0.store (o := j) (b' := [v]) (by simp; omega) rfl
 rw [List.set_eq_take_append_cons_drop, if_pos hj]
 exact this
theorem Blk.apart {w : World} {k k' o : Nat} {vs b : List Value} (h : Blk w k vs) (hk : k ≠ k') : Blk (w.setCells k' o b) k vs :=
 ⟨by rw [size_setCells]; exact h.lt, fun j v hv => by
  rw [World.cell?_setCells_out k' b o w ⟨k, j, none⟩ (fun e _ => absurd e hk)]; exact h.cell j v hv, fun j => by rw [World.frozen?_setCells]; exact h.fz j⟩
theorem Blk.apart1 {w : World} {k k' o : Nat} {vs : List Value} {v : Value} (h : Blk w k vs) (hk : k ≠ k') : Blk (w.setCell ⟨k', o, none⟩ v) k vs := h.apart (b := [v]) hk
theorem below_setCells {B k : Nat} {a : World} : ∀ (vs : List Value) (o : Nat) (w : World), Below B a w → B ≤ k → Below B a (w.setCells k o vs)
 | [], _, _, h, _ => h
 | v :: vs, o, _, h, hk => below_setCells vs (o + 1) _ (h.setCell hk v) hk
/-- A row stored whole; the world behind it by an equation. -/
theorem wp_store_eq {P : Program} {ops : Array Oper} {rest : List Oper} {op : Oper} {a : Act} {w : World} {Q : Exit → Act → World → Prop} (hgd : op.guard = none) (ty : TypeId) (x y : Operand) (ho : op.op = .store ty x y)
  (b o : Nat) (cs : List Value) (hx : a.eval x = .pointer (some ⟨b, o, none⟩)) (hy : a.eval y = .agg cs.toArray)
  (ht : w.there b o cs.length) (hi : (P.info? ty).map (·.size) = some cs.length) (h1 : ∀ v ∈ cs, v.oneCell' = true)
  (h : ∀ w2, Hid (w2 = w.setCells b o cs) → wpList P ops Q rest (a.put op.dst undef) w2) : wpList P ops Q (op :: rest) a w :=
 wpList_store_mid hgd ty x y ho b o cs.toArray hx hy (by rw [List.size_toArray]; exact ht) (by rw [List.size_toArray]; exact hi) (all_oneCell_toArray h1) (h _ rfl)
theorem one_dI (xs : List Nat) : ∀ v ∈ xs.map dI, v.oneCell' = true := fun v hv => by
 obtain ⟨x, _, rfl⟩ := List.mem_map.1 hv
 rfl
theorem al1 (w : World) (C0 : Array Value) (t0 : TypeId) : Blk (w.alloc (.cells C0 t0)) w.heap.size C0.toList ∧ Below w.heap.size w (w.alloc (.cells C0 t0)) :=
 ⟨Blk.al rfl rfl, (Below.refl _ _).alloc (Nat.le_refl _) _⟩
theorem al2 (w : World) (C0 C1 : Array Value) (t0 t1 : TypeId) : Blk ((w.alloc (.cells C0 t0)).alloc (.cells C1 t1)) w.heap.size C0.toList ∧ Blk ((w.alloc (.cells C0 t0)).alloc (.cells C1 t1)) (w.heap.size + 1) C1.toList ∧ Below w.heap.size w ((w.alloc (.cells C0 t0)).alloc (.cells C1 t1)) := by
 obtain ⟨a0, a1⟩ := al1 w C0 t0
 obtain ⟨b0, b1⟩ := al1 (w.alloc (.cells C0 t0)) C1 t1
 rw [show (w.alloc (.cells C0 t0)).heap.size = w.heap.size + 1 by simp] at b0 b1
 exact ⟨a0.up b1 (by omega), b0, a1.trans (b1.mono (by omega))⟩
theorem al3 (w : World) (C0 C1 C2 : Array Value) (t0 t1 t2 : TypeId) : Blk (((w.alloc (.cells C0 t0)).alloc (.cells C1 t1)).alloc (.cells C2 t2)) w.heap.size C0.toList ∧ Blk (((w.alloc (.cells C0 t0)).alloc (.cells C1 t1)).alloc (.cells C2 t2)) (w.heap.size + 1) C1.toList ∧ Blk (((w.alloc (.cells C0 t0)).alloc (.cells C1 t1)).alloc (.cells C2 t2)) (w.heap.size + 1 + 1) C2.toList ∧ Below w.heap.size w (((w.alloc (.cells C0 t0)).alloc (.cells C1 t1)).alloc (.cells C2 t2)) := by
 obtain ⟨a0, a1, a2⟩ := al2 w C0 C1 t0 t1
 obtain ⟨b0, b1⟩ := al1 ((w.alloc (.cells C0 t0)).alloc (.cells C1 t1)) C2 t2
 rw [show ((w.alloc (.cells C0 t0)).alloc (.cells C1 t1)).heap.size = w.heap.size + 1 + 1 by simp] at b0 b1
 exact ⟨a0.up b1 (by omega), a1.up b1 (by omega), b0, a2.trans (b1.mono (by omega))⟩
theorem al4 (w : World) (C0 C1 C2 C3 : Array Value) (t0 t1 t2 t3 : TypeId) : Blk ((((w.alloc (.cells C0 t0)).alloc (.cells C1 t1)).alloc (.cells C2 t2)).alloc (.cells C3 t3)) w.heap.size C0.toList ∧ Blk ((((w.alloc (.cells C0 t0)).alloc (.cells C1 t1)).alloc (.cells C2 t2)).alloc (.cells C3 t3)) (w.heap.size + 1) C1.toList ∧ Blk ((((w.alloc (.cells C0 t0)).alloc (.cells C1 t1)).alloc (.cells C2 t2)).alloc (.cells C3 t3)) (w.heap.size + 1 + 1) C2.toList ∧ Blk ((((w.alloc (.cells C0 t0)).alloc (.cells C1 t1)).alloc (.cells C2 t2)).alloc (.cells C3 t3)) (w.heap.size + 1 + 1 + 1) C3.toList ∧ Below w.heap.size w ((((w.alloc (.cells C0 t0)).alloc (.cells C1 t1)).alloc (.cells C2 t2)).alloc (.cells C3 t3)) := by
 obtain ⟨a0, a1, a2, a3⟩ := al3 w C0 C1 C2 t0 t1 t2
 obtain ⟨b0, b1⟩ := al1 (((w.alloc (.cells C0 t0)).alloc (.cells C1 t1)).alloc (.cells C2 t2)) C3 t3
 rw [show (((w.alloc (.cells C0 t0)).alloc (.cells C1 t1)).alloc (.cells C2 t2)).heap.size = w.heap.size + 1 + 1 + 1 by simp] at b0 b1
 exact ⟨a0.up b1 (by omega), a1.up b1 (by omega), a2.up b1 (by omega), b0, a3.trans (b1.mono (by omega))⟩
/-- A row that was made and stored into whole. -/
theorem alst (w : World) (C : Array Value) (t : TypeId) (vs : List Value) (hC : vs.length = C.size) : Blk ((w.alloc (.cells C t)).setCells w.heap.size 0 vs) w.heap.size vs ∧ Below w.heap.size w ((w.alloc (.cells C t)).setCells w.heap.size 0 vs) := by
 obtain ⟨a0, a1⟩ := al1 w C t
 have h : Blk (w.alloc (.cells C t)) w.heap.size ([] ++ (C.toList ++ [])) := by simpa using a0
 have := h.store (o := 0) (b' := vs) rfl (by simpa using hC)
 exact ⟨by simpa using this, below_setCells _ _ _ a1 (Nat.le_refl _)⟩
/-- A row read whole in a quiet walk. -/
theorem quiet_load {P : Program} {ops : Array Oper} {C : World → Prop} {Q : Act → Prop} {o : Oper} {rest : List Oper} {a : Act} (hw : Region.wanted o (yielded ops a.tmps) = true) (ty : TypeId) (x : Operand) (ho : o.op = .load ty x)
  (b f : Nat) (hx : a.eval x = .pointer (some ⟨b, f, none⟩)) (cs : List Value) (d : TypeDesc) (hc : ∀ w, C w → w.rangeAt b f cs) (hu : P.underlying ty = some d) (hd : d.isRow = true) (hi : (P.info? ty).map (·.size) = some cs.length)
  (h : wpQuiet P ops C Q rest (a.put o.dst (.agg cs.toArray))) : wpQuiet P ops C Q (o :: rest) a := by
 refine BigFrame.wpQuiet_want hw fun K hK => ⟨.agg cs.toArray, fun w hw' => ?_, hK _ h⟩
 unfold Oper.quietAt
 have e : (execOp a.eval o).run P w = .ok (.value (.agg cs.toArray)) w := by
  unfold execOp
  simp only [ho, hx, Instr.loadAt, Instr.sureAddr, Sem.run_bind, Sem.run_pure, Result.andThen_ok, run_loadVar_mid w b f ty cs d (hc w hw') hu hd hi]
 rw [e]
 exact ⟨rfl, rfl⟩
theorem results_cell {P : Program} {fn : Func} {tmps : Array Value} {s : Tmp} {t : TypeId} {b : Nat} {cs : List Value} {d : TypeDesc} {W : World} (hr : fn.results = #[.cell s t]) (ht : tmps[s]?.getD undef = .pointer (some ⟨b, 0, none⟩)) (hc : W.rangeAt b 0 cs)
  (hu : P.underlying t = some d) (hd : d.isRow = true) (hi : (P.info? t).map (·.size) = some cs.length) : (results fn tmps).run P W = .ok (.agg cs.toArray) W := by
 have h1 := run_loadVar_mid (P := P) W b 0 t cs d hc hu hd hi
 simp [results, hr, ht, asAddr, h1]
theorem heap_setCell_at (w : World) (k o : Nat) (v : Value) (cs : List Value) (t : TypeId) (fz : Nat × Nat) (h : w.heap[k]? = some (.cells cs.toArray t fz)) : (w.setCell ⟨k, o, none⟩ v).heap[k]? = some (.cells (cs.set o v).toArray t fz) := by
 have hlt := (Array.getElem?_eq_some_iff.1 h).1
 have e : (w.setCell ⟨k, o, none⟩ v).heap = w.heap.modify k fun | .cells c elem frozen => .cells (if (⟨k, o, none⟩ : Addr).spot.isSome then c else c.setIfInBounds o v) elem frozen | o => o := rfl
 rw [e, Array.getElem?_modify, h]
 simp
theorem heap_setCells_at (k : Nat) (t : TypeId) (fz : Nat × Nat) : ∀ (vs a b c : List Value) (w : World), w.heap[k]? = some (.cells (a ++ (b ++ c)).toArray t fz) → b.length = vs.length → (w.setCells k a.length vs).heap[k]? = some (.cells (a ++ (vs ++ c)).toArray t fz)
 | [], a, b, c, w, h, hb => by
  rw [List.length_eq_zero_iff.1 hb] at h
  exact h
 | v :: vs, a, y :: b, c, w, h, hb => by
  have h1 := heap_setCell_at w k a.length v _ t fz h
  rw [List.set_append_right _ _ (Nat.le_refl _), Nat.sub_self, List.cons_append, List.set_cons_zero, show a ++ v :: (b ++ c) = (a ++ [v]) ++ (b ++ c) by simp] at h1
  have h2 := heap_setCells_at k t fz vs (a ++ [v]) b c _ h1 (by simpa using hb)
  rw [List.length_append, List.length_singleton] at h2
  rw [show a ++ (v :: vs ++ c) = (a ++ [v]) ++ (vs ++ c) by simp]
  exact h2
 | v :: vs, a, [], c, w, h, hb => by simp at hb
theorem heap_setCells_off (k j : Nat) (hj : j ≠ k) : ∀ (vs : List Value) (o : Nat) (w : World), (w.setCells k o vs).heap[j]? = w.heap[j]?
 | [], _, _ => rfl
 | v :: vs, o, w => (heap_setCells_off k j hj vs (o + 1) (w.setCell ⟨k, o, none⟩ v)).trans (Below.heap_setCell w ⟨k, o, none⟩ v j hj)
theorem Blk.put {w : World} {k : Nat} {vs us : List Value} (h : Blk w k vs) (hl : us.length = vs.length) : Blk (w.setCells k 0 us) k us := by
 have h1 : Blk w k ([] ++ (vs ++ [])) := by simpa using h
 have h2 := h1.store (o := 0) (b' := us) rfl (by omega)
 rw [List.nil_append, List.append_nil] at h2
 exact h2
/-- n ints in block k: the function of their places. -/
def row (n : Nat) (f : Nat → Nat) : List Nat := (List.range n).map f
theorem row_length (n : Nat) (f : Nat → Nat) : (row n f).length = n := by simp [row]
theorem row_congr {n : Nat} {f g : Nat → Nat} (h : ∀ i, i < n → f i = g i) : row n f = row n g := by
 unfold row
 exact List.map_congr_left fun i hi => h i (List.mem_range.1 hi)
abbrev Ar (w : World) (k n : Nat) (f : Nat → Nat) : Prop := Blk w k ((row n f).map dI)
/-- An array of ints as a value. -/
abbrev aI (n : Nat) (f : Nat → Nat) : Value := .agg ((row n f).map dI).toArray
theorem aI_congr {n : Nat} {f g : Nat → Nat} (h : ∀ i, i < n → f i = g i) : aI n f = aI n g := by
 unfold aI
 rw [row_congr h]
theorem Ar.congr {w : World} {k n : Nat} {f g : Nat → Nat} (h : Ar w k n f) (e : ∀ i, i < n → f i = g i) : Ar w k n g := by
 unfold Ar
 rw [← row_congr e]
 exact h
theorem Ar.at {w : World} {k n : Nat} {f : Nat → Nat} (h : Ar w k n f) {j : Nat} (hj : j < n) : w.cell? ⟨k, j, none⟩ = some (dI (f j)) :=
 h.cell j _ (by simp [row, hj])
theorem Ar.set {w : World} {k n : Nat} {f : Nat → Nat} (h : Ar w k n f) {j : Nat} (hj : j < n) (x : Nat) : Ar (w.setCell ⟨k, j, none⟩ (dI x)) k n (upd f j x) := by
 have h1 := Blk.set h j (dI x) (by simp [row, hj])
 have e : ((row n f).map dI).set j (dI x) = (row n (upd f j x)).map dI := by
  apply List.ext_getElem?
  intro i
  rw [List.getElem?_set]
  by_cases hi : i < n
  ·by_cases hij : j = i
   ·subst hij
    simp [row, upd, hj]
   ·have : ¬ i = j := fun e => hij e.symm
    simp [row, upd, hi, hij, this]
  ·have h2 : ¬ j = i := by omega
   simp [row, hi, h2]
 rw [e] at h1
 exact h1
theorem zero_of {t : TypeId} {v : Value} (h : (Tryz.prog.info? t).map (·.zero) = some (some v)) (w : World) : (zeroValue t).run Tryz.prog w = .ok v w := by
 cases hq : Tryz.prog.info? t with
 | none => simp [hq] at h
 | some d =>
  have hz : d.zero = some v := by simpa [hq] using h
  simp [zeroValue, typeInfo, hq, hz]
/-- So many noughts. -/
def z0 : Nat → Nat := fun _ => 0
theorem u_fe : Tryz.prog.underlying 61 = some (.array 16 3) := by kernel_rfl
theorem u_i17 : Tryz.prog.underlying 135 = some (.array 17 3) := by kernel_rfl
theorem info_fe : (Tryz.prog.info? 61).map (·.size) = some 16 := by kernel_rfl
theorem info_i17 : (Tryz.prog.info? 135).map (·.size) = some 17 := by kernel_rfl
theorem zero_fe (w : World) : (zeroValue 61).run Tryz.prog w = .ok (aI 16 z0) w := zero_of (by kernel_rfl) w
theorem zero_i17 (w : World) : (zeroValue 135).run Tryz.prog w = .ok (aI 17 z0) w := zero_of (by kernel_rfl) w
theorem zero_i32 (w : World) : (zeroValue 134).run Tryz.prog w = .ok (aI 32 z0) w := zero_of (by kernel_rfl) w
theorem info_row {t : TypeId} {n : Nat} (h : (Tryz.prog.info? t).map (·.size) = some n) (f : Nat → Nat) : (Tryz.prog.info? t).map (·.size) = some ((row n f).map dI).length := by
 rw [h, List.length_map, row_length]
end Go.Proofs.YtfknkfninjjgbaaGreatDoor.I
