/- Fermat's little theorem, Pocklington's test, and that 2^255 - 19 is a prime. -/
import Derived.Test.YtdcpicbkemmakabDoorRows
namespace Go.Proofs.YtdcpicbkemmakabDoor.P
def Pr (p : Nat) : Prop := 2 ≤ p ∧ ∀ d, d ∣ p → d = 1 ∨ d = p
theorem Pr.cop {p k : Nat} (h : Pr p) (hk : ¬ p ∣ k) : Nat.gcd p k = 1 := by
  rcases h.2 _ (Nat.gcd_dvd_left p k) with e | e
  · exact e
  · exact absurd (e ▸ Nat.gcd_dvd_right p k) hk
theorem Pr.euclid {p a b : Nat} (h : Pr p) (hd : p ∣ a * b) : p ∣ a ∨ p ∣ b := by
  by_cases ha : p ∣ a
  · exact .inl ha
  · exact .inr (Nat.Coprime.dvd_of_dvd_mul_left (h.cop ha) hd)
/-- choose -/
def C : Nat → Nat → Nat
  | _, 0 => 1
  | 0, _ + 1 => 0
  | n + 1, k + 1 => C n k + C n (k + 1)
theorem C_big : ∀ n k, n < k → C n k = 0
  | 0, 0, h => absurd h (by omega)
  | 0, k + 1, _ => rfl
  | n + 1, 0, h => absurd h (by omega)
  | n + 1, k + 1, h => by rw [C, C_big n k (by omega), C_big n (k + 1) (by omega)]
theorem C_self : ∀ n, C n n = 1
  | 0 => rfl
  | n + 1 => by rw [C, C_self n, C_big n (n + 1) (by omega)]
theorem C_mul : ∀ n k, (k + 1) * C (n + 1) (k + 1) = (n + 1) * C n k
  | 0, 0 => rfl
  | 0, k + 1 => by simp [C]
  | n + 1, 0 => by
    have := C_mul n 0
    simp [C] at this ⊢
    omega
  | n + 1, k + 1 => by
    have h1 := C_mul n k
    have h2 := C_mul n (k + 1)
    rw [C]
    have e : C (n + 1) (k + 1) = C n k + C n (k + 1) := by rw [C]
    grind
/-- sum of f 0 .. f (n-1) -/
def S (f : Nat → Nat) : Nat → Nat
  | 0 => 0
  | n + 1 => S f n + f n
theorem S_congr {f g : Nat → Nat} : ∀ n, (∀ k, k < n → f k = g k) → S f n = S g n
  | 0, _ => rfl
  | n + 1, h => by rw [S, S, S_congr n (fun k hk => h k (by omega)), h n (by omega)]
theorem S_add {f g : Nat → Nat} : ∀ n, S (fun k => f k + g k) n = S f n + S g n
  | 0 => rfl
  | n + 1 => by simp only [S, S_add n]; omega
theorem S_mul {f : Nat → Nat} (c : Nat) : ∀ n, S (fun k => c * f k) n = c * S f n
  | 0 => rfl
  | n + 1 => by simp only [S, S_mul c n, Nat.mul_add]
theorem S_front {f : Nat → Nat} : ∀ n, S f (n + 1) = f 0 + S (fun k => f (k + 1)) n
  | 0 => by simp [S]
  | n + 1 => by rw [S, S_front n, S]; omega
theorem S_dvd {f : Nat → Nat} (p : Nat) : ∀ n, (∀ k, k < n → p ∣ f k) → p ∣ S f n
  | 0, _ => Nat.dvd_zero p
  | n + 1, h => Nat.dvd_add (S_dvd p n fun k hk => h k (by omega)) (h n (by omega))
theorem binom (a : Nat) : ∀ n, (a + 1) ^ n = S (fun k => C n k * a ^ k) (n + 1)
  | 0 => by simp [S, C]
  | n + 1 => by
    rw [Nat.pow_succ, binom a n, S_front (n + 1)]
    have e : S (fun k => C (n + 1) (k + 1) * a ^ (k + 1)) (n + 1) = S (fun k => a * (C n k * a ^ k)) (n + 1) + S (fun k => C n (k + 1) * a ^ (k + 1)) (n + 1) := by
      rw [← S_add]
      refine S_congr _ fun k _ => ?_
      rw [C, Nat.pow_succ]
      grind
    rw [e, S_mul]
    have f : S (fun k => C n k * a ^ k) (n + 2) = S (fun k => C n k * a ^ k) (n + 1) := by
      rw [S, C_big n (n + 1) (by omega)]; simp
    rw [S_front (n + 1)] at f
    have c0 : C (n + 1) 0 = C n 0 := by cases n <;> rfl
    rw [c0]
    generalize S (fun k => C n (k + 1) * a ^ (k + 1)) (n + 1) = u at *
    generalize S (fun k => C n k * a ^ k) (n + 1) = v at *
    rw [Nat.mul_add, Nat.mul_comm v a]
    omega
theorem fermat0 {p : Nat} (h : Pr p) : ∀ a, a ^ p % p = a % p
  | 0 => by rw [Nat.zero_pow (by have := h.1; omega)]
  | a + 1 => by
    have h1 := h.1
    obtain ⟨q, rfl⟩ : ∃ q, p = q + 2 := ⟨p - 2, by omega⟩
    rw [binom, S_front, S]
    have d : (q + 2) ∣ S (fun k => C (q + 2) (k + 1) * a ^ (k + 1)) (q + 1) := by
      refine S_dvd _ _ fun k hk => ?_
      refine Nat.dvd_trans ?_ (Nat.dvd_mul_right _ _)
      rcases h.euclid (a := k + 1) (b := C (q + 2) (k + 1)) (C_mul (q + 1) k ▸ Nat.dvd_mul_right _ _) with e | e
      · exact absurd (Nat.le_of_dvd (by omega) e) (by omega)
      · exact e
    have ih := fermat0 h a
    obtain ⟨s, hs⟩ := d
    rw [hs, C_self]
    simp only [C, Nat.pow_zero, Nat.one_mul]
    rw [show 1 + ((q + 2) * s + a ^ (q + 1 + 1)) = 1 + a ^ (q + 2) + (q + 2) * s by rw [show q + 1 + 1 = q + 2 from rfl]; omega, Nat.add_mul_mod_self_left, Nat.add_mod, ih, ← Nat.add_mod, Nat.add_comm]
/-- the same modulo m, for naturals -/
theorem dvd_sub_of_mod {m a b : Nat} (h : a % m = b % m) (_ : b ≤ a) : m ∣ a - b := (Nat.dvd_iff_mod_eq_zero ..).2 (Nat.sub_mod_eq_zero_of_mod_eq h)
theorem fermat {p a : Nat} (h : Pr p) (ha : ¬ p ∣ a) : a ^ (p - 1) % p = 1 := by
  have h1 := h.1
  have a0 : 0 < a := Nat.pos_of_ne_zero fun e => ha (e ▸ Nat.dvd_zero p)
  have e := fermat0 h a
  have e2 : a ^ p = a * a ^ (p - 1) := by
    conv => lhs; rw [show p = (p - 1) + 1 by omega]
    rw [Nat.pow_succ, Nat.mul_comm]
  have pp : 0 < a ^ (p - 1) := Nat.pow_pos a0
  have d : p ∣ a * (a ^ (p - 1) - 1) := by
    rw [Nat.mul_sub, Nat.mul_one, ← e2]
    refine dvd_sub_of_mod e ?_
    rw [e2]
    exact Nat.le_mul_of_pos_right _ pp
  rcases h.euclid d with f | f
  · exact absurd f ha
  · obtain ⟨s, hs⟩ := f
    rw [show a ^ (p - 1) = 1 + p * s by omega, Nat.add_mul_mod_self_left, Nat.mod_eq_of_lt (by omega)]
theorem pow_gcd {p b : Nat} (hp : 2 ≤ p) : ∀ m n, b ^ m % p = 1 → b ^ n % p = 1 → b ^ (Nat.gcd m n) % p = 1 := by
  intro m n
  induction m, n using Nat.gcd.induction with
  | H0 n => intro _ h; simpa using h
  | H1 m n hm ih =>
    intro h1 h2
    rw [Nat.gcd_rec]
    refine ih ?_ h1
    have e : b ^ n = (b ^ m) ^ (n / m) * b ^ (n % m) := by
      rw [← Nat.pow_mul, ← Nat.pow_add, Nat.div_add_mod]
    rw [e, Nat.mul_mod, Nat.pow_mod, h1, Nat.one_pow, Nat.mod_eq_of_lt (show 1 < p by omega), Nat.one_mul, Nat.mod_mod] at h2
    exact h2
/-- Pocklington's step -/
theorem pock {N q s a p : Nat} (hq : Pr q) (hN : N = q * s + 1) (h1 : a ^ (q * s) % N = 1) (h2 : Nat.gcd (a ^ s % N + N - 1) N = 1) (hp : Pr p) (hd : p ∣ N) : q ∣ p - 1 := by
  have p2 := hp.1
  refine Classical.byContradiction fun hn => ?_
  have m1 : a ^ (q * s) % p = 1 := by
    rw [← Nat.mod_mod_of_dvd _ hd, h1]
    exact Nat.mod_eq_of_lt (by omega)
  have na : ¬ p ∣ a := by
    intro hpa
    have s0 : q * s ≠ 0 := by
      intro e
      rw [e] at hN
      subst hN
      have := Nat.le_of_dvd (by omega) hd
      omega
    have : p ∣ a ^ (q * s) := Nat.dvd_trans hpa (Nat.dvd_trans (by simp) (Nat.pow_dvd_pow a (Nat.one_le_iff_ne_zero.2 s0)))
    rw [(Nat.dvd_iff_mod_eq_zero ..).1 this] at m1
    omega
  have F := fermat hp na
  have c : Nat.gcd q (p - 1) = 1 := hq.cop hn
  have b1 : (a ^ s) ^ q % p = 1 := by rw [← Nat.pow_mul, Nat.mul_comm s q]; exact m1
  have b2 : (a ^ s) ^ (p - 1) % p = 1 := by rw [← Nat.pow_mul, Nat.mul_comm, Nat.pow_mul, Nat.pow_mod, F, Nat.one_pow]; exact Nat.mod_eq_of_lt (by omega)
  have b := pow_gcd p2 _ _ b1 b2
  rw [c, Nat.pow_one] at b
  have : p ∣ a ^ s % N + N - 1 := by
    have e1 : (a ^ s % N) % p = 1 := by rw [Nat.mod_mod_of_dvd _ hd, b]
    obtain ⟨k, rfl⟩ := hd
    generalize a ^ s % (p * k) = x at *
    have := Nat.div_add_mod x p
    rw [e1] at this
    rw [← this, show p * (x / p) + 1 + p * k - 1 = p * (x / p + k) by rw [Nat.mul_add]; omega]
    exact Nat.dvd_mul_right _ _
  have := Nat.dvd_gcd this hd
  rw [h2] at this
  have := Nat.le_of_dvd (by omega) this
  omega
/-- each number from 2 on has a prime divisor -/
theorem has_prime : ∀ n, 2 ≤ n → ∃ p, Pr p ∧ p ∣ n := by
  intro n
  induction n using Nat.strongRecOn with
  | _ n ih =>
    intro h2
    by_cases h : Pr n
    · exact ⟨n, h, Nat.dvd_refl n⟩
    · have : ∃ d, d ∣ n ∧ d ≠ 1 ∧ d ≠ n := by
        refine Classical.byContradiction fun hn => h ⟨h2, fun d hd => ?_⟩
        refine Classical.byContradiction fun hc => hn ⟨d, hd, fun e => hc (.inl e), fun e => hc (.inr e)⟩
      obtain ⟨d, hd, d1, dn⟩ := this
      have dle := Nat.le_of_dvd (by omega) hd
      have d0 : d ≠ 0 := by
        rintro rfl
        have := Nat.zero_dvd.1 hd
        omega
      obtain ⟨p, hp, hpd⟩ := ih d (by omega) (by omega)
      exact ⟨p, hp, Nat.dvd_trans hpd hd⟩
/-- a number none of whose prime divisors is small is prime -/
theorem prime_of {n f : Nat} (h2 : 2 ≤ n) (hf : n < f * f) (h : ∀ p, Pr p → p ∣ n → f ≤ p) : Pr n := by
  refine ⟨h2, fun d hd => ?_⟩
  obtain ⟨e, rfl⟩ := hd
  by_cases d1 : d = 1
  · exact .inl d1
  by_cases e1 : e = 1
  · exact .inr (by rw [e1, Nat.mul_one])
  have d0 : d ≠ 0 := by rintro rfl; omega
  have e0 : e ≠ 0 := by rintro rfl; omega
  obtain ⟨p, hp, pd⟩ := has_prime d (by omega)
  obtain ⟨q, hq, qe⟩ := has_prime e (by omega)
  have l1 := h p hp (Nat.dvd_trans pd (Nat.dvd_mul_right _ _))
  have l2 := h q hq (Nat.dvd_trans qe (Nat.dvd_mul_left _ _))
  have := Nat.mul_le_mul (Nat.le_trans l1 (Nat.le_of_dvd (by omega) pd)) (Nat.le_trans l2 (Nat.le_of_dvd (by omega) qe))
  omega
/-- powers modulo m, by squares -/
def pw (m : Nat) : Nat → Nat → Nat → Nat
  | 0, _, _ => 1 % m
  | k + 1, a, n => bif n % 2 == 1 then pw m k (a * a % m) (n / 2) * a % m else pw m k (a * a % m) (n / 2)
theorem pw_eq (m : Nat) : ∀ k a n, n < 2 ^ k → pw m k a n = a ^ n % m
  | 0, a, n, h => by
    have : n = 0 := by simpa using h
    subst this
    simp [pw]
  | k + 1, a, n, h => by
    have ih := pw_eq m k (a * a % m) (n / 2) (by rw [Nat.pow_succ] at h; omega)
    rw [pw, ih]
    have e : (a * a % m) ^ (n / 2) % m = a ^ (2 * (n / 2)) % m := by
      rw [← Nat.pow_mod, Nat.pow_mul, Nat.pow_two]
    rw [e]
    rcases Nat.mod_two_eq_zero_or_one n with h0 | h1
    · rw [h0]
      simp only [show ((0 : Nat) == 1) = false from rfl, cond_false]
      congr 2
      omega
    · rw [h1]
      simp only [show ((1 : Nat) == 1) = true from rfl, cond_true]
      conv => rhs; rw [show n = 2 * (n / 2) + 1 by omega, Nat.pow_succ, Nat.mul_mod]
      rw [Nat.mul_mod, Nat.mod_mod]
/-- no divisor among k, k+2, .. -/
def tri (n : Nat) : Nat → Nat → Bool
  | 0, _ => true
  | f + 1, k => (n % k != 0) && tri n f (k + 1)
theorem tri_spec (n : Nat) : ∀ f k, tri n f k = true → ∀ d, k ≤ d → d < k + f → ¬ d ∣ n
  | 0, k, _, d, h1, h2 => absurd h2 (by omega)
  | f + 1, k, h, d, h1, h2 => by
    rw [tri, Bool.and_eq_true] at h
    by_cases e : d = k
    · subst e
      intro hd
      rw [(Nat.dvd_iff_mod_eq_zero ..).1 hd] at h
      simp at h
    · exact tri_spec n f (k + 1) h.2 d (by omega) (by omega)
theorem prime_tri {n f : Nat} (h2 : 2 ≤ n) (h : tri n f 2 = true) (hf : n < (f + 2) * (f + 2)) : Pr n := by
  refine prime_of h2 hf fun p hp hd => ?_
  refine Classical.byContradiction fun hn => ?_
  exact tri_spec n f 2 h p hp.1 (by omega) hd
/-- what has to be computed for one prime q of N - 1 -/
def chk (N q s a k : Nat) : Bool := (N == q * s + 1) && (Nat.blt (q * s) (2 ^ k)) && (pw N k a (q * s) == 1) && (Nat.gcd (pw N k a s + N - 1) N == 1)
theorem chk_dvd {N q s a k p : Nat} (hq : Pr q) (h : chk N q s a k = true) (hp : Pr p) (hd : p ∣ N) : q ∣ p - 1 := by
  simp only [chk, Bool.and_eq_true, beq_iff_eq] at h
  obtain ⟨⟨⟨h1, h2⟩, h3⟩, h4⟩ := h
  have h2 : q * s < 2 ^ k := by simpa using h2
  have sl : s < 2 ^ k := Nat.lt_of_le_of_lt (Nat.le_mul_of_pos_left _ (by have := hq.1; omega)) h2
  rw [pw_eq _ _ _ _ h2] at h3
  rw [pw_eq _ _ _ _ sl] at h4
  exact pock hq h1 h3 h4 hp hd
theorem prime_chk2 {N q s a k r t b : Nat} (hq : Pr q) (hr : Pr r) (h0 : 2 ≤ N) (h1 : chk N q s a k = true) (h2 : chk N r t b k = true) (hne : ¬ q ∣ r) (hf : N < (q * r) * (q * r)) : Pr N := by
  refine prime_of h0 hf fun p hp hd => ?_
  have k1 := chk_dvd hq h1 hp hd
  have k2 := chk_dvd hr h2 hp hd
  have : q * r ∣ p - 1 := Nat.Coprime.mul_dvd_of_dvd_of_dvd (hq.cop hne) k1 k2
  have := Nat.le_of_dvd (by have := hp.1; omega) this
  omega
theorem prime_chk1 {N q s a k : Nat} (hq : Pr q) (h0 : 2 ≤ N) (h1 : chk N q s a k = true) (hf : N < q * q) : Pr N := by
  refine prime_of h0 hf fun p hp hd => ?_
  have k1 := chk_dvd hq h1 hp hd
  have := Nat.le_of_dvd (by have := hp.1; omega) k1
  omega
theorem pr_8574133 : Pr 8574133 := prime_tri (f := 2930) (by decide) (by decide +kernel) (by decide)
theorem pr_127 : Pr 127 := prime_tri (f := 10) (by decide) (by decide +kernel) (by decide)
theorem pr_75707 : Pr 75707 := prime_tri (f := 280) (by decide) (by decide +kernel) (by decide)
theorem pr_1923133 : Pr 1923133 := prime_tri (f := 1390) (by decide) (by decide +kernel) (by decide)
theorem pr_q3 : Pr 1919519569386763 :=
  prime_chk2 (q := 8574133) (s := 223873314) (a := 2) (r := 127) (t := 15114327318006) (b := 2) (k := 64) pr_8574133 pr_127 (by decide) (by decide +kernel) (by decide +kernel) (by decide) (by decide)
theorem pr_q2 : Pr 75445702479781427272750846543864801 :=
  prime_chk2 (q := 1919519569386763) (s := 39304471641247389600) (a := 2) (r := 75707) (t := 996548568557483816196003626400) (b := 2) (k := 128) pr_q3 pr_75707 (by decide) (by decide +kernel) (by decide +kernel) (by decide) (by decide)
theorem pr_q1 : Pr 74058212732561358302231226437062788676166966415465897661863160754340907 :=
  prime_chk2 (q := 75445702479781427272750846543864801) (s := 981609426360740691344999861639072106) (a := 2) (r := 1923133) (t := 38509147694185143878364744631319200843710219946028640589009268082) (b := 2) (k := 256) pr_q2 pr_1923133 (by decide) (by decide +kernel) (by decide +kernel) (by decide) (by decide)
theorem pr_25519 : Pr 57896044618658097711785492504343953926634992332820282019728792003956564819949 :=
  prime_chk1 (q := 74058212732561358302231226437062788676166966415465897661863160754340907) (s := 781764) (a := 2) (k := 256) pr_q1 (by decide) (by decide +kernel) (by decide)
end Go.Proofs.YtdcpicbkemmakabDoor.P
