/- Texts that were joined: Prime, PrimeL, OrdN, ShM, ShN, NmN, ScD, AdN. -/
import Derived.Test.YtdcpicbkemmakaaDoorRows
import Derived.Test.YtdcpicbkemmakaaDoorQQMathToMulV
/- Fermat's little theorem, Pocklington's test, and that 2^255 - 19 is a prime. -/
namespace Go.Proofs.YtdcpicbkemmakaaDoor.P
def Pr (p : Nat) : Prop := 2 ≤ p ∧ ∀ d, d ∣ p → d = 1 ∨ d = p
theorem Pr.cop {p k : Nat} (h : Pr p) (hk : ¬ p ∣ k) : Nat.gcd p k = 1 := by
  rcases h.2 _ (Nat.gcd_dvd_left p k) with e | e
  · exact e
  · exact absurd (e ▸ Nat.gcd_dvd_right p k) hk
theorem Pr.euclid {p a b : Nat} (h : Pr p) (hd : p ∣ a * b) : p ∣ a ∨ p ∣ b := by
  by_cases ha : p ∣ a
  · exact .inl ha
  · exact .inr (Nat.Coprime.dvd_of_dvd_mul_left (h.cop ha) hd)
/-- choose -/
def C : Nat → Nat → Nat
  | _, 0 => 1
  | 0, _ + 1 => 0
  | n + 1, k + 1 => C n k + C n (k + 1)
theorem C_big : ∀ n k, n < k → C n k = 0
  | 0, 0, h => absurd h (by omega)
  | 0, k + 1, _ => rfl
  | n + 1, 0, h => absurd h (by omega)
  | n + 1, k + 1, h => by rw [C, C_big n k (by omega), C_big n (k + 1) (by omega)]
theorem C_self : ∀ n, C n n = 1
  | 0 => rfl
  | n + 1 => by rw [C, C_self n, C_big n (n + 1) (by omega)]
theorem C_mul : ∀ n k, (k + 1) * C (n + 1) (k + 1) = (n + 1) * C n k
  | 0, 0 => rfl
  | 0, k + 1 => by simp [C]
  | n + 1, 0 => by
    have := C_mul n 0
    simp [C] at this ⊢
    omega
  | n + 1, k + 1 => by
    have h1 := C_mul n k
    have h2 := C_mul n (k + 1)
    rw [C]
    have e : C (n + 1) (k + 1) = C n k + C n (k + 1) := by rw [C]
    grind
/-- sum of f 0 .. f (n-1) -/
def S (f : Nat → Nat) : Nat → Nat
  | 0 => 0
  | n + 1 => S f n + f n
theorem S_congr {f g : Nat → Nat} : ∀ n, (∀ k, k < n → f k = g k) → S f n = S g n
  | 0, _ => rfl
  | n + 1, h => by rw [S, S, S_congr n (fun k hk => h k (by omega)), h n (by omega)]
theorem S_add {f g : Nat → Nat} : ∀ n, S (fun k => f k + g k) n = S f n + S g n
  | 0 => rfl
  | n + 1 => by simp only [S, S_add n]; omega
theorem S_mul {f : Nat → Nat} (c : Nat) : ∀ n, S (fun k => c * f k) n = c * S f n
  | 0 => rfl
  | n + 1 => by simp only [S, S_mul c n, Nat.mul_add]
theorem S_front {f : Nat → Nat} : ∀ n, S f (n + 1) = f 0 + S (fun k => f (k + 1)) n
  | 0 => by simp [S]
  | n + 1 => by rw [S, S_front n, S]; omega
theorem S_dvd {f : Nat → Nat} (p : Nat) : ∀ n, (∀ k, k < n → p ∣ f k) → p ∣ S f n
  | 0, _ => Nat.dvd_zero p
  | n + 1, h => Nat.dvd_add (S_dvd p n fun k hk => h k (by omega)) (h n (by omega))
theorem binom (a : Nat) : ∀ n, (a + 1) ^ n = S (fun k => C n k * a ^ k) (n + 1)
  | 0 => by simp [S, C]
  | n + 1 => by
    rw [Nat.pow_succ, binom a n, S_front (n + 1)]
    have e : S (fun k => C (n + 1) (k + 1) * a ^ (k + 1)) (n + 1) = S (fun k => a * (C n k * a ^ k)) (n + 1) + S (fun k => C n (k + 1) * a ^ (k + 1)) (n + 1) := by
      rw [← S_add]
      refine S_congr _ fun k _ => ?_
      rw [C, Nat.pow_succ]
      grind
    rw [e, S_mul]
    have f : S (fun k => C n k * a ^ k) (n + 2) = S (fun k => C n k * a ^ k) (n + 1) := by
      rw [S, C_big n (n + 1) (by omega)]; simp
    rw [S_front (n + 1)] at f
    have c0 : C (n + 1) 0 = C n 0 := by cases n <;> rfl
    rw [c0]
    generalize S (fun k => C n (k + 1) * a ^ (k + 1)) (n + 1) = u at *
    generalize S (fun k => C n k * a ^ k) (n + 1) = v at *
    rw [Nat.mul_add, Nat.mul_comm v a]
    omega
theorem fermat0 {p : Nat} (h : Pr p) : ∀ a, a ^ p % p = a % p
  | 0 => by rw [Nat.zero_pow (by have := h.1; omega)]
  | a + 1 => by
    have h1 := h.1
    obtain ⟨q, rfl⟩ : ∃ q, p = q + 2 := ⟨p - 2, by omega⟩
    rw [binom, S_front, S]
    have d : (q + 2) ∣ S (fun k => C (q + 2) (k + 1) * a ^ (k + 1)) (q + 1) := by
      refine S_dvd _ _ fun k hk => ?_
      refine Nat.dvd_trans ?_ (Nat.dvd_mul_right _ _)
      rcases h.euclid (a := k + 1) (b := C (q + 2) (k + 1)) (C_mul (q + 1) k ▸ Nat.dvd_mul_right _ _) with e | e
      · exact absurd (Nat.le_of_dvd (by omega) e) (by omega)
      · exact e
    have ih := fermat0 h a
    obtain ⟨s, hs⟩ := d
    rw [hs, C_self]
    simp only [C, Nat.pow_zero, Nat.one_mul]
    rw [show 1 + ((q + 2) * s + a ^ (q + 1 + 1)) = 1 + a ^ (q + 2) + (q + 2) * s by rw [show q + 1 + 1 = q + 2 from rfl]; omega, Nat.add_mul_mod_self_left, Nat.add_mod, ih, ← Nat.add_mod, Nat.add_comm]
/-- the same modulo m, for naturals -/
theorem dvd_sub_of_mod {m a b : Nat} (h : a % m = b % m) (_ : b ≤ a) : m ∣ a - b := (Nat.dvd_iff_mod_eq_zero ..).2 (Nat.sub_mod_eq_zero_of_mod_eq h)
theorem fermat {p a : Nat} (h : Pr p) (ha : ¬ p ∣ a) : a ^ (p - 1) % p = 1 := by
  have h1 := h.1
  have a0 : 0 < a := Nat.pos_of_ne_zero fun e => ha (e ▸ Nat.dvd_zero p)
  have e := fermat0 h a
  have e2 : a ^ p = a * a ^ (p - 1) := by
    conv => lhs; rw [show p = (p - 1) + 1 by omega]
    rw [Nat.pow_succ, Nat.mul_comm]
  have pp : 0 < a ^ (p - 1) := Nat.pow_pos a0
  have d : p ∣ a * (a ^ (p - 1) - 1) := by
    rw [Nat.mul_sub, Nat.mul_one, ← e2]
    refine dvd_sub_of_mod e ?_
    rw [e2]
    exact Nat.le_mul_of_pos_right _ pp
  rcases h.euclid d with f | f
  · exact absurd f ha
  · obtain ⟨s, hs⟩ := f
    rw [show a ^ (p - 1) = 1 + p * s by omega, Nat.add_mul_mod_self_left, Nat.mod_eq_of_lt (by omega)]
theorem pow_gcd {p b : Nat} (hp : 2 ≤ p) : ∀ m n, b ^ m % p = 1 → b ^ n % p = 1 → b ^ (Nat.gcd m n) % p = 1 := by
  intro m n
  induction m, n using Nat.gcd.induction with
  | H0 n => intro _ h; simpa using h
  | H1 m n hm ih =>
    intro h1 h2
    rw [Nat.gcd_rec]
    refine ih ?_ h1
    have e : b ^ n = (b ^ m) ^ (n / m) * b ^ (n % m) := by
      rw [← Nat.pow_mul, ← Nat.pow_add, Nat.div_add_mod]
    rw [e, Nat.mul_mod, Nat.pow_mod, h1, Nat.one_pow, Nat.mod_eq_of_lt (show 1 < p by omega), Nat.one_mul, Nat.mod_mod] at h2
    exact h2
/-- Pocklington's step -/
theorem pock {N q s a p : Nat} (hq : Pr q) (hN : N = q * s + 1) (h1 : a ^ (q * s) % N = 1) (h2 : Nat.gcd (a ^ s % N + N - 1) N = 1) (hp : Pr p) (hd : p ∣ N) : q ∣ p - 1 := by
  have p2 := hp.1
  refine Classical.byContradiction fun hn => ?_
  have m1 : a ^ (q * s) % p = 1 := by
    rw [← Nat.mod_mod_of_dvd _ hd, h1]
    exact Nat.mod_eq_of_lt (by omega)
  have na : ¬ p ∣ a := by
    intro hpa
    have s0 : q * s ≠ 0 := by
      intro e
      rw [e] at hN
      subst hN
      have := Nat.le_of_dvd (by omega) hd
      omega
    have : p ∣ a ^ (q * s) := Nat.dvd_trans hpa (Nat.dvd_trans (by simp) (Nat.pow_dvd_pow a (Nat.one_le_iff_ne_zero.2 s0)))
    rw [(Nat.dvd_iff_mod_eq_zero ..).1 this] at m1
    omega
  have F := fermat hp na
  have c : Nat.gcd q (p - 1) = 1 := hq.cop hn
  have b1 : (a ^ s) ^ q % p = 1 := by rw [← Nat.pow_mul, Nat.mul_comm s q]; exact m1
  have b2 : (a ^ s) ^ (p - 1) % p = 1 := by rw [← Nat.pow_mul, Nat.mul_comm, Nat.pow_mul, Nat.pow_mod, F, Nat.one_pow]; exact Nat.mod_eq_of_lt (by omega)
  have b := pow_gcd p2 _ _ b1 b2
  rw [c, Nat.pow_one] at b
  have : p ∣ a ^ s % N + N - 1 := by
    have e1 : (a ^ s % N) % p = 1 := by rw [Nat.mod_mod_of_dvd _ hd, b]
    obtain ⟨k, rfl⟩ := hd
    generalize a ^ s % (p * k) = x at *
    have := Nat.div_add_mod x p
    rw [e1] at this
    rw [← this, show p * (x / p) + 1 + p * k - 1 = p * (x / p + k) by rw [Nat.mul_add]; omega]
    exact Nat.dvd_mul_right _ _
  have := Nat.dvd_gcd this hd
  rw [h2] at this
  have := Nat.le_of_dvd (by omega) this
  omega
/-- each number from 2 on has a prime divisor -/
theorem has_prime : ∀ n, 2 ≤ n → ∃ p, Pr p ∧ p ∣ n := by
  intro n
  induction n using Nat.strongRecOn with
  | _ n ih =>
    intro h2
    by_cases h : Pr n
    · exact ⟨n, h, Nat.dvd_refl n⟩
    · have : ∃ d, d ∣ n ∧ d ≠ 1 ∧ d ≠ n := by
        refine Classical.byContradiction fun hn => h ⟨h2, fun d hd => ?_⟩
        refine Classical.byContradiction fun hc => hn ⟨d, hd, fun e => hc (.inl e), fun e => hc (.inr e)⟩
      obtain ⟨d, hd, d1, dn⟩ := this
      have dle := Nat.le_of_dvd (by omega) hd
      have d0 : d ≠ 0 := by
        rintro rfl
        have := Nat.zero_dvd.1 hd
        omega
      obtain ⟨p, hp, hpd⟩ := ih d (by omega) (by omega)
      exact ⟨p, hp, Nat.dvd_trans hpd hd⟩
/-- a number none of whose prime divisors is small is prime -/
theorem prime_of {n f : Nat} (h2 : 2 ≤ n) (hf : n < f * f) (h : ∀ p, Pr p → p ∣ n → f ≤ p) : Pr n := by
  refine ⟨h2, fun d hd => ?_⟩
  obtain ⟨e, rfl⟩ := hd
  by_cases d1 : d = 1
  · exact .inl d1
  by_cases e1 : e = 1
  · exact .inr (by rw [e1, Nat.mul_one])
  have d0 : d ≠ 0 := by rintro rfl; omega
  have e0 : e ≠ 0 := by rintro rfl; omega
  obtain ⟨p, hp, pd⟩ := has_prime d (by omega)
  obtain ⟨q, hq, qe⟩ := has_prime e (by omega)
  have l1 := h p hp (Nat.dvd_trans pd (Nat.dvd_mul_right _ _))
  have l2 := h q hq (Nat.dvd_trans qe (Nat.dvd_mul_left _ _))
  have := Nat.mul_le_mul (Nat.le_trans l1 (Nat.le_of_dvd (by omega) pd)) (Nat.le_trans l2 (Nat.le_of_dvd (by omega) qe))
  omega
/-- powers modulo m, by squares -/
def pw (m : Nat) : Nat → Nat → Nat → Nat
  | 0, _, _ => 1 % m
  | k + 1, a, n => bif n % 2 == 1 then pw m k (a * a % m) (n / 2) * a % m else pw m k (a * a % m) (n / 2)
theorem pw_eq (m : Nat) : ∀ k a n, n < 2 ^ k → pw m k a n = a ^ n % m
  | 0, a, n, h => by
    have : n = 0 := by simpa using h
    subst this
    simp [pw]
  | k + 1, a, n, h => by
    have ih := pw_eq m k (a * a % m) (n / 2) (by rw [Nat.pow_succ] at h; omega)
    rw [pw, ih]
    have e : (a * a % m) ^ (n / 2) % m = a ^ (2 * (n / 2)) % m := by
      rw [← Nat.pow_mod, Nat.pow_mul, Nat.pow_two]
    rw [e]
    rcases Nat.mod_two_eq_zero_or_one n with h0 | h1
    · rw [h0]
      simp only [show ((0 : Nat) == 1) = false from rfl, cond_false]
      congr 2
      omega
    · rw [h1]
      simp only [show ((1 : Nat) == 1) = true from rfl, cond_true]
      conv => rhs; rw [show n = 2 * (n / 2) + 1 by omega, Nat.pow_succ, Nat.mul_mod]
      rw [Nat.mul_mod, Nat.mod_mod]
/-- no divisor among k, k+2, .. -/
def tri (n : Nat) : Nat → Nat → Bool
  | 0, _ => true
  | f + 1, k => (n % k != 0) && tri n f (k + 1)
theorem tri_spec (n : Nat) : ∀ f k, tri n f k = true → ∀ d, k ≤ d → d < k + f → ¬ d ∣ n
  | 0, k, _, d, h1, h2 => absurd h2 (by omega)
  | f + 1, k, h, d, h1, h2 => by
    rw [tri, Bool.and_eq_true] at h
    by_cases e : d = k
    · subst e
      intro hd
      rw [(Nat.dvd_iff_mod_eq_zero ..).1 hd] at h
      simp at h
    · exact tri_spec n f (k + 1) h.2 d (by omega) (by omega)
theorem prime_tri {n f : Nat} (h2 : 2 ≤ n) (h : tri n f 2 = true) (hf : n < (f + 2) * (f + 2)) : Pr n := by
  refine prime_of h2 hf fun p hp hd => ?_
  refine Classical.byContradiction fun hn => ?_
  exact tri_spec n f 2 h p hp.1 (by omega) hd
/-- what has to be computed for one prime q of N - 1 -/
def chk (N q s a k : Nat) : Bool := (N == q * s + 1) && (Nat.blt (q * s) (2 ^ k)) && (pw N k a (q * s) == 1) && (Nat.gcd (pw N k a s + N - 1) N == 1)
theorem chk_dvd {N q s a k p : Nat} (hq : Pr q) (h : chk N q s a k = true) (hp : Pr p) (hd : p ∣ N) : q ∣ p - 1 := by
  simp only [chk, Bool.and_eq_true, beq_iff_eq] at h
  obtain ⟨⟨⟨h1, h2⟩, h3⟩, h4⟩ := h
  have h2 : q * s < 2 ^ k := by simpa using h2
  have sl : s < 2 ^ k := Nat.lt_of_le_of_lt (Nat.le_mul_of_pos_left _ (by have := hq.1; omega)) h2
  rw [pw_eq _ _ _ _ h2] at h3
  rw [pw_eq _ _ _ _ sl] at h4
  exact pock hq h1 h3 h4 hp hd
theorem prime_chk2 {N q s a k r t b : Nat} (hq : Pr q) (hr : Pr r) (h0 : 2 ≤ N) (h1 : chk N q s a k = true) (h2 : chk N r t b k = true) (hne : ¬ q ∣ r) (hf : N < (q * r) * (q * r)) : Pr N := by
  refine prime_of h0 hf fun p hp hd => ?_
  have k1 := chk_dvd hq h1 hp hd
  have k2 := chk_dvd hr h2 hp hd
  have : q * r ∣ p - 1 := Nat.Coprime.mul_dvd_of_dvd_of_dvd (hq.cop hne) k1 k2
  have := Nat.le_of_dvd (by have := hp.1; omega) this
  omega
theorem prime_chk1 {N q s a k : Nat} (hq : Pr q) (h0 : 2 ≤ N) (h1 : chk N q s a k = true) (hf : N < q * q) : Pr N := by
  refine prime_of h0 hf fun p hp hd => ?_
  have k1 := chk_dvd hq h1 hp hd
  have := Nat.le_of_dvd (by have := hp.1; omega) k1
  omega
theorem pr_8574133 : Pr 8574133 := prime_tri (f := 2930) (by decide) (by decide +kernel) (by decide)
theorem pr_127 : Pr 127 := prime_tri (f := 10) (by decide) (by decide +kernel) (by decide)
theorem pr_75707 : Pr 75707 := prime_tri (f := 280) (by decide) (by decide +kernel) (by decide)
theorem pr_1923133 : Pr 1923133 := prime_tri (f := 1390) (by decide) (by decide +kernel) (by decide)
theorem pr_q3 : Pr 1919519569386763 :=
  prime_chk2 (q := 8574133) (s := 223873314) (a := 2) (r := 127) (t := 15114327318006) (b := 2) (k := 64) pr_8574133 pr_127 (by decide) (by decide +kernel) (by decide +kernel) (by decide) (by decide)
theorem pr_q2 : Pr 75445702479781427272750846543864801 :=
  prime_chk2 (q := 1919519569386763) (s := 39304471641247389600) (a := 2) (r := 75707) (t := 996548568557483816196003626400) (b := 2) (k := 128) pr_q3 pr_75707 (by decide) (by decide +kernel) (by decide +kernel) (by decide) (by decide)
theorem pr_q1 : Pr 74058212732561358302231226437062788676166966415465897661863160754340907 :=
  prime_chk2 (q := 75445702479781427272750846543864801) (s := 981609426360740691344999861639072106) (a := 2) (r := 1923133) (t := 38509147694185143878364744631319200843710219946028640589009268082) (b := 2) (k := 256) pr_q2 pr_1923133 (by decide) (by decide +kernel) (by decide +kernel) (by decide) (by decide)
theorem pr_25519 : Pr 57896044618658097711785492504343953926634992332820282019728792003956564819949 :=
  prime_chk1 (q := 74058212732561358302231226437062788676166966415465897661863160754340907) (s := 781764) (a := 2) (k := 256) pr_q1 (by decide) (by decide +kernel) (by decide)
end Go.Proofs.YtdcpicbkemmakaaDoor.P

/- That 2^252 + 27742317777372353535851937790883648493 is a prime. Mathematics alone (the factors were found by a program of algebra; that they fit is shown here). -/
namespace Go.Proofs.YtdcpicbkemmakaaDoor.P
theorem prL_1224481 : Pr 1224481 := prime_tri (f := 1106) (by decide) (by decide +kernel) (by decide)
theorem prL_531581 : Pr 531581 := prime_tri (f := 729) (by decide) (by decide +kernel) (by decide)
theorem prL_12575597_51 : Pr 1257559732178653 :=
  prime_chk2 (q := 1224481) (s := 1027014492) (a := 2) (r := 531581) (t := 2365697292) (b := 2) (k := 64) prL_1224481 prL_531581 (by decide) (by decide +kernel) (by decide +kernel) (by decide) (by decide)
theorem prL_44341556_62 : Pr 4434155615661930479 :=
  prime_chk1 (q := 1257559732178653) (s := 3526) (a := 2) (k := 64) prL_12575597_51 (by decide) (by decide +kernel) (by decide)
theorem prL_17205459_88 : Pr 172054593956031949258510691 :=
  prime_chk1 (q := 4434155615661930479) (s := 38802110) (a := 2) (k := 128) prL_44341556_62 (by decide) (by decide +kernel) (by decide)
theorem prL_19757330_134 : Pr 19757330305831588566944191468367130476339 :=
  prime_chk1 (q := 172054593956031949258510691) (s := 114831751082918) (a := 2) (k := 256) prL_17205459_88 (by decide) (by decide +kernel) (by decide)
theorem prL_27660262_138 : Pr 276602624281642239937218680557139826668747 :=
  prime_chk1 (q := 19757330305831588566944191468367130476339) (s := 14) (a := 2) (k := 256) prL_19757330_134 (by decide) (by decide +kernel) (by decide)
theorem pr_L : Pr 7237005577332262213973186563042994240857116359379907606001950938285454250989 :=
  prime_chk1 (q := 276602624281642239937218680557139826668747) (s := 26163907866482859529727157400808004) (a := 2) (k := 256) prL_27660262_138 (by decide) (by decide +kernel) (by decide)
end Go.Proofs.YtdcpicbkemmakaaDoor.P

/- How often the base makes nothing: a prime. Mathematics alone. -/
namespace Go.Proofs.YtdcpicbkemmakaaDoor.Cv
open Go.Proofs.YtdcpicbkemmakaaDoor
def ord : Nat := 7237005577332262213973186563042994240857116359379907606001950938285454250989
theorem ord_pr : P.Pr ord := P.pr_L
end Go.Proofs.YtdcpicbkemmakaaDoor.Cv

/- Polynomials modulo the base's order: of a degree below n there is one that has given values at n places. Mathematics alone. -/
namespace Go.Proofs.YtdcpicbkemmakaaDoor.So
open Go.Proofs.YtdcpicbkemmakaaDoor
/-- A multiple of the order; the same modulo the order. -/
def Z (a : Int) : Prop := (Cv.ord : Int) ∣ a
def K (a b : Int) : Prop := Z (a - b)
theorem Z.add {a b : Int} (ha : Z a) (hb : Z b) : Z (a + b) := Int.dvd_add ha hb
theorem Z.sub {a b : Int} (ha : Z a) (hb : Z b) : Z (a - b) := Int.dvd_sub ha hb
theorem Z.neg {a : Int} (ha : Z a) : Z (-a) := (Int.dvd_neg).2 ha
theorem Z.mul (c : Int) {a : Int} (ha : Z a) : Z (c * a) := Int.dvd_trans ha (Int.dvd_mul_left _ _)
theorem Z.zero : Z 0 := Int.dvd_zero _
theorem Z.of_eq {a b : Int} (h : Z a) (e : b = a) : Z b := by rw [e]; exact h
theorem Z.prime {a b : Int} (h : Z (a * b)) : Z a ∨ Z b := by
  have h2 : Cv.ord ∣ a.natAbs * b.natAbs := by rw [← Int.natAbs_mul]; exact Int.ofNat_dvd_left.1 h
  rcases Cv.ord_pr.euclid h2 with h | h
  · exact .inl (Int.ofNat_dvd_left.2 h)
  · exact .inr (Int.ofNat_dvd_left.2 h)
theorem K.refl (a : Int) : K a a := by unfold K; rw [Int.sub_self]; exact Z.zero
theorem K.symm {a b : Int} (h : K a b) : K b a := (Z.neg h).of_eq (by omega)
theorem K.trans {a b c : Int} (h : K a b) (h' : K b c) : K a c := (Z.add h h').of_eq (by omega)
theorem K.add {a b a' b' : Int} (h : K a b) (h' : K a' b') : K (a + a') (b + b') := (Z.add h h').of_eq (by omega)
theorem K.sub {a b a' b' : Int} (h : K a b) (h' : K a' b') : K (a - a') (b - b') := (Z.sub h h').of_eq (by omega)
theorem K.mul {a b a' b' : Int} (h : K a b) (h' : K a' b') : K (a * a') (b * b') := (Z.add (Z.mul a' h) (Z.mul b h')).of_eq (by grind)
theorem K.z {a b : Int} (h : K a b) (hb : Z b) : Z a := (Z.add h hb).of_eq (by omega)
theorem K.of_eq {a b : Int} (h : a = b) : K a b := by rw [h]; exact K.refl _
theorem one_no : ¬ Z 1 := fun h => by
  have := Int.le_of_dvd (by decide) h
  exact absurd this (by decide)
/-- A small number that is not 0 is no multiple. -/
theorem small_no {a : Int} (h0 : a ≠ 0) (h1 : -(Cv.ord : Int) < a) (h2 : a < Cv.ord) : ¬ Z a := fun h => by
  obtain ⟨q, hq⟩ := h
  have hp : (0 : Int) < Cv.ord := by decide
  have : q = 0 := by
    rcases Int.lt_trichotomy q 0 with h | h | h
    · have := Int.mul_le_mul_of_nonneg_left (show q ≤ -1 by omega) (Int.le_of_lt hp)
      omega
    · exact h
    · have := Int.mul_le_mul_of_nonneg_left (show 1 ≤ q by omega) (Int.le_of_lt hp)
      omega
  rw [this, Int.mul_zero] at hq
  exact h0 hq
/-- What is left. -/
def rd (a : Int) : Nat := (a % (Cv.ord : Int)).toNat
theorem pos : (0 : Int) < Cv.ord := by decide
theorem rd_lt (a : Int) : rd a < Cv.ord := by
  have h1 := Int.emod_nonneg a (Int.ne_of_gt pos)
  have h2 := Int.emod_lt_of_pos a pos
  unfold rd
  omega
theorem rd_K (a : Int) : K (rd a : Int) a := by
  have h1 := Int.emod_nonneg a (Int.ne_of_gt pos)
  have h3 := Int.emod_add_mul_ediv a (Cv.ord : Int)
  unfold rd K
  rw [Int.toNat_of_nonneg h1]
  exact Int.dvd_trans (Int.dvd_mul_right _ (-(a / (Cv.ord : Int)))) (by rw [Int.mul_neg]; exact ⟨1, by omega⟩)
theorem K_eq {m n : Nat} (hm : m < Cv.ord) (hn : n < Cv.ord) (h : K (m : Int) n) : m = n := by
  rcases Nat.lt_or_ge m n with g | g
  · refine Classical.byContradiction fun _ => small_no (a := (m : Int) - n) (by omega) (by omega) (by omega) h
  · rcases Nat.eq_or_lt_of_le g with e | e
    · exact e.symm
    · exact absurd h (small_no (a := (m : Int) - n) (by omega) (by omega) (by omega))
theorem rd_eq {a b : Int} (h : K a b) : rd a = rd b := K_eq (rd_lt a) (rd_lt b) (((rd_K a).trans h).trans (rd_K b).symm)
theorem rd_nat {n : Nat} (h : n < Cv.ord) : rd n = n := K_eq (rd_lt _) h (rd_K _)
theorem rd_mod (n : Nat) : rd n = n % Cv.ord := by
  unfold rd
  rw [← Int.natCast_emod, Int.toNat_natCast]
theorem K_mod (n : Nat) : K ((n % Cv.ord : Nat) : Int) n := by rw [← rd_mod]; exact rd_K _
theorem inv_some {a : Int} (h : ¬ Z a) : ∃ b : Int, K (a * b) 1 := by
  have hg : Nat.gcd a.natAbs Cv.ord = 1 := by
    rcases Cv.ord_pr.2 _ (Nat.gcd_dvd_right a.natAbs Cv.ord) with e | e
    · exact e
    · exact absurd (Int.ofNat_dvd_left.2 (e ▸ Nat.gcd_dvd_left a.natAbs Cv.ord)) h
  have hk : (¬ Cv.ord ∣ a.natAbs) := fun hd => h (Int.ofNat_dvd_left.2 hd)
  have hf := P.fermat Cv.ord_pr hk
  have e1 : Z (((a.natAbs ^ (Cv.ord - 2) : Nat) : Int) * a.natAbs - 1) := by
    have e2 : a.natAbs ^ (Cv.ord - 1) = a.natAbs ^ (Cv.ord - 2) * a.natAbs := by
      rw [show Cv.ord - 1 = Cv.ord - 2 + 1 by decide, Nat.pow_succ]
    rw [e2] at hf
    have h3 := K_mod (a.natAbs ^ (Cv.ord - 2) * a.natAbs)
    rw [hf] at h3
    exact (Z.neg h3).of_eq (by push_cast; omega)
  rcases Int.natAbs_eq a with e | e
  · exact ⟨((a.natAbs ^ (Cv.ord - 2) : Nat) : Int), e1.of_eq (by rw [Int.mul_comm, ← e])⟩
  · refine ⟨-((a.natAbs ^ (Cv.ord - 2) : Nat) : Int), e1.of_eq ?_⟩
    generalize ((a.natAbs ^ (Cv.ord - 2) : Nat) : Int) = t
    rw [show a * -t - 1 = -a * t - 1 by grind, show -a = (a.natAbs : Int) by omega, Int.mul_comm]
/-- A polynomial's value. -/
def ev : List Int → Int → Int
  | [], _ => 0
  | a :: c, x => a + x * ev c x
/-- The values of a polynomial of a degree less than n. -/
def Po (n : Nat) (f : Int → Int) : Prop := ∃ c : List Int, c.length ≤ n ∧ ∀ x, K (f x) (ev c x)
theorem Po.congr {n : Nat} {f g : Int → Int} (h : Po n f) (e : ∀ x, K (g x) (f x)) : Po n g := by
  obtain ⟨c, hc, h⟩ := h
  exact ⟨c, hc, fun x => (e x).trans (h x)⟩
theorem Po.mono {m n : Nat} {f : Int → Int} (h : Po m f) (hn : m ≤ n) : Po n f := by
  obtain ⟨c, hc, h⟩ := h
  exact ⟨c, Nat.le_trans hc hn, h⟩
theorem Po.zero (n : Nat) : Po n (fun _ => 0) := ⟨[], Nat.zero_le _, fun _ => K.refl _⟩
theorem Po.ev (c : List Int) : Po c.length (ev c) := ⟨c, Nat.le_refl _, fun _ => K.refl _⟩
def padd : List Int → List Int → List Int
  | [], d => d
  | c, [] => c
  | a :: c, b :: d => (a + b) :: padd c d
theorem padd_ev : ∀ c d x, So.ev (padd c d) x = So.ev c x + So.ev d x
  | [], d, x => by simp [padd, So.ev]
  | a :: c, [], x => by simp [padd, So.ev]
  | a :: c, b :: d, x => by
    simp only [padd, So.ev, padd_ev c d x]
    grind
theorem padd_len : ∀ c d : List Int, (padd c d).length ≤ max c.length d.length
  | [], d => by simp [padd]
  | a :: c, [] => by simp [padd]
  | a :: c, b :: d => by
    have := padd_len c d
    simp only [padd, List.length_cons]
    omega
theorem Po.add {n : Nat} {f g : Int → Int} (h : Po n f) (h' : Po n g) : Po n (fun x => f x + g x) := by
  obtain ⟨c, hc, h⟩ := h
  obtain ⟨d, hd, h'⟩ := h'
  refine ⟨padd c d, ?_, fun x => ?_⟩
  · have := padd_len c d
    omega
  · rw [padd_ev]
    exact (h x).add (h' x)
theorem smul_ev (a : Int) : ∀ c x, So.ev (c.map (a * ·)) x = a * So.ev c x
  | [], x => by simp [So.ev]
  | b :: c, x => by
    simp only [List.map_cons, So.ev, smul_ev a c x]
    grind
theorem Po.smul {n : Nat} {f : Int → Int} (a : Int) (h : Po n f) : Po n (fun x => a * f x) := by
  obtain ⟨c, hc, h⟩ := h
  refine ⟨c.map (a * ·), by rw [List.length_map]; exact hc, fun x => ?_⟩
  rw [smul_ev]
  exact (K.refl a).mul (h x)
theorem Po.sub {n : Nat} {f g : Int → Int} (h : Po n f) (h' : Po n g) : Po n (fun x => f x - g x) :=
  (h.add (h'.smul (-1))).congr fun x => K.of_eq (by grind)
theorem Po.const (a : Int) : Po 1 (fun _ => a) := ⟨[a], Nat.le_refl _, fun x => K.of_eq (by simp [So.ev])⟩
theorem Po.lin {n : Nat} {f : Int → Int} (a : Int) (h : Po n f) : Po (n + 1) (fun x => (x - a) * f x) := by
  have hx : Po (n + 1) (fun x => x * f x) := by
    obtain ⟨c, hc, h⟩ := h
    refine ⟨0 :: c, Nat.succ_le_succ hc, fun x => ?_⟩
    simp only [So.ev]
    exact ((K.refl x).mul (h x)).trans (K.of_eq (by omega))
  exact (hx.sub ((h.smul a).mono (Nat.le_succ n))).congr fun x => K.of_eq (by grind)
/-- A root is taken out. -/
theorem factor : ∀ (c : List Int) (a : Int), ∃ q : List Int, q.length = c.length - 1 ∧ ∀ x, So.ev c x = So.ev c a + (x - a) * So.ev q x
  | [], a => ⟨[], rfl, fun x => by simp [So.ev]⟩
  | [b], a => ⟨[], rfl, fun x => by simp [So.ev]⟩
  | b :: e :: t, a => by
    obtain ⟨q, hq, h⟩ := factor (e :: t) a
    refine ⟨So.ev (e :: t) a :: q, by simp [hq], fun x => ?_⟩
    have hx := h x
    have e1 : So.ev (b :: e :: t) x = b + x * So.ev (e :: t) x := rfl
    have e2 : So.ev (b :: e :: t) a = b + a * So.ev (e :: t) a := rfl
    have e3 : So.ev (So.ev (e :: t) a :: q) x = So.ev (e :: t) a + x * So.ev q x := rfl
    rw [e1, e2, e3, hx]
    grind
/-- Places of which no two are the same. -/
def Apart (l : List Int) : Prop := l.Pairwise fun a b => ¬ Z (a - b)
theorem roots : ∀ (l : List Int) (c : List Int), c.length ≤ l.length → Apart l → (∀ a ∈ l, Z (So.ev c a)) → ∀ x, Z (So.ev c x)
  | [], c, hc, _, _, x => by
    cases c with
    | nil => exact Z.zero
    | cons a c => simp at hc
  | a :: l, c, hc, ha, hz, x => by
    obtain ⟨q, hq, h⟩ := factor c a
    have h0 := hz a List.mem_cons_self
    have ha' := List.pairwise_cons.1 ha
    have hr := roots l q (by simp at hc; omega) ha'.2 (fun b hb => by
      have h1 := hz b (List.mem_cons_of_mem _ hb)
      rw [h b] at h1
      have h2 : Z ((b - a) * So.ev q b) := (h1.sub h0).of_eq (by omega)
      rcases Z.prime h2 with h3 | h3
      · exact absurd ((Z.neg h3).of_eq (by omega)) (ha'.1 b hb)
      · exact h3)
    rw [h x]
    exact h0.add (Z.mul _ (hr x))
theorem Po.roots {n : Nat} {f : Int → Int} (h : Po n f) {l : List Int} (hl : n ≤ l.length) (ha : Apart l) (hz : ∀ a ∈ l, Z (f a)) (x : Int) : Z (f x) := by
  obtain ⟨c, hc, h⟩ := h
  exact (h x).z (So.roots l c (by omega) ha (fun a hm => (h a).symm.z (hz a hm)) x)
/-- There is one alone. -/
theorem Po.only {n : Nat} {f g : Int → Int} (h : Po n f) (h' : Po n g) {l : List Int} (hl : n ≤ l.length) (ha : Apart l) (he : ∀ a ∈ l, K (f a) (g a)) (x : Int) : K (f x) (g x) :=
  (h.sub h').roots hl ha he x
/-- Points: the polynomial through them. -/
abbrev Pts := List (Int × Int)
def Good (l : Pts) : Prop := Apart (l.map Prod.fst)
def IsAt (l : Pts) (f : Int → Int) : Prop := Po l.length f ∧ ∀ q ∈ l, K (f q.1) q.2
theorem IsAt.only {l : Pts} {f g : Int → Int} (hg : Good l) (h : IsAt l f) (h' : IsAt l g) (x : Int) : K (f x) (g x) :=
  h.1.only h'.1 (by rw [List.length_map]; exact Nat.le_refl _) hg (fun a ha => by
    obtain ⟨q, hq, rfl⟩ := List.mem_map.1 ha
    exact (h.2 q hq).trans (h'.2 q hq).symm) x
/-- The product of all differences. -/
def prod : List Int → Int → Int
  | [], _ => 1
  | a :: l, x => (x - a) * prod l x
theorem prod_po : ∀ l, Po (l.length + 1) (prod l)
  | [] => Po.const 1
  | a :: l => (prod_po l).lin a
theorem prod_root : ∀ (l : List Int) (a : Int), a ∈ l → prod l a = 0
  | b :: l, a, h => by
    rcases List.mem_cons.1 h with e | h
    · rw [prod, e, Int.sub_self, Int.zero_mul]
    · rw [prod, prod_root l a h, Int.mul_zero]
theorem prod_no : ∀ (l : List Int) (x : Int), (∀ a ∈ l, ¬ Z (x - a)) → ¬ Z (prod l x)
  | [], _, _ => one_no
  | a :: l, x, h => fun hz => by
    rcases Z.prime hz with h1 | h1
    · exact h a List.mem_cons_self h1
    · exact prod_no l x (fun b hb => h b (List.mem_cons_of_mem _ hb)) h1
/-- There is one. -/
theorem at_some : ∀ l : Pts, Good l → ∃ f, IsAt l f
  | [], _ => ⟨fun _ => 0, Po.zero 0, fun q hq => by cases hq⟩
  | (X, Y) :: l, hg => by
    have hg' := List.pairwise_cons.1 (show Apart (X :: l.map Prod.fst) from hg)
    obtain ⟨f, hf⟩ := at_some l hg'.2
    have hn : ¬ Z (prod (l.map Prod.fst) X) := prod_no _ _ hg'.1
    obtain ⟨b, hb⟩ := inv_some hn
    refine ⟨fun x => f x + (Y - f X) * b * prod (l.map Prod.fst) x, ?_, fun q hq => ?_⟩
    · have h1 := prod_po (l.map Prod.fst)
      rw [List.length_map] at h1
      exact (hf.1.mono (Nat.le_succ _)).add (h1.smul _)
    · rcases List.mem_cons.1 hq with e | hq
      · subst e
        show Z _
        exact (Z.mul (Y - f X) hb).of_eq (by simp only []; grind)
      · have h0 := prod_root (l.map Prod.fst) q.1 (List.mem_map.2 ⟨q, hq, rfl⟩)
        show K (f q.1 + _) _
        rw [h0, Int.mul_zero, Int.add_zero]
        exact hf.2 q hq
end Go.Proofs.YtdcpicbkemmakaaDoor.So

/- Newton's differences make the polynomial through given points. Mathematics alone. -/
namespace Go.Proofs.YtdcpicbkemmakaaDoor.So
open Go.Proofs.YtdcpicbkemmakaaDoor
section newton
variable (X : Nat → Int) (D : Nat → Nat → Int) (n : Nat)
/-- The product of the differences from place a on. -/
def W (a : Nat) : Nat → Int → Int
  | 0, _ => 1
  | k + 1, x => W a k x * (x - X (a + k))
def nwt (a : Nat) : Nat → Int → Int
  | 0, _ => D a 0
  | k + 1, x => nwt a k x + D (a + k + 1) (k + 1) * W X a (k + 1) x
theorem W_front (a : Nat) (x : Int) : ∀ k, W X a (k + 1) x = (x - X a) * W X (a + 1) k x
  | 0 => by simp [W]
  | k + 1 => by
    rw [W, W_front a x k, W, show a + 1 + k = a + (k + 1) by omega]
    grind
def IsD : Prop := ∀ a k, a + k + 1 < n → K (D (a + k + 1) (k + 1) * (X (a + k + 1) - X a)) (D (a + k + 1) k - D (a + k) k)
theorem nwt_next (h : IsD X D n) (a : Nat) (x : Int) : ∀ k, a + k + 1 < n → K ((x - X a) * (nwt X D (a + 1) k x - nwt X D a k x)) ((D (a + k + 1) k - D (a + k) k) * W X a (k + 1) x)
  | 0, _ => K.of_eq (by simp [nwt, W]; grind)
  | k + 1, hk => by
    have ih := nwt_next h a x k (by omega)
    have hd := h a k (by omega)
    have w1 := W_front X a x k
    have w2 := W_front X a x (k + 1)
    have w3 : W X (a + 1) (k + 1) x = W X (a + 1) k x * (x - X (a + k + 1)) := by
      rw [W, show a + 1 + k = a + k + 1 by omega]
    rw [w1] at ih
    rw [w2, w3]
    have e1 : nwt X D (a + 1) (k + 1) x = nwt X D (a + 1) k x + D (a + k + 1 + 1) (k + 1) * (W X (a + 1) k x * (x - X (a + k + 1))) := by
      rw [nwt, w3, show a + 1 + k + 1 = a + k + 1 + 1 by omega]
    have e2 : nwt X D a (k + 1) x = nwt X D a k x + D (a + k + 1) (k + 1) * ((x - X a) * W X (a + 1) k x) := by
      rw [nwt, w1]
    rw [e1, e2, show a + (k + 1) + 1 = a + k + 1 + 1 by omega, show a + (k + 1) = a + k + 1 by omega]
    generalize W X (a + 1) k x = w at *
    generalize nwt X D (a + 1) k x = p at *
    generalize nwt X D a k x = q at *
    generalize D (a + k + 1) (k + 1) = d1 at *
    generalize D (a + k + 1 + 1) (k + 1) = d2 at *
    generalize D (a + k + 1) k - D (a + k) k = d3 at *
    generalize X (a + k + 1) = xk at *
    generalize X a = xa at *
    unfold K at *
    refine (ih.sub (Z.mul ((x - xa) * w) hd)).of_eq ?_
    grind
theorem nwt_nev (h : IsD X D n) (a : Nat) (x : Int) (k : Nat) (hk : a + k + 1 < n) : K ((X (a + k + 1) - X a) * nwt X D a (k + 1) x) ((x - X a) * nwt X D (a + 1) k x - (x - X (a + k + 1)) * nwt X D a k x) := by
  have ih := nwt_next X D n h a x k hk
  have hd := h a k hk
  rw [show nwt X D a (k + 1) x = nwt X D a k x + D (a + k + 1) (k + 1) * W X a (k + 1) x from rfl]
  generalize W X a (k + 1) x = w at *
  generalize nwt X D (a + 1) k x = p at *
  generalize nwt X D a k x = q at *
  generalize D (a + k + 1) (k + 1) = d1 at *
  generalize D (a + k + 1) k - D (a + k) k = d3 at *
  generalize X (a + k + 1) = xk at *
  generalize X a = xa at *
  unfold K at *
  refine ((Z.mul w hd).sub ih).of_eq ?_
  grind
theorem nwt_at (h : IsD X D n) (hx : ∀ i j, i < j → j < n → ¬ Z (X j - X i)) : ∀ k a i, a + k < n → i ≤ k → K (nwt X D a k (X (a + i))) (D (a + i) 0)
  | 0, a, i, _, hi => by
    obtain rfl : i = 0 := by omega
    exact K.refl _
  | k + 1, a, i, hk, hi => by
    have hn := nwt_nev X D n h a (X (a + i)) k (by omega)
    have hne := hx a (a + k + 1) (by omega) (by omega)
    refine Classical.byContradiction fun hc => ?_
    have main : K ((X (a + k + 1) - X a) * nwt X D a (k + 1) (X (a + i))) ((X (a + k + 1) - X a) * D (a + i) 0) := by
      refine hn.trans ?_
      by_cases h0 : i = 0
      · subst h0
        have := nwt_at h hx k a 0 (by omega) (Nat.zero_le _)
        rw [Nat.add_zero] at *
        have e := ((K.refl (X a - X (a + k + 1))).mul this)
        exact (K.of_eq (by grind)).trans ((K.refl (0 : Int)).sub e |>.trans (K.of_eq (by grind)))
      · by_cases h1 : i = k + 1
        · subst h1
          have := nwt_at h hx k (a + 1) k (by omega) (Nat.le_refl _)
          rw [show a + 1 + k = a + (k + 1) by omega] at this
          rw [show a + k + 1 = a + (k + 1) by omega]
          have e := ((K.refl (X (a + (k + 1)) - X a)).mul this)
          exact (K.of_eq (by grind)).trans e
        · have t1 := nwt_at h hx k (a + 1) (i - 1) (by omega) (by omega)
          have t2 := nwt_at h hx k a i (by omega) (by omega)
          rw [show a + 1 + (i - 1) = a + i by omega] at t1
          have e := ((K.refl (X (a + i) - X a)).mul t1).sub ((K.refl (X (a + i) - X (a + k + 1))).mul t2)
          exact e.trans (K.of_eq (by grind))
    have hz : Z ((X (a + k + 1) - X a) * (nwt X D a (k + 1) (X (a + i)) - D (a + i) 0)) := (show Z _ from main).of_eq (by grind)
    rcases Z.prime hz with h2 | h2
    · exact hne h2
    · exact hc h2
theorem W_po (a : Nat) : ∀ k, Po (k + 1) (W X a k)
  | 0 => Po.const 1
  | k + 1 => ((W_po a k).lin (X (a + k))).congr fun x => K.of_eq (by rw [W]; grind)
theorem nwt_po (a : Nat) : ∀ k, Po (k + 1) (nwt X D a k)
  | 0 => Po.const (D a 0)
  | k + 1 => ((nwt_po a k).mono (Nat.le_succ _)).add ((W_po X a (k + 1)).smul (D (a + k + 1) (k + 1)))
/-- From the last one on. -/
def hrn (x : Int) : Nat → Int
  | 0 => 0
  | m + 1 => hrn x m * (x - X (n - (m + 1))) + D (n - (m + 1)) (n - (m + 1))
theorem hrn_nwt (x : Int) : ∀ k, k < n → nwt X D 0 k x + hrn X D n x (n - (k + 1)) * W X 0 (k + 1) x = hrn X D n x n
  | 0, hk => by
    obtain ⟨m, rfl⟩ : ∃ m, n = m + 1 := ⟨n - 1, by omega⟩
    rw [show m + 1 - (0 + 1) = m by omega, hrn, show m + 1 - (m + 1) = 0 by omega]
    simp [nwt, W]
    grind
  | k + 1, hk => by
    have ih := hrn_nwt x k (by omega)
    rw [← ih]
    obtain ⟨m, hm⟩ : ∃ m, n - (k + 1) = m + 1 := ⟨n - (k + 1) - 1, by omega⟩
    have w : W X 0 (k + 1 + 1) x = W X 0 (k + 1) x * (x - X (k + 1)) := by rw [W, Nat.zero_add]
    have nn : nwt X D 0 (k + 1) x = nwt X D 0 k x + D (k + 1) (k + 1) * W X 0 (k + 1) x := by rw [nwt, Nat.zero_add]
    rw [hm, show n - (k + 1 + 1) = m by omega, hrn, show n - (m + 1) = k + 1 by omega, nn, w]
    generalize W X 0 (k + 1) x = w
    generalize hrn X D n x m = h
    generalize D (k + 1) (k + 1) = d
    grind
theorem hrn_is (x : Int) (hn : 0 < n) : hrn X D n x n = nwt X D 0 (n - 1) x := by
  have := hrn_nwt X D n x (n - 1) (by omega)
  rw [show n - (n - 1 + 1) = 0 by omega, hrn, Int.zero_mul, Int.add_zero] at this
  exact this.symm
end newton
/-- Differences as the document takes them. -/
def ml (a b : Nat) : Nat := (a + Cv.ord - b) % Cv.ord
def iv (a : Nat) : Nat := a ^ (Cv.ord - 2) % Cv.ord
def dd (X Y : Nat → Nat) (i : Nat) : Nat → Nat
  | 0 => Y i
  | k + 1 => ml (dd X Y i k) (dd X Y (i - 1) k) * iv (ml (X i) (X (i - (k + 1)))) % Cv.ord
theorem ml_K {a b : Nat} (hb : b < Cv.ord) : K (ml a b : Int) ((a : Int) - b) := by
  unfold ml
  refine (K_mod _).trans ?_
  have e : ((a + Cv.ord - b : Nat) : Int) = (a : Int) + (Cv.ord : Int) - b := by omega
  rw [e]
  exact ⟨1, by rw [Int.mul_one]; omega⟩
theorem iv_lt (a : Nat) : iv a < Cv.ord := Nat.mod_lt _ (by decide)
theorem iv_K {a : Nat} (h : ¬ Z (a : Int)) : K ((a : Int) * (iv a : Int)) 1 := by
  have hk : ¬ Cv.ord ∣ a := fun hd => h (Int.ofNat_dvd.2 hd)
  have hf := P.fermat Cv.ord_pr hk
  rw [show Cv.ord - 1 = Cv.ord - 2 + 1 by decide, Nat.pow_succ] at hf
  have h3 := K_mod (a ^ (Cv.ord - 2) * a)
  rw [hf] at h3
  have h4 : K (iv a : Int) ((a ^ (Cv.ord - 2) : Nat) : Int) := K_mod _
  generalize a ^ (Cv.ord - 2) = t at *
  push_cast at h3
  exact ((K.refl (a : Int)).mul h4).trans ((K.of_eq (Int.mul_comm _ _)).trans h3.symm)
theorem dd_lt (X Y : Nat → Nat) (hY : ∀ i, Y i < Cv.ord) (i k : Nat) : dd X Y i k < Cv.ord := by
  cases k with
  | zero => exact hY i
  | succ k => exact Nat.mod_lt _ (by decide)
theorem dd_is (X Y : Nat → Nat) (n : Nat) (hY : ∀ i, Y i < Cv.ord) (hX : ∀ i, X i < Cv.ord) (hx : ∀ i j, i < j → j < n → ¬ Z ((X j : Int) - X i)) : IsD (fun i => X i) (fun i k => dd X Y i k) n := fun a k hk => by
  have hn := hx a (a + k + 1) (by omega) hk
  show K ((dd X Y (a + k + 1) (k + 1) : Int) * _) _
  rw [dd, show a + k + 1 - 1 = a + k by omega, show a + k + 1 - (k + 1) = a by omega]
  have h1 := ml_K (a := X (a + k + 1)) (hX a)
  have h2 := ml_K (a := dd X Y (a + k + 1) k) (dd_lt X Y hY (a + k) k)
  have h3 := iv_K (a := ml (X (a + k + 1)) (X a)) (fun h => hn (h1.symm.z h))
  generalize ml (X (a + k + 1)) (X a) = m at *
  have h4 := K_mod (ml (dd X Y (a + k + 1) k) (dd X Y (a + k) k) * iv m)
  generalize ml (dd X Y (a + k + 1) k) (dd X Y (a + k) k) = t at *
  generalize (dd X Y (a + k + 1) k : Int) - dd X Y (a + k) k = d at *
  generalize (X (a + k + 1) : Int) - X a = e at *
  rw [Int.natCast_mul] at h4
  refine (h4.mul h1.symm).trans ?_
  refine ((K.of_eq (by grind)).trans ((K.refl (t : Int)).mul h3)).trans ?_
  exact (K.of_eq (Int.mul_one _)).trans h2
/-- The document's answer: Horner's way over Newton's differences. -/
def hn (X Y : Nat → Nat) (n x : Nat) : Nat → Nat
  | 0 => 0
  | m + 1 => (hn X Y n x m * ml x (X (n - (m + 1))) + dd X Y (n - (m + 1)) (n - (m + 1))) % Cv.ord
theorem hn_K (X Y : Nat → Nat) (n x : Nat) (hX : ∀ i, X i < Cv.ord) : ∀ m, K (hn X Y n x m : Int) (hrn (fun i => (X i : Int)) (fun i k => (dd X Y i k : Int)) n x m)
  | 0 => K.refl _
  | m + 1 => by
    have ih := hn_K X Y n x hX m
    have h1 := ml_K (a := x) (hX (n - (m + 1)))
    rw [hn, hrn]
    refine (K_mod _).trans ?_
    push_cast
    exact (ih.mul h1).add (K.refl _)
theorem hn_lt (X Y : Nat → Nat) (n x m : Nat) : hn X Y n x m < Cv.ord := by
  cases m with
  | zero => exact (by decide : 0 < Cv.ord)
  | succ m => exact Nat.mod_lt _ (by decide)
/-- It is the value of the polynomial through the points. -/
theorem hn_is (X Y : Nat → Nat) (n x : Nat) (h0 : 0 < n) (hY : ∀ i, Y i < Cv.ord) (hX : ∀ i, X i < Cv.ord) (hx : ∀ i j, i < j → j < n → ¬ Z ((X j : Int) - X i)) {f : Int → Int} (hf : IsAt ((List.range n).map fun i => ((X i : Int), (Y i : Int))) f) : hn X Y n x n = rd (f x) := by
  have hd := dd_is X Y n hY hX hx
  have hp := nwt_po (fun i => (X i : Int)) (fun i k => (dd X Y i k : Int)) 0 (n - 1)
  rw [show n - 1 + 1 = n by omega] at hp
  have hl : ((List.range n).map fun i => ((X i : Int), (Y i : Int))).length = n := by rw [List.length_map, List.length_range]
  have ha : IsAt ((List.range n).map fun i => ((X i : Int), (Y i : Int))) (nwt (fun i => (X i : Int)) (fun i k => (dd X Y i k : Int)) 0 (n - 1)) := by
    refine ⟨by rw [hl]; exact hp, fun q hq => ?_⟩
    obtain ⟨i, hi, rfl⟩ := List.mem_map.1 hq
    have hi := List.mem_range.1 hi
    have := nwt_at _ _ n hd hx (n - 1) 0 i (by omega) (by omega)
    rw [Nat.zero_add] at this
    exact this
  have hg : Good ((List.range n).map fun i => ((X i : Int), (Y i : Int))) := by
    unfold Good Apart
    rw [List.map_map, List.pairwise_map]
    refine List.Pairwise.imp_of_mem ?_ List.pairwise_lt_range
    intro a b _ hb hab hz
    exact hx a b hab (List.mem_range.1 hb) ((Z.neg hz).of_eq (by simp only [Function.comp]; omega))
  have e1 := ha.only hg hf (x : Int)
  have e2 := hn_K X Y n x hX n
  rw [hrn_is _ _ _ _ h0] at e2
  exact K_eq (hn_lt _ _ _ _ _) (rd_lt _) ((e2.trans e1).trans (rd_K _).symm)
end Go.Proofs.YtdcpicbkemmakaaDoor.So

/- A natural number as Go has it: four words. -/
namespace Go.Proofs.YtdcpicbkemmakaaDoor
open Go.RowKit
/-- A number as Go has it. -/
abbrev nm (n : Nat) : Nm := Nm.of ((n : Nat) : Int)
theorem nm_ok (n : Nat) : (nm n).ok := Nm.of_ok _
theorem nm_nat {n : Nat} (h : n < 2 ^ 256) : (nm n).nat = n := Nm.of_nat h
theorem Nm.eq_nm {x : Nm} {n : Nat} (h : x.ok) (e : x.nat = n) : x = nm n := by rw [← e]; exact Nm.eq_of_nat h
end Go.Proofs.YtdcpicbkemmakaaDoor

/- What package scalar must keep: its calls' contracts, by numbers modulo the order. -/
namespace Go.Proofs.YtdcpicbkemmakaaDoor
open Go.RowKit
set_option linter.unusedSimpArgs false
theorem ord_lt : Cv.ord < 2 ^ 256 := by decide
theorem ord_pos : 0 < Cv.ord := by decide
def SLC : Prop := ∀ w, Calls Tryd.prog 14 #[] w fun e w' => e = .returned (N (nm Cv.ord)) ∧ Below w.heap.size w w'
def SLowC : Prop := ∀ x : Nm, x.ok → ∀ w, Calls Tryd.prog 40 #[N x] w fun e w' => e = .returned (N (nm (x.nat % Cv.ord))) ∧ Below w.heap.size w w'
def SAddC : Prop := ∀ x y : Nm, x.ok → y.ok → ∀ w, Calls Tryd.prog 17 #[N x, N y] w fun e w' => e = .returned (N (nm ((x.nat + y.nat) % Cv.ord))) ∧ Below w.heap.size w w'
def SMulC : Prop := ∀ x y : Nm, x.ok → y.ok → ∀ w, Calls Tryd.prog 19 #[N x, N y] w fun e w' => e = .returned (N (nm (x.nat * y.nat % Cv.ord))) ∧ Below w.heap.size w w'
def SNegC : Prop := ∀ x : Nm, x.ok → ∀ w, Calls Tryd.prog 18 #[N x] w fun e w' => e = .returned (N (nm ((Cv.ord - x.nat % Cv.ord) % Cv.ord))) ∧ Below w.heap.size w w'
theorem s_nat (n : Nat) : (nm (n % Cv.ord)).nat = n % Cv.ord := nm_nat (Nat.lt_trans (Nat.mod_lt _ ord_pos) ord_lt)
def SInvC : Prop := ∀ x : Nm, x.ok → ∀ w, Calls Tryd.prog 20 #[N x] w fun e w' => e = .returned (N (nm (x.nat ^ (Cv.ord - 2) % Cv.ord))) ∧ Below w.heap.size w w'
end Go.Proofs.YtdcpicbkemmakaaDoor

/- limb.Add, limb.Sub and the halves of a product, by numbers. -/
namespace Go.Proofs.YtdcpicbkemmakaaDoor
open Go.RowKit
set_option linter.unusedSimpArgs false
/-- limb.Add and limb.Sub by the numbers that they answer. -/
theorem add_nat (x y : Nm) (ox : x.ok) (oy : y.ok) (w : World) : Calls Tryd.prog 39 #[N x, N y] w fun e w' => e = .returned (.tuple #[N (nm ((x.nat + y.nat) % 2 ^ 256)), .int .u64 (((x.nat + y.nat) / 2 ^ 256 : Nat) : Int)]) ∧ Below w.heap.size w w' := by
  have h := add_fun x y ox oy w
  have e1 : addS x y = nm ((x.nat + y.nat) % 2 ^ 256) := by
    unfold addS nm
    rw [← Nm.nat_cast ox, ← Nm.nat_cast oy, M_cast, ← Int.natCast_add, ← Int.natCast_emod]
  have e2 : addC x y = (((x.nat + y.nat) / 2 ^ 256 : Nat) : Int) := by
    unfold addC
    rw [← Nm.nat_cast ox, ← Nm.nat_cast oy, M_cast, ← Int.natCast_add, ← Int.natCast_ediv]
  rw [e1, e2] at h
  exact h
theorem sub_nat (x y : Nm) (ox : x.ok) (oy : y.ok) (w : World) : Calls Tryd.prog 44 #[N x, N y] w fun e w' => e = .returned (.tuple #[N (nm ((x.nat + 2 ^ 256 - y.nat) % 2 ^ 256)), .int .u64 (if x.nat < y.nat then 1 else 0)]) ∧ Below w.heap.size w w' := by
  have h := sub_fun x y ox oy w
  have lx := Nm.nat_lt ox; have ly := Nm.nat_lt oy
  have p2 : (2 : Nat) ^ 256 = 115792089237316195423570985008687907853269984665640564039457584007913129639936 := by decide
  have e1 : subS x y = nm ((x.nat + 2 ^ 256 - y.nat) % 2 ^ 256) := by
    unfold subS nm M
    rw [← Nm.nat_cast ox, ← Nm.nat_cast oy]
    congr 1
    rw [p2] at *
    omega
  have e2 : subC x y = if x.nat < y.nat then 1 else 0 := by
    unfold subC M
    rw [← Nm.nat_cast ox, ← Nm.nat_cast oy]
    rw [p2] at *
    split <;> omega
  rw [e1, e2] at h
  exact h
theorem WL_nm (n : Nat) : WL n = nm (n % 2 ^ 256) := by
  unfold WL nm
  rw [M_cast, ← Int.natCast_emod]
theorem WH_nm (n : Nat) : WH n = nm (n / 2 ^ 256) := by
  unfold WH nm
  rw [M_cast, ← Int.natCast_ediv]
end Go.Proofs.YtdcpicbkemmakaaDoor
