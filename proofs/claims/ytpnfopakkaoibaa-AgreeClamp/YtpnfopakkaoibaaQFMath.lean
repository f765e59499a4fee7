/- Numbers modulo 2^255 - 19: inverses, roots, Euler's test. Mathematics alone. -/
import Derived.Test.YtpnfopakkaoibaaQPrime
namespace Go.Proofs.Ytpnfopakkaoibaa.F
open Go.Proofs.Ytpnfopakkaoibaa.P
/-- 2^255 - 19. -/
def p : Nat := 57896044618658097711785492504343953926634992332820282019728792003956564819949
theorem pr : Pr p := pr_25519
theorem p_pos : 0 < p := by decide
theorem p_lt : p < 2 ^ 256 := by decide
theorem mod_lt (n : Nat) : n % p < p := Nat.mod_lt _ p_pos
def add (a b : Nat) : Nat := (a + b) % p
def mul (a b : Nat) : Nat := a * b % p
def sub (a b : Nat) : Nat := (a + (p - b % p)) % p
theorem add_lt (a b : Nat) : add a b < p := mod_lt _
theorem mul_lt (a b : Nat) : mul a b < p := mod_lt _
theorem sub_lt (a b : Nat) : sub a b < p := mod_lt _
theorem add_comm (a b : Nat) : add a b = add b a := by unfold add; rw [Nat.add_comm]
theorem mul_comm (a b : Nat) : mul a b = mul b a := by unfold mul; rw [Nat.mul_comm]
theorem add_modl (a b : Nat) : add (a % p) b = add a b := by unfold add; rw [Nat.mod_add_mod]
theorem mul_modl (a b : Nat) : mul (a % p) b = mul a b := by unfold mul; rw [Nat.mod_mul_mod]
theorem mul_modr (a b : Nat) : mul a (b % p) = mul a b := by unfold mul; rw [Nat.mul_mod_mod]
theorem add_assoc (a b c : Nat) : add (add a b) c = add a (add b c) := by unfold add; rw [Nat.mod_add_mod, Nat.add_mod_mod, Nat.add_assoc]
theorem mul_assoc (a b c : Nat) : mul (mul a b) c = mul a (mul b c) := by unfold mul; rw [Nat.mod_mul_mod, Nat.mul_mod_mod, Nat.mul_assoc]
theorem mul_add (a b c : Nat) : mul a (add b c) = add (mul a b) (mul a c) := by unfold mul add; rw [Nat.mul_mod_mod, Nat.mod_add_mod, Nat.add_mod_mod, Nat.mul_add]
theorem mul_one (a : Nat) : mul a 1 = a % p := by unfold mul; rw [Nat.mul_one]
theorem sub_add (a b : Nat) : add (sub a b) b = a % p := by
  unfold add sub
  have h := mod_lt b
  rw [Nat.mod_add_mod, ← Nat.add_mod_mod, Nat.add_assoc, Nat.sub_add_cancel (Nat.le_of_lt h), Nat.add_mod_right]
theorem sub_self (a : Nat) : sub a a = 0 := by
  unfold sub
  have h := mod_lt a
  rw [← Nat.mod_add_mod, show a % p + (p - a % p) = p by omega, Nat.mod_self]
theorem sub_modl (a b : Nat) : sub (a % p) b = sub a b := by unfold sub; rw [Nat.mod_add_mod]
/-- Of two that are not 0 the product is not 0. -/
theorem mul_zero_iff (a b : Nat) : mul a b = 0 ↔ a % p = 0 ∨ b % p = 0 := by
  unfold mul
  rw [← Nat.dvd_iff_mod_eq_zero, ← Nat.dvd_iff_mod_eq_zero, ← Nat.dvd_iff_mod_eq_zero]
  refine ⟨fun h => pr.euclid h, fun h => ?_⟩
  rcases h with h | h
  · exact Nat.dvd_trans h (Nat.dvd_mul_right _ _)
  · exact Nat.dvd_trans h (Nat.dvd_mul_left _ _)
/-- Powers. -/
def pow (a n : Nat) : Nat := a ^ n % p
theorem pow_lt (a n : Nat) : pow a n < p := mod_lt _
theorem pow_modl (a n : Nat) : pow (a % p) n = pow a n := by unfold pow; rw [← Nat.pow_mod]
theorem pow_mul (a b n : Nat) : pow (mul a b) n = mul (pow a n) (pow b n) := by
  unfold mul
  rw [pow_modl]
  unfold pow
  rw [Nat.mul_pow, Nat.mul_mod]
theorem pow_add (a m n : Nat) : pow a (m + n) = mul (pow a m) (pow a n) := by
  unfold pow mul
  rw [Nat.pow_add, Nat.mul_mod]
theorem pow_pow (a m n : Nat) : pow (pow a m) n = pow a (m * n) := by
  show pow (a ^ m % p) n = _
  rw [pow_modl]
  unfold pow
  rw [Nat.pow_mul]
theorem pow_one (a : Nat) : pow a 1 = a % p := by unfold pow; rw [Nat.pow_one]
theorem fermat {a : Nat} (h : a % p ≠ 0) : pow a (p - 1) = 1 := P.fermat pr (fun hd => h ((Nat.dvd_iff_mod_eq_zero ..).1 hd))
theorem pow_zero' {a n : Nat} (h : a % p = 0) (hn : 0 < n) : pow a n = 0 := by
  rw [← pow_modl, h]
  unfold pow
  rw [Nat.zero_pow hn]
  rfl
/-- One over a; 0 of 0. -/
def inv (a : Nat) : Nat := pow a (p - 2)
theorem inv_lt (a : Nat) : inv a < p := pow_lt _ _
theorem inv_zero {a : Nat} (h : a % p = 0) : inv a = 0 := pow_zero' h (by decide)
theorem mul_inv {a : Nat} (h : a % p ≠ 0) : mul a (inv a) = 1 := by
  rw [← mul_modl]
  unfold inv
  rw [← pow_one, ← pow_add, show 1 + (p - 2) = p - 1 by decide]
  exact fermat h
theorem inv_ne {a : Nat} (h : a % p ≠ 0) : inv a % p ≠ 0 := fun h0 => by
  have := (mul_zero_iff a (inv a)).2 (.inr h0)
  rw [mul_inv h] at this
  cases this
/-- Euler's number of a: 0, 1 or p - 1. -/
def chi (a : Nat) : Nat := pow a ((p - 1) / 2)
theorem chi_modl (a : Nat) : chi (a % p) = chi a := pow_modl _ _
theorem chi_mul (a b : Nat) : chi (mul a b) = mul (chi a) (chi b) := pow_mul _ _ _
theorem chi_zero {a : Nat} (h : a % p = 0) : chi a = 0 := pow_zero' h (by decide)
theorem sq_one {x : Nat} (hx : x < p) (h : mul x x = 1) : x = 1 ∨ x = p - 1 := by
  have h1 : mul (x + (p - 1)) (x + 1) = 0 := by
    unfold mul at *
    have e : (x + (p - 1)) * (x + 1) + 1 = x * x + p * (x + 1) := by
      have hp : p = (p - 1) + 1 := by decide
      generalize p - 1 = q at *
      rw [hp]
      simp only [Nat.mul_add, Nat.add_mul, Nat.mul_one, Nat.one_mul]
      omega
    have e2 : ((x + (p - 1)) * (x + 1) + 1) % p = 1 % p := by
      rw [e, Nat.add_mul_mod_self_left, h]
      rfl
    have hlt := mod_lt ((x + (p - 1)) * (x + 1))
    rw [← Nat.mod_add_mod] at e2
    generalize (x + (p - 1)) * (x + 1) % p = y at *
    rcases Nat.lt_or_ge (y + 1) p with hy | hy
    · rw [Nat.mod_eq_of_lt hy] at e2
      have : 1 % p = 1 := rfl
      omega
    · have hy' : y + 1 = p := by omega
      rw [hy', Nat.mod_self] at e2
      exact absurd e2 (by decide)
  rcases (mul_zero_iff _ _).1 h1 with h2 | h2
  · left
    have hp : 1 < p := by decide
    rcases Nat.lt_or_ge x 1 with h3 | h3
    · have : x = 0 := by omega
      subst this
      rw [Nat.zero_add, Nat.mod_eq_of_lt (by omega)] at h2
      omega
    · rw [show x + (p - 1) = (x - 1) + p by omega, Nat.add_mod_right, Nat.mod_eq_of_lt (by omega)] at h2
      omega
  · right
    rcases Nat.lt_or_ge (x + 1) p with h3 | h3
    · rw [Nat.mod_eq_of_lt h3] at h2
      omega
    · omega
theorem chi_sq {a : Nat} (h : a % p ≠ 0) : mul (chi a) (chi a) = 1 := by
  unfold chi
  rw [← pow_add, show (p - 1) / 2 + (p - 1) / 2 = p - 1 by decide]
  exact fermat h
theorem chi_one {a : Nat} (h : a % p ≠ 0) : chi a = 1 ∨ chi a = p - 1 := sq_one (pow_lt _ _) (chi_sq h)
theorem chi_pw (a : Nat) : chi a = pw p 256 a ((p - 1) / 2) := (pw_eq p 256 a ((p - 1) / 2) (by decide)).symm
theorem chi_two : chi 2 = p - 1 := (chi_pw 2).trans (by decide +kernel)
/-- A root of -1. -/
def im : Nat := pow 2 ((p - 1) / 4)
theorem im_sq : mul im im = p - 1 := by
  unfold im
  rw [← pow_add, show (p - 1) / 4 + (p - 1) / 4 = (p - 1) / 2 by decide]
  exact chi_two
/-- Is there a root? -/
def ok (a : Nat) : Bool := decide (chi a ≠ p - 1)
/-- One of the two, if there is one. -/
def cand (a : Nat) : Nat := if mul (pow a ((p + 3) / 8)) (pow a ((p + 3) / 8)) = a % p then pow a ((p + 3) / 8) else mul (pow a ((p + 3) / 8)) im
theorem cand_lt (a : Nat) : cand a < p := by
  unfold cand
  split
  · exact pow_lt _ _
  · exact mul_lt _ _
theorem neg_sq (x : Nat) : mul (p - 1) (p - 1) = 1 ∧ mul (mul x (p - 1)) (p - 1) = x % p := by
  have h : mul (p - 1) (p - 1) = 1 := by decide +kernel
  exact ⟨h, by rw [mul_assoc, h, mul_one]⟩
theorem four (a b c d : Nat) : mul (mul a b) (mul c d) = mul (mul a c) (mul b d) := by
  rw [mul_assoc, mul_assoc, ← mul_assoc b c d, mul_comm b c, mul_assoc c b d]
theorem cand_sq {a : Nat} (h : ok a = true) : mul (cand a) (cand a) = a % p := by
  have h' : chi a ≠ p - 1 := of_decide_eq_true h
  by_cases h0 : a % p = 0
  · unfold cand
    rw [pow_zero' h0 (by decide)]
    rw [if_pos (by rw [h0]; rfl), h0]
    rfl
  have h1 : chi a = 1 := (chi_one h0).resolve_right h'
  have hq : mul (pow a ((p - 1) / 4)) (pow a ((p - 1) / 4)) = 1 := by
    rw [← pow_add, show (p - 1) / 4 + (p - 1) / 4 = (p - 1) / 2 by decide]
    exact h1
  have hr : mul (pow a ((p + 3) / 8)) (pow a ((p + 3) / 8)) = mul a (pow a ((p - 1) / 4)) := by
    rw [← pow_add, show (p + 3) / 8 + (p + 3) / 8 = 1 + (p - 1) / 4 by decide, pow_add, pow_one, mul_modl]
  unfold cand
  split
  · assumption
  · rename_i hne
    rcases sq_one (pow_lt _ _) hq with e | e
    · exact absurd (by rw [hr, e, mul_one]) hne
    · rw [four, hr, im_sq, e]
      exact (neg_sq a).2
theorem ok_iff (a : Nat) : ok a = true ↔ ∃ r, mul r r = a % p := by
  refine ⟨fun h => ⟨_, cand_sq h⟩, fun ⟨r, hr⟩ => ?_⟩
  refine decide_eq_true fun hc => ?_
  by_cases h0 : r % p = 0
  · have : a % p = 0 := by rw [← hr]; exact (mul_zero_iff r r).2 (.inl h0)
    rw [chi_zero this] at hc
    exact absurd hc (by decide)
  · have : chi (mul r r) = 1 := by rw [chi_mul]; exact chi_sq h0
    rw [hr, chi_modl, hc] at this
    exact absurd this (by decide)
/-- The even one of r and -r. -/
def evn (r : Nat) : Nat := if r % 2 = 0 then r else p - r
theorem evn_lt {r : Nat} (h : r < p) : evn r < p := by
  unfold evn
  split
  · exact h
  · omega
theorem neg_eq {r : Nat} (h : r < p) (h0 : r ≠ 0) : p - r = mul r (p - 1) := by
  have e : r * (p - 1) = (p - r) + p * (r - 1) := by
    obtain ⟨q, hq⟩ : ∃ q, p = q + 1 := ⟨p - 1, by decide⟩
    obtain ⟨s, rfl⟩ : ∃ s, r = s + 1 := ⟨r - 1, by omega⟩
    rw [hq] at h ⊢
    rw [Nat.add_sub_cancel, Nat.add_sub_cancel, Nat.add_mul, Nat.add_mul, Nat.mul_comm s q]
    omega
  unfold mul
  rw [e, Nat.add_mul_mod_self_left, Nat.mod_eq_of_lt (by omega)]
theorem neg_mul {r : Nat} (h : r < p) : mul (p - r) (p - r) = mul r r := by
  by_cases h0 : r = 0
  · subst h0
    unfold mul
    rw [Nat.sub_zero, Nat.mul_mod_left]
    exact (Nat.zero_mod p).symm
  · rw [neg_eq h h0, four, (neg_sq 0).1, mul_one]
    exact Nat.mod_eq_of_lt (mul_lt _ _)
theorem evn_sq {r : Nat} (h : r < p) : mul (evn r) (evn r) = mul r r := by
  unfold evn
  split
  · rfl
  · exact neg_mul h
/-- The even root; 0, if there is none. -/
def root (a : Nat) : Nat := if ok a = true then evn (cand a) else 0
theorem root_lt (a : Nat) : root a < p := by
  unfold root
  split
  · exact evn_lt (cand_lt a)
  · exact p_pos
theorem root_sq {a : Nat} (h : ok a = true) : mul (root a) (root a) = a % p := by
  unfold root
  rw [if_pos h, evn_sq (cand_lt a), cand_sq h]
/-- Two whose squares are one are one, or sum up to 0. -/
theorem sq_eq {x y : Nat} (hx : x < p) (hy : y < p) (h : mul x x = mul y y) : x = y ∨ x = sub 0 y := by
  have hs : ∀ z, z < p → sub 0 z = (p - z) % p := fun z hz => by unfold sub; rw [Nat.zero_add, Nat.mod_eq_of_lt hz]
  have h1 : mul (x + y) (x + (p - y)) = 0 := by
    unfold mul at *
    obtain ⟨z, hz⟩ : ∃ z, p = y + z := ⟨p - y, by omega⟩
    have e : (x + y) * (x + (p - y)) + y * y = x * x + p * (x + y) := by
      rw [hz, Nat.add_sub_cancel_left]
      simp only [Nat.mul_add, Nat.add_mul]
      rw [Nat.mul_comm z x, Nat.mul_comm z y, Nat.mul_comm y x]
      omega
    have e2 : ((x + y) * (x + (p - y)) + y * y) % p = y * y % p := by rw [e, Nat.add_mul_mod_self_left, h]
    have e3 : ((x + y) * (x + (p - y)) % p + y * y % p) % p = y * y % p := by rw [← Nat.add_mod]; exact e2
    have l1 := mod_lt ((x + y) * (x + (p - y)))
    have l2 := mod_lt (y * y)
    generalize (x + y) * (x + (p - y)) % p = A at *
    generalize y * y % p = B at *
    rcases Nat.lt_or_ge (A + B) p with h3 | h3
    · rw [Nat.mod_eq_of_lt h3] at e3
      omega
    · rw [Nat.mod_eq_sub_mod h3, Nat.mod_eq_of_lt (by omega)] at e3
      omega
  rcases (mul_zero_iff _ _).1 h1 with h2 | h2
  · right
    rw [hs y hy]
    rcases Nat.lt_or_ge (x + y) p with h3 | h3
    · rw [Nat.mod_eq_of_lt h3] at h2
      have hx0 : x = 0 := by omega
      have hy0 : y = 0 := by omega
      subst hx0 hy0
      rw [Nat.sub_zero, Nat.mod_self]
    · rw [Nat.mod_eq_sub_mod h3, Nat.mod_eq_of_lt (by omega)] at h2
      rw [Nat.mod_eq_of_lt (by omega)]
      omega
  · left
    rcases Nat.lt_or_ge (x + (p - y)) p with h3 | h3
    · rw [Nat.mod_eq_of_lt h3] at h2
      omega
    · rw [Nat.mod_eq_sub_mod h3, Nat.mod_eq_of_lt (by omega)] at h2
      omega
end Go.Proofs.Ytpnfopakkaoibaa.F
