/- Texts that were joined: FMath, FeMath. -/
import Derived.Test.YtjcnfffmciahiaaDoorGrp15
/- Numbers modulo 2^255 - 19: inverses, roots, Euler's test. Mathematics alone. -/
namespace Go.Proofs.YtjcnfffmciahiaaDoor.F
open Go.Proofs.YtjcnfffmciahiaaDoor.P
/-- 2^255 - 19. -/
def p : Nat := 57896044618658097711785492504343953926634992332820282019728792003956564819949
theorem pr : Pr p := pr_25519
theorem p_pos : 0 < p := by decide
theorem p_lt : p < 2 ^ 256 := by decide
theorem mod_lt (n : Nat) : n % p < p := Nat.mod_lt _ p_pos
def add (a b : Nat) : Nat := (a + b) % p
def mul (a b : Nat) : Nat := a * b % p
def sub (a b : Nat) : Nat := (a + (p - b % p)) % p
theorem add_lt (a b : Nat) : add a b < p := mod_lt _
theorem mul_lt (a b : Nat) : mul a b < p := mod_lt _
theorem sub_lt (a b : Nat) : sub a b < p := mod_lt _
theorem add_comm (a b : Nat) : add a b = add b a := by unfold add; rw [Nat.add_comm]
theorem mul_comm (a b : Nat) : mul a b = mul b a := by unfold mul; rw [Nat.mul_comm]
theorem add_modl (a b : Nat) : add (a % p) b = add a b := by unfold add; rw [Nat.mod_add_mod]
theorem add_modr (a b : Nat) : add a (b % p) = add a b := by unfold add; rw [Nat.add_mod_mod]
theorem mul_modl (a b : Nat) : mul (a % p) b = mul a b := by unfold mul; rw [Nat.mod_mul_mod]
theorem mul_modr (a b : Nat) : mul a (b % p) = mul a b := by unfold mul; rw [Nat.mul_mod_mod]
theorem add_assoc (a b c : Nat) : add (add a b) c = add a (add b c) := by unfold add; rw [Nat.mod_add_mod, Nat.add_mod_mod, Nat.add_assoc]
theorem mul_assoc (a b c : Nat) : mul (mul a b) c = mul a (mul b c) := by unfold mul; rw [Nat.mod_mul_mod, Nat.mul_mod_mod, Nat.mul_assoc]
theorem mul_add (a b c : Nat) : mul a (add b c) = add (mul a b) (mul a c) := by unfold mul add; rw [Nat.mul_mod_mod, Nat.mod_add_mod, Nat.add_mod_mod, Nat.mul_add]
theorem mul_one (a : Nat) : mul a 1 = a % p := by unfold mul; rw [Nat.mul_one]
theorem sub_add (a b : Nat) : add (sub a b) b = a % p := by
  unfold add sub
  have h := mod_lt b
  rw [Nat.mod_add_mod, ← Nat.add_mod_mod, Nat.add_assoc, Nat.sub_add_cancel (Nat.le_of_lt h), Nat.add_mod_right]
theorem sub_self (a : Nat) : sub a a = 0 := by
  unfold sub
  have h := mod_lt a
  rw [← Nat.mod_add_mod, show a % p + (p - a % p) = p by omega, Nat.mod_self]
theorem sub_modl (a b : Nat) : sub (a % p) b = sub a b := by unfold sub; rw [Nat.mod_add_mod]
theorem sub_modr (a b : Nat) : sub a (b % p) = sub a b := by unfold sub; rw [Nat.mod_mod]
/-- What with b makes a is a less b. -/
theorem sub_only {a b x : Nat} (hx : x < p) (h : (x + b) % p = a % p) : x = sub a b := by
  unfold sub
  have hb := mod_lt b
  have hd := Nat.div_add_mod b p
  have e : x + b + (p - b % p) = x + p * (b / p + 1) := by
    rw [Nat.mul_add, Nat.mul_one]
    generalize p * (b / p) = t at *
    omega
  rw [← Nat.mod_add_mod, ← h, Nat.mod_add_mod, e, Nat.add_mul_mod_self_left, Nat.mod_eq_of_lt hx]
/-- Of two that are not 0 the product is not 0. -/
theorem mul_zero_iff (a b : Nat) : mul a b = 0 ↔ a % p = 0 ∨ b % p = 0 := by
  unfold mul
  rw [← Nat.dvd_iff_mod_eq_zero, ← Nat.dvd_iff_mod_eq_zero, ← Nat.dvd_iff_mod_eq_zero]
  refine ⟨fun h => pr.euclid h, fun h => ?_⟩
  rcases h with h | h
  · exact Nat.dvd_trans h (Nat.dvd_mul_right _ _)
  · exact Nat.dvd_trans h (Nat.dvd_mul_left _ _)
/-- Powers. -/
def pow (a n : Nat) : Nat := a ^ n % p
theorem pow_lt (a n : Nat) : pow a n < p := mod_lt _
theorem pow_modl (a n : Nat) : pow (a % p) n = pow a n := by unfold pow; rw [← Nat.pow_mod]
theorem pow_mul (a b n : Nat) : pow (mul a b) n = mul (pow a n) (pow b n) := by
  unfold mul
  rw [pow_modl]
  unfold pow
  rw [Nat.mul_pow, Nat.mul_mod]
theorem pow_add (a m n : Nat) : pow a (m + n) = mul (pow a m) (pow a n) := by
  unfold pow mul
  rw [Nat.pow_add, Nat.mul_mod]
theorem pow_pow (a m n : Nat) : pow (pow a m) n = pow a (m * n) := by
  show pow (a ^ m % p) n = _
  rw [pow_modl]
  unfold pow
  rw [Nat.pow_mul]
theorem pow_one (a : Nat) : pow a 1 = a % p := by unfold pow; rw [Nat.pow_one]
theorem fermat {a : Nat} (h : a % p ≠ 0) : pow a (p - 1) = 1 := P.fermat pr (fun hd => h ((Nat.dvd_iff_mod_eq_zero ..).1 hd))
theorem pow_zero' {a n : Nat} (h : a % p = 0) (hn : 0 < n) : pow a n = 0 := by
  rw [← pow_modl, h]
  unfold pow
  rw [Nat.zero_pow hn]
  rfl
/-- One over a; 0 of 0. -/
def inv (a : Nat) : Nat := pow a (p - 2)
theorem inv_lt (a : Nat) : inv a < p := pow_lt _ _
theorem inv_modl (a : Nat) : inv (a % p) = inv a := pow_modl _ _
theorem inv_zero {a : Nat} (h : a % p = 0) : inv a = 0 := pow_zero' h (by decide)
theorem mul_inv {a : Nat} (h : a % p ≠ 0) : mul a (inv a) = 1 := by
  rw [← mul_modl]
  unfold inv
  rw [← pow_one, ← pow_add, show 1 + (p - 2) = p - 1 by decide]
  exact fermat h
theorem inv_only {a x : Nat} (hx : x < p) (h : mul a x = 1) : x = inv a := by
  have h0 : a % p ≠ 0 := fun h0 => by
    have := (mul_zero_iff a x).2 (.inl h0)
    rw [this] at h
    cases h
  have e : mul x (mul a (inv a)) = x := by rw [mul_inv h0, mul_one, Nat.mod_eq_of_lt hx]
  rw [← e, ← mul_assoc, mul_comm x a, h, mul_comm, mul_one, Nat.mod_eq_of_lt (inv_lt a)]
theorem inv_mul (a b : Nat) : inv (mul a b) = mul (inv a) (inv b) := pow_mul _ _ _
theorem inv_ne {a : Nat} (h : a % p ≠ 0) : inv a % p ≠ 0 := fun h0 => by
  have := (mul_zero_iff a (inv a)).2 (.inr h0)
  rw [mul_inv h] at this
  cases this
theorem inv_inv {a : Nat} (h : a % p ≠ 0) : inv (inv a) = a % p := by
  have := inv_only (a := inv a) (x := a % p) (mod_lt a) (by rw [mul_modr, mul_comm]; exact mul_inv h)
  exact this.symm
/-- Euler's number of a: 0, 1 or p - 1. -/
def chi (a : Nat) : Nat := pow a ((p - 1) / 2)
theorem chi_modl (a : Nat) : chi (a % p) = chi a := pow_modl _ _
theorem chi_mul (a b : Nat) : chi (mul a b) = mul (chi a) (chi b) := pow_mul _ _ _
theorem chi_zero {a : Nat} (h : a % p = 0) : chi a = 0 := pow_zero' h (by decide)
theorem sq_one {x : Nat} (hx : x < p) (h : mul x x = 1) : x = 1 ∨ x = p - 1 := by
  have h1 : mul (x + (p - 1)) (x + 1) = 0 := by
    unfold mul at *
    have e : (x + (p - 1)) * (x + 1) + 1 = x * x + p * (x + 1) := by
      have hp : p = (p - 1) + 1 := by decide
      generalize p - 1 = q at *
      rw [hp]
      simp only [Nat.mul_add, Nat.add_mul, Nat.mul_one, Nat.one_mul]
      omega
    have e2 : ((x + (p - 1)) * (x + 1) + 1) % p = 1 % p := by
      rw [e, Nat.add_mul_mod_self_left, h]
      rfl
    have hlt := mod_lt ((x + (p - 1)) * (x + 1))
    rw [← Nat.mod_add_mod] at e2
    generalize (x + (p - 1)) * (x + 1) % p = y at *
    rcases Nat.lt_or_ge (y + 1) p with hy | hy
    · rw [Nat.mod_eq_of_lt hy] at e2
      have : 1 % p = 1 := rfl
      omega
    · have hy' : y + 1 = p := by omega
      rw [hy', Nat.mod_self] at e2
      exact absurd e2 (by decide)
  rcases (mul_zero_iff _ _).1 h1 with h2 | h2
  · left
    have hp : 1 < p := by decide
    rcases Nat.lt_or_ge x 1 with h3 | h3
    · have : x = 0 := by omega
      subst this
      rw [Nat.zero_add, Nat.mod_eq_of_lt (by omega)] at h2
      omega
    · rw [show x + (p - 1) = (x - 1) + p by omega, Nat.add_mod_right, Nat.mod_eq_of_lt (by omega)] at h2
      omega
  · right
    rcases Nat.lt_or_ge (x + 1) p with h3 | h3
    · rw [Nat.mod_eq_of_lt h3] at h2
      omega
    · omega
theorem chi_sq {a : Nat} (h : a % p ≠ 0) : mul (chi a) (chi a) = 1 := by
  unfold chi
  rw [← pow_add, show (p - 1) / 2 + (p - 1) / 2 = p - 1 by decide]
  exact fermat h
theorem chi_one {a : Nat} (h : a % p ≠ 0) : chi a = 1 ∨ chi a = p - 1 := sq_one (pow_lt _ _) (chi_sq h)
theorem chi_pw (a : Nat) : chi a = pw p 256 a ((p - 1) / 2) := (pw_eq p 256 a ((p - 1) / 2) (by decide)).symm
theorem chi_two : chi 2 = p - 1 := (chi_pw 2).trans (by decide +kernel)
/-- A root of -1. -/
def im : Nat := pow 2 ((p - 1) / 4)
theorem im_sq : mul im im = p - 1 := by
  unfold im
  rw [← pow_add, show (p - 1) / 4 + (p - 1) / 4 = (p - 1) / 2 by decide]
  exact chi_two
/-- Is there a root? -/
def ok (a : Nat) : Bool := decide (chi a ≠ p - 1)
/-- One of the two, if there is one. -/
def cand (a : Nat) : Nat := if mul (pow a ((p + 3) / 8)) (pow a ((p + 3) / 8)) = a % p then pow a ((p + 3) / 8) else mul (pow a ((p + 3) / 8)) im
theorem cand_lt (a : Nat) : cand a < p := by
  unfold cand
  split
  · exact pow_lt _ _
  · exact mul_lt _ _
theorem neg_sq (x : Nat) : mul (p - 1) (p - 1) = 1 ∧ mul (mul x (p - 1)) (p - 1) = x % p := by
  have h : mul (p - 1) (p - 1) = 1 := by decide +kernel
  exact ⟨h, by rw [mul_assoc, h, mul_one]⟩
theorem four (a b c d : Nat) : mul (mul a b) (mul c d) = mul (mul a c) (mul b d) := by
  rw [mul_assoc, mul_assoc, ← mul_assoc b c d, mul_comm b c, mul_assoc c b d]
theorem cand_sq {a : Nat} (h : ok a = true) : mul (cand a) (cand a) = a % p := by
  have h' : chi a ≠ p - 1 := of_decide_eq_true h
  by_cases h0 : a % p = 0
  · unfold cand
    rw [pow_zero' h0 (by decide)]
    rw [if_pos (by rw [h0]; rfl), h0]
    rfl
  have h1 : chi a = 1 := (chi_one h0).resolve_right h'
  have hq : mul (pow a ((p - 1) / 4)) (pow a ((p - 1) / 4)) = 1 := by
    rw [← pow_add, show (p - 1) / 4 + (p - 1) / 4 = (p - 1) / 2 by decide]
    exact h1
  have hr : mul (pow a ((p + 3) / 8)) (pow a ((p + 3) / 8)) = mul a (pow a ((p - 1) / 4)) := by
    rw [← pow_add, show (p + 3) / 8 + (p + 3) / 8 = 1 + (p - 1) / 4 by decide, pow_add, pow_one, mul_modl]
  unfold cand
  split
  · assumption
  · rename_i hne
    rcases sq_one (pow_lt _ _) hq with e | e
    · exact absurd (by rw [hr, e, mul_one]) hne
    · rw [four, hr, im_sq, e]
      exact (neg_sq a).2
theorem ok_iff (a : Nat) : ok a = true ↔ ∃ r, mul r r = a % p := by
  refine ⟨fun h => ⟨_, cand_sq h⟩, fun ⟨r, hr⟩ => ?_⟩
  refine decide_eq_true fun hc => ?_
  by_cases h0 : r % p = 0
  · have : a % p = 0 := by rw [← hr]; exact (mul_zero_iff r r).2 (.inl h0)
    rw [chi_zero this] at hc
    exact absurd hc (by decide)
  · have : chi (mul r r) = 1 := by rw [chi_mul]; exact chi_sq h0
    rw [hr, chi_modl, hc] at this
    exact absurd this (by decide)
/-- The even one of r and -r. -/
def evn (r : Nat) : Nat := if r % 2 = 0 then r else p - r
theorem evn_lt {r : Nat} (h : r < p) : evn r < p := by
  unfold evn
  split
  · exact h
  · omega
theorem evn_even {r : Nat} (h : r < p) : evn r % 2 = 0 := by
  have hp : p % 2 = 1 := by decide
  unfold evn
  split
  · assumption
  · omega
theorem neg_eq {r : Nat} (h : r < p) (h0 : r ≠ 0) : p - r = mul r (p - 1) := by
  have e : r * (p - 1) = (p - r) + p * (r - 1) := by
    obtain ⟨q, hq⟩ : ∃ q, p = q + 1 := ⟨p - 1, by decide⟩
    obtain ⟨s, rfl⟩ : ∃ s, r = s + 1 := ⟨r - 1, by omega⟩
    rw [hq] at h ⊢
    rw [Nat.add_sub_cancel, Nat.add_sub_cancel, Nat.add_mul, Nat.add_mul, Nat.mul_comm s q]
    omega
  unfold mul
  rw [e, Nat.add_mul_mod_self_left, Nat.mod_eq_of_lt (by omega)]
theorem neg_mul {r : Nat} (h : r < p) : mul (p - r) (p - r) = mul r r := by
  by_cases h0 : r = 0
  · subst h0
    unfold mul
    rw [Nat.sub_zero, Nat.mul_mod_left]
    exact (Nat.zero_mod p).symm
  · rw [neg_eq h h0, four, (neg_sq 0).1, mul_one]
    exact Nat.mod_eq_of_lt (mul_lt _ _)
theorem evn_sq {r : Nat} (h : r < p) : mul (evn r) (evn r) = mul r r := by
  unfold evn
  split
  · rfl
  · exact neg_mul h
/-- The even root; 0, if there is none. -/
def root (a : Nat) : Nat := if ok a = true then evn (cand a) else 0
theorem root_lt (a : Nat) : root a < p := by
  unfold root
  split
  · exact evn_lt (cand_lt a)
  · exact p_pos
theorem root_even (a : Nat) : root a % 2 = 0 := by
  unfold root
  split
  · exact evn_even (cand_lt a)
  · rfl
theorem root_sq {a : Nat} (h : ok a = true) : mul (root a) (root a) = a % p := by
  unfold root
  rw [if_pos h, evn_sq (cand_lt a), cand_sq h]
theorem root_none {a : Nat} (h : ok a = false) : root a = 0 := by
  unfold root
  rw [if_neg (by rw [h]; decide)]
/-- Two whose squares are one are one, or sum up to 0. -/
theorem sq_eq {x y : Nat} (hx : x < p) (hy : y < p) (h : mul x x = mul y y) : x = y ∨ x = sub 0 y := by
  have hs : ∀ z, z < p → sub 0 z = (p - z) % p := fun z hz => by unfold sub; rw [Nat.zero_add, Nat.mod_eq_of_lt hz]
  have h1 : mul (x + y) (x + (p - y)) = 0 := by
    unfold mul at *
    obtain ⟨z, hz⟩ : ∃ z, p = y + z := ⟨p - y, by omega⟩
    have e : (x + y) * (x + (p - y)) + y * y = x * x + p * (x + y) := by
      rw [hz, Nat.add_sub_cancel_left]
      simp only [Nat.mul_add, Nat.add_mul]
      rw [Nat.mul_comm z x, Nat.mul_comm z y, Nat.mul_comm y x]
      omega
    have e2 : ((x + y) * (x + (p - y)) + y * y) % p = y * y % p := by rw [e, Nat.add_mul_mod_self_left, h]
    have e3 : ((x + y) * (x + (p - y)) % p + y * y % p) % p = y * y % p := by rw [← Nat.add_mod]; exact e2
    have l1 := mod_lt ((x + y) * (x + (p - y)))
    have l2 := mod_lt (y * y)
    generalize (x + y) * (x + (p - y)) % p = A at *
    generalize y * y % p = B at *
    rcases Nat.lt_or_ge (A + B) p with h3 | h3
    · rw [Nat.mod_eq_of_lt h3] at e3
      omega
    · rw [Nat.mod_eq_sub_mod h3, Nat.mod_eq_of_lt (by omega)] at e3
      omega
  rcases (mul_zero_iff _ _).1 h1 with h2 | h2
  · right
    rw [hs y hy]
    rcases Nat.lt_or_ge (x + y) p with h3 | h3
    · rw [Nat.mod_eq_of_lt h3] at h2
      have hx0 : x = 0 := by omega
      have hy0 : y = 0 := by omega
      subst hx0 hy0
      rw [Nat.sub_zero, Nat.mod_self]
    · rw [Nat.mod_eq_sub_mod h3, Nat.mod_eq_of_lt (by omega)] at h2
      rw [Nat.mod_eq_of_lt (by omega)]
      omega
  · left
    rcases Nat.lt_or_ge (x + (p - y)) p with h3 | h3
    · rw [Nat.mod_eq_of_lt h3] at h2
      omega
    · rw [Nat.mod_eq_sub_mod h3, Nat.mod_eq_of_lt (by omega)] at h2
      omega
/-- The even root is the only one. -/
theorem root_only {a r : Nat} (hr : r < p) (h2 : r % 2 = 0) (h : mul r r = a % p) : r = root a ∧ ok a = true := by
  have hk : ok a = true := (ok_iff a).2 ⟨r, h⟩
  refine ⟨?_, hk⟩
  have e := root_even a
  have hp : p % 2 = 1 := by decide
  have hl := root_lt a
  rcases sq_eq hr hl (by rw [h, root_sq hk]) with h3 | h3
  · exact h3
  · unfold sub at h3
    rw [Nat.zero_add, Nat.mod_eq_of_lt hl] at h3
    by_cases h0 : root a = 0
    · rw [h0, Nat.sub_zero, Nat.mod_self] at h3
      rw [h3, h0]
    · rw [Nat.mod_eq_of_lt (by omega)] at h3
      omega
theorem ok_modl (a : Nat) : ok (a % p) = ok a := by unfold ok; rw [chi_modl]
theorem root_modl (a : Nat) : root (a % p) = root a := by
  by_cases h : ok a = true
  · exact (root_only (root_lt _) (root_even _) (by rw [root_sq (by rw [ok_modl]; exact h), Nat.mod_mod])).1
  · rw [root_none (Bool.eq_false_iff.2 h), root_none (by rw [ok_modl]; exact Bool.eq_false_iff.2 h)]
theorem ok_sq (a : Nat) : ok (mul a a) = true := (ok_iff _).2 ⟨a, by unfold mul; rw [Nat.mod_mod]⟩
theorem ok_zero {a : Nat} (h : a % p = 0) : ok a = true := (ok_iff a).2 ⟨0, by rw [h]; rfl⟩
/-- Of a number that is not 0, and twice it, just one has a root. -/
theorem ok_twice {a : Nat} (h : a % p ≠ 0) : ok (add a a) = !ok a := by
  have e : add a a = mul 2 a := by unfold add mul; rw [Nat.two_mul]
  have c : chi (add a a) = mul (p - 1) (chi a) := by rw [e, chi_mul, chi_two]
  unfold ok
  rw [c]
  rcases chi_one h with h1 | h1 <;> rw [h1] <;> decide +kernel
theorem ok_mul {a b : Nat} (ha : a % p ≠ 0) (hb : b % p ≠ 0) : ok (mul a b) = (ok a == ok b) := by
  unfold ok
  rw [chi_mul]
  rcases chi_one ha with h1 | h1 <;> rcases chi_one hb with h2 | h2 <;> rw [h1, h2] <;> decide +kernel
end Go.Proofs.YtjcnfffmciahiaaDoor.F

/- Numbers modulo 2^255 - 19 as sixteen digits, as functions of their places: carries, borrows. Mathematics alone. -/
namespace Go.Proofs.YtjcnfffmciahiaaDoor.I
/-- The number of the first n digits. -/
def sm (f : Nat → Nat) : Nat → Nat
  | 0 => 0
  | n + 1 => sm f n + f n * 65536 ^ n
theorem sm_congr {f g : Nat → Nat} : ∀ n, (∀ i, i < n → f i = g i) → sm f n = sm g n
  | 0, _ => rfl
  | n + 1, h => by
    unfold sm
    rw [sm_congr n fun i hi => h i (by omega), h n (by omega)]
theorem sm_lt {f : Nat → Nat} : ∀ n, (∀ i, i < n → f i < 65536) → sm f n < 65536 ^ n
  | 0, _ => by show 0 < 1; decide
  | n + 1, h => by
    have h1 := sm_lt n fun i hi => h i (by omega)
    have h2 := Nat.mul_le_mul_right (65536 ^ n) (show f n + 1 ≤ 65536 from h n (by omega))
    unfold sm
    rw [Nat.pow_succ]
    rw [Nat.add_mul, Nat.one_mul] at h2
    omega
/-- The digits of a number. -/
def fd (n i : Nat) : Nat := n / 65536 ^ i % 65536
theorem fd_lt (n i : Nat) : fd n i < 65536 := Nat.mod_lt _ (by decide)
theorem sm_fd (N : Nat) : ∀ n, sm (fd N) n = N % 65536 ^ n
  | 0 => by rw [Nat.pow_zero, Nat.mod_one]; rfl
  | n + 1 => by
    unfold sm
    rw [sm_fd N n, fd, Nat.pow_succ, Nat.mod_mul, Nat.mul_comm (65536 ^ n)]
theorem fd_sm {f : Nat → Nat} : ∀ n, (∀ i, i < n → f i < 65536) → ∀ i, i < n → fd (sm f n) i = f i
  | 0, _, i, hi => absurd hi (by omega)
  | n + 1, h, i, hi => by
    have h1 := sm_lt n fun i hi => h i (by omega)
    unfold sm fd
    rcases Nat.lt_or_ge i n with hl | hl
    · obtain ⟨k, rfl⟩ : ∃ k, n = i + 1 + k := ⟨n - i - 1, by omega⟩
      have ih := fd_sm (i + 1 + k) (fun i hi => h i (by omega)) i (by omega)
      unfold fd at ih
      rw [show f (i + 1 + k) * 65536 ^ (i + 1 + k) = 65536 ^ i * (65536 * (f (i + 1 + k) * 65536 ^ k)) by rw [Nat.pow_add, Nat.pow_succ]; simp only [Nat.mul_assoc, Nat.mul_left_comm, Nat.mul_comm], Nat.add_mul_div_left _ _ (Nat.pow_pos (by decide)), Nat.add_mul_mod_self_left]
      exact ih
    · obtain rfl : i = n := by omega
      rw [Nat.add_mul_div_right _ _ (Nat.pow_pos (by decide)), Nat.div_eq_of_lt h1, Nat.zero_add, Nat.mod_eq_of_lt (h i (by omega))]
/-- What is carried behind j digits, and the digits that stay. -/
def car (f : Nat → Nat) (c : Nat) : Nat → Nat
  | 0 => c
  | j + 1 => (car f c j + f j) / 65536
def dig (f : Nat → Nat) (c j : Nat) : Nat := (car f c j + f j) % 65536
theorem car_sum (f : Nat → Nat) (c : Nat) : ∀ n, sm (dig f c) n + car f c n * 65536 ^ n = sm f n + c
  | 0 => by unfold sm car; omega
  | n + 1 => by
    have ih := car_sum f c n
    unfold sm car
    rw [Nat.pow_succ]
    have e := Nat.div_add_mod (car f c n + f n) 65536
    have e2 : dig f c n * 65536 ^ n + (car f c n + f n) / 65536 * (65536 ^ n * 65536) = (car f c n + f n) * 65536 ^ n := by
      unfold dig
      rw [← Nat.mul_assoc, Nat.mul_right_comm, ← Nat.add_mul]
      congr 1
      omega
    rw [Nat.add_mul] at e2
    omega
theorem car_le {f : Nat → Nat} {c : Nat} (hc : c < 2 ^ 51) (hf : ∀ i, i < 16 → f i < 2 ^ 50) : ∀ j, j ≤ 16 → car f c j < 2 ^ 51
  | 0, _ => hc
  | j + 1, h => by
    have h1 := car_le hc hf j (by omega)
    have h2 := hf j (by omega)
    unfold car
    omega
/-- One round of least. -/
def rnd (f : Nat → Nat) : Nat → Nat := fun i => if i < 16 then dig f (38 * f 16) i else car f (38 * f 16) 16
theorem rnd_lt {f : Nat → Nat} {i : Nat} (h : i < 16) : rnd f i < 65536 := by
  unfold rnd
  rw [if_pos h]
  exact Nat.mod_lt _ (by decide)
theorem rnd_top {f : Nat → Nat} : rnd f 16 = car f (38 * f 16) 16 := rfl
/-- All small enough. -/
def Sm (f : Nat → Nat) : Prop := ∀ i, i < 17 → f i < 2 ^ 45
theorem rnd_Sm {f : Nat → Nat} (h : Sm f) : Sm (rnd f) ∧ rnd f 16 < 2 ^ 36 := by
  have h15 := car_le (f := f) (c := 38 * f 16) (by have := h 16 (by decide); omega) (fun i hi => by have := h i (by omega); omega) 15 (by decide)
  have h16 : rnd f 16 < 2 ^ 36 := by
    rw [rnd_top]
    show (car f (38 * f 16) 15 + f 15) / 65536 < _
    have := h 15 (by decide)
    omega
  refine ⟨fun i hi => ?_, h16⟩
  rcases Nat.lt_or_ge i 16 with hl | hl
  · have := rnd_lt (f := f) hl; omega
  · obtain rfl : i = 16 := by omega
    omega
theorem rnd_sum (f : Nat → Nat) : sm (rnd f) 16 + rnd f 16 * 65536 ^ 16 = sm f 16 + 38 * f 16 := by
  have h := car_sum f (38 * f 16) 16
  rw [rnd_top, sm_congr (f := rnd f) (g := dig f (38 * f 16)) 16 fun i hi => by unfold rnd; rw [if_pos hi]]
  exact h
theorem p38 (x : Nat) : (x * 65536 ^ 16) % F.p = (38 * x) % F.p := by
  have e : x * 65536 ^ 16 = 38 * x + F.p * (2 * x) := by
    rw [show (65536 : Nat) ^ 16 = 38 + F.p * 2 by decide, Nat.mul_add, Nat.mul_comm x 38, Nat.mul_left_comm, Nat.mul_comm x 2]
  rw [e, Nat.add_mul_mod_self_left]
theorem rnd_mod (f : Nat → Nat) : sm (rnd f) 17 % F.p = sm f 17 % F.p := by
  show (sm (rnd f) 16 + rnd f 16 * 65536 ^ 16) % F.p = (sm f 16 + f 16 * 65536 ^ 16) % F.p
  rw [rnd_sum, Nat.add_mod, ← p38, ← Nat.add_mod]
theorem rnd_three {f : Nat → Nat} (h : Sm f) : rnd (rnd (rnd f)) 16 = 0 ∧ sm (rnd (rnd (rnd f))) 16 % F.p = sm f 17 % F.p := by
  have a1 := rnd_Sm h
  have l1 := sm_lt (f := rnd f) 16 fun i hi => rnd_lt hi
  have l2 := sm_lt (f := rnd (rnd f)) 16 fun i hi => rnd_lt hi
  have l3 := sm_lt (f := rnd (rnd (rnd f))) 16 fun i hi => rnd_lt hi
  have s2 := rnd_sum (rnd f)
  have s3 := rnd_sum (rnd (rnd f))
  have m3 : sm (rnd (rnd (rnd f))) 17 % F.p = sm f 17 % F.p := by rw [rnd_mod, rnd_mod, rnd_mod]
  have e3 : sm (rnd (rnd (rnd f))) 17 = sm (rnd (rnd (rnd f))) 16 + rnd (rnd (rnd f)) 16 * 65536 ^ 16 := rfl
  have t1 := a1.2
  rw [show (65536 : Nat) ^ 16 = 115792089237316195423570985008687907853269984665640564039457584007913129639936 by decide] at *
  generalize rnd (rnd (rnd f)) 16 = x3 at *
  generalize rnd (rnd f) 16 = x2 at *
  generalize rnd f 16 = x1 at *
  generalize sm (rnd (rnd (rnd f))) 16 = y3 at *
  generalize sm (rnd (rnd f)) 16 = y2 at *
  generalize sm (rnd f) 16 = y1 at *
  have h0 : x3 = 0 := by omega
  refine ⟨h0, ?_⟩
  rw [← m3, e3, h0, Nat.zero_mul, Nat.add_zero]
/-- The modulus' digits. -/
def mo (i : Nat) : Nat := if i = 0 then 65517 else if i = 15 then 32767 else 65535
theorem mo_sum : sm mo 16 = F.p := by decide
theorem mo_lt (i : Nat) : mo i < 65536 := by unfold mo; split <;> (try split) <;> decide
/-- What is borrowed behind j digits, and the digits that stay. -/
def bor (f : Nat → Nat) : Nat → Nat
  | 0 => 0
  | j + 1 => if f j < mo j + bor f j then 1 else 0
theorem bor_le (f : Nat → Nat) : ∀ j, bor f j ≤ 1
  | 0 => by show 0 ≤ 1; decide
  | j + 1 => by unfold bor; split <;> decide
def sd (f : Nat → Nat) (j : Nat) : Nat := f j + 65536 * bor f (j + 1) - mo j - bor f j
theorem sd_eq {f : Nat → Nat} {j : Nat} : sd f j + mo j + bor f j = f j + 65536 * bor f (j + 1) := by
  have h1 := bor_le f j
  have h2 := mo_lt j
  unfold sd
  rw [show bor f (j + 1) = if f j < mo j + bor f j then 1 else 0 from rfl]
  split <;> omega
theorem sd_lt {f : Nat → Nat} {j : Nat} (h : f j < 65536) : sd f j < 65536 := by
  have h1 := bor_le f j
  unfold sd
  rw [show bor f (j + 1) = if f j < mo j + bor f j then 1 else 0 from rfl]
  split <;> omega
theorem bor_sum (f : Nat → Nat) : ∀ n, sm (sd f) n + sm mo n = sm f n + bor f n * 65536 ^ n
  | 0 => by unfold sm bor; rfl
  | n + 1 => by
    have ih := bor_sum f n
    unfold sm
    have e := sd_eq (f := f) (j := n)
    have e2 : (sd f n + mo n + bor f n) * 65536 ^ n = (f n + 65536 * bor f (n + 1)) * 65536 ^ n := by rw [e]
    rw [Nat.add_mul, Nat.add_mul, Nat.add_mul] at e2
    rw [Nat.pow_succ, show bor f (n + 1) * (65536 ^ n * 65536) = 65536 * bor f (n + 1) * 65536 ^ n by rw [Nat.mul_comm (65536 ^ n), ← Nat.mul_assoc, Nat.mul_comm (bor f (n + 1))]]
    omega
theorem bor_one {f : Nat → Nat} (hf : ∀ i, i < 16 → f i < 65536) (h : bor f 16 = 1) : sm f 16 < F.p := by
  have e := bor_sum f 16
  have l := sm_lt (f := sd f) 16 fun i hi => sd_lt (hf i hi)
  rw [mo_sum, h] at e
  omega
theorem bor_zero {f : Nat → Nat} (h : ¬ bor f 16 = 1) : sm (sd f) 16 + F.p = sm f 16 := by
  have e := bor_sum f 16
  have := bor_le f 16
  rw [mo_sum, show bor f 16 = 0 by omega, Nat.zero_mul, Nat.add_zero] at e
  exact e
theorem sm_top {x : Nat} (h : x < F.p) : sm (fd x) 16 = x := by rw [sm_fd, Nat.mod_eq_of_lt (Nat.lt_trans h (by decide))]
/-- Sums and differences, digit by digit. -/
def pl (a b : Nat → Nat) : Nat → Nat := fun i => if i < 16 then a i + b i else 0
theorem sm_add (a b : Nat → Nat) : ∀ n, sm (fun i => a i + b i) n = sm a n + sm b n
  | 0 => rfl
  | n + 1 => by
    unfold sm
    rw [sm_add a b n, Nat.add_mul]
    omega
theorem pl_sum (a b : Nat → Nat) : sm (pl a b) 17 = sm a 16 + sm b 16 := by
  show sm (pl a b) 16 + pl a b 16 * _ = _
  rw [sm_congr (f := pl a b) (g := fun i => a i + b i) 16 fun i hi => by unfold pl; rw [if_pos hi], sm_add, show pl a b 16 = 0 from rfl]
  omega
theorem pl_Sm {a b : Nat → Nat} (ha : ∀ i, i < 16 → a i < 65536) (hb : ∀ i, i < 16 → b i < 65536) : Sm (pl a b) := fun i _ => by
  unfold pl
  split
  · have := ha i (by assumption); have := hb i (by assumption); omega
  · decide
def mi (a b : Nat → Nat) : Nat → Nat := fun i => if i < 16 then a i + 4 * mo i - b i else 0
theorem mi_at {a b : Nat → Nat} (hb : ∀ i, i < 16 → b i < 65536) {i : Nat} (h : i < 16) : mi a b i + b i = a i + 4 * mo i := by
  unfold mi
  rw [if_pos h]
  have h1 := hb i h
  have h2 : 16384 ≤ mo i := by unfold mo; split <;> (try split) <;> decide
  omega
theorem sm_mul (c : Nat) (a : Nat → Nat) : ∀ n, sm (fun i => c * a i) n = c * sm a n
  | 0 => rfl
  | n + 1 => by
    unfold sm
    rw [sm_mul c a n, Nat.mul_add, Nat.mul_assoc]
theorem mi_sum {a b : Nat → Nat} (hb : ∀ i, i < 16 → b i < 65536) : sm (mi a b) 17 + sm b 16 = sm a 16 + 4 * F.p := by
  show sm (mi a b) 16 + mi a b 16 * _ + _ = _
  rw [show mi a b 16 = 0 from rfl, Nat.zero_mul, Nat.add_zero, ← sm_add, sm_congr (g := fun i => a i + 4 * mo i) 16 fun i hi => mi_at hb hi, sm_add, sm_mul, mo_sum]
theorem mi_Sm {a b : Nat → Nat} (ha : ∀ i, i < 16 → a i < 65536) : Sm (mi a b) := fun i _ => by
  unfold mi
  split
  · have := ha i (by assumption); have := mo_lt i; omega
  · decide
/-- A product, digit by digit. -/
def upd (f : Nat → Nat) (j x : Nat) : Nat → Nat := fun i => if i = j then x else f i
def acc (a b : Nat → Nat) (i : Nat) (f : Nat → Nat) : Nat → (Nat → Nat)
  | 0 => f
  | k + 1 => upd (acc a b i f k) (i + k) (acc a b i f k (i + k) + a i * b k)
def pro (a b : Nat → Nat) : Nat → (Nat → Nat)
  | 0 => fun _ => 0
  | i + 1 => acc a b i (pro a b i) 16
theorem sm_upd (f : Nat → Nat) (j x : Nat) : ∀ n, j < n → sm (upd f j (f j + x)) n = sm f n + x * 65536 ^ j
  | 0, h => absurd h (by omega)
  | n + 1, h => by
    unfold sm
    by_cases hj : j = n
    · subst hj
      rw [sm_congr (f := upd f j (f j + x)) (g := f) j fun i hi => by unfold upd; rw [if_neg (by omega)]]
      unfold upd
      rw [if_pos rfl, Nat.add_mul]
      omega
    · rw [sm_upd f j x n (by omega)]
      unfold upd
      rw [if_neg (fun e => hj e.symm)]
      omega
theorem acc_sum (a b f : Nat → Nat) {i : Nat} (hi : i < 16) : ∀ k, k ≤ 16 → sm (acc a b i f k) 32 = sm f 32 + a i * 65536 ^ i * sm b k
  | 0, _ => by unfold acc sm; omega
  | k + 1, h => by
    unfold acc
    rw [sm_upd _ _ _ 32 (by omega), acc_sum a b f hi k (by omega)]
    show _ = sm f 32 + a i * 65536 ^ i * (sm b k + b k * 65536 ^ k)
    rw [Nat.mul_add, Nat.pow_add, ← Nat.add_assoc]
    congr 1
    simp only [Nat.mul_assoc, Nat.mul_left_comm]
theorem sm_none : ∀ n, sm (fun _ => 0) n = 0
  | 0 => rfl
  | n + 1 => by
    unfold sm
    rw [sm_none n, Nat.zero_mul]
theorem pro_sum (a b : Nat → Nat) : ∀ i, i ≤ 16 → sm (pro a b i) 32 = sm a i * sm b 16
  | 0, _ => by
    rw [show sm a 0 = 0 from rfl, Nat.zero_mul]
    exact sm_none 32
  | i + 1, h => by
    show sm (acc a b i (pro a b i) 16) 32 = (sm a i + a i * 65536 ^ i) * sm b 16
    rw [acc_sum a b _ (by omega) 16 (by omega), pro_sum a b i (by omega), Nat.add_mul]
theorem acc_le {a b f : Nat → Nat} {i B : Nat} (ha : a i < 65536) (hb : ∀ k, k < 16 → b k < 65536) (hf : ∀ n, f n ≤ B) : ∀ k, k ≤ 16 → ∀ n, acc a b i f k n ≤ B + k * 4294967296
  | 0, _, n => by rw [Nat.zero_mul]; exact hf n
  | k + 1, h, n => by
    have ih := acc_le ha hb hf k (by omega)
    have h2 : a i * b k ≤ 65536 * 65536 := Nat.mul_le_mul (Nat.le_of_lt ha) (Nat.le_of_lt (hb k (by omega)))
    unfold acc upd
    split
    · have := ih (i + k)
      generalize acc a b i f k (i + k) = t at *
      omega
    · exact Nat.le_trans (ih n) (Nat.add_le_add_left (Nat.mul_le_mul_right _ (Nat.le_succ k)) B)
theorem pro_le {a b : Nat → Nat} (ha : ∀ i, i < 16 → a i < 65536) (hb : ∀ k, k < 16 → b k < 65536) : ∀ i, i ≤ 16 → ∀ n, pro a b i n ≤ i * 68719476736
  | 0, _, n => Nat.zero_le _
  | i + 1, h, n => by
    have := acc_le (ha i (by omega)) hb (pro_le ha hb i (by omega)) 16 (by omega) n
    unfold pro
    omega
theorem acc_pro_le {a b : Nat → Nat} (ha : ∀ i, i < 16 → a i < 65536) (hb : ∀ k, k < 16 → b k < 65536) {i k : Nat} (hi : i < 16) (hk : k ≤ 16) (n : Nat) : acc a b i (pro a b i) k n ≤ 1099511627776 := by
  have := acc_le (ha i hi) hb (pro_le ha hb i (by omega)) k hk n
  have h1 : i * 68719476736 ≤ 15 * 68719476736 := Nat.mul_le_mul_right _ (by omega)
  have h2 : k * 4294967296 ≤ 16 * 4294967296 := Nat.mul_le_mul_right _ hk
  omega
/-- The upper half, 38 times, put to the lower. -/
def fol (f : Nat → Nat) : Nat → Nat := fun i => f i + 38 * f (i + 16)
theorem sm_split (f : Nat → Nat) (m : Nat) : ∀ n, sm f (m + n) = sm f m + 65536 ^ m * sm (fun i => f (i + m)) n
  | 0 => by show sm f m = sm f m + _ * 0; omega
  | n + 1 => by
    show sm f (m + n) + f (m + n) * 65536 ^ (m + n) = _
    rw [sm_split f m n]
    show _ = sm f m + 65536 ^ m * (sm (fun i => f (i + m)) n + f (n + m) * 65536 ^ n)
    rw [Nat.mul_add, Nat.pow_add, Nat.add_comm n m, ← Nat.add_assoc]
    congr 1
    simp only [Nat.mul_left_comm]
theorem fol_mod (f : Nat → Nat) : sm (fol f) 16 % F.p = sm f 32 % F.p := by
  unfold fol
  rw [sm_add, sm_mul, sm_split f 16 16, Nat.add_mod, ← p38, ← Nat.add_mod, Nat.mul_comm (65536 ^ 16)]
/-- What By hands to least. -/
def byl (f : Nat → Nat) : Nat → Nat := fun i => if i < 16 then dig (fol f) 0 i else car (fol f) 0 16
theorem byl_sum (f : Nat → Nat) : sm (byl f) 17 % F.p = sm f 32 % F.p := by
  have h := car_sum (fol f) 0 16
  rw [Nat.add_zero] at h
  show (sm (byl f) 16 + byl f 16 * 65536 ^ 16) % F.p = _
  rw [sm_congr (f := byl f) (g := dig (fol f) 0) 16 fun i hi => by unfold byl; rw [if_pos hi], show byl f 16 = car (fol f) 0 16 from rfl, h, fol_mod]
theorem byl_Sm {f : Nat → Nat} (hf : ∀ n, f n ≤ 1099511627776) : Sm (byl f) := fun i hi => by
  have hl : ∀ i, i < 16 → fol f i < 2 ^ 50 := fun i _ => by
    have := hf i; have := hf (i + 16)
    unfold fol
    omega
  unfold byl
  split
  · have : dig (fol f) 0 i < 65536 := Nat.mod_lt _ (by decide)
    omega
  · have h1 := car_le (f := fol f) (c := 0) (by decide) hl 15 (by decide)
    have h2 := hl 15 (by decide)
    show (car (fol f) 0 15 + fol f 15) / 65536 < _
    omega
end Go.Proofs.YtjcnfffmciahiaaDoor.I
