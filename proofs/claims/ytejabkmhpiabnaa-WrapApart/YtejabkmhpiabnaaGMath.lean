/- Bytes as a field: the product of polynomials modulo x^8 + x^4 + x^3 + x + 1, over natural numbers below 256; what is told of it. -/
import Derived.Test.YtejabkmhpiabnaaRows
namespace Go.Proofs.Ytejabkmhpiabnaa.G
/-- x times. -/
def xt (a : Nat) : Nat := if a < 128 then 2 * a else (2 * a) ^^^ 283
/-- The product: a, x times a and so on, where b has a bit. -/
def mulF : Nat → Nat → Nat → Nat
  | 0, _, _ => 0
  | k + 1, a, b => (if b % 2 = 1 then a else 0) ^^^ mulF k (xt a) (b / 2)
def mul (a b : Nat) : Nat := mulF 8 a b
theorem xor_lt {a b : Nat} (ha : a < 256) (hb : b < 256) : a ^^^ b < 256 := Nat.xor_lt_two_pow (n := 8) ha hb
theorem xt_table : ∀ a < 256, xt a < 256 := by decide +kernel
theorem xt_lt {a : Nat} (h : a < 256) : xt a < 256 := xt_table a h
theorem two_mul_xor (a b : Nat) : 2 * (a ^^^ b) = (2 * a) ^^^ (2 * b) := by
  apply Nat.eq_of_testBit_eq
  intro i
  cases i with
  | zero => simp
  | succ i =>
    rw [Nat.testBit_xor, Nat.testBit_succ, Nat.testBit_succ, Nat.testBit_succ, Nat.mul_div_cancel_left _ (by decide : 0 < 2), Nat.mul_div_cancel_left _ (by decide : 0 < 2), Nat.mul_div_cancel_left _ (by decide : 0 < 2), Nat.testBit_xor]
theorem lt_bit {a : Nat} (h : a < 256) : a < 128 ↔ a.testBit 7 = false := by
  have : ∀ a < 256, (a < 128 ↔ a.testBit 7 = false) := by decide +kernel
  exact this a h
theorem xt_xor {a b : Nat} (ha : a < 256) (hb : b < 256) : xt (a ^^^ b) = xt a ^^^ xt b := by
  have h1 := lt_bit ha
  have h2 := lt_bit hb
  have h3 := lt_bit (xor_lt ha hb)
  rw [Nat.testBit_xor] at h3
  unfold xt
  rw [two_mul_xor]
  by_cases g1 : a < 128 <;> by_cases g2 : b < 128
  · rw [if_pos g1, if_pos g2, if_pos (h3.2 (by rw [h1.1 g1, h2.1 g2]; rfl))]
  · have e2 : b.testBit 7 = true := by simpa using mt h2.2 g2
    rw [if_pos g1, if_neg g2, if_neg (fun h => by have := h3.1 h; rw [h1.1 g1, e2] at this; cases this), Nat.xor_assoc]
  · have e1 : a.testBit 7 = true := by simpa using mt h1.2 g1
    rw [if_neg g1, if_pos g2, if_neg (fun h => by have := h3.1 h; rw [e1, h2.1 g2] at this; cases this), Nat.xor_assoc, Nat.xor_assoc, Nat.xor_comm (2 * b)]
  · have e1 : a.testBit 7 = true := by simpa using mt h1.2 g1
    have e2 : b.testBit 7 = true := by simpa using mt h2.2 g2
    rw [if_neg g1, if_neg g2, if_pos (h3.2 (by rw [e1, e2]; rfl))]
    rw [Nat.xor_assoc, ← Nat.xor_assoc 283, Nat.xor_comm 283, Nat.xor_assoc (2 * b), Nat.xor_self, Nat.xor_zero]
theorem mulF_lt (k : Nat) : ∀ {a : Nat} (b : Nat), a < 256 → mulF k a b < 256 := by
  induction k with
  | zero => intro a b _; rw [mulF]; decide
  | succ k ih =>
    intro a b h
    rw [mulF]
    refine xor_lt ?_ (ih _ (xt_lt h))
    split
    · exact h
    · decide
theorem mul_lt {a : Nat} (b : Nat) (h : a < 256) : mul a b < 256 := mulF_lt 8 b h
theorem xor4 (a b c d : Nat) : (a ^^^ b) ^^^ (c ^^^ d) = (a ^^^ c) ^^^ (b ^^^ d) := by
  rw [Nat.xor_assoc, ← Nat.xor_assoc b, Nat.xor_comm b c, Nat.xor_assoc c, ← Nat.xor_assoc]
theorem mulF_left (k : Nat) : ∀ {a c : Nat} (b : Nat), a < 256 → c < 256 → mulF k (a ^^^ c) b = mulF k a b ^^^ mulF k c b := by
  induction k with
  | zero => intro a c b _ _; rw [mulF, mulF, mulF]; rfl
  | succ k ih =>
    intro a c b ha hc
    rw [mulF, mulF, mulF, xt_xor ha hc, ih _ (xt_lt ha) (xt_lt hc), xor4]
    congr 1
    split <;> simp
theorem mod_two_xor (b c : Nat) : (b ^^^ c) % 2 = (b % 2 + c % 2) % 2 := by
  have h := Nat.xor_mod_two_pow (a := b) (b := c) (n := 1)
  rw [Nat.pow_one] at h
  rw [h]
  rcases Nat.mod_two_eq_zero_or_one b with h1 | h1 <;> rcases Nat.mod_two_eq_zero_or_one c with h2 | h2 <;> rw [h1, h2] <;> rfl
theorem mulF_right (k : Nat) : ∀ (a b c : Nat), mulF k a (b ^^^ c) = mulF k a b ^^^ mulF k a c := by
  induction k with
  | zero => intro a b c; rw [mulF, mulF, mulF]; rfl
  | succ k ih =>
    intro a b c
    rw [mulF, mulF, mulF, Nat.xor_div_two, ih, xor4]
    congr 1
    rw [mod_two_xor]
    rcases Nat.mod_two_eq_zero_or_one b with h1 | h1 <;> rcases Nat.mod_two_eq_zero_or_one c with h2 | h2 <;> rw [h1, h2] <;> simp
theorem mul_left {a c : Nat} (b : Nat) (ha : a < 256) (hc : c < 256) : mul (a ^^^ c) b = mul a b ^^^ mul c b := mulF_left 8 b ha hc
theorem mul_right (a b c : Nat) : mul a (b ^^^ c) = mul a b ^^^ mul a c := mulF_right 8 a b c
/-- What goes with xor, and is the same of each bit, is the same. -/
theorem lin_ext {F H : Nat → Nat} (hF : ∀ a b, a < 256 → b < 256 → F (a ^^^ b) = F a ^^^ F b) (hH : ∀ a b, a < 256 → b < 256 → H (a ^^^ b) = H a ^^^ H b) (h : ∀ i, i < 8 → F (2 ^ i) = H (2 ^ i)) : ∀ a, a < 256 → F a = H a := by
  have z : ∀ K : Nat → Nat, (∀ a b, a < 256 → b < 256 → K (a ^^^ b) = K a ^^^ K b) → K 0 = 0 := fun K hK => by
    have := hK 0 0 (by decide) (by decide)
    rw [Nat.xor_self, Nat.xor_self] at this
    exact this
  have key : ∀ k, k ≤ 8 → ∀ a, a < 2 ^ k → F a = H a := by
    intro k
    induction k with
    | zero =>
      intro _ a ha
      obtain rfl : a = 0 := by simpa using ha
      rw [z F hF, z H hH]
    | succ k ih =>
      intro hk a ha
      have p8 : 2 ^ (k + 1) ≤ 256 := Nat.pow_le_pow_right (n := 2) (by decide) hk
      rw [Nat.pow_succ] at ha p8
      by_cases hb : a < 2 ^ k
      · exact ih (by omega) a hb
      · have e : a = (a - 2 ^ k) ^^^ 2 ^ k := by
          have hl : a - 2 ^ k < 2 ^ k := by omega
          rw [Nat.xor_comm]
          have e1 := Nat.two_pow_add_eq_or_of_lt hl 1
          have e2 : 2 ^ k ^^^ (a - 2 ^ k) = 2 ^ k + (a - 2 ^ k) := by
            apply Nat.eq_of_testBit_eq
            intro i
            have e3 := Nat.two_pow_add_eq_or_of_lt hl 1
            rw [Nat.mul_one] at e3
            rw [e3, Nat.testBit_xor, Nat.testBit_or, Nat.testBit_two_pow]
            by_cases g : k = i
            · subst g
              rw [Nat.testBit_lt_two_pow hl]
              simp
            · simp [g]
          rw [e2]
          omega
        rw [e, hF _ _ (by omega) (by omega), hH _ _ (by omega) (by omega), ih (by omega) _ (by omega), h k (by omega)]
  exact fun a ha => key 8 (Nat.le_refl _) a ha
theorem mul_comm {a b : Nat} (ha : a < 256) (hb : b < 256) : mul a b = mul b a := by
  refine lin_ext (F := fun a => mul a b) (H := fun a => mul b a) (fun x y hx hy => mul_left b hx hy) (fun x y _ _ => mul_right b x y) (fun i hi => ?_) a ha
  have p : 2 ^ i < 256 := by
    have := Nat.pow_lt_pow_right (a := 2) (by decide) hi
    exact this
  refine lin_ext (F := fun b => mul (2 ^ i) b) (H := fun b => mul b (2 ^ i)) (fun x y _ _ => mul_right _ x y) (fun x y hx hy => mul_left _ hx hy) (fun j hj => ?_) b hb
  have t : ∀ i < 8, ∀ j < 8, mul (2 ^ i) (2 ^ j) = mul (2 ^ j) (2 ^ i) := by decide +kernel
  exact t i hi j hj
theorem pow_lt {i : Nat} (hi : i < 8) : 2 ^ i < 256 := Nat.pow_lt_pow_right (a := 2) (by decide) hi
theorem mul_assoc {a b c : Nat} (ha : a < 256) (hb : b < 256) (hc : c < 256) : mul (mul a b) c = mul a (mul b c) := by
  refine lin_ext (F := fun a => mul (mul a b) c) (H := fun a => mul a (mul b c)) (fun x y hx hy => by rw [mul_left b hx hy, mul_left c (mul_lt b hx) (mul_lt b hy)]) (fun x y hx hy => mul_left _ hx hy) (fun i hi => ?_) a ha
  refine lin_ext (F := fun b => mul (mul (2 ^ i) b) c) (H := fun b => mul (2 ^ i) (mul b c)) (fun x y hx hy => by rw [mul_right, mul_left c (mul_lt x (pow_lt hi)) (mul_lt y (pow_lt hi))]) (fun x y hx hy => by rw [mul_left c hx hy, mul_right]) (fun j hj => ?_) b hb
  refine lin_ext (F := fun c => mul (mul (2 ^ i) (2 ^ j)) c) (H := fun c => mul (2 ^ i) (mul (2 ^ j) c)) (fun x y _ _ => mul_right _ x y) (fun x y _ _ => by rw [mul_right, mul_right]) (fun k hk => ?_) c hc
  have t : ∀ i < 8, ∀ j < 8, ∀ k < 8, mul (mul (2 ^ i) (2 ^ j)) (2 ^ k) = mul (2 ^ i) (mul (2 ^ j) (2 ^ k)) := by decide +kernel
  exact t i hi j hj k hk
theorem mul_one {a : Nat} (_ : a < 256) : mul a 1 = a := by
  show (if (1 : Nat) % 2 = 1 then a else 0) ^^^ mulF 7 (xt a) 0 = a
  have z : ∀ k a, mulF k a 0 = 0 := by
    intro k
    induction k with
    | zero => intro a; rfl
    | succ k ih => intro a; rw [mulF, ih]; simp
  rw [z]
  simp
theorem mul_zero (a : Nat) : mul a 0 = 0 := by
  have := mul_right a 0 0
  rw [Nat.xor_self, Nat.xor_self] at this
  exact this
/-- Powers. -/
def pow (a : Nat) : Nat → Nat
  | 0 => 1
  | n + 1 => mul (pow a n) a
theorem pow_lt256 {a : Nat} : ∀ n, pow a n < 256
  | 0 => by rw [pow]; decide
  | n + 1 => mul_lt _ (pow_lt256 n)
theorem pow_add {a : Nat} (ha : a < 256) (m : Nat) : ∀ n, pow a (m + n) = mul (pow a m) (pow a n)
  | 0 => (mul_one (pow_lt256 m)).symm
  | n + 1 => by rw [← Nat.add_assoc, pow, pow, pow_add ha m n, mul_assoc (pow_lt256 m) (pow_lt256 n) ha]
theorem one_mul {a : Nat} (h : a < 256) : mul 1 a = a := by rw [mul_comm (by decide) h, mul_one h]
theorem pow_mul {a : Nat} (ha : a < 256) (m : Nat) : ∀ n, pow a (m * n) = pow (pow a m) n
  | 0 => rfl
  | n + 1 => by rw [Nat.mul_succ, pow_add ha, pow_mul ha m n, pow]
theorem mul_pow {a b : Nat} (ha : a < 256) (hb : b < 256) : ∀ n, pow (mul a b) n = mul (pow a n) (pow b n)
  | 0 => by rw [pow, pow, pow]; exact (mul_one (by decide)).symm
  | n + 1 => by
    rw [pow, pow, pow, mul_pow ha hb n]
    have h1 := pow_lt256 (a := a) n
    have h2 := pow_lt256 (a := b) n
    rw [mul_assoc h1 h2 (mul_lt b ha), ← mul_assoc h2 ha hb, mul_comm h2 ha, mul_assoc ha h2 hb, ← mul_assoc h1 ha (mul_lt b h2)]
def sq (a : Nat) : Nat := mul a a
theorem pow255 : ∀ a < 256, a ≠ 0 → pow a 255 = 1 := by
  intro a ha h0
  have e : ∀ a < 256, a ≠ 0 → mul (sq (mul (sq (mul (sq (mul (sq (mul (sq (mul (sq (mul (sq a) a)) a)) a)) a)) a)) a)) a = 1 := by decide +kernel
  have d : ∀ m, pow a (2 * m + 1) = mul (sq (pow a m)) a := fun m => by rw [Nat.two_mul, pow, pow_add ha]; rfl
  have e1 : pow a 1 = a := one_mul ha
  rw [show 255 = 2 * (2 * (2 * (2 * (2 * (2 * (2 * 1 + 1) + 1) + 1) + 1) + 1) + 1) + 1 from rfl, d, d, d, d, d, d, d, e1]
  exact e a ha h0
/-- The inverse; 0 of 0. -/
def inv (a : Nat) : Nat := pow a 254
theorem inv_lt (a : Nat) : inv a < 256 := pow_lt256 254
theorem mul_inv {a : Nat} (h : a < 256) (h0 : a ≠ 0) : mul a (inv a) = 1 := by
  rw [mul_comm h (inv_lt a)]
  exact pow255 a h h0
theorem inv_zero : inv 0 = 0 := mul_zero _
theorem no_zero {a b : Nat} (ha : a < 256) (hb : b < 256) (h : mul a b = 0) : a = 0 ∨ b = 0 := by
  by_cases h0 : a = 0
  · exact .inl h0
  · right
    have h1 := mul_assoc (inv_lt a) ha hb
    rw [mul_comm (inv_lt a) ha, mul_inv ha h0, one_mul hb, h, mul_zero] at h1
    exact h1
theorem inv_only {a b : Nat} (ha : a < 256) (hb : b < 256) (h : mul a b = 1) : b = inv a := by
  have h0 : a ≠ 0 := fun e => by
    subst e
    rw [mul_comm (by decide) hb, mul_zero] at h
    cases h
  have h1 := mul_assoc (inv_lt a) ha hb
  rw [mul_comm (inv_lt a) ha, mul_inv ha h0, one_mul hb, h, mul_one (inv_lt a)] at h1
  exact h1
theorem inv_inv {a : Nat} (ha : a < 256) : inv (inv a) = a := by
  by_cases h0 : a = 0
  · subst h0; rw [inv_zero, inv_zero]
  · exact (inv_only (inv_lt a) ha (by rw [mul_comm (inv_lt a) ha]; exact mul_inv ha h0)).symm
/-- Powers come again after 255. -/
theorem pow_mod {a : Nat} (ha : a < 256) (h0 : a ≠ 0) (n : Nat) : pow a n = pow a (n % 255) := by
  have e := Nat.div_add_mod n 255
  have one : ∀ k, pow 1 k = 1 := by
    intro k
    induction k with
    | zero => rfl
    | succ k ih => rw [pow, ih]; exact mul_one (by decide)
  conv => lhs; rw [← e, pow_add ha, pow_mul ha, pow255 a ha h0, one, one_mul (pow_lt256 _)]
theorem pow_zero_pos {n : Nat} (h : 0 < n) : pow 0 n = 0 := by
  obtain ⟨m, rfl⟩ : ∃ m, n = m + 1 := ⟨n - 1, by omega⟩
  rw [pow, mul_zero]
/-- FROBENIUS: the square of a sum is the sum of the squares. -/
theorem square_xor {a b : Nat} (ha : a < 256) (hb : b < 256) : mul (a ^^^ b) (a ^^^ b) = mul a a ^^^ mul b b := by
  rw [mul_left _ ha hb, mul_right, mul_right, mul_comm hb ha, Nat.xor_assoc, ← Nat.xor_assoc (mul a b), Nat.xor_self, Nat.zero_xor]
/-- All but 0 are powers of 3. -/
theorem three : ∀ a < 256, a ≠ 0 → ∃ n < 255, pow 3 n = a := by decide +kernel
end Go.Proofs.Ytejabkmhpiabnaa.G
