/- A log's peaks as lists: what is kept, how it changes as a leaf is added. Over any nodes. -/
import Derived.Test.YtmpniingbioggaaDoorTClimb
namespace Go.Proofs.YtmpniingbioggaaDoor.T
section
variable {D : Type} (nd : D → D → D) (d0 : D)
/-- What is left behind the whole multiples of 2^k. -/
def restL (k : Nat) (l : List D) : List D := l.drop (l.length / 2 ^ k * 2 ^ k)
/-- The peak of 2^b. -/
def pk (l : List D) (b : Nat) : D := top nd d0 ((restL (b + 1) l).take (2 ^ b))
theorem restL_length (k : Nat) (l : List D) : (restL k l).length = l.length % 2 ^ k := by
  rw [restL, List.length_drop]
  have := Nat.div_add_mod l.length (2 ^ k)
  rw [Nat.mul_comm] at this
  omega
theorem bit_of (n k : Nat) : n % 2 ^ (k + 1) / 2 ^ k % 2 = n / 2 ^ k % 2 := by
  rw [Nat.pow_succ, Nat.mod_mul_right_div_self, Nat.mod_mod]
theorem div_step (n k : Nat) : n / 2 ^ k = 2 * (n / 2 ^ (k + 1)) + n / 2 ^ k % 2 := by
  rw [Nat.pow_succ, ← Nat.div_div_eq_div_mul]
  omega
theorem peaks_step (k : Nat) (l : List D) : peaksF nd d0 (k + 1) (restL (k + 1) l) = (if l.length / 2 ^ k % 2 = 1 then [pk nd d0 l k] else []) ++ peaksF nd d0 k (restL k l) := by
  have hs := div_step l.length k
  rw [peaksF, restL_length, bit_of]
  split
  · rename_i h
    rw [h] at hs
    rw [List.singleton_append, pk]
    congr 2
    rw [restL, restL, List.drop_drop, hs, Nat.pow_succ]
    congr 1
    rw [Nat.add_mul, Nat.one_mul, Nat.mul_comm 2, Nat.mul_assoc, Nat.mul_comm 2]
  · rename_i h
    have h0 : l.length / 2 ^ k % 2 = 0 := by omega
    rw [h0] at hs
    rw [List.nil_append]
    congr 1
    rw [restL, restL, hs, Nat.pow_succ]
    congr 1
    rw [Nat.add_zero, Nat.mul_comm 2, Nat.mul_assoc, Nat.mul_comm 2]
theorem restL_all {k : Nat} {l : List D} (h : l.length < 2 ^ k) : restL k l = l := by
  rw [restL, Nat.div_eq_of_lt h]
  simp
theorem peaksF_more (k e : Nat) {l : List D} (h : l.length < 2 ^ k) : peaksF nd d0 (k + e) l = peaksF nd d0 k l := by
  induction e with
  | zero => rfl
  | succ e ih =>
    rw [← Nat.add_assoc, peaksF, if_neg, ih]
    rw [Nat.div_eq_of_lt (Nat.lt_of_lt_of_le h (Nat.pow_le_pow_right (by decide) (Nat.le_add_right _ _)))]
    decide
variable (z : D)
/-- What a log keeps, the first b of it taken out. -/
def logQ (l : List D) (b : Nat) : List D := (List.range 17).map fun c => if c < b then z else if l.length / 2 ^ c % 2 = 1 then pk nd d0 l c else z
theorem logQ_length (l : List D) (b : Nat) : (logQ nd d0 z l b).length = 17 := by simp [logQ]
theorem logQ_at {l : List D} {b c : Nat} (hc : c < 17) : (logQ nd d0 z l b)[c]? = some (if c < b then z else if l.length / 2 ^ c % 2 = 1 then pk nd d0 l c else z) := by
  simp [logQ, hc]
theorem logQ_nil : logQ nd d0 z [] 0 = List.replicate 17 z := by
  apply List.ext_getElem?
  intro c
  rcases Nat.lt_or_ge c 17 with h | h
  · rw [logQ_at nd d0 z h, List.getElem?_replicate, if_pos h]
    simp
  · rw [List.getElem?_eq_none (by rw [logQ_length]; exact h), List.getElem?_eq_none (by rw [List.length_replicate]; exact h)]
theorem logQ_take {l : List D} {b : Nat} : (logQ nd d0 z l b).set b z = logQ nd d0 z l (b + 1) := by
  apply List.ext_getElem?
  intro c
  rcases Nat.lt_or_ge c 17 with h | h
  · rw [List.getElem?_set, logQ_at nd d0 z h, logQ_at nd d0 z h, logQ_length]
    by_cases e : b = c
    · subst e; simp [h]
    · rw [if_neg e]
      by_cases g : c < b
      · rw [if_pos g, if_pos (by omega)]
      · rw [if_neg g, if_neg (show ¬ c < b + 1 by omega)]
  · rw [List.getElem?_eq_none (by rw [List.length_set, logQ_length]; exact h), List.getElem?_eq_none (by rw [logQ_length]; exact h)]
/-- The digest that is carried, when the lowest b are gone into it. -/
def carry (l : List D) (b : Nat) : D := top nd d0 (l.drop (l.length - 2 ^ b))
theorem carry_zero (l : List D) (p : D) : carry nd d0 (l ++ [p]) 0 = p := by
  rw [carry, List.length_append, Nat.pow_zero]
  simp
  exact top_one nd d0 p
theorem all_ones {n b : Nat} (h : n % 2 ^ b = 2 ^ b - 1) (hb : n / 2 ^ b % 2 = 1) : n % 2 ^ (b + 1) = 2 ^ (b + 1) - 1 := by
  have h0 : 0 < 2 ^ b := Nat.two_pow_pos b
  rw [Nat.pow_succ, Nat.mod_mul, hb, h]
  omega
theorem offs {n b : Nat} (h : n % 2 ^ b = 2 ^ b - 1) : n / 2 ^ b * 2 ^ b = n + 1 - 2 ^ b := by
  have h0 : 0 < 2 ^ b := Nat.two_pow_pos b
  have := Nat.div_add_mod n (2 ^ b)
  rw [Nat.mul_comm] at this
  omega
theorem carry_step {l : List D} {p : D} {b : Nat} (h : l.length % 2 ^ b = 2 ^ b - 1) (hb : l.length / 2 ^ b % 2 = 1) : carry nd d0 (l ++ [p]) (b + 1) = nd (pk nd d0 l b) (carry nd d0 (l ++ [p]) b) := by
  have h0 : 0 < 2 ^ b := Nat.two_pow_pos b
  have h1 := all_ones h hb
  have h2 := offs h1
  have hm : 2 ^ (b + 1) ≤ l.length + 1 := by
    have := Nat.mod_le l.length (2 ^ (b + 1))
    have := Nat.two_pow_pos (b + 1)
    omega
  have e2 : 2 ^ (b + 1) = 2 ^ b + 2 ^ b := by rw [Nat.pow_succ]; omega
  have e : (l ++ [p]).drop (l.length + 1 - 2 ^ (b + 1)) = (restL (b + 1) l).take (2 ^ b) ++ (l ++ [p]).drop (l.length + 1 - 2 ^ b) := by
    rw [restL, h2]
    have e3 : l.length + 1 - 2 ^ b = (l.length + 1 - 2 ^ (b + 1)) + 2 ^ b := by omega
    rw [e3, ← List.drop_drop]
    rw [List.drop_append_of_le_length (l₂ := [p]) (i := l.length + 1 - 2 ^ (b + 1)) (by omega)]
    conv => lhs; rw [← List.take_append_drop (2 ^ b) (l.drop (l.length + 1 - 2 ^ (b + 1)) ++ [p])]
    rw [List.take_append_of_le_length (by rw [List.length_drop]; omega)]
  rw [carry, carry, List.length_append, List.length_singleton, e, pk]
  refine top_split nd d0 (j := b) ?_ ?_ ?_
  · rw [List.length_take, restL_length, h1]; omega
  · rw [List.length_drop, List.length_append, List.length_singleton]; omega
  · rw [List.length_drop, List.length_append, List.length_singleton]; omega
theorem low_ones {n b : Nat} (h : n % 2 ^ b = 2 ^ b - 1) (hb : ¬ n / 2 ^ b % 2 = 1) : n % 2 ^ (b + 1) = 2 ^ b - 1 := by
  rw [Nat.pow_succ, Nat.mod_mul, show n / 2 ^ b % 2 = 0 by omega, h]
  omega
theorem succ_div {n b c : Nat} (h : n % 2 ^ (b + 1) = 2 ^ b - 1) (hc : b < c) : (n + 1) / 2 ^ c = n / 2 ^ c := by
  have h0 : 0 < 2 ^ b := Nat.two_pow_pos b
  have key : (n + 1) / 2 ^ (b + 1) = n / 2 ^ (b + 1) := by
    have e := Nat.div_add_mod n (2 ^ (b + 1))
    have hp : 0 < 2 ^ (b + 1) := Nat.two_pow_pos _
    have e2 : 2 ^ (b + 1) = 2 ^ b + 2 ^ b := by rw [Nat.pow_succ]; omega
    rw [show n + 1 = (2 ^ b - 1 + 1) + 2 ^ (b + 1) * (n / 2 ^ (b + 1)) by omega, Nat.add_mul_div_left _ _ hp, Nat.div_eq_of_lt (by omega), Nat.zero_add]
  obtain ⟨e, rfl⟩ : ∃ e, c = b + 1 + e := ⟨c - (b + 1), by omega⟩
  rw [Nat.pow_add, ← Nat.div_div_eq_div_mul, ← Nat.div_div_eq_div_mul, key]
theorem succ_low {n b c : Nat} (h : n % 2 ^ b = 2 ^ b - 1) (hc : c < b) : (n + 1) / 2 ^ c % 2 = 0 := by
  have h0 : 0 < 2 ^ b := Nat.two_pow_pos b
  have e := Nat.div_add_mod n (2 ^ b)
  obtain ⟨f, rfl⟩ : ∃ f, b = c + 1 + f := ⟨b - (c + 1), by omega⟩
  have e1 : n + 1 = 2 ^ (c + 1 + f) * (n / 2 ^ (c + 1 + f) + 1) := by rw [Nat.mul_add]; omega
  rw [e1, Nat.pow_add, Nat.pow_succ, Nat.mul_assoc, Nat.mul_assoc, Nat.mul_div_cancel_left _ (Nat.two_pow_pos c), Nat.mul_mod_right]
/-- A leaf is added: where the carry ends, it lies as a peak. -/
theorem logQ_add {l : List D} {p : D} {b : Nat} (hb17 : b < 17) (h : l.length % 2 ^ b = 2 ^ b - 1) (hb : ¬ l.length / 2 ^ b % 2 = 1) : (logQ nd d0 z l b).set b (carry nd d0 (l ++ [p]) b) = logQ nd d0 z (l ++ [p]) 0 := by
  have h0 : 0 < 2 ^ b := Nat.two_pow_pos b
  have hl := low_ones h hb
  have e2 : 2 ^ (b + 1) = 2 ^ b + 2 ^ b := by rw [Nat.pow_succ]; omega
  apply List.ext_getElem?
  intro c
  rcases Nat.lt_or_ge c 17 with g | g
  · rw [List.getElem?_set, logQ_at nd d0 z g, logQ_at nd d0 z g, logQ_length, if_neg (Nat.not_lt_zero c), List.length_append, List.length_singleton]
    rcases Nat.lt_trichotomy c b with k | k | k
    · rw [if_neg (by omega), if_pos k, succ_low h k]
      simp
    · subst k
      rw [if_pos rfl, if_pos g]
      have hbit : (l.length + 1) / 2 ^ c % 2 = 1 := by
        have e := div_step (l.length + 1) c
        have e3 := succ_div hl (Nat.lt_succ_self c)
        have e4 := Nat.div_add_mod l.length (2 ^ (c + 1))
        have : (l.length + 1) / 2 ^ c = 2 * (l.length / 2 ^ (c + 1)) + 1 := by
          rw [show l.length + 1 = 2 ^ c * (2 * (l.length / 2 ^ (c + 1)) + 1) by
            rw [Nat.mul_add, ← Nat.mul_assoc, Nat.mul_one, show 2 ^ c * 2 = 2 ^ (c + 1) from rfl]; omega, Nat.mul_div_cancel_left _ h0]
        omega
      rw [if_pos hbit, carry, pk, restL, List.length_append, List.length_singleton, succ_div hl (Nat.lt_succ_self c)]
      have e5 : l.length / 2 ^ (c + 1) * 2 ^ (c + 1) = l.length + 1 - 2 ^ c := by
        have e4 := Nat.div_add_mod l.length (2 ^ (c + 1))
        rw [Nat.mul_comm] at e4
        omega
      rw [e5, List.take_of_length_le]
      rw [List.length_drop, List.length_append, List.length_singleton]
      omega
    · rw [if_neg (by omega), if_neg (by omega), succ_div hl k]
      by_cases hbit : l.length / 2 ^ c % 2 = 1
      · rw [if_pos hbit, if_pos hbit, pk, pk, restL, restL, List.length_append, List.length_singleton, succ_div hl (by omega)]
        have e6 := div_step l.length c
        rw [hbit] at e6
        have e7 : l.length / 2 ^ (c + 1) * 2 ^ (c + 1) + 2 ^ c ≤ l.length := by
          have := Nat.div_mul_le_self l.length (2 ^ c)
          rw [e6, Nat.add_mul, Nat.one_mul, Nat.mul_comm 2, Nat.mul_assoc, Nat.mul_comm 2, show 2 ^ c * 2 = 2 ^ (c + 1) from rfl] at this
          exact this
        have e8 : 0 < 2 ^ c := Nat.two_pow_pos c
        rw [List.drop_append_of_le_length (by omega), List.take_append_of_le_length (by rw [List.length_drop]; omega)]
      · rw [if_neg hbit, if_neg hbit]
  · rw [List.getElem?_eq_none (by rw [List.length_set, logQ_length]; exact g), List.getElem?_eq_none (by rw [logQ_length]; exact g)]
end
end Go.Proofs.YtmpniingbioggaaDoor.T
