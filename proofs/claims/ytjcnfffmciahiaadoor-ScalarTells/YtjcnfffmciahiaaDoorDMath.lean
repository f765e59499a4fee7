/- Rows of digits of 16 bits, and the numbers that they are. -/
import Derived.Test.YtjcnfffmciahiaaDoorRows
namespace Go.Proofs.YtjcnfffmciahiaaDoor.P
/-- The number of a row of digits, the least first. -/
def dv : List Nat → Nat
  | [] => 0
  | x :: xs => x + 65536 * dv xs
/-- All are digits. -/
def Dg (xs : List Nat) : Prop := ∀ x ∈ xs, x < 65536
/-- A number's digits, none of them 0 at the end. -/
def dg (n : Nat) : List Nat := if n = 0 then [] else n % 65536 :: dg (n / 65536) termination_by n decreasing_by omega
theorem dg_zero : dg 0 = [] := by rw [dg]; simp
theorem dg_pos {n : Nat} (h : n ≠ 0) : dg n = n % 65536 :: dg (n / 65536) := by rw [dg, if_neg h]
theorem dg_Dg (n : Nat) : Dg (dg n) := by
  induction n using Nat.strongRecOn with
  | _ n ih =>
    by_cases h : n = 0
    · subst h; rw [dg_zero]; intro x hx; cases hx
    · rw [dg_pos h]
      intro x hx
      rcases List.mem_cons.1 hx with rfl | hx
      · exact Nat.mod_lt _ (by decide)
      · exact ih _ (by omega) x hx
theorem dv_dg (n : Nat) : dv (dg n) = n := by
  induction n using Nat.strongRecOn with
  | _ n ih =>
    by_cases h : n = 0
    · subst h; rw [dg_zero]; rfl
    · rw [dg_pos h, dv, ih _ (by omega)]; omega
theorem Dg.tail {x : Nat} {xs : List Nat} (h : Dg (x :: xs)) : Dg xs := fun y hy => h y (List.mem_cons_of_mem _ hy)
theorem Dg.head {x : Nat} {xs : List Nat} (h : Dg (x :: xs)) : x < 65536 := h x List.mem_cons_self
theorem dv_lt : ∀ xs, Dg xs → dv xs < 65536 ^ xs.length
  | [], _ => by simp [dv]
  | x :: xs, h => by
    have := dv_lt xs h.tail
    have := h.head
    rw [dv, List.length_cons, Nat.pow_succ]
    omega
theorem dg_len {n : Nat} : ∀ L, n < 65536 ^ L → (dg n).length ≤ L := by
  intro L
  induction L generalizing n with
  | zero => intro h; have : n = 0 := by simpa using h
            subst this; rw [dg_zero]; simp
  | succ L ih =>
    intro h
    by_cases hz : n = 0
    · subst hz; rw [dg_zero]; simp
    · rw [dg_pos hz, List.length_cons]
      have := ih (n := n / 65536) (by rw [Nat.pow_succ] at h; omega)
      omega
/-- What has no 0 at the end is its number's digits. -/
theorem eq_dg : ∀ xs, Dg xs → (xs = [] ∨ xs.getD (xs.length - 1) 0 ≠ 0) → xs = dg (dv xs)
  | [], _, _ => by rw [dv, dg_zero]
  | [x], h, hl => by
    have hx : x ≠ 0 := by simpa using hl
    have := h.head
    rw [dv, dv, Nat.mul_zero, Nat.add_zero, dg_pos hx, Nat.mod_eq_of_lt this, show x / 65536 = 0 by omega, dg_zero]
  | x :: y :: xs, h, hl => by
    have ih := eq_dg (y :: xs) h.tail (.inr (by simpa using hl))
    have hx := h.head
    have hp : dv (y :: xs) ≠ 0 := by
      intro e
      rw [e, dg_zero] at ih
      cases ih
    rw [dv, dg_pos (by omega), show (x + 65536 * dv (y :: xs)) % 65536 = x by omega, show (x + 65536 * dv (y :: xs)) / 65536 = dv (y :: xs) by omega, ← ih]
theorem dv_append (xs ys : List Nat) : dv (xs ++ ys) = dv xs + 65536 ^ xs.length * dv ys := by
  induction xs with
  | nil => simp [dv]
  | cons x xs ih => rw [List.cons_append, dv, dv, ih, List.length_cons, Nat.pow_succ]; grind
theorem dv_zeros (k : Nat) : dv (List.replicate k 0) = 0 := by
  induction k with
  | zero => rfl
  | succ k ih => rw [List.replicate_succ, dv, ih]
/-- What is struck at the end is nothing. -/
theorem dv_take {xs : List Nat} {k : Nat} (h : ∀ j, k ≤ j → xs.getD j 0 = 0) : dv (xs.take k) = dv xs := by
  induction xs generalizing k with
  | nil => simp
  | cons x xs ih =>
    cases k with
    | zero =>
      have e := ih (k := 0) (fun j _ => by have := h (j + 1) (by omega); simpa using this)
      have h0 := h 0 (by omega)
      simp at h0 e
      rw [h0]
      simp only [dv] at e ⊢
      simp [dv, ← e]
    | succ k =>
      rw [List.take_succ_cons, dv, dv, ih (fun j hj => by have := h (j + 1) (by omega); simpa using this)]
theorem Dg.take {xs : List Nat} (h : Dg xs) (k : Nat) : Dg (xs.take k) := fun x hx => h x (List.mem_of_mem_take hx)
theorem Dg.append {xs ys : List Nat} (h : Dg xs) (h' : Dg ys) : Dg (xs ++ ys) := fun x hx => (List.mem_append.1 hx).elim (h x) (h' x)
theorem Dg.one {x : Nat} (h : x < 65536) : Dg [x] := fun y hy => by rw [List.mem_singleton.1 hy]; exact h
/-- The digit at a place. -/
theorem dig {xs : List Nat} (h : Dg xs) (i : Nat) : xs.getD i 0 = dv xs / 65536 ^ i % 65536 := by
  induction xs generalizing i with
  | nil => simp [dv]
  | cons x xs ih =>
    have hx := h.head
    cases i with
    | zero => rw [dv]; simp; omega
    | succ i =>
      rw [List.getD_cons_succ, ih h.tail, dv, Nat.pow_succ, Nat.mul_comm (65536 ^ i), ← Nat.div_div_eq_div_mul, show (x + 65536 * dv xs) / 65536 = dv xs by omega]
theorem dig_lt {xs : List Nat} (h : Dg xs) (i : Nat) : xs.getD i 0 < 65536 := by rw [dig h]; exact Nat.mod_lt _ (by decide)
theorem mod_pow_succ' (n i : Nat) : n % 65536 ^ (i + 1) = n % 65536 ^ i + 65536 ^ i * (n / 65536 ^ i % 65536) := by
  rw [Nat.pow_succ, Nat.mod_mul]
/-- Behind the last digit there is nothing. -/
theorem mod_len {xs : List Nat} (h : Dg xs) {i : Nat} (hi : xs.length ≤ i) : dv xs % 65536 ^ i = dv xs :=
  Nat.mod_eq_of_lt (Nat.lt_of_lt_of_le (dv_lt xs h) (Nat.pow_le_pow_right (by decide) hi))
theorem dv_set {xs : List Nat} {i v : Nat} (hi : i < xs.length) : dv (xs.set i v) + 65536 ^ i * xs.getD i 0 = dv xs + 65536 ^ i * v := by
  induction xs generalizing i with
  | nil => simp at hi
  | cons x xs ih =>
    cases i with
    | zero => simp [dv]; omega
    | succ i =>
      have := ih (i := i) (by simpa using hi)
      rw [List.set_cons_succ, dv, dv, List.getD_cons_succ, Nat.pow_succ]
      grind
theorem Dg.set {xs : List Nat} (h : Dg xs) {i v : Nat} (hv : v < 65536) : Dg (xs.set i v) := fun x hx => by
  rcases List.mem_or_eq_of_mem_set hx with h1 | h1
  · exact h x h1
  · rw [h1]; exact hv
end Go.Proofs.YtjcnfffmciahiaaDoor.P
