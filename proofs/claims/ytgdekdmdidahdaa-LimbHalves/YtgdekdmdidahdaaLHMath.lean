/- Bytes of a number by its bits, and numbers by their bytes: what LimbHalves adds up. -/
import Derived.Test.YtgdekdmdidahdaaByteLaw
import Derived.Test.YtgdekdmdidahdaaMulV
namespace Go.Proofs.Ytgdekdmdidahdaa
open Go.RowKit
def wb (X k j : Nat) : Nat := X % 2 ^ k / 256 ^ j % 256
theorem pow_256 (j : Nat) : (256 : Nat) ^ j = 2 ^ (8 * j) := by rw [Nat.pow_mul]
theorem mod_two_succ (X k : Nat) : X % 2 ^ (k + 1) = X % 2 ^ k + 2 ^ k * (X / 2 ^ k % 2) := by rw [Nat.pow_succ, Nat.mod_mul]
theorem wb_other {X k j : Nat} (h : j ≠ k / 8) : wb X (k + 1) j = wb X k j := by
  unfold wb
  rw [pow_256]
  rcases Nat.lt_or_gt_of_ne h with h | h
  · rw [mod_two_succ]
    generalize X / 2 ^ k % 2 = t
    generalize X % 2 ^ k = u at *
    obtain ⟨d, hd⟩ : ∃ d, k = 8 * j + 8 + d := ⟨k - (8 * j + 8), by omega⟩
    have e : 2 ^ k * t = 2 ^ (8 * j) * (256 * (2 ^ d * t)) := by
      rw [hd, Nat.pow_add, Nat.pow_add, show (2 : Nat) ^ 8 = 256 from rfl, Nat.mul_assoc, Nat.mul_assoc]
    rw [e, Nat.add_mul_div_left _ _ (Nat.pow_pos (by decide)), Nat.add_mul_mod_self_left]
  · have hle : 2 ^ (k + 1) ≤ 2 ^ (8 * j) := Nat.pow_le_pow_right (by decide) (by omega)
    have hle2 : 2 ^ k ≤ 2 ^ (8 * j) := Nat.pow_le_pow_right (by decide) (by omega)
    rw [Nat.div_eq_of_lt (Nat.lt_of_lt_of_le (Nat.mod_lt _ (Nat.pow_pos (by decide))) hle), Nat.div_eq_of_lt (Nat.lt_of_lt_of_le (Nat.mod_lt _ (Nat.pow_pos (by decide))) hle2)]
theorem wb_step (X k : Nat) : wb X (k + 1) (k / 8) = wb X k (k / 8) + X / 2 ^ k % 2 * 2 ^ (k % 8) ∧ wb X k (k / 8) < 2 ^ (k % 8) := by
  unfold wb
  rw [mod_two_succ, pow_256]
  have ek : (2 : Nat) ^ k = 2 ^ (8 * (k / 8)) * 2 ^ (k % 8) := by rw [← Nat.pow_add, Nat.div_add_mod]
  have lt : X % 2 ^ k < 2 ^ k := Nat.mod_lt _ (Nat.pow_pos (by decide))
  have t2 : X / 2 ^ k % 2 < 2 := Nat.mod_lt _ (by decide)
  generalize X / 2 ^ k % 2 = t at *
  generalize X % 2 ^ k = u at *
  rw [ek] at lt ⊢
  have rl : (2 : Nat) ^ (k % 8) ≤ 128 := Nat.le_trans (Nat.pow_le_pow_right (by decide) (show k % 8 ≤ 7 by omega)) (by decide)
  have d : u / 2 ^ (8 * (k / 8)) < 2 ^ (k % 8) := Nat.div_lt_of_lt_mul lt
  rw [Nat.mul_assoc, Nat.add_mul_div_left _ _ (Nat.pow_pos (by decide))]
  generalize u / 2 ^ (8 * (k / 8)) = v at *
  generalize 2 ^ (k % 8) = r at *
  have rt : r * t ≤ r * 1 := Nat.mul_le_mul_left _ (by omega)
  rw [Nat.mul_one] at rt
  rw [Nat.mod_eq_of_lt (by omega), Nat.mod_eq_of_lt (by omega), Nat.mul_comm r t]
  exact ⟨rfl, d⟩
/-- the number of bytes -/
def bv : List Nat → Nat
  | [] => 0
  | x :: xs => x + 256 * bv xs
theorem bv_lt : ∀ xs : List Nat, (∀ x ∈ xs, x < 256) → bv xs < 256 ^ xs.length
  | [], _ => by simp [bv]
  | x :: xs, h => by
    have := bv_lt xs (fun y hy => h y (List.mem_cons_of_mem _ hy))
    have := h x List.mem_cons_self
    rw [bv, List.length_cons, Nat.pow_succ]
    omega
theorem bv_dig (xs : List Nat) (h : ∀ x ∈ xs, x < 256) (i : Nat) : xs.getD i 0 = bv xs / 256 ^ i % 256 := by
  induction xs generalizing i with
  | nil => simp [bv]
  | cons x xs ih =>
    have hx := h x List.mem_cons_self
    cases i with
    | zero => rw [bv]; simp; omega
    | succ i =>
      rw [List.getD_cons_succ, ih (fun y hy => h y (List.mem_cons_of_mem _ hy)), bv, Nat.pow_succ, Nat.mul_comm (256 ^ i), ← Nat.div_div_eq_div_mul, show (x + 256 * bv xs) / 256 = bv xs by omega]
theorem bv_step (xs : List Nat) (h : ∀ x ∈ xs, x < 256) (k : Nat) : bv xs / 256 ^ k = bv xs / 256 ^ (k + 1) * 256 + xs.getD k 0 := by
  rw [bv_dig xs h, Nat.pow_succ, ← Nat.div_div_eq_div_mul]
  omega
theorem bv_of : ∀ (ns : List Nat) (X : Nat), (∀ j, j < ns.length → ns.getD j 0 = X / 256 ^ j % 256) → X < 256 ^ ns.length → bv ns = X
  | [], X, _, h => by have : X = 0 := by simpa using h
                      rw [this]; rfl
  | x :: ns, X, hd, h => by
    have h0 := hd 0 (by simp)
    simp at h0
    have ih := bv_of ns (X / 256) (fun j hj => by
      have := hd (j + 1) (by simpa using hj)
      rw [List.getD_cons_succ] at this
      rw [this, Nat.pow_succ, Nat.mul_comm, Nat.div_div_eq_div_mul]) (by rw [List.length_cons, Nat.pow_succ] at h; omega)
    rw [bv, ih, h0]
    omega
/-- Numbers as Go's bytes have them. -/
abbrev bi (ns : List Nat) : List Int := ns.map fun x => ((x : Nat) : Int)
theorem bi_getD (ns : List Nat) (j : Nat) : (bi ns).getD j 0 = ((ns.getD j 0 : Nat) : Int) := by
  rw [List.getD_eq_getElem?_getD, List.getD_eq_getElem?_getD, List.getElem?_map]
  cases ns[j]? <;> rfl
theorem bi_byte {ns : List Nat} (h : ∀ x ∈ ns, x < 256) : ∀ x ∈ bi ns, 0 ≤ x ∧ x < 256 := by
  intro x hx
  obtain ⟨y, hy, rfl⟩ := List.mem_map.1 hx
  have := h y hy
  omega
theorem bv32 (ns : List Nat) (hl : ns.length = 32) : bv ns = bv ((List.range 32).map fun j => ns.getD j 0) := by
  congr 1
  apply List.ext_getElem
  · simp [hl]
  · intro i h1 h2
    simp [h1]
theorem acc_num (ns : List Nat) (hl : ns.length = 32) (h : ∀ x ∈ ns, x < 256) : (⟨acc (bi ns) 32 0, acc (bi ns) 32 1, acc (bi ns) 32 2, acc (bi ns) 32 3⟩ : Nm) = Nm.of ((bv ns : Nat) : Int) := by
  have A := acc_oct (bi ns)
  have O := fun j => octAt_ok (bi_byte h) j
  rw [A.1, A.2.1, A.2.2.1, A.2.2.2]
  refine Nm.eq_of ⟨Oct.val_word (O 0), Oct.val_word (O 1), Oct.val_word (O 2), Oct.val_word (O 3)⟩ ?_
  rw [bv32 ns hl]
  unfold Nm.val
  simp only [Oct.val, octAt, bi_getD, Nat.reduceMul, Nat.reduceAdd]
  simp only [List.range, List.range.loop, List.map_cons, List.map_nil, bv]
  omega
theorem bytes_bi (a : Nm) (oa : a.ok) (ns : List Nat) (hl : ns.length = 32) (h : ∀ j, j < 32 → ns.getD j 0 = wb a.nat 256 j) : bytesOf a = bi ns := by
  have l1 := Nm.nat_lt oa
  have hd : ∀ j, j < ns.length → ns.getD j 0 = a.nat / 256 ^ j % 256 := fun j hj => by
    rw [h j (by omega), wb, Nat.mod_eq_of_lt l1]
  have hb : ∀ x ∈ ns, x < 256 := by
    intro x hx
    obtain ⟨i, hi, rfl⟩ := List.getElem_of_mem hx
    have := hd i hi
    rw [List.getD_eq_getElem?_getD, List.getElem?_eq_getElem hi] at this
    simp only [Option.getD_some] at this
    rw [this]
    exact Nat.mod_lt _ (by decide)
  have e := bv_of ns a.nat hd (by rw [hl]; exact Nat.lt_of_lt_of_le l1 (by decide))
  have A := acc_num ns hl hb
  rw [e, ← Nm.eq_of_nat oa] at A
  have B := bytes_of (xs := bi ns) (by simp [hl]) (bi_byte hb)
  rw [A] at B
  exact B
theorem u8_add (y z : Nat) (h : y + z < 256) : ((y : Int) + wrap64 (z : Int)) % 256 = ((y + z : Nat) : Int) := by
  have e : wrap64 (z : Int) = (z : Int) := by unfold wrap64; omega
  rw [e]
  omega
theorem u8_put (y t r : Nat) (ht : t < 2) (hr : 2 ^ r ≤ 128) (hy : y < 2 ^ r) : ((y : Int) + wrap64 ((t : Int) * 2 ^ r)) % 256 = ((y + t * 2 ^ r : Nat) : Int) := by
  have e : (t : Int) * 2 ^ r = ((t * 2 ^ r : Nat) : Int) := by rw [Int.natCast_mul, Int.natCast_pow]; rfl
  have tl : t * 2 ^ r ≤ 1 * 2 ^ r := Nat.mul_le_mul_right _ (by omega)
  rw [e]
  exact u8_add y _ (by omega)
end Go.Proofs.Ytgdekdmdidahdaa
