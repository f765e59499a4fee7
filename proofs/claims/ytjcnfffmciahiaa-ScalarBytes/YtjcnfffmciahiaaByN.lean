/- Thirty-two bytes and their number; limb.Bytes by a number. -/
import Derived.Test.YtjcnfffmciahiaaKnO
import Derived.Test.YtjcnfffmciahiaaNmN
import Derived.Test.YtjcnfffmciahiaaEq
import Derived.Test.YtjcnfffmciahiaaBytes
namespace Go.Proofs.Ytjcnfffmciahiaa
open Go.RowKit
set_option linter.unusedSimpArgs false
/-- A number of bytes. -/
theorem num_of : ∀ xs : List Int, (∀ x ∈ xs, 0 ≤ x ∧ x < 256) → ∃ n : Nat, n < 256 ^ xs.length ∧ ∀ i, i < xs.length → xs.getD i 0 = ((n / 256 ^ i % 256 : Nat) : Int)
  | [], _ => ⟨0, by decide, fun i hi => absurd hi (by simp)⟩
  | x :: xs, h => by
    obtain ⟨n, hn, he⟩ := num_of xs fun y hy => h y (List.mem_cons_of_mem _ hy)
    have hx := h x List.mem_cons_self
    refine ⟨x.toNat + 256 * n, ?_, fun i hi => ?_⟩
    · rw [List.length_cons, Nat.pow_succ]
      omega
    · cases i with
      | zero =>
        rw [Nat.pow_zero, Nat.div_one]
        show x = _
        omega
      | succ i =>
        rw [Nat.pow_succ, Nat.mul_comm (256 ^ i) 256, ← Nat.div_div_eq_div_mul, show (x.toNat + 256 * n) / 256 = n by omega]
        exact he i (by simpa using hi)
theorem bytes_num (xs : List Int) (hl : xs.length = 32) (hx : ∀ x ∈ xs, 0 ≤ x ∧ x < 256) : ∃ n, n < 2 ^ 256 ∧ xs.map (Value.int .u8) = bR n := by
  obtain ⟨n, hn, he⟩ := num_of xs hx
  rw [hl] at hn he
  refine ⟨n, Nat.lt_of_lt_of_le hn (by decide), ?_⟩
  apply List.ext_getElem?
  intro i
  by_cases hi : i < 32
  · have h1 := he i hi
    rw [List.getD_eq_getElem?_getD, List.getElem?_eq_getElem (by omega)] at h1
    rw [List.getElem?_map, List.getElem?_eq_getElem (by omega)]
    simp [bR, hi]
    simpa using h1
  · rw [List.getElem?_eq_none (by simp; omega), List.getElem?_eq_none (by rw [bR_length]; omega)]
theorem byte_eq {m n : Nat} : ∀ k, (∀ i, i < k → m / 256 ^ i % 256 = n / 256 ^ i % 256) → m % 256 ^ k = n % 256 ^ k
  | 0, _ => by rw [Nat.pow_zero, Nat.mod_one, Nat.mod_one]
  | k + 1, h => by rw [Nat.pow_succ, Nat.mod_mul, Nat.mod_mul, byte_eq k fun i hi => h i (by omega), h k (by omega)]
set_option maxRecDepth 100000 in
theorem eqB {m n : Nat} (hm : m < 2 ^ 256) (hn : n < 2 ^ 256) (w : World) : (binOp .eql 39 (bV m) (bV n)).run Try.prog w = .ok (.bool (decide (m = n))) w := by
  have hg : ∀ n j, j < 32 → (bR n).toArray[j]? = some (.int .u8 ((n / 256 ^ j % 256 : Nat) : Int)) := fun n j hj => by simp [bR, hj]
  rw [run_eql_intsN (P := Try.prog) (t := 39) (e := 5) (n := 32) (k := .u8) Try.underlying39 rfl Try.underlying5 (by kernel_rfl) (by kernel_rfl) (fun j => ((m / 256 ^ j % 256 : Nat) : Int)) (fun j => ((n / 256 ^ j % 256 : Nat) : Int)) _ _ (hg m) (hg n)]
  congr 2
  by_cases h : m = n
  · subst h
    simp
  · rw [decide_eq_false h]
    refine Bool.eq_false_iff.2 fun e => h ?_
    have e2 : ∀ j, j < 32 → m / 256 ^ j % 256 = n / 256 ^ j % 256 := fun j hj => by
      have h1 := List.all_eq_true.1 e j (List.mem_range.2 hj)
      have h2 : ((m / 256 ^ j % 256 : Nat) : Int) = ((n / 256 ^ j % 256 : Nat) : Int) := eq_of_beq h1
      exact Int.ofNat.inj h2
    have h3 := byte_eq 32 e2
    rw [show (256 : Nat) ^ 32 = 2 ^ 256 by decide, Nat.mod_eq_of_lt hm, Nat.mod_eq_of_lt hn] at h3
    exact h3
theorem get_word {x : Nm} (ox : x.ok) (j : Nat) (hj : j < 4) : x.get j = ((x.nat / 18446744073709551616 ^ j % 18446744073709551616 : Nat) : Int) := by
  have hx := Nm.nat_cast ox
  have hv : x.val = x.a + 18446744073709551616 * (x.b + 18446744073709551616 * (x.c + 18446744073709551616 * x.d)) := rfl
  obtain ⟨⟨a0, a1⟩, ⟨b0, b1⟩, ⟨c0, c1⟩, ⟨d0, d1⟩⟩ := ox
  rw [hv] at hx
  have p1 : (18446744073709551616 : Nat) ^ 1 = 18446744073709551616 := by decide
  have p2 : (18446744073709551616 : Nat) ^ 2 = 340282366920938463463374607431768211456 := by decide
  have p3 : (18446744073709551616 : Nat) ^ 3 = 6277101735386680763835789423207666416102355444464034512896 := by decide
  match j, hj with
  | 0, _ => show x.a = _; rw [Nat.pow_zero]; omega
  | 1, _ => show x.b = _; rw [p1]; omega
  | 2, _ => show x.c = _; rw [p2]; omega
  | 3, _ => show x.d = _; rw [p3]; omega
theorem byte_word {n j : Nat} : n / 18446744073709551616 ^ (j / 8) % 18446744073709551616 / 2 ^ (j % 8 * 8) % 256 = n / 256 ^ j % 256 := by
  have e1 : (18446744073709551616 : Nat) ^ (j / 8) = 256 ^ (j / 8 * 8) := by rw [Nat.mul_comm, Nat.pow_mul]
  have e2 : (2 : Nat) ^ (j % 8 * 8) = 256 ^ (j % 8) := by rw [Nat.mul_comm, Nat.pow_mul]
  have e3 : (18446744073709551616 : Nat) = 256 ^ (j % 8) * (256 * 256 ^ (7 - j % 8)) := by
    rw [← Nat.pow_succ', ← Nat.pow_add, show j % 8 + (7 - j % 8 + 1) = 8 by omega]
  rw [e1, e2]
  conv => lhs; rw [e3]
  rw [Nat.mod_mul_right_div_self, Nat.mod_mul_right_mod, Nat.div_div_eq_div_mul, ← Nat.pow_add]
  congr 3
  omega
theorem bytes_nm (x : Nm) (ox : x.ok) : (bytesOf x).map (Value.int .u8) = bR x.nat := by
  unfold bytesOf bR
  rw [List.map_map]
  apply List.map_congr_left
  intro j hj
  have hj := List.mem_range.1 hj
  show Value.int .u8 (byteAt x j) = _
  unfold byteAt
  rw [get_word ox (j / 8) (by omega)]
  congr 1
  rw [← byte_word]
  generalize x.nat / 18446744073709551616 ^ (j / 8) % 18446744073709551616 = q
  rw [Int.natCast_emod, Int.natCast_ediv, Int.natCast_pow]
  rfl
theorem bytes_n (n : Nat) (hn : n < 2 ^ 256) (w : World) : Calls Try.prog 21 #[N (nm n)] w fun e w' => e = .returned (bV n) ∧ Below w.heap.size w w' := by
  have := bytes_fun (nm n) w
  rw [show Bs (bytesOf (nm n)) = bV n by show Value.agg _ = _; rw [bytes_nm _ (nm_ok _), nm_nat hn]] at this
  exact this
end Go.Proofs.Ytjcnfffmciahiaa
