/- Points packed: what package curve must keep of Pack and Unpack; thirty-two bytes and their number. -/
import Derived.Test.YtbninaelmbkboabKnO
import Derived.Test.YtbninaelmbkboabKnP
import Derived.Test.YtbninaelmbkboabCPack
namespace Go.Proofs.Ytbninaelmbkboab
open Go.RowKit
set_option linter.unusedSimpArgs false
abbrev zW' : Value := Wv ⟨0, 0, 0, 0⟩ ⟨0, 0, 0, 0⟩
def CPackC : Prop := ∀ P : Cv.Pt, Cv.On P → ∀ w, Calls Try.prog 13 #[pv P] w fun e w' => e = .returned (.tuple #[bV (Cv.pk P), .int .i64 0]) ∧ Below w.heap.size w w'
def CPackN : Prop := ∀ x y : Nm, x.ok → y.ok → ¬ Cv.On (x.nat, y.nat) → ∀ w, Calls Try.prog 13 #[Wv x y] w fun e w' => e = .returned (.tuple #[bV 0, .int .i64 1]) ∧ Below w.heap.size w w'
def CUnpC : Prop := ∀ n, n < 2 ^ 256 → (∀ P, Cv.unp n = some P → ∀ w, Calls Try.prog 14 #[bV n] w fun e w' => e = .returned (.tuple #[pv P, .int .i64 0]) ∧ Below w.heap.size w w') ∧ (Cv.unp n = none → ∀ w, Calls Try.prog 14 #[bV n] w fun e w' => e = .returned (.tuple #[zW', .int .i64 4]) ∧ Below w.heap.size w w')
/-- A number of bytes. -/
theorem num_of : ∀ xs : List Int, (∀ x ∈ xs, 0 ≤ x ∧ x < 256) → ∃ n : Nat, n < 256 ^ xs.length ∧ ∀ i, i < xs.length → xs.getD i 0 = ((n / 256 ^ i % 256 : Nat) : Int)
  | [], _ => ⟨0, by decide, fun i hi => absurd hi (by simp)⟩
  | x :: xs, h => by
    obtain ⟨n, hn, he⟩ := num_of xs fun y hy => h y (List.mem_cons_of_mem _ hy)
    have hx := h x List.mem_cons_self
    refine ⟨x.toNat + 256 * n, ?_, fun i hi => ?_⟩
    · rw [List.length_cons, Nat.pow_succ]
      omega
    · cases i with
      | zero =>
        rw [Nat.pow_zero, Nat.div_one]
        show x = _
        omega
      | succ i =>
        rw [Nat.pow_succ, Nat.mul_comm (256 ^ i) 256, ← Nat.div_div_eq_div_mul, show (x.toNat + 256 * n) / 256 = n by omega]
        exact he i (by simpa using hi)
theorem bytes_num (xs : List Int) (hl : xs.length = 32) (hx : ∀ x ∈ xs, 0 ≤ x ∧ x < 256) : ∃ n, n < 2 ^ 256 ∧ xs.map (Value.int .u8) = bR n := by
  obtain ⟨n, hn, he⟩ := num_of xs hx
  rw [hl] at hn he
  refine ⟨n, Nat.lt_of_lt_of_le hn (by decide), ?_⟩
  apply List.ext_getElem?
  intro i
  by_cases hi : i < 32
  · have h1 := he i hi
    rw [List.getD_eq_getElem?_getD, List.getElem?_eq_getElem (by omega)] at h1
    rw [List.getElem?_map, List.getElem?_eq_getElem (by omega)]
    simp [bR, hi]
    simpa using h1
  · rw [List.getElem?_eq_none (by simp; omega), List.getElem?_eq_none (by rw [bR_length]; omega)]
theorem byte_eq {m n : Nat} : ∀ k, (∀ i, i < k → m / 256 ^ i % 256 = n / 256 ^ i % 256) → m % 256 ^ k = n % 256 ^ k
  | 0, _ => by rw [Nat.pow_zero, Nat.mod_one, Nat.mod_one]
  | k + 1, h => by rw [Nat.pow_succ, Nat.mod_mul, Nat.mod_mul, byte_eq k fun i hi => h i (by omega), h k (by omega)]
set_option maxRecDepth 100000 in
theorem eqB {m n : Nat} (hm : m < 2 ^ 256) (hn : n < 2 ^ 256) (w : World) : (binOp .eql 35 (bV m) (bV n)).run Try.prog w = .ok (.bool (decide (m = n))) w := by
  have hg : ∀ n j, j < 32 → (bR n).toArray[j]? = some (.int .u8 ((n / 256 ^ j % 256 : Nat) : Int)) := fun n j hj => by simp [bR, hj]
  rw [run_eql_ints (P := Try.prog) (t := 35) (e := 5) (n := 32) (k := .u8) Try.underlying35 rfl Try.underlying5 (by kernel_rfl) (by kernel_rfl) (fun j => ((m / 256 ^ j % 256 : Nat) : Int)) (fun j => ((n / 256 ^ j % 256 : Nat) : Int)) _ _ (hg m) (hg n)]
  congr 2
  by_cases h : m = n
  · subst h
    simp
  · rw [decide_eq_false h]
    refine Bool.eq_false_iff.2 fun e => h ?_
    have e2 : ∀ j, j < 32 → m / 256 ^ j % 256 = n / 256 ^ j % 256 := fun j hj => by
      have h1 := List.all_eq_true.1 e j (List.mem_range.2 hj)
      have h2 : ((m / 256 ^ j % 256 : Nat) : Int) = ((n / 256 ^ j % 256 : Nat) : Int) := eq_of_beq h1
      exact Int.ofNat.inj h2
    have h3 := byte_eq 32 e2
    rw [show (256 : Nat) ^ 32 = 2 ^ 256 by decide, Nat.mod_eq_of_lt hm, Nat.mod_eq_of_lt hn] at h3
    exact h3
/-- The highest bit turned. -/
theorem turn_byte {n : Nat} (hn : n < 2 ^ 256) : bits .xor .u8 ((n / 256 ^ 31 % 256 : Nat) : Int) 128 = ((Cv.turn n / 256 ^ 31 % 256 : Nat) : Int) := by
  have p31 : (256 : Nat) ^ 31 = 452312848583266388373324160190187140051835877600158453279131187530910662656 := by decide
  have p255 : (2 : Nat) ^ 255 = 57896044618658097711785492504343953926634992332820282019728792003956564819968 := by decide
  have p256 : (2 : Nat) ^ 256 = 115792089237316195423570985008687907853269984665640564039457584007913129639936 := by decide
  have tab : ∀ x : Fin 256, bits .xor .u8 ((x.val : Nat) : Int) 128 = ((if x.val < 128 then x.val + 128 else x.val - 128 : Nat) : Int) := by decide +kernel
  have h := tab ⟨n / 256 ^ 31 % 256, Nat.mod_lt _ (by decide)⟩
  rw [h]
  congr 1
  simp only []
  unfold Cv.turn
  rw [p31, p255]
  rw [p256] at hn
  split <;> split <;> omega
theorem turn_lt {n : Nat} (hn : n < 2 ^ 256) : Cv.turn n < 2 ^ 256 := by
  have p255 : (2 : Nat) ^ 255 = 57896044618658097711785492504343953926634992332820282019728792003956564819968 := by decide
  have p256 : (2 : Nat) ^ 256 = 115792089237316195423570985008687907853269984665640564039457584007913129639936 := by decide
  unfold Cv.turn
  rw [p255]
  rw [p256] at *
  split <;> omega
theorem turn_row {n : Nat} (hn : n < 2 ^ 256) : (bR n).set 31 (.int .u8 ((Cv.turn n / 256 ^ 31 % 256 : Nat) : Int)) = bR (Cv.turn n) := by
  apply List.ext_getElem?
  intro i
  by_cases hi : i < 32
  · by_cases h31 : i = 31
    · subst h31
      rw [List.getElem?_set_self (by rw [bR_length]; decide)]
      simp [bR]
    · rw [List.getElem?_set_ne (Ne.symm h31)]
      have e : n / 256 ^ i % 256 = Cv.turn n / 256 ^ i % 256 := by
        have hs : (2 : Nat) ^ 255 = 256 ^ i * (256 * 2 ^ (247 - 8 * i)) := by
          rw [show (256 : Nat) = 2 ^ 8 from rfl, ← Nat.pow_mul, ← Nat.pow_add, ← Nat.pow_add]
          congr 1
          omega
        unfold Cv.turn
        split
        · rw [hs, Nat.add_mul_div_left _ _ (Nat.pow_pos (by decide)), Nat.add_mul_mod_self_left]
        · rename_i h1
          have hge : 2 ^ 255 ≤ n := by
            rcases Nat.lt_or_ge n (2 ^ 255) with h | h
            · rw [Nat.div_eq_of_lt h] at h1
              exact absurd rfl h1
            · exact h
          obtain ⟨m, rfl⟩ : ∃ m, n = m + 2 ^ 255 := ⟨n - 2 ^ 255, by omega⟩
          rw [Nat.add_sub_cancel, hs, Nat.add_mul_div_left _ _ (Nat.pow_pos (by decide)), Nat.add_mul_mod_self_left]
      unfold bR
      rw [List.getElem?_map, List.getElem?_map, List.getElem?_range hi]
      simp only [Option.map_some, e]
  · rw [List.getElem?_eq_none (by rw [List.length_set, bR_length]; omega), List.getElem?_eq_none (by rw [bR_length]; omega)]
end Go.Proofs.Ytbninaelmbkboab
