/- Numbers as bytes, the greatest first. -/
import Derived.Test.YtkgfeacednomfaaLenW
namespace Go.Proofs.Ytkgfeacednomfaa
def numT (X : Nat) : List Nat := (List.range (lenN X / 8 + 1)).map fun j => X / 256 ^ (lenN X / 8 - j) % 256
def beN (c : List Nat) : Nat := c.foldl (fun acc x => acc * 256 + x) 0
theorem beN_snoc (c : List Nat) (x : Nat) : beN (c ++ [x]) = beN c * 256 + x := by simp [beN]
theorem foldl_be : ∀ (c : List Nat) (a : Nat), c.foldl (fun acc x => acc * 256 + x) a = a * 256 ^ c.length + beN c
  | [], a => by simp [beN]
  | x :: c, a => by
    rw [List.foldl_cons, foldl_be c, show beN (x :: c) = c.foldl (fun acc x => acc * 256 + x) (0 * 256 + x) from rfl, foldl_be c]
    simp only [List.length_cons, Nat.pow_succ, Nat.zero_mul, Nat.zero_add]
    rw [Nat.add_mul, Nat.mul_assoc, Nat.mul_comm 256]
    omega
theorem beN_cons (x : Nat) (c : List Nat) : beN (x :: c) = x * 256 ^ c.length + beN c := by
  rw [beN, List.foldl_cons, foldl_be]
  simp
theorem beN_lt : ∀ (c : List Nat), (∀ x ∈ c, x < 256) → beN c < 256 ^ c.length
  | [], _ => by simp [beN]
  | x :: c, h => by
    have ih := beN_lt c (fun y hy => h y (by simp [hy]))
    have hx := h x (by simp)
    rw [beN_cons, List.length_cons, Nat.pow_succ]
    have : x * 256 ^ c.length + 256 ^ c.length ≤ 256 ^ c.length * 256 := by
      rw [Nat.mul_comm (256 ^ c.length) 256, ← Nat.succ_mul]
      exact Nat.mul_le_mul_right _ (by omega)
    omega
/-- The bytes of a number of n bytes. -/
def dT (X n : Nat) : List Nat := (List.range n).map fun j => X / 256 ^ (n - 1 - j) % 256
theorem dT_len (X n : Nat) : (dT X n).length = n := by simp [dT]
theorem dT_get (X n j : Nat) (h : j < n) : (dT X n).getD j 0 = X / 256 ^ (n - 1 - j) % 256 := by
  simp [dT, List.getD_eq_getElem?_getD, h]
theorem numT_dT (X : Nat) : numT X = dT X (lenN X / 8 + 1) := by simp [numT, dT]
theorem dT_low (X n : Nat) : ∀ x ∈ dT X n, x < 256 := by
  intro x hx
  simp only [dT, List.mem_map] at hx
  obtain ⟨j, _, rfl⟩ := hx
  exact Nat.mod_lt _ (by decide)
theorem dT_succ (X n : Nat) : dT X (n + 1) = (X / 256 ^ n % 256) :: dT X n := by
  unfold dT
  rw [List.range_succ_eq_map, List.map_cons, List.map_map]
  congr 1
  apply List.map_congr_left
  intro j hj
  rw [List.mem_range] at hj
  simp only [Function.comp, Nat.add_sub_cancel]
  rw [show n - j.succ = n - 1 - j by omega]
theorem beN_dT (X : Nat) : ∀ n, beN (dT X n) = X % 256 ^ n
  | 0 => by simp [dT, beN, Nat.mod_one]
  | n + 1 => by
    rw [dT_succ, beN_cons, dT_len, beN_dT X n, Nat.pow_succ, Nat.mod_mul, Nat.mul_comm]
    omega
/-- Bytes are those of their number. -/
theorem dT_beN : ∀ (c : List Nat), (∀ x ∈ c, x < 256) → dT (beN c) c.length = c
  | [], _ => rfl
  | x :: c, h => by
    have ih := dT_beN c (fun y hy => h y (by simp [hy]))
    have hl := beN_lt c (fun y hy => h y (by simp [hy]))
    have hx := h x (by simp)
    have p : 0 < 256 ^ c.length := Nat.pow_pos (by decide)
    rw [List.length_cons, dT_succ, beN_cons]
    have e1 : (x * 256 ^ c.length + beN c) / 256 ^ c.length = x := by
      rw [Nat.add_comm, Nat.add_mul_div_right _ _ p, Nat.div_eq_of_lt hl, Nat.zero_add]
    rw [e1, Nat.mod_eq_of_lt hx]
    congr 1
    have e2 : ∀ n, n ≤ c.length → dT (x * 256 ^ c.length + beN c) n = dT (beN c) n := by
      intro n hn
      unfold dT
      apply List.map_congr_left
      intro j hj
      rw [List.mem_range] at hj
      have e3 : x * 256 ^ c.length = 256 ^ (n - 1 - j) * (x * 256 ^ (c.length - (n - 1 - j) - 1) * 256) := by
        have : (256 : Nat) ^ c.length = 256 ^ (n - 1 - j) * (256 ^ (c.length - (n - 1 - j) - 1) * 256) := by
          rw [← Nat.pow_succ, ← Nat.pow_add]
          congr 1
          omega
        rw [this, ← Nat.mul_assoc, Nat.mul_comm x, Nat.mul_assoc, Nat.mul_assoc]
      rw [e3, Nat.mul_add_div (Nat.pow_pos (by decide)), Nat.add_comm, Nat.add_mul_mod_self_right]
    rw [e2 _ (Nat.le_refl _), ih]
theorem lenN_lt (X : Nat) : X < 2 ^ lenN X := lenN_le.1 (Nat.le_refl _)
theorem lenN_ge {X k : Nat} (h : k < lenN X) : 2 ^ k ≤ X := by
  rcases Nat.lt_or_ge X (2 ^ k) with h1 | h1
  · have := lenN_le.2 h1
    omega
  · exact h1
theorem pow256 (k : Nat) : (256 : Nat) ^ k = 2 ^ (8 * k) := by rw [show (256 : Nat) = 2 ^ 8 from rfl, ← Nat.pow_mul]
theorem lenN_256 {X : Nat} (h : X < 2 ^ 256) : lenN X ≤ 256 := lenN_le.2 h
def readNumS (b : List Nat) : Sum Nat Nat :=
  if b.length = 0 then .inl 3
  else if 128 ≤ b.getD 0 0 ∨ (b.getD 0 0 = 0 ∧ 1 < b.length ∧ b.getD 1 0 < 128) then .inl 4
  else if 32 < (if b.getD 0 0 = 0 then b.length - 1 else b.length) then .inl 2
  else .inr (beN b)
/-- How the first byte and the next one stand. -/
theorem num_head (X : Nat) : X / 256 ^ (lenN X / 8) < 128 ∧ (0 < lenN X / 8 → 128 ≤ X / 256 ^ (lenN X / 8 - 1)) := by
  have h1 := lenN_lt X
  constructor
  · rw [pow256]
    apply Nat.div_lt_of_lt_mul
    have : (2 : Nat) ^ lenN X ≤ 2 ^ (8 * (lenN X / 8)) * 128 := by
      rw [show (128 : Nat) = 2 ^ 7 from rfl, ← Nat.pow_add]
      exact Nat.pow_le_pow_right (by decide) (by omega)
    omega
  · intro hk
    rw [pow256]
    have h2 : 2 ^ (8 * (lenN X / 8) - 1) ≤ X := lenN_ge (by omega)
    rw [Nat.le_div_iff_mul_le (Nat.two_pow_pos _)]
    have : 128 * 2 ^ (8 * (lenN X / 8 - 1)) = 2 ^ (8 * (lenN X / 8) - 1) := by
      rw [show (128 : Nat) = 2 ^ 7 from rfl, ← Nat.pow_add]
      congr 1
      omega
    omega
/-- What was written is read as it was. -/
theorem readNum_back {X : Nat} (hX : X < 2 ^ 256) : readNumS (numT X) = .inr X := by
  obtain ⟨g1, g2⟩ := num_head X
  have hl := lenN_256 hX
  have e0 : (numT X).getD 0 0 = X / 256 ^ (lenN X / 8) := by
    rw [numT_dT, dT_get _ _ _ (by omega)]
    simp only [Nat.add_sub_cancel, Nat.sub_zero]
    exact Nat.mod_eq_of_lt (by omega)
  have len : (numT X).length = lenN X / 8 + 1 := by rw [numT_dT, dT_len]
  unfold readNumS
  rw [if_neg (by rw [len]; omega), e0, len]
  have c2 : ¬ (128 ≤ X / 256 ^ (lenN X / 8) ∨ X / 256 ^ (lenN X / 8) = 0 ∧ 1 < lenN X / 8 + 1 ∧ (numT X).getD 1 0 < 128) := by
    rintro (h | ⟨h0, h1, h2⟩)
    · omega
    · rw [numT_dT, dT_get _ _ _ (by omega), show lenN X / 8 + 1 - 1 - 1 = lenN X / 8 - 1 by omega] at h2
      have h3 := g2 (by omega)
      have h4 : X / 256 ^ (lenN X / 8 - 1) < 256 := by
        have e : (256 : Nat) ^ (lenN X / 8) = 256 ^ (lenN X / 8 - 1) * 256 := by rw [← Nat.pow_succ]; congr 1; omega
        rw [e, ← Nat.div_div_eq_div_mul] at h0
        omega
      rw [Nat.mod_eq_of_lt h4] at h2
      omega
  rw [if_neg c2]
  have p256 : X < 256 ^ 32 := by rw [pow256]; exact hX
  have c3 : ¬ 32 < (if X / 256 ^ (lenN X / 8) = 0 then lenN X / 8 + 1 - 1 else lenN X / 8 + 1) := by
    split
    · omega
    · rename_i h
      intro hc
      have : lenN X / 8 = 32 := by omega
      rw [this] at h
      exact h (Nat.div_eq_of_lt p256)
  rw [if_neg c3, numT_dT, beN_dT, Nat.mod_eq_of_lt]
  rw [pow256]
  exact Nat.lt_of_lt_of_le (lenN_lt X) (Nat.pow_le_pow_right (by decide) (by omega))
theorem be_ge (x : Nat) : ∀ c : List Nat, 0 < c.length → (x ≠ 0 ∨ 128 ≤ c.getD 0 0) → 2 ^ (8 * c.length - 1) ≤ beN (x :: c)
  | [], hp, _ => by simp at hp
  | y :: d, _, hc => by
    rw [beN_cons, beN_cons, List.length_cons]
    have e : 2 ^ (8 * (d.length + 1) - 1) = 128 * 256 ^ d.length := by
      rw [pow256, show (128 : Nat) = 2 ^ 7 from rfl, ← Nat.pow_add]
      congr 1
      omega
    rw [e]
    rcases hc with h | h
    · have h2 : 1 * 256 ^ (d.length + 1) ≤ x * 256 ^ (d.length + 1) := Nat.mul_le_mul_right _ (by omega)
      have h3 : 256 ^ (d.length + 1) = 256 ^ d.length * 256 := Nat.pow_succ _ _
      generalize 256 ^ d.length = p at *
      omega
    · have hy : 128 ≤ y := by simpa using h
      have := Nat.mul_le_mul_right (256 ^ d.length) hy
      omega
/-- There is one text of a number. -/
theorem readNum_one {s : List Nat} {X : Nat} (low : ∀ x ∈ s, x < 256) (h : readNumS s = .inr X) : numT X = s ∧ X < 2 ^ 256 := by
  unfold readNumS at h
  by_cases hn : s.length = 0
  · rw [if_pos hn] at h; cases h
  · rw [if_neg hn] at h
    by_cases hc : 128 ≤ s.getD 0 0 ∨ (s.getD 0 0 = 0 ∧ 1 < s.length ∧ s.getD 1 0 < 128)
    · rw [if_pos hc] at h; cases h
    · rw [if_neg hc] at h
      by_cases h32 : 32 < (if s.getD 0 0 = 0 then s.length - 1 else s.length)
      · rw [if_pos h32] at h; cases h
      · rw [if_neg h32] at h
        obtain rfl : beN s = X := Sum.inr.inj h
        clear h
        match s, low, hn, hc, h32 with
        | [], _, hn, _, _ => simp at hn
        | x :: c, low, _, hc, h32 =>
          simp only [List.getD_cons_zero, List.length_cons, List.getD_cons_succ, Nat.add_sub_cancel] at hc h32
          have hl := beN_lt c (fun y hy => low y (by simp [hy]))
          have hx := low x (by simp)
          have p : 0 < 256 ^ c.length := Nat.pow_pos (by decide)
          have up : beN (x :: c) < 128 * 256 ^ c.length := by
            rw [beN_cons]
            have : x * 256 ^ c.length + 256 ^ c.length ≤ 128 * 256 ^ c.length := by
              rw [← Nat.succ_mul]
              exact Nat.mul_le_mul_right _ (by omega)
            omega
          have le1 : lenN (beN (x :: c)) ≤ 8 * c.length + 7 := by
            refine lenN_le.2 ?_
            rw [Nat.pow_add, ← pow256, show (2 : Nat) ^ 7 = 128 from rfl, Nat.mul_comm]
            exact up
          have ge1 : 0 < c.length → 8 * c.length ≤ lenN (beN (x :: c)) := by
            intro hp
            have : 2 ^ (8 * c.length - 1) ≤ beN (x :: c) := by
              refine be_ge x c hp ?_
              by_cases x0 : x = 0
              · right
                rcases Nat.lt_or_ge (c.getD 0 0) 128 with h1 | h1
                · exact absurd (.inr ⟨x0, by omega, h1⟩) hc
                · exact h1
              · exact .inl x0
            rcases Nat.lt_or_ge (lenN (beN (x :: c))) (8 * c.length) with h1 | h1
            · have h2 := lenN_lt (beN (x :: c))
              have h3 : 2 ^ lenN (beN (x :: c)) ≤ 2 ^ (8 * c.length - 1) := Nat.pow_le_pow_right (by decide) (by omega)
              omega
            · exact h1
          have ek : lenN (beN (x :: c)) / 8 = c.length := by
            rcases Nat.eq_zero_or_pos c.length with h0 | h0
            · omega
            · have := ge1 h0
              omega
          refine ⟨?_, ?_⟩
          · rw [numT_dT, ek]
            exact dT_beN (x :: c) low
          · by_cases x0 : x = 0
            · rw [if_pos x0] at h32
              rw [x0, beN_cons, Nat.zero_mul, Nat.zero_add]
              exact Nat.lt_of_lt_of_le hl (by rw [pow256]; exact Nat.pow_le_pow_right (by decide) (by omega))
            · rw [if_neg x0] at h32
              exact Nat.lt_of_lt_of_le (beN_lt (x :: c) low) (by rw [pow256]; exact Nat.pow_le_pow_right (by decide) (by simp; omega))
end Go.Proofs.Ytkgfeacednomfaa
