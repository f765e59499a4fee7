/- Columns that are mixed: what goes with xor, comes back, and how many bytes are no nought. -/
import Derived.Test.YtejabkmhpiabnaaGrp0
namespace Go.Proofs.Ytejabkmhpiabnaa.G
theorem xlc (a b c : Nat) : a ^^^ (b ^^^ c) = b ^^^ (a ^^^ c) := by rw [← Nat.xor_assoc, Nat.xor_comm a b, Nat.xor_assoc]
/-- A function of four bytes that goes with xor. -/
structure Lin (F : Nat → Nat → Nat → Nat → Nat) : Prop where
  add : ∀ {a b c d a' b' c' d' : Nat}, a < 256 → b < 256 → c < 256 → d < 256 → a' < 256 → b' < 256 → c' < 256 → d' < 256 → F (a ^^^ a') (b ^^^ b') (c ^^^ c') (d ^^^ d') = F a b c d ^^^ F a' b' c' d'
  lt : ∀ {a b c d : Nat}, a < 256 → b < 256 → c < 256 → d < 256 → F a b c d < 256
theorem Lin.split {F : Nat → Nat → Nat → Nat → Nat} (h : Lin F) {a b c d : Nat} (ha : a < 256) (hb : b < 256) (hc : c < 256) (hd : d < 256) : F a b c d = (F a 0 0 0 ^^^ F 0 b 0 0) ^^^ (F 0 0 c 0 ^^^ F 0 0 0 d) := by
  have z : (0 : Nat) < 256 := by decide
  rw [← h.add ha z z z z hb z z, ← h.add z z hc z z z z hd]
  simp only [Nat.xor_zero, Nat.zero_xor]
  rw [← h.add ha hb z z z z hc hd]
  simp only [Nat.xor_zero, Nat.zero_xor]
theorem lin_m2 : Lin m2 where
  add := fun _ _ _ _ _ _ _ _ => by
    unfold m2
    rw [mul_right, mul_right]
    simp only [Nat.xor_assoc, Nat.xor_comm, xlc]
  lt := fun _ _ hc hd => m2_lt hc hd
theorem lin_u2 : Lin u2 where
  add := fun _ _ _ _ _ _ _ _ => by
    unfold u2
    rw [mul_right, mul_right, mul_right, mul_right]
    simp only [Nat.xor_assoc, Nat.xor_comm, xlc]
  lt := fun _ _ _ _ => u2_lt
/-- One column function behind another. -/
def comp (F H : Nat → Nat → Nat → Nat → Nat) (a b c d : Nat) : Nat := F (H a b c d) (H b c d a) (H c d a b) (H d a b c)
theorem Lin.comp {F H : Nat → Nat → Nat → Nat → Nat} (hF : Lin F) (hH : Lin H) : Lin (comp F H) where
  add := fun a b c d a' b' c' d' => by
    unfold G.comp
    rw [hH.add a b c d a' b' c' d', hH.add b c d a b' c' d' a', hH.add c d a b c' d' a' b', hH.add d a b c d' a' b' c']
    exact hF.add (hH.lt a b c d) (hH.lt b c d a) (hH.lt c d a b) (hH.lt d a b c) (hH.lt a' b' c' d') (hH.lt b' c' d' a') (hH.lt c' d' a' b') (hH.lt d' a' b' c')
  lt := fun a b c d => hF.lt (hH.lt a b c d) (hH.lt b c d a) (hH.lt c d a b) (hH.lt d a b c)
theorem Lin.same {F : Nat → Nat → Nat → Nat → Nat} (h : Lin F) (t : ∀ a < 256, F a 0 0 0 = a ∧ F 0 a 0 0 = 0 ∧ F 0 0 a 0 = 0 ∧ F 0 0 0 a = 0) {a b c d : Nat} (ha : a < 256) (hb : b < 256) (hc : c < 256) (hd : d < 256) : F a b c d = a := by
  rw [h.split ha hb hc hd, (t a ha).1, (t b hb).2.1, (t c hc).2.2.1, (t d hd).2.2.2]
  simp
theorem um_table : ∀ a < 256, comp u2 m2 a 0 0 0 = a ∧ comp u2 m2 0 a 0 0 = 0 ∧ comp u2 m2 0 0 a 0 = 0 ∧ comp u2 m2 0 0 0 a = 0 := by decide +kernel
theorem mu_table : ∀ a < 256, comp m2 u2 a 0 0 0 = a ∧ comp m2 u2 0 a 0 0 = 0 ∧ comp m2 u2 0 0 a 0 = 0 ∧ comp m2 u2 0 0 0 a = 0 := by decide +kernel
theorem m4_table : ∀ a < 256, comp m2 (comp m2 (comp m2 m2)) a 0 0 0 = a ∧ comp m2 (comp m2 (comp m2 m2)) 0 a 0 0 = 0 ∧ comp m2 (comp m2 (comp m2 m2)) 0 0 a 0 = 0 ∧ comp m2 (comp m2 (comp m2 m2)) 0 0 0 a = 0 := by decide +kernel
theorem unmix_mix {a b c d : Nat} (ha : a < 256) (hb : b < 256) (hc : c < 256) (hd : d < 256) : comp u2 m2 a b c d = a := (lin_u2.comp lin_m2).same um_table ha hb hc hd
theorem mix_unmix {a b c d : Nat} (ha : a < 256) (hb : b < 256) (hc : c < 256) (hd : d < 256) : comp m2 u2 a b c d = a := (lin_m2.comp lin_u2).same mu_table ha hb hc hd
theorem mix_four {a b c d : Nat} (ha : a < 256) (hb : b < 256) (hc : c < 256) (hd : d < 256) : comp m2 (comp m2 (comp m2 m2)) a b c d = a := (lin_m2.comp (lin_m2.comp (lin_m2.comp lin_m2))).same m4_table ha hb hc hd
/-- Two equations in two that are no nought. -/
theorem minor {x y z u p q : Nat} (hx : x < 256) (hy : y < 256) (hz : z < 256) (hu : u < 256) (hp : p < 256) (hq : q < 256) (p0 : p ≠ 0) (q0 : q ≠ 0) (h1 : mul x p ^^^ mul y q = 0) (h2 : mul z p ^^^ mul u q = 0) (hne : mul x u ^^^ mul y z ≠ 0) : False := by
  have e1 : mul x p = mul y q := by
    have := congrArg (· ^^^ mul y q) h1
    simpa [Nat.xor_assoc] using this
  have e2 : mul z p = mul u q := by
    have := congrArg (· ^^^ mul u q) h2
    simpa [Nat.xor_assoc] using this
  have pq : mul p q ≠ 0 := fun h => (no_zero hp hq h).elim p0 q0
  have k1 : mul (mul x u) (mul p q) = mul (mul x p) (mul u q) := by
    rw [mul_assoc hx hu (mul_lt _ hp), ← mul_assoc hu hp hq, mul_comm hu hp, mul_assoc hp hu hq, ← mul_assoc hx hp (mul_lt _ hu)]
  have k2 : mul (mul y z) (mul p q) = mul (mul y q) (mul z p) := by
    rw [mul_assoc hy hz (mul_lt _ hp), ← mul_assoc hz hp hq, mul_comm (mul_lt _ hz) hq, ← mul_assoc hy hq (mul_lt _ hz)]
  have k3 : mul (mul x u ^^^ mul y z) (mul p q) = 0 := by
    rw [mul_left _ (mul_lt _ hx) (mul_lt _ hy), k1, k2, e1, e2, Nat.xor_self]
  exact (no_zero (xor_lt (mul_lt _ hx) (mul_lt _ hy)) (mul_lt _ hp) k3).elim hne pq
/-- 1, if it is no nought. -/
def nz (v : Nat) : Nat := if v = 0 then 0 else 1
theorem nz_ne {v : Nat} (h : v ≠ 0) : nz v = 1 := if_neg h
theorem nz_le (v : Nat) : nz v ≤ 1 := by unfold nz; split <;> decide
theorem nz_zero {v : Nat} (h : nz v = 0) : v = 0 := by
  unfold nz at h
  split at h
  · assumption
  · cases h
/-- No two of four are 0. -/
theorem three_of {x y z u : Nat} (h1 : x = 0 → y = 0 → False) (h2 : x = 0 → z = 0 → False) (h3 : x = 0 → u = 0 → False) (h4 : y = 0 → z = 0 → False) (h5 : y = 0 → u = 0 → False) (h6 : z = 0 → u = 0 → False) : 3 ≤ nz x + nz y + nz z + nz u := by
  have a1 := nz_le x
  have a2 := nz_le y
  have a3 := nz_le z
  have a4 := nz_le u
  have b1 : nz x + nz y ≠ 0 := fun h => h1 (nz_zero (by omega)) (nz_zero (by omega))
  have b2 : nz x + nz z ≠ 0 := fun h => h2 (nz_zero (by omega)) (nz_zero (by omega))
  have b3 : nz x + nz u ≠ 0 := fun h => h3 (nz_zero (by omega)) (nz_zero (by omega))
  have b4 : nz y + nz z ≠ 0 := fun h => h4 (nz_zero (by omega)) (nz_zero (by omega))
  have b5 : nz y + nz u ≠ 0 := fun h => h5 (nz_zero (by omega)) (nz_zero (by omega))
  have b6 : nz z + nz u ≠ 0 := fun h => h6 (nz_zero (by omega)) (nz_zero (by omega))
  omega
/-- All bytes of a column and of what it becomes that are no nought. -/
def wt (a b c d : Nat) : Nat := nz a + nz b + nz c + nz d + (nz (m2 a b c d) + nz (m2 b c d a) + nz (m2 c d a b) + nz (m2 d a b c))
theorem wt_turn (a b c d : Nat) : wt b c d a = wt a b c d := by unfold wt; omega
theorem mul_ne {a b : Nat} (ha : a < 256) (hb : b < 256) (h : a ≠ 0) (h' : b ≠ 0) : mul a b ≠ 0 := fun e => (no_zero ha hb e).elim h h'
theorem wt1 {a : Nat} (ha : a < 256) (h : a ≠ 0) : 5 ≤ wt a 0 0 0 := by
  have e0 : m2 a 0 0 0 = mul 2 a := by simp [m2, mul_zero]
  have e1 : m2 0 0 0 a = a := by simp [m2, mul_zero]
  have e2 : m2 0 0 a 0 = a := by simp [m2, mul_zero]
  have e3 : m2 0 a 0 0 = mul 3 a := by simp [m2, mul_zero]
  unfold wt
  rw [e0, e1, e2, e3, nz_ne h, nz_ne (mul_ne (by decide) ha (by decide) h), nz_ne (mul_ne (by decide) ha (by decide) h)]
  omega
theorem wt2 {a b : Nat} (ha : a < 256) (hb : b < 256) (h : a ≠ 0) (h' : b ≠ 0) : 5 ≤ wt a b 0 0 := by
  have o : ∀ {x}, x < 256 → mul 1 x = x := fun hx => one_mul hx
  have e0 : m2 a b 0 0 = mul 2 a ^^^ mul 3 b := by simp [m2]
  have e1 : m2 b 0 0 a = mul 1 a ^^^ mul 2 b := by simp [m2, mul_zero, o ha, Nat.xor_comm]
  have e2 : m2 0 0 a b = mul 1 a ^^^ mul 1 b := by simp [m2, mul_zero, o ha, o hb]
  have e3 : m2 0 a b 0 = mul 3 a ^^^ mul 1 b := by simp [m2, mul_zero, o hb]
  have t := three_of (x := m2 a b 0 0) (y := m2 b 0 0 a) (z := m2 0 0 a b) (u := m2 0 a b 0)
    (fun p q => minor (by decide) (by decide) (by decide) (by decide) ha hb h h' (e0 ▸ p) (e1 ▸ q) (by decide +kernel))
    (fun p q => minor (by decide) (by decide) (by decide) (by decide) ha hb h h' (e0 ▸ p) (e2 ▸ q) (by decide +kernel))
    (fun p q => minor (by decide) (by decide) (by decide) (by decide) ha hb h h' (e0 ▸ p) (e3 ▸ q) (by decide +kernel))
    (fun p q => minor (by decide) (by decide) (by decide) (by decide) ha hb h h' (e1 ▸ p) (e2 ▸ q) (by decide +kernel))
    (fun p q => minor (by decide) (by decide) (by decide) (by decide) ha hb h h' (e1 ▸ p) (e3 ▸ q) (by decide +kernel))
    (fun p q => minor (by decide) (by decide) (by decide) (by decide) ha hb h h' (e2 ▸ p) (e3 ▸ q) (by decide +kernel))
  unfold wt
  rw [nz_ne h, nz_ne h']
  omega
theorem wt2o {a c : Nat} (ha : a < 256) (hc : c < 256) (h : a ≠ 0) (h' : c ≠ 0) : 5 ≤ wt a 0 c 0 := by
  have o : ∀ {x}, x < 256 → mul 1 x = x := fun hx => one_mul hx
  have e0 : m2 a 0 c 0 = mul 2 a ^^^ mul 1 c := by simp [m2, mul_zero, o hc]
  have e1 : m2 0 c 0 a = mul 1 a ^^^ mul 3 c := by simp [m2, mul_zero, o ha, Nat.xor_comm]
  have e2 : m2 c 0 a 0 = mul 1 a ^^^ mul 2 c := by simp [m2, mul_zero, o ha, Nat.xor_comm]
  have e3 : m2 0 a 0 c = mul 3 a ^^^ mul 1 c := by simp [m2, mul_zero, o hc]
  have t := three_of (x := m2 a 0 c 0) (y := m2 0 c 0 a) (z := m2 c 0 a 0) (u := m2 0 a 0 c)
    (fun p q => minor (by decide) (by decide) (by decide) (by decide) ha hc h h' (e0 ▸ p) (e1 ▸ q) (by decide +kernel))
    (fun p q => minor (by decide) (by decide) (by decide) (by decide) ha hc h h' (e0 ▸ p) (e2 ▸ q) (by decide +kernel))
    (fun p q => minor (by decide) (by decide) (by decide) (by decide) ha hc h h' (e0 ▸ p) (e3 ▸ q) (by decide +kernel))
    (fun p q => minor (by decide) (by decide) (by decide) (by decide) ha hc h h' (e1 ▸ p) (e2 ▸ q) (by decide +kernel))
    (fun p q => minor (by decide) (by decide) (by decide) (by decide) ha hc h h' (e1 ▸ p) (e3 ▸ q) (by decide +kernel))
    (fun p q => minor (by decide) (by decide) (by decide) (by decide) ha hc h h' (e2 ▸ p) (e3 ▸ q) (by decide +kernel))
  unfold wt
  rw [nz_ne h, nz_ne h']
  omega
/-- Where all but one that a column becomes are 0, all that it was are no nought. -/
theorem one_back {x : Nat} (hx : x < 256) (h : x ≠ 0) : u2 x 0 0 0 ≠ 0 ∧ u2 0 x 0 0 ≠ 0 ∧ u2 0 0 x 0 ≠ 0 ∧ u2 0 0 0 x ≠ 0 := by
  have e0 : u2 x 0 0 0 = mul 14 x := by simp [u2, mul_zero]
  have e1 : u2 0 x 0 0 = mul 11 x := by simp [u2, mul_zero]
  have e2 : u2 0 0 x 0 = mul 13 x := by simp [u2, mul_zero]
  have e3 : u2 0 0 0 x = mul 9 x := by simp [u2, mul_zero]
  rw [e0, e1, e2, e3]
  exact ⟨mul_ne (by decide) hx (by decide) h, mul_ne (by decide) hx (by decide) h, mul_ne (by decide) hx (by decide) h, mul_ne (by decide) hx (by decide) h⟩
theorem wt3 {a b c : Nat} (ha : a < 256) (hb : b < 256) (hc : c < 256) (h : a ≠ 0) (h1 : b ≠ 0) (h2 : c ≠ 0) : 5 ≤ wt a b c 0 := by
  have z : (0 : Nat) < 256 := by decide
  have back : u2 (m2 0 a b c) (m2 a b c 0) (m2 b c 0 a) (m2 c 0 a b) = 0 := unmix_mix z ha hb hc
  have back1 : u2 (m2 a b c 0) (m2 b c 0 a) (m2 c 0 a b) (m2 0 a b c) = a := unmix_mix ha hb hc z
  have l0 := m2_lt (a := a) (b := b) hc z
  have l1 := m2_lt (a := b) (b := c) z ha
  have l2 := m2_lt (a := c) (b := 0) ha hb
  have l3 := m2_lt (a := 0) (b := a) hb hc
  unfold wt
  rw [nz_ne h, nz_ne h1, nz_ne h2]
  have n0 : nz 0 = 0 := rfl
  rw [n0]
  generalize m2 a b c 0 = x0 at *
  generalize m2 b c 0 a = x1 at *
  generalize m2 c 0 a b = x2 at *
  generalize m2 0 a b c = x3 at *
  apply Classical.byContradiction
  intro hn
  have q0 := nz_le x0
  have q1 := nz_le x1
  have q2 := nz_le x2
  have q3 := nz_le x3
  have u0 : u2 0 0 0 0 = 0 := by simp [u2, mul_zero]
  have cases4 : (x1 = 0 ∧ x2 = 0 ∧ x3 = 0) ∨ (x0 = 0 ∧ x2 = 0 ∧ x3 = 0) ∨ (x0 = 0 ∧ x1 = 0 ∧ x3 = 0) ∨ (x0 = 0 ∧ x1 = 0 ∧ x2 = 0) := by
    by_cases c0 : nz x0 = 0 <;> by_cases c1 : nz x1 = 0 <;> by_cases c2 : nz x2 = 0 <;> by_cases c3 : nz x3 = 0 <;>
      first
      | exact .inl ⟨nz_zero c1, nz_zero c2, nz_zero c3⟩
      | exact .inr (.inl ⟨nz_zero c0, nz_zero c2, nz_zero c3⟩)
      | exact .inr (.inr (.inl ⟨nz_zero c0, nz_zero c1, nz_zero c3⟩))
      | exact .inr (.inr (.inr ⟨nz_zero c0, nz_zero c1, nz_zero c2⟩))
      | (exfalso; omega)
  rcases cases4 with ⟨rfl, rfl, rfl⟩ | ⟨rfl, rfl, rfl⟩ | ⟨rfl, rfl, rfl⟩ | ⟨rfl, rfl, rfl⟩
  · by_cases e : x0 = 0
    · subst e; exact h (back1.symm.trans u0)
    · exact (one_back l0 e).2.1 back
  · by_cases e : x1 = 0
    · subst e; exact h (back1.symm.trans u0)
    · exact (one_back l1 e).2.2.1 back
  · by_cases e : x2 = 0
    · subst e; exact h (back1.symm.trans u0)
    · exact (one_back l2 e).2.2.2 back
  · by_cases e : x3 = 0
    · subst e; exact h (back1.symm.trans u0)
    · exact (one_back l3 e).1 back
theorem wt4 {a b c d : Nat} (ha : a < 256) (hb : b < 256) (hc : c < 256) (hd : d < 256) (h : a ≠ 0) (h1 : b ≠ 0) (h2 : c ≠ 0) (h3 : d ≠ 0) : 5 ≤ wt a b c d := by
  have back1 : u2 (m2 a b c d) (m2 b c d a) (m2 c d a b) (m2 d a b c) = a := unmix_mix ha hb hc hd
  unfold wt
  rw [nz_ne h, nz_ne h1, nz_ne h2, nz_ne h3]
  generalize m2 a b c d = x0 at *
  generalize m2 b c d a = x1 at *
  generalize m2 c d a b = x2 at *
  generalize m2 d a b c = x3 at *
  apply Classical.byContradiction
  intro hn
  have e0 : x0 = 0 := nz_zero (by omega)
  have e1 : x1 = 0 := nz_zero (by omega)
  have e2 : x2 = 0 := nz_zero (by omega)
  have e3 : x3 = 0 := nz_zero (by omega)
  rw [e0, e1, e2, e3] at back1
  exact h (back1.symm.trans (by simp [u2, mul_zero]))
/-- DAEMEN, RIJMEN: of a column and what it becomes at least five bytes are no nought, unless all are. -/
theorem branch {a b c d : Nat} (ha : a < 256) (hb : b < 256) (hc : c < 256) (hd : d < 256) (h : ¬ (a = 0 ∧ b = 0 ∧ c = 0 ∧ d = 0)) : 5 ≤ wt a b c d := by
  by_cases a0 : a = 0 <;> by_cases b0 : b = 0 <;> by_cases c0 : c = 0 <;> by_cases d0 : d = 0
  · exact absurd ⟨a0, b0, c0, d0⟩ h
  · subst a0 b0 c0; rw [← wt_turn, ← wt_turn, ← wt_turn]; exact wt1 hd d0
  · subst a0 b0 d0; rw [← wt_turn, ← wt_turn]; exact wt1 hc c0
  · subst a0 b0; rw [← wt_turn, ← wt_turn]; exact wt2 hc hd c0 d0
  · subst a0 c0 d0; rw [← wt_turn]; exact wt1 hb b0
  · subst a0 c0; rw [← wt_turn]; exact wt2o hb hd b0 d0
  · subst a0 d0; rw [← wt_turn]; exact wt2 hb hc b0 c0
  · subst a0; rw [← wt_turn]; exact wt3 hb hc hd b0 c0 d0
  · subst b0 c0 d0; exact wt1 ha a0
  · subst b0 c0; rw [← wt_turn, ← wt_turn, ← wt_turn]; exact wt2 hd ha d0 a0
  · subst b0 d0; exact wt2o ha hc a0 c0
  · subst b0; rw [← wt_turn, ← wt_turn]; exact wt3 hc hd ha c0 d0 a0
  · subst c0 d0; exact wt2 ha hb a0 b0
  · subst c0; rw [← wt_turn, ← wt_turn, ← wt_turn]; exact wt3 hd ha hb d0 a0 b0
  · subst d0; exact wt3 ha hb hc a0 b0 c0
  · exact wt4 ha hb hc hd a0 b0 c0 d0
def mixL : List Nat → List Nat
  | [a, b, c, d] => [m2 a b c d, m2 b c d a, m2 c d a b, m2 d a b c]
  | l => l
def unmixL : List Nat → List Nat
  | [a, b, c, d] => [u2 a b c d, u2 b c d a, u2 c d a b, u2 d a b c]
  | l => l
/-- Four bytes. -/
def four (l : List Nat) : Prop := l.length = 4 ∧ ∀ x ∈ l, x < 256
theorem four_mk {a b c d : Nat} (ha : a < 256) (hb : b < 256) (hc : c < 256) (hd : d < 256) : four [a, b, c, d] := ⟨rfl, by
  intro x hx
  simp only [List.mem_cons, List.not_mem_nil, or_false] at hx
  rcases hx with rfl | rfl | rfl | rfl <;> assumption⟩
theorem four.ex {l : List Nat} (h : four l) : ∃ a b c d, l = [a, b, c, d] ∧ a < 256 ∧ b < 256 ∧ c < 256 ∧ d < 256 := by
  obtain ⟨hl, hx⟩ := h
  match l, hl with
  | [a, b, c, d], _ => exact ⟨a, b, c, d, rfl, hx a (by simp), hx b (by simp), hx c (by simp), hx d (by simp)⟩
theorem mixL_four {l : List Nat} (h : four l) : four (mixL l) := by
  obtain ⟨a, b, c, d, rfl, ha, hb, hc, hd⟩ := h.ex
  exact four_mk (m2_lt hc hd) (m2_lt hd ha) (m2_lt ha hb) (m2_lt hb hc)
theorem unmixL_four {l : List Nat} (h : four l) : four (unmixL l) := by
  obtain ⟨a, b, c, d, rfl, ha, hb, hc, hd⟩ := h.ex
  exact four_mk u2_lt u2_lt u2_lt u2_lt
theorem unmixL_mixL {l : List Nat} (h : four l) : unmixL (mixL l) = l := by
  obtain ⟨a, b, c, d, rfl, ha, hb, hc, hd⟩ := h.ex
  show [comp u2 m2 a b c d, comp u2 m2 b c d a, comp u2 m2 c d a b, comp u2 m2 d a b c] = _
  rw [unmix_mix ha hb hc hd, unmix_mix hb hc hd ha, unmix_mix hc hd ha hb, unmix_mix hd ha hb hc]
theorem mixL_unmixL {l : List Nat} (h : four l) : mixL (unmixL l) = l := by
  obtain ⟨a, b, c, d, rfl, ha, hb, hc, hd⟩ := h.ex
  show [comp m2 u2 a b c d, comp m2 u2 b c d a, comp m2 u2 c d a b, comp m2 u2 d a b c] = _
  rw [mix_unmix ha hb hc hd, mix_unmix hb hc hd ha, mix_unmix hc hd ha hb, mix_unmix hd ha hb hc]
theorem mixL_mixL4 {l : List Nat} (h : four l) : mixL (mixL (mixL (mixL l))) = l := by
  obtain ⟨a, b, c, d, rfl, ha, hb, hc, hd⟩ := h.ex
  show [comp m2 (comp m2 (comp m2 m2)) a b c d, comp m2 (comp m2 (comp m2 m2)) b c d a, comp m2 (comp m2 (comp m2 m2)) c d a b, comp m2 (comp m2 (comp m2 m2)) d a b c] = _
  rw [mix_four ha hb hc hd, mix_four hb hc hd ha, mix_four hc hd ha hb, mix_four hd ha hb hc]
/-- Xor, place by place. -/
def xor4L (c d : List Nat) : List Nat := (List.range 4).map fun t => c.getD t 0 ^^^ d.getD t 0
theorem xor4L_mk (a b c d a' b' c' d' : Nat) : xor4L [a, b, c, d] [a', b', c', d'] = [a ^^^ a', b ^^^ b', c ^^^ c', d ^^^ d'] := rfl
theorem xor4L_four {l m : List Nat} (hl : four l) (hm : four m) : four (xor4L l m) := by
  obtain ⟨a, b, c, d, rfl, ha, hb, hc, hd⟩ := hl.ex
  obtain ⟨a', b', c', d', rfl, ha', hb', hc', hd'⟩ := hm.ex
  exact four_mk (xor_lt ha ha') (xor_lt hb hb') (xor_lt hc hc') (xor_lt hd hd')
theorem mixL_xor {l m : List Nat} (hl : four l) (hm : four m) : mixL (xor4L l m) = xor4L (mixL l) (mixL m) := by
  obtain ⟨a, b, c, d, rfl, ha, hb, hc, hd⟩ := hl.ex
  obtain ⟨a', b', c', d', rfl, ha', hb', hc', hd'⟩ := hm.ex
  rw [xor4L_mk]
  show [_, _, _, _] = xor4L [_, _, _, _] [_, _, _, _]
  rw [xor4L_mk, lin_m2.add ha hb hc hd ha' hb' hc' hd', lin_m2.add hb hc hd ha hb' hc' hd' ha', lin_m2.add hc hd ha hb hc' hd' ha' hb', lin_m2.add hd ha hb hc hd' ha' hb' hc']
/-- How many are no nought, of the first j of both. -/
def cnt (c x : List Nat) : Nat → Nat
  | 0 => 0
  | j + 1 => cnt c x j + nz (c.getD j 0) + nz (x.getD j 0)
theorem cnt_le (c x : List Nat) : ∀ j, cnt c x j ≤ 2 * j
  | 0 => Nat.le_refl _
  | j + 1 => by
    have := cnt_le c x j
    have h1 := nz_le (c.getD j 0)
    have h2 := nz_le (x.getD j 0)
    rw [cnt]
    omega
theorem cnt_branch {c : List Nat} (hc : four c) : 5 ≤ cnt c (mixL c) 4 ∨ c = [0, 0, 0, 0] := by
  obtain ⟨a, b, c, d, rfl, ha, hb, hc, hd⟩ := hc.ex
  by_cases h : a = 0 ∧ b = 0 ∧ c = 0 ∧ d = 0
  · obtain ⟨rfl, rfl, rfl, rfl⟩ := h
    exact .inr rfl
  · left
    have := branch ha hb hc hd h
    have e : cnt [a, b, c, d] (mixL [a, b, c, d]) 4 = 0 + nz a + nz (m2 a b c d) + nz b + nz (m2 b c d a) + nz c + nz (m2 c d a b) + nz d + nz (m2 d a b c) := rfl
    unfold wt at this
    omega
end Go.Proofs.Ytejabkmhpiabnaa.G
