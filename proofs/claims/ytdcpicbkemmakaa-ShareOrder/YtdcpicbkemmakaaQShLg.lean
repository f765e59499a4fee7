/- The polynomial through given points, as a sum of fractions over one denominator. Mathematics alone. -/
import Derived.Test.YtdcpicbkemmakaaQShN
namespace Go.Proofs.Ytdcpicbkemmakaa.So
open Go.Proofs.Ytdcpicbkemmakaa
/-- A difference modulo the order. -/
def df (a b : Nat) : Nat := (a + (Cv.ord - b % Cv.ord) % Cv.ord) % Cv.ord
theorem df_K (a b : Nat) : K (df a b : Int) ((a : Int) - b) := by
  unfold df
  refine (K_mod _).trans ?_
  have h1 := K_mod (Cv.ord - b % Cv.ord)
  have h2 := K_mod b
  have hb : b % Cv.ord < Cv.ord := Nat.mod_lt _ (by decide)
  push_cast
  have e : K ((Cv.ord - b % Cv.ord : Nat) : Int) (-(b : Int)) := by
    have e1 : ((Cv.ord - b % Cv.ord : Nat) : Int) = (Cv.ord : Int) - ((b % Cv.ord : Nat) : Int) := by omega
    rw [e1]
    have h3 : K (Cv.ord : Int) 0 := ⟨1, by omega⟩
    exact (h3.sub h2).trans (K.of_eq (by omega))
  have h4 := h1.trans e
  exact ((K.refl (a : Int)).add h4).trans (K.of_eq (by omega))
theorem df_lt (a b : Nat) : df a b < Cv.ord := Nat.mod_lt _ (by decide)
/-- The product of all differences but one's own: of whole numbers. -/
def oI (X : Nat → Nat) (i : Nat) : Nat → Int → Int
  | 0, _ => 1
  | m + 1, x => if m = i then oI X i m x else oI X i m x * (x - X m)
theorem oI_po1 (X : Nat → Nat) (i : Nat) : ∀ m, Po (m + 1) (oI X i m)
  | 0 => Po.const 1
  | m + 1 => by
    by_cases h : m = i
    · exact ((oI_po1 X i m).mono (Nat.le_succ _)).congr fun x => K.of_eq (by rw [oI, if_pos h])
    · exact ((oI_po1 X i m).lin (X m)).congr fun x => K.of_eq (by rw [oI, if_neg h]; grind)
theorem oI_po (X : Nat → Nat) (i : Nat) : ∀ m, i < m → Po m (oI X i m)
  | m + 1, hi => by
    by_cases h : m = i
    · exact (oI_po1 X i m).congr fun x => K.of_eq (by rw [oI, if_pos h])
    · exact ((oI_po X i m (by omega)).lin (X m)).congr fun x => K.of_eq (by rw [oI, if_neg h]; grind)
theorem oI_root (X : Nat → Nat) (i k : Nat) (hk : k ≠ i) : ∀ m, k < m → oI X i m (X k) = 0
  | m + 1, h => by
    by_cases hm : m = i
    · rw [oI, if_pos hm]
      exact oI_root X i k hk m (by omega)
    · rw [oI, if_neg hm]
      by_cases e : k = m
      · rw [e, Int.sub_self, Int.mul_zero]
      · rw [oI_root X i k hk m (by omega), Int.zero_mul]
theorem oI_no (X : Nat → Nat) (n i : Nat) (hx : ∀ j, j < n → j ≠ i → ¬ Z ((X i : Int) - X j)) : ∀ m, m ≤ n → ¬ Z (oI X i m (X i))
  | 0, _ => one_no
  | m + 1, h => by
    by_cases hm : m = i
    · rw [oI, if_pos hm]
      exact oI_no X n i hx m (by omega)
    · rw [oI, if_neg hm]
      intro hz
      rcases Z.prime hz with h1 | h1
      · exact oI_no X n i hx m (by omega) h1
      · exact hx m (by omega) hm h1
/-- The same, modulo the order. -/
def oN (X : Nat → Nat) (i x : Nat) : Nat → Nat
  | 0 => 1
  | m + 1 => if m = i then oN X i x m else oN X i x m * df x (X m) % Cv.ord
theorem oN_lt (X : Nat → Nat) (i x : Nat) : ∀ m, oN X i x m < Cv.ord
  | 0 => (by decide : 1 < Cv.ord)
  | m + 1 => by
    rw [oN]
    split
    · exact oN_lt X i x m
    · exact Nat.mod_lt _ (by decide)
theorem oN_K (X : Nat → Nat) (i x : Nat) : ∀ m, K (oN X i x m : Int) (oI X i m x)
  | 0 => K.refl _
  | m + 1 => by
    rw [oN, oI]
    split
    · exact oN_K X i x m
    · refine (K_mod _).trans ?_
      push_cast
      exact (oN_K X i x m).mul (df_K x (X m))
/-- What is above, and below, the fraction's line. -/
def bN (X : Nat → Nat) (n : Nat) : Nat → Nat
  | 0 => 1
  | i + 1 => bN X n i * oN X i (X i) n % Cv.ord
def tN (X Y : Nat → Nat) (n x : Nat) : Nat → Nat
  | 0 => 0
  | i + 1 => (tN X Y n x i * oN X i (X i) n % Cv.ord + Y i * oN X i x n % Cv.ord * bN X n i % Cv.ord) % Cv.ord
theorem bN_lt (X : Nat → Nat) (n : Nat) : ∀ m, bN X n m < Cv.ord
  | 0 => (by decide : 1 < Cv.ord)
  | m + 1 => Nat.mod_lt _ (by decide)
theorem tN_lt (X Y : Nat → Nat) (n x : Nat) : ∀ m, tN X Y n x m < Cv.ord
  | 0 => (by decide : 0 < Cv.ord)
  | m + 1 => Nat.mod_lt _ (by decide)
def gI (X Y : Nat → Nat) (b : Nat → Int) (n : Nat) : Nat → Int → Int
  | 0, _ => 0
  | m + 1, x => gI X Y b n m x + Y m * b m * oI X m n x
theorem gI_po (X Y : Nat → Nat) (b : Nat → Int) (n : Nat) : ∀ m, m ≤ n → Po n (gI X Y b n m)
  | 0, _ => Po.zero n
  | m + 1, h => (gI_po X Y b n m (by omega)).add ((oI_po X m n (by omega)).smul _)
theorem gI_out (X Y : Nat → Nat) (b : Nat → Int) (n k : Nat) (hk : k < n) : ∀ m, m ≤ k → gI X Y b n m (X k) = 0
  | 0, _ => rfl
  | m + 1, h => by
    rw [gI, gI_out X Y b n k hk m (by omega), oI_root X m k (by omega) n hk, Int.mul_zero, Int.add_zero]
theorem gI_at (X Y : Nat → Nat) (b : Nat → Int) (n k : Nat) (hb : K (oI X k n (X k) * b k) 1) (hk : k < n) : ∀ m, k < m → K (gI X Y b n m (X k)) (Y k)
  | m + 1, h => by
    rw [gI]
    by_cases e : k = m
    · subst e
      rw [gI_out X Y b n k hk k (Nat.le_refl _), Int.zero_add]
      exact (K.of_eq (by grind)).trans (((K.refl (Y k : Int)).mul hb).trans (K.of_eq (Int.mul_one _)))
    · rw [oI_root X m k e n hk, Int.mul_zero, Int.add_zero]
      exact gI_at X Y b n k hb hk m (by omega)
theorem bN_no (X : Nat → Nat) (n : Nat) (hx : ∀ i j, i < n → j < n → j ≠ i → ¬ Z ((X i : Int) - X j)) : ∀ m, m ≤ n → ¬ Z (bN X n m : Int)
  | 0, _ => one_no
  | m + 1, h => fun hz => by
    rw [bN] at hz
    have h1 := (K_mod _).symm.z hz
    rw [Int.natCast_mul] at h1
    rcases Z.prime h1 with h2 | h2
    · exact bN_no X n hx m (by omega) h2
    · exact oI_no X n m (fun j hj hn => hx m j (by omega) hj hn) n (Nat.le_refl _) ((oN_K X m (X m) n).symm.z h2)
theorem tN_K (X Y : Nat → Nat) (b : Nat → Int) (n x : Nat) (hb : ∀ i, i < n → K (oI X i n (X i) * b i) 1) : ∀ m, m ≤ n → K (tN X Y n x m : Int) (bN X n m * gI X Y b n m x)
  | 0, _ => K.of_eq (by simp [tN, gI])
  | m + 1, h => by
    have ih := tN_K X Y b n x hb m (by omega)
    have h1 := hb m (by omega)
    have u := oN_K X m (X m) n
    have o := oN_K X m x n
    rw [tN, bN, gI]
    generalize hT : tN X Y n x m = T at *
    generalize hB : bN X n m = B at *
    generalize hU : oN X m (X m) n = U at *
    generalize hO : oN X m x n = O at *
    have k1 : K ((T * U % Cv.ord : Nat) : Int) ((B : Int) * gI X Y b n m x * U) := (K_mod _).trans (by push_cast; exact ih.mul (K.refl _))
    have k2 : K ((Y m * O % Cv.ord * B % Cv.ord : Nat) : Int) ((Y m : Int) * O * B) := (K_mod _).trans (by
      have := K_mod (Y m * O)
      rw [Int.natCast_mul (Y m) O] at this
      rw [Int.natCast_mul (Y m * O % Cv.ord) B]
      exact this.mul (K.refl _))
    have k3 : K ((B * U % Cv.ord : Nat) : Int) ((B : Int) * U) := (K_mod _).trans (by push_cast; exact K.refl _)
    refine (K_mod _).trans ?_
    rw [Int.natCast_add]
    refine (k1.add k2).trans ?_
    refine K.trans ?_ (k3.symm.mul (K.refl _))
    generalize gI X Y b n m x = g at *
    generalize oI X m n x = o1 at *
    generalize oI X m n (X m) = u1 at *
    generalize b m = bm at *
    generalize (Y m : Int) = y at *
    generalize (B : Int) = B' at *
    generalize (U : Int) = U' at *
    generalize (O : Int) = O' at *
    have e1 : K (y * O' * B') (y * o1 * B' * (U' * bm)) := by
      have q1 : K (y * O' * B') (y * o1 * B') := ((K.refl y).mul o).mul (K.refl B')
      have q2 : K (U' * bm) 1 := (u.mul (K.refl bm)).trans h1
      exact q1.trans ((K.of_eq (Int.mul_one _).symm).trans ((K.refl _).mul q2.symm))
    exact ((K.refl _).add e1).trans (K.of_eq (by grind))
theorem inv_all (X : Nat → Nat) (n : Nat) (hx : ∀ i j, i < n → j < n → j ≠ i → ¬ Z ((X i : Int) - X j)) : ∃ b : Nat → Int, ∀ i, i < n → K (oI X i n (X i) * b i) 1 := by
  have h : ∀ i, ∃ b : Int, i < n → K (oI X i n (X i) * b) 1 := fun i => by
    by_cases hi : i < n
    · obtain ⟨b, hb⟩ := inv_some (oI_no X n i (fun j hj hn => hx i j hi hj hn) n (Nat.le_refl _))
      exact ⟨b, fun _ => hb⟩
    · exact ⟨0, fun h => absurd h hi⟩
  exact ⟨fun i => (h i).choose, fun i hi => (h i).choose_spec hi⟩
/-- The fraction is the value of the polynomial through the points. -/
theorem lag_is (X Y : Nat → Nat) (n x : Nat) (hx : ∀ i j, i < n → j < n → j ≠ i → ¬ Z ((X i : Int) - X j)) : ∃ f, IsAt ((List.range n).map fun i => ((X i : Int), (Y i : Int))) f ∧ rd (f x) = tN X Y n x n * iv (bN X n n) % Cv.ord := by
  obtain ⟨b, hb⟩ := inv_all X n hx
  refine ⟨gI X Y b n n, ⟨?_, fun q hq => ?_⟩, ?_⟩
  · have := gI_po X Y b n n (Nat.le_refl _)
    rw [List.length_map, List.length_range]
    exact this
  · obtain ⟨i, hi, rfl⟩ := List.mem_map.1 hq
    have hi := List.mem_range.1 hi
    exact gI_at X Y b n i (hb i hi) hi n hi
  · have h1 := tN_K X Y b n x hb n (Nat.le_refl _)
    have h2 := iv_K (bN_no X n hx n (Nat.le_refl _))
    refine K_eq (rd_lt _) (Nat.mod_lt _ (by decide)) ((rd_K _).trans ?_)
    refine K.symm ((K_mod _).trans ?_)
    show K (((tN X Y n x n * iv (bN X n n) : Nat)) : Int) _
    generalize iv (bN X n n) = v at *
    generalize bN X n n = B at *
    generalize tN X Y n x n = T at *
    rw [Int.natCast_mul]
    refine (h1.mul (K.refl (v : Int))).trans ?_
    generalize gI X Y b n n x = g at *
    exact (K.of_eq (by grind)).trans (((K.refl g).mul h2).trans (K.of_eq (Int.mul_one _)))
end Go.Proofs.Ytdcpicbkemmakaa.So
