/- Newton's differences make the polynomial through given points. Mathematics alone. -/
import Derived.Test.YtdcpicbkemmakaaQShM
namespace Go.Proofs.Ytdcpicbkemmakaa.So
open Go.Proofs.Ytdcpicbkemmakaa
section newton
variable (X : Nat → Int) (D : Nat → Nat → Int) (n : Nat)
/-- The product of the differences from place a on. -/
def W (a : Nat) : Nat → Int → Int
  | 0, _ => 1
  | k + 1, x => W a k x * (x - X (a + k))
def nwt (a : Nat) : Nat → Int → Int
  | 0, _ => D a 0
  | k + 1, x => nwt a k x + D (a + k + 1) (k + 1) * W X a (k + 1) x
theorem W_front (a : Nat) (x : Int) : ∀ k, W X a (k + 1) x = (x - X a) * W X (a + 1) k x
  | 0 => by simp [W]
  | k + 1 => by
    rw [W, W_front a x k, W, show a + 1 + k = a + (k + 1) by omega]
    grind
def IsD : Prop := ∀ a k, a + k + 1 < n → K (D (a + k + 1) (k + 1) * (X (a + k + 1) - X a)) (D (a + k + 1) k - D (a + k) k)
theorem nwt_next (h : IsD X D n) (a : Nat) (x : Int) : ∀ k, a + k + 1 < n → K ((x - X a) * (nwt X D (a + 1) k x - nwt X D a k x)) ((D (a + k + 1) k - D (a + k) k) * W X a (k + 1) x)
  | 0, _ => K.of_eq (by simp [nwt, W]; grind)
  | k + 1, hk => by
    have ih := nwt_next h a x k (by omega)
    have hd := h a k (by omega)
    have w1 := W_front X a x k
    have w2 := W_front X a x (k + 1)
    have w3 : W X (a + 1) (k + 1) x = W X (a + 1) k x * (x - X (a + k + 1)) := by
      rw [W, show a + 1 + k = a + k + 1 by omega]
    rw [w1] at ih
    rw [w2, w3]
    have e1 : nwt X D (a + 1) (k + 1) x = nwt X D (a + 1) k x + D (a + k + 1 + 1) (k + 1) * (W X (a + 1) k x * (x - X (a + k + 1))) := by
      rw [nwt, w3, show a + 1 + k + 1 = a + k + 1 + 1 by omega]
    have e2 : nwt X D a (k + 1) x = nwt X D a k x + D (a + k + 1) (k + 1) * ((x - X a) * W X (a + 1) k x) := by
      rw [nwt, w1]
    rw [e1, e2, show a + (k + 1) + 1 = a + k + 1 + 1 by omega, show a + (k + 1) = a + k + 1 by omega]
    generalize W X (a + 1) k x = w at *
    generalize nwt X D (a + 1) k x = p at *
    generalize nwt X D a k x = q at *
    generalize D (a + k + 1) (k + 1) = d1 at *
    generalize D (a + k + 1 + 1) (k + 1) = d2 at *
    generalize D (a + k + 1) k - D (a + k) k = d3 at *
    generalize X (a + k + 1) = xk at *
    generalize X a = xa at *
    unfold K at *
    refine (ih.sub (Z.mul ((x - xa) * w) hd)).of_eq ?_
    grind
theorem nwt_nev (h : IsD X D n) (a : Nat) (x : Int) (k : Nat) (hk : a + k + 1 < n) : K ((X (a + k + 1) - X a) * nwt X D a (k + 1) x) ((x - X a) * nwt X D (a + 1) k x - (x - X (a + k + 1)) * nwt X D a k x) := by
  have ih := nwt_next X D n h a x k hk
  have hd := h a k hk
  rw [show nwt X D a (k + 1) x = nwt X D a k x + D (a + k + 1) (k + 1) * W X a (k + 1) x from rfl]
  generalize W X a (k + 1) x = w at *
  generalize nwt X D (a + 1) k x = p at *
  generalize nwt X D a k x = q at *
  generalize D (a + k + 1) (k + 1) = d1 at *
  generalize D (a + k + 1) k - D (a + k) k = d3 at *
  generalize X (a + k + 1) = xk at *
  generalize X a = xa at *
  unfold K at *
  refine ((Z.mul w hd).sub ih).of_eq ?_
  grind
theorem nwt_at (h : IsD X D n) (hx : ∀ i j, i < j → j < n → ¬ Z (X j - X i)) : ∀ k a i, a + k < n → i ≤ k → K (nwt X D a k (X (a + i))) (D (a + i) 0)
  | 0, a, i, _, hi => by
    obtain rfl : i = 0 := by omega
    exact K.refl _
  | k + 1, a, i, hk, hi => by
    have hn := nwt_nev X D n h a (X (a + i)) k (by omega)
    have hne := hx a (a + k + 1) (by omega) (by omega)
    refine Classical.byContradiction fun hc => ?_
    have main : K ((X (a + k + 1) - X a) * nwt X D a (k + 1) (X (a + i))) ((X (a + k + 1) - X a) * D (a + i) 0) := by
      refine hn.trans ?_
      by_cases h0 : i = 0
      · subst h0
        have := nwt_at h hx k a 0 (by omega) (Nat.zero_le _)
        rw [Nat.add_zero] at *
        have e := ((K.refl (X a - X (a + k + 1))).mul this)
        exact (K.of_eq (by grind)).trans ((K.refl (0 : Int)).sub e |>.trans (K.of_eq (by grind)))
      · by_cases h1 : i = k + 1
        · subst h1
          have := nwt_at h hx k (a + 1) k (by omega) (Nat.le_refl _)
          rw [show a + 1 + k = a + (k + 1) by omega] at this
          rw [show a + k + 1 = a + (k + 1) by omega]
          have e := ((K.refl (X (a + (k + 1)) - X a)).mul this)
          exact (K.of_eq (by grind)).trans e
        · have t1 := nwt_at h hx k (a + 1) (i - 1) (by omega) (by omega)
          have t2 := nwt_at h hx k a i (by omega) (by omega)
          rw [show a + 1 + (i - 1) = a + i by omega] at t1
          have e := ((K.refl (X (a + i) - X a)).mul t1).sub ((K.refl (X (a + i) - X (a + k + 1))).mul t2)
          exact e.trans (K.of_eq (by grind))
    have hz : Z ((X (a + k + 1) - X a) * (nwt X D a (k + 1) (X (a + i)) - D (a + i) 0)) := (show Z _ from main).of_eq (by grind)
    rcases Z.prime hz with h2 | h2
    · exact hne h2
    · exact hc h2
theorem W_po (a : Nat) : ∀ k, Po (k + 1) (W X a k)
  | 0 => Po.const 1
  | k + 1 => ((W_po a k).lin (X (a + k))).congr fun x => K.of_eq (by rw [W]; grind)
theorem nwt_po (a : Nat) : ∀ k, Po (k + 1) (nwt X D a k)
  | 0 => Po.const (D a 0)
  | k + 1 => ((nwt_po a k).mono (Nat.le_succ _)).add ((W_po X a (k + 1)).smul (D (a + k + 1) (k + 1)))
/-- From the last one on. -/
def hrn (x : Int) : Nat → Int
  | 0 => 0
  | m + 1 => hrn x m * (x - X (n - (m + 1))) + D (n - (m + 1)) (n - (m + 1))
theorem hrn_nwt (x : Int) : ∀ k, k < n → nwt X D 0 k x + hrn X D n x (n - (k + 1)) * W X 0 (k + 1) x = hrn X D n x n
  | 0, hk => by
    obtain ⟨m, rfl⟩ : ∃ m, n = m + 1 := ⟨n - 1, by omega⟩
    rw [show m + 1 - (0 + 1) = m by omega, hrn, show m + 1 - (m + 1) = 0 by omega]
    simp [nwt, W]
    grind
  | k + 1, hk => by
    have ih := hrn_nwt x k (by omega)
    rw [← ih]
    obtain ⟨m, hm⟩ : ∃ m, n - (k + 1) = m + 1 := ⟨n - (k + 1) - 1, by omega⟩
    have w : W X 0 (k + 1 + 1) x = W X 0 (k + 1) x * (x - X (k + 1)) := by rw [W, Nat.zero_add]
    have nn : nwt X D 0 (k + 1) x = nwt X D 0 k x + D (k + 1) (k + 1) * W X 0 (k + 1) x := by rw [nwt, Nat.zero_add]
    rw [hm, show n - (k + 1 + 1) = m by omega, hrn, show n - (m + 1) = k + 1 by omega, nn, w]
    generalize W X 0 (k + 1) x = w
    generalize hrn X D n x m = h
    generalize D (k + 1) (k + 1) = d
    grind
theorem hrn_is (x : Int) (hn : 0 < n) : hrn X D n x n = nwt X D 0 (n - 1) x := by
  have := hrn_nwt X D n x (n - 1) (by omega)
  rw [show n - (n - 1 + 1) = 0 by omega, hrn, Int.zero_mul, Int.add_zero] at this
  exact this.symm
end newton
/-- Differences as the document takes them. -/
def ml (a b : Nat) : Nat := (a + Cv.ord - b) % Cv.ord
def iv (a : Nat) : Nat := a ^ (Cv.ord - 2) % Cv.ord
def dd (X Y : Nat → Nat) (i : Nat) : Nat → Nat
  | 0 => Y i
  | k + 1 => ml (dd X Y i k) (dd X Y (i - 1) k) * iv (ml (X i) (X (i - (k + 1)))) % Cv.ord
theorem ml_K {a b : Nat} (hb : b < Cv.ord) : K (ml a b : Int) ((a : Int) - b) := by
  unfold ml
  refine (K_mod _).trans ?_
  have e : ((a + Cv.ord - b : Nat) : Int) = (a : Int) + (Cv.ord : Int) - b := by omega
  rw [e]
  exact ⟨1, by rw [Int.mul_one]; omega⟩
theorem ml_lt (a b : Nat) : ml a b < Cv.ord := Nat.mod_lt _ (by decide)
theorem iv_lt (a : Nat) : iv a < Cv.ord := Nat.mod_lt _ (by decide)
theorem iv_K {a : Nat} (h : ¬ Z (a : Int)) : K ((a : Int) * (iv a : Int)) 1 := by
  have hk : ¬ Cv.ord ∣ a := fun hd => h (Int.ofNat_dvd.2 hd)
  have hf := P.fermat Cv.ord_pr hk
  rw [show Cv.ord - 1 = Cv.ord - 2 + 1 by decide, Nat.pow_succ] at hf
  have h3 := K_mod (a ^ (Cv.ord - 2) * a)
  rw [hf] at h3
  have h4 : K (iv a : Int) ((a ^ (Cv.ord - 2) : Nat) : Int) := K_mod _
  generalize a ^ (Cv.ord - 2) = t at *
  push_cast at h3
  exact ((K.refl (a : Int)).mul h4).trans ((K.of_eq (Int.mul_comm _ _)).trans h3.symm)
theorem dd_lt (X Y : Nat → Nat) (hY : ∀ i, Y i < Cv.ord) (i k : Nat) : dd X Y i k < Cv.ord := by
  cases k with
  | zero => exact hY i
  | succ k => exact Nat.mod_lt _ (by decide)
theorem dd_is (X Y : Nat → Nat) (n : Nat) (hY : ∀ i, Y i < Cv.ord) (hX : ∀ i, X i < Cv.ord) (hx : ∀ i j, i < j → j < n → ¬ Z ((X j : Int) - X i)) : IsD (fun i => X i) (fun i k => dd X Y i k) n := fun a k hk => by
  have hn := hx a (a + k + 1) (by omega) hk
  show K ((dd X Y (a + k + 1) (k + 1) : Int) * _) _
  rw [dd, show a + k + 1 - 1 = a + k by omega, show a + k + 1 - (k + 1) = a by omega]
  have h1 := ml_K (a := X (a + k + 1)) (hX a)
  have h2 := ml_K (a := dd X Y (a + k + 1) k) (dd_lt X Y hY (a + k) k)
  have h3 := iv_K (a := ml (X (a + k + 1)) (X a)) (fun h => hn (h1.symm.z h))
  generalize ml (X (a + k + 1)) (X a) = m at *
  have h4 := K_mod (ml (dd X Y (a + k + 1) k) (dd X Y (a + k) k) * iv m)
  generalize ml (dd X Y (a + k + 1) k) (dd X Y (a + k) k) = t at *
  generalize (dd X Y (a + k + 1) k : Int) - dd X Y (a + k) k = d at *
  generalize (X (a + k + 1) : Int) - X a = e at *
  rw [Int.natCast_mul] at h4
  refine (h4.mul h1.symm).trans ?_
  refine ((K.of_eq (by grind)).trans ((K.refl (t : Int)).mul h3)).trans ?_
  exact (K.of_eq (Int.mul_one _)).trans h2
/-- The document's answer: Horner's way over Newton's differences. -/
def hn (X Y : Nat → Nat) (n x : Nat) : Nat → Nat
  | 0 => 0
  | m + 1 => (hn X Y n x m * ml x (X (n - (m + 1))) + dd X Y (n - (m + 1)) (n - (m + 1))) % Cv.ord
theorem hn_K (X Y : Nat → Nat) (n x : Nat) (hX : ∀ i, X i < Cv.ord) : ∀ m, K (hn X Y n x m : Int) (hrn (fun i => (X i : Int)) (fun i k => (dd X Y i k : Int)) n x m)
  | 0 => K.refl _
  | m + 1 => by
    have ih := hn_K X Y n x hX m
    have h1 := ml_K (a := x) (hX (n - (m + 1)))
    rw [hn, hrn]
    refine (K_mod _).trans ?_
    push_cast
    exact (ih.mul h1).add (K.refl _)
theorem hn_lt (X Y : Nat → Nat) (n x m : Nat) : hn X Y n x m < Cv.ord := by
  cases m with
  | zero => exact (by decide : 0 < Cv.ord)
  | succ m => exact Nat.mod_lt _ (by decide)
/-- It is the value of the polynomial through the points. -/
theorem hn_is (X Y : Nat → Nat) (n x : Nat) (h0 : 0 < n) (hY : ∀ i, Y i < Cv.ord) (hX : ∀ i, X i < Cv.ord) (hx : ∀ i j, i < j → j < n → ¬ Z ((X j : Int) - X i)) {f : Int → Int} (hf : IsAt ((List.range n).map fun i => ((X i : Int), (Y i : Int))) f) : hn X Y n x n = rd (f x) := by
  have hd := dd_is X Y n hY hX hx
  have hp := nwt_po (fun i => (X i : Int)) (fun i k => (dd X Y i k : Int)) 0 (n - 1)
  rw [show n - 1 + 1 = n by omega] at hp
  have hl : ((List.range n).map fun i => ((X i : Int), (Y i : Int))).length = n := by rw [List.length_map, List.length_range]
  have ha : IsAt ((List.range n).map fun i => ((X i : Int), (Y i : Int))) (nwt (fun i => (X i : Int)) (fun i k => (dd X Y i k : Int)) 0 (n - 1)) := by
    refine ⟨by rw [hl]; exact hp, fun q hq => ?_⟩
    obtain ⟨i, hi, rfl⟩ := List.mem_map.1 hq
    have hi := List.mem_range.1 hi
    have := nwt_at _ _ n hd hx (n - 1) 0 i (by omega) (by omega)
    rw [Nat.zero_add] at this
    exact this
  have hg : Good ((List.range n).map fun i => ((X i : Int), (Y i : Int))) := by
    unfold Good Apart
    rw [List.map_map, List.pairwise_map]
    refine List.Pairwise.imp_of_mem ?_ List.pairwise_lt_range
    intro a b _ hb hab hz
    exact hx a b hab (List.mem_range.1 hb) ((Z.neg hz).of_eq (by simp only [Function.comp]; omega))
  have e1 := ha.only hg hf (x : Int)
  have e2 := hn_K X Y n x hX n
  rw [hrn_is _ _ _ _ h0] at e2
  exact K_eq (hn_lt _ _ _ _ _) (rd_lt _) ((e2.trans e1).trans (rd_K _).symm)
end Go.Proofs.Ytdcpicbkemmakaa.So
