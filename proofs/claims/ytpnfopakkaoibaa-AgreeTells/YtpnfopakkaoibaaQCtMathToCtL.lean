/- Texts that were joined: CtMath, CtGrp, CtAss, CtPack, CtL. -/
import Derived.Test.YtpnfopakkaoibaaQPrimeToFMath
import Derived.Test.YtpnfopakkaoibaaQCvIdToCGrp
/- The twist: Points of the curve y*y - x*x = 1 + d*x*x*y*y modulo 2^255 - 19: that they make a group. Mathematics alone. -/
namespace Go.Proofs.Ytpnfopakkaoibaa.Ct
open Go.Proofs.Ytpnfopakkaoibaa
/-- -121666/121665. -/
def d : Nat := 29203323570479832313932222820853031755424015489030106335172286495629888845891
theorem d_lt : d < F.p := by decide
theorem d_is : F.add (F.mul d 121665) 121666 = 0 := by decide +kernel
theorem d_chi : F.chi d = F.p - 1 := (F.chi_pw d).trans (by decide +kernel)
theorem d_no : ¬ ∃ r, F.mul r r = d % F.p := fun h => by
  have := (F.ok_iff d).2 h
  unfold F.ok at this
  rw [d_chi] at this
  simp at this
/-- A multiple of p. -/
def Z (a : Int) : Prop := (F.p : Int) ∣ a
theorem Z.add {a b : Int} (ha : Z a) (hb : Z b) : Z (a + b) := Int.dvd_add ha hb
theorem Z.sub {a b : Int} (ha : Z a) (hb : Z b) : Z (a - b) := Int.dvd_sub ha hb
theorem Z.neg {a : Int} (ha : Z a) : Z (-a) := (Int.dvd_neg).2 ha
theorem Z.mul (c : Int) {a : Int} (ha : Z a) : Z (c * a) := Int.dvd_trans ha (Int.dvd_mul_left _ _)
theorem Z.zero : Z 0 := Int.dvd_zero _
theorem Z.prime {a b : Int} (h : Z (a * b)) : Z a ∨ Z b := by
  have h2 : F.p ∣ a.natAbs * b.natAbs := by rw [← Int.natAbs_mul]; exact Int.ofNat_dvd_left.1 h
  rcases F.pr.euclid h2 with h | h
  · exact .inl (Int.ofNat_dvd_left.2 h)
  · exact .inr (Int.ofNat_dvd_left.2 h)
theorem Z.of_eq {a b : Int} (h : Z a) (e : b = a) : Z b := by rw [e]; exact h
theorem Z_nat (n : Nat) : Z (n : Int) ↔ n % F.p = 0 := by
  unfold Z
  rw [Int.natCast_dvd_natCast]
  exact Nat.dvd_iff_mod_eq_zero ..
theorem Z_eq {m n : Nat} : Z ((m : Int) - n) ↔ m % F.p = n % F.p := by
  have e : Z ((m : Int) - n) ↔ (m : Int) % F.p = (n : Int) % F.p := (Int.dvd_iff_emod_eq_zero).trans Int.emod_eq_emod_iff_emod_sub_eq_zero.symm
  rw [e, ← Int.natCast_emod, ← Int.natCast_emod]
  exact Int.ofNat_inj
theorem one_no : ¬ Z 1 := fun h => by
  have : Z ((1 : Nat) : Int) := h
  rw [Z_nat] at this
  exact absurd this (by decide)
theorem two_no : ¬ Z 2 := fun h => by
  have : Z ((2 : Nat) : Int) := h
  rw [Z_nat] at this
  exact absurd this (by decide)
/-- Congruence. -/
def K (a b : Int) : Prop := Z (a - b)
theorem K.refl (a : Int) : K a a := by unfold K; rw [Int.sub_self]; exact Z.zero
theorem K.symm {a b : Int} (h : K a b) : K b a := (Z.neg h).of_eq (by omega)
theorem K.trans {a b c : Int} (h : K a b) (h' : K b c) : K a c := (Z.add h h').of_eq (by omega)
theorem K.add {a b a' b' : Int} (h : K a b) (h' : K a' b') : K (a + a') (b + b') := (Z.add h h').of_eq (by omega)
theorem K.sub {a b a' b' : Int} (h : K a b) (h' : K a' b') : K (a - a') (b - b') := (Z.sub h h').of_eq (by omega)
theorem K.mul {a b a' b' : Int} (h : K a b) (h' : K a' b') : K (a * a') (b * b') := (Z.add (Z.mul a' h) (Z.mul b h')).of_eq (by grind)
theorem K.z {a b : Int} (h : K a b) (hb : Z b) : Z a := (Z.add h hb).of_eq (by omega)
theorem K.no {a b : Int} (h : K a b) (hb : ¬ Z b) : ¬ Z a := fun ha => hb (h.symm.z ha)
theorem K_eq {m n : Nat} (hm : m < F.p) (hn : n < F.p) : K (m : Int) n ↔ m = n := by
  unfold K
  rw [Z_eq, Nat.mod_eq_of_lt hm, Nat.mod_eq_of_lt hn]
theorem K_mod (n : Nat) : K ((n % F.p : Nat) : Int) n := Z_eq.2 (Nat.mod_mod _ _)
theorem K_mul (a b : Nat) : K (F.mul a b : Nat) ((a : Int) * b) := by
  have := K_mod (a * b)
  rwa [Int.natCast_mul] at this
theorem K_add (a b : Nat) : K (F.add a b : Nat) ((a : Int) + b) := by
  have := K_mod (a + b)
  rwa [Int.natCast_add] at this
theorem K_sub (a b : Nat) : K (F.sub a b : Nat) ((a : Int) - b) := by
  have h := F.sub_add a b
  have h1 := K_add (F.sub a b) b
  rw [h] at h1
  exact ((K_mod a).symm.trans h1 |>.sub (K.refl (b : Int))).symm.trans (K.refl _) |>.symm |> fun h => (Z.neg h).of_eq (by omega)
theorem K_inv {a : Nat} (h : ¬ Z (a : Int)) : K ((a : Int) * (F.inv a : Nat)) 1 := by
  have h0 : a % F.p ≠ 0 := fun e => h ((Z_nat a).2 e)
  have := K_mul a (F.inv a)
  rw [F.mul_inv h0] at this
  exact this.symm
/-- What is not a multiple of p has an inverse. -/
theorem inv_of {t : Int} (h : ¬ Z t) : ∃ w : Int, K (t * w) 1 := by
  obtain ⟨n, hn⟩ : ∃ n : Nat, K (n : Int) t := by
    have hp : (0 : Int) < F.p := by have := F.p_pos; omega
    refine ⟨(t % F.p).toNat, ?_⟩
    rw [Int.toNat_of_nonneg (Int.emod_nonneg _ (by omega))]
    have e := Int.mul_ediv_add_emod t F.p
    refine ⟨-(t / F.p), ?_⟩
    rw [Int.mul_neg]
    omega
  have hz : ¬ Z (n : Int) := fun hh => h (hn.symm.z hh)
  exact ⟨_, (hn.symm.mul (K.refl _)).trans (K_inv hz)⟩
/-- d is no square. -/
theorem d_sq (r t : Int) (h : Z (r * r - d * (t * t))) : Z t := by
  refine Classical.byContradiction fun ht => ?_
  obtain ⟨w, hw⟩ := inv_of ht
  have h1 : K (r * w * (r * w)) d := (Z.add (Z.mul (w * w) h) (Z.mul (d * (t * w + 1)) hw)).of_eq (by grind)
  have hp : (0 : Int) < F.p := by have := F.p_pos; omega
  obtain ⟨n, hn⟩ : ∃ n : Nat, K (n : Int) (r * w) := by
    refine ⟨(r * w % F.p).toNat, ?_⟩
    rw [Int.toNat_of_nonneg (Int.emod_nonneg _ (by omega))]
    have e := Int.mul_ediv_add_emod (r * w) F.p
    refine ⟨-(r * w / F.p), ?_⟩
    rw [Int.mul_neg]
    generalize r * w = rw' at *
    omega
  refine d_no ⟨n, ?_⟩
  have h2 : K (F.mul n n : Nat) d := (K_mul n n).trans ((hn.mul hn).trans h1)
  have := (K_eq (F.mul_lt n n) d_lt).1 h2
  rw [this, Nat.mod_eq_of_lt d_lt]
theorem im_z : Z ((F.im : Int) * F.im + 1) := by
  have h := K_mul F.im F.im
  rw [F.im_sq] at h
  have h2 : K ((F.p - 1 : Nat) : Int) (-1) := by
    refine ⟨1, ?_⟩
    have := F.p_pos
    omega
  exact (h.symm.trans h2 : Z _).of_eq (by omega)
/-- The left side less the right one. -/
abbrev E (x y : Int) : Int := y ^ 2 - x ^ 2 - 1 - d * x ^ 2 * y ^ 2
/-- What is divided by is never 0. -/
theorem complete {x1 y1 x2 y2 e : Int} (h1 : Z (E x1 y1)) (h2 : Z (E x2 y2)) (he : e * e = 1) : ¬ Z (e - d * x1 * x2 * y1 * y2) := by
  intro hD
  obtain ⟨i, hi⟩ : ∃ i : Int, Z (i * i + 1) := ⟨_, im_z⟩
  have hx : ∀ u, Z (u * (d * x1 * x2 * y1 * y2)) → Z u := fun u hu => by
    have : Z (u * e) := (Z.add (Z.mul u hD) hu).of_eq (by grind)
    have : Z (e * (u * e)) := Z.mul e this
    exact this.of_eq (by rw [← Int.mul_one u, ← he]; grind)
  have no : ∀ u, Z u → Z (d * x1 * x2 * y1 * y2) → False := fun u _ hd => one_no (hx 1 (by rw [Int.one_mul]; exact hd))
  have hxy : ¬ Z (x1 * y1) := fun h => no _ h ((Z.mul (d * x2 * y2) h).of_eq (by grind))
  have hy2 : ¬ Z y2 := fun h => no _ h ((Z.mul (d * x1 * x2 * y1) h).of_eq (by grind))
  have key : ∀ j : Int, Z (j * j + 1) → Z (y2 + j * x2) := fun j hj => by
    have hs : Z ((y1 + e * j * x1) * (y1 + e * j * x1) - d * ((x1 * y1 * (y2 + j * x2)) * (x1 * y1 * (y2 + j * x2)))) := by
      have a1 := Z.sub h1 (Z.mul (d * x1 ^ 2 * y1 ^ 2) h2)
      have a2 := Z.mul (e + d * x1 * x2 * y1 * y2 + 2 * j * x1 * y1) hD
      have a3 := Z.mul (x1 ^ 2 - d * x1 ^ 2 * y1 ^ 2 * x2 ^ 2) hj
      refine ((a1.add a2).add a3).of_eq ?_
      unfold E
      grind
    have := d_sq _ _ hs
    exact (Z.prime this).resolve_left hxy
  have k1 := key i hi
  have k2 := key (-i) (hi.of_eq (by grind))
  have : Z (2 * y2) := (k1.add k2).of_eq (by grind)
  rcases Z.prime this with h | h
  · exact two_no h
  · exact hy2 h
end Go.Proofs.Ytpnfopakkaoibaa.Ct

/- The twist: Sums of points: closed, in any order, with Zero and Neg; so often. Mathematics alone. -/
namespace Go.Proofs.Ytpnfopakkaoibaa.Ct
open Go.Proofs.Ytpnfopakkaoibaa
/-- A pair of numbers. -/
abbrev Pt := Nat × Nat
def On (P : Pt) : Prop := P.1 < F.p ∧ P.2 < F.p ∧ Z (E P.1 P.2)
/-- d times all four. -/
def dd (P Q : Pt) : Nat := F.mul d (F.mul (F.mul P.1 Q.1) (F.mul P.2 Q.2))
def add (P Q : Pt) : Pt := (F.mul (F.add (F.mul P.1 Q.2) (F.mul P.2 Q.1)) (F.inv (F.add 1 (dd P Q))), F.mul (F.add (F.mul P.2 Q.2) (F.mul P.1 Q.1)) (F.inv (F.sub 1 (dd P Q))))
def zero : Pt := (0, 1)
def neg (P : Pt) : Pt := (F.sub 0 P.1, P.2)
theorem K_dd (P Q : Pt) : K (dd P Q) (d * P.1 * Q.1 * P.2 * Q.2) := by
  have h := (K_mul d _).trans ((K.refl (d : Int)).mul ((K_mul (F.mul P.1 Q.1) (F.mul P.2 Q.2)).trans ((K_mul P.1 Q.1).mul (K_mul P.2 Q.2))))
  unfold dd
  exact (h : Z _).of_eq (by grind)
/-- The sum, without a quotient. -/
structure Sum (x1 y1 x2 y2 x y : Int) : Prop where
  x : K (x * (1 + d * x1 * x2 * y1 * y2)) (x1 * y2 + y1 * x2)
  y : K (y * (1 - d * x1 * x2 * y1 * y2)) (y1 * y2 + x1 * x2)
theorem den {P Q : Pt} (hP : On P) (hQ : On Q) : ¬ Z (1 + d * P.1 * Q.1 * P.2 * Q.2) ∧ ¬ Z (1 - d * P.1 * Q.1 * P.2 * Q.2) := by
  refine ⟨fun h => ?_, fun h => complete hP.2.2 hQ.2.2 (e := 1) rfl h⟩
  exact complete hP.2.2 hQ.2.2 (e := -1) rfl ((Z.neg h).of_eq (by grind))
theorem quot {n : Int} {m t : Nat} (hm : K (m : Int) n) (hn : ¬ Z n) : K ((F.mul t (F.inv m) : Nat) * n) t := by
  have h1 := K_inv (hm.no hn)
  have h2 := K_mul t (F.inv m)
  have h3 : K ((t : Int) * (F.inv m : Nat) * m) t := (Z.mul t h1 : Z _).of_eq (by grind)
  exact ((h2.mul hm.symm)).trans h3
theorem add_sum {P Q : Pt} (hP : On P) (hQ : On Q) : Sum P.1 P.2 Q.1 Q.2 (add P Q).1 (add P Q).2 := by
  have hd := den hP hQ
  have k := K_dd P Q
  constructor
  · refine (quot ((K_add 1 (dd P Q)).trans ((K.refl _).add k)) hd.1).trans ?_
    exact (K_add _ _).trans ((K_mul _ _).add (K_mul _ _))
  · refine (quot ((K_sub 1 (dd P Q)).trans ((K.refl _).sub k)) hd.2).trans ?_
    exact (K_add _ _).trans ((K_mul _ _).add (K_mul _ _))
theorem add_lt (P Q : Pt) : (add P Q).1 < F.p ∧ (add P Q).2 < F.p := ⟨F.mul_lt _ _, F.mul_lt _ _⟩
theorem cancel {n a b : Int} (hn : ¬ Z n) (h : K (a * n) (b * n)) : K a b := by
  have : Z (n * (a - b)) := (h : Z _).of_eq (by grind)
  exact (Z.prime this).resolve_left hn
/-- There is one sum. -/
theorem sum_only {P Q R : Pt} (hP : On P) (hQ : On Q) (h1 : R.1 < F.p) (h2 : R.2 < F.p) (h : Sum P.1 P.2 Q.1 Q.2 R.1 R.2) : R = add P Q := by
  have hs := add_sum hP hQ
  have hd := den hP hQ
  have hl := add_lt P Q
  refine Prod.ext ?_ ?_
  · exact (K_eq h1 hl.1).1 (cancel hd.1 (h.x.trans hs.x.symm))
  · exact (K_eq h2 hl.2).1 (cancel hd.2 (h.y.trans hs.y.symm))
theorem sum_closed {x1 y1 x2 y2 x y : Int} (h1 : Z (E x1 y1)) (h2 : Z (E x2 y2)) (h : Sum x1 y1 x2 y2 x y) : Z (E x y) := by
  have n1 : ¬ Z (1 + d * x1 * x2 * y1 * y2) := fun hh => complete h1 h2 (e := -1) rfl ((Z.neg hh).of_eq (by grind))
  have n2 : ¬ Z (1 - d * x1 * x2 * y1 * y2) := complete h1 h2 (e := 1) rfl
  have hx := h.x
  have hy := h.y
  have id := Cv.id_c x1 y1 x2 y2 d
  have hz : Z ((y1 * y2 + x1 * x2) ^ 2 * (1 + d * x1 * x2 * y1 * y2) ^ 2 - (x1 * y2 + y1 * x2) ^ 2 * (1 - d * x1 * x2 * y1 * y2) ^ 2 - (1 + d * x1 * x2 * y1 * y2) ^ 2 * (1 - d * x1 * x2 * y1 * y2) ^ 2 - d * (x1 * y2 + y1 * x2) ^ 2 * (y1 * y2 + x1 * x2) ^ 2) := by
    rw [id]
    exact (Z.mul _ h1).add (Z.mul _ h2)
  clear id
  generalize 1 + d * x1 * x2 * y1 * y2 = b at *
  generalize 1 - d * x1 * x2 * y1 * y2 = e at *
  generalize x1 * y2 + y1 * x2 = a at *
  generalize y1 * y2 + x1 * x2 = c at *
  have hx2 := hx.mul hx
  have hy2 := hy.mul hy
  have t1 : K (y * e * (y * e) * (b * b) - x * b * (x * b) * (e * e) - b * b * (e * e) - d * (x * b * (x * b) * (y * e * (y * e)))) (c * c * (b * b) - a * a * (e * e) - b * b * (e * e) - d * (a * a * (c * c))) := (((hy2.mul (K.refl _)).sub (hx2.mul (K.refl _))).sub (K.refl _)).sub ((K.refl _).mul (hx2.mul hy2))
  have t2 : Z (c * c * (b * b) - a * a * (e * e) - b * b * (e * e) - d * (a * a * (c * c))) := hz.of_eq (by grind)
  have t3 : Z (b * (b * (e * (e * E x y)))) := (t1.z t2).of_eq (by unfold E; grind)
  have t4 := (Z.prime t3).resolve_left n1
  have t5 := (Z.prime t4).resolve_left n1
  have t6 := (Z.prime t5).resolve_left n2
  exact (Z.prime t6).resolve_left n2
theorem closed {P Q : Pt} (hP : On P) (hQ : On Q) : On (add P Q) := ⟨(add_lt P Q).1, (add_lt P Q).2, sum_closed hP.2.2 hQ.2.2 (add_sum hP hQ)⟩
theorem add_comm {P Q : Pt} (hP : On P) (hQ : On Q) : add P Q = add Q P := by
  have h := add_sum hP hQ
  refine sum_only hQ hP (add_lt P Q).1 (add_lt P Q).2 ⟨?_, ?_⟩
  · exact (h.x : Z _).of_eq (by grind)
  · exact (h.y : Z _).of_eq (by grind)
theorem zero_on : On zero := ⟨by decide, by decide, by unfold zero E; exact Z.zero⟩
theorem add_zero {P : Pt} (hP : On P) : add P zero = P := by
  refine (sum_only hP zero_on hP.1 hP.2.1 ⟨?_, ?_⟩).symm
  · show K _ _
    unfold zero
    exact (Z.zero).of_eq (by simp)
  · show K _ _
    unfold zero
    exact (Z.zero).of_eq (by simp)
theorem neg_on {P : Pt} (hP : On P) : On (neg P) := by
  refine ⟨F.sub_lt _ _, hP.2.1, ?_⟩
  have k := K_sub 0 P.1
  have h : K (E (F.sub 0 P.1 : Nat) P.2) (E P.1 P.2) := by
    have k2 := k.mul k
    refine (Z.mul (-1 - d * (P.2 : Int) ^ 2) k2 : Z _).of_eq ?_
    unfold E
    grind
  exact h.z hP.2.2
theorem add_neg {P : Pt} (hP : On P) : add P (neg P) = zero := by
  refine (sum_only hP (neg_on hP) (by decide) (by decide) ⟨?_, ?_⟩).symm
  · have k := K_sub 0 P.1
    refine (Z.mul (-(P.2 : Int)) k : Z _).of_eq ?_
    unfold zero neg
    simp only [Int.natCast_zero]
    grind
  · have k := K_sub 0 P.1
    have h := hP.2.2
    refine ((Z.mul (-1) h).add (Z.mul (-(P.1 : Int) - d * P.1 * P.2 * P.2) k) : Z _).of_eq ?_
    unfold zero neg E
    simp only [Int.natCast_zero, Int.natCast_one]
    grind
end Go.Proofs.Ytpnfopakkaoibaa.Ct

/- The twist: Of three points it does not matter which two come first; so often, and so often more. Mathematics alone. -/
namespace Go.Proofs.Ytpnfopakkaoibaa.Ct
open Go.Proofs.Ytpnfopakkaoibaa
/-- A sum of a sum, with one quotient. -/
theorem sum_left {b e a c X Y x3 y3 U : Int} (hX : K (X * b) a) (hY : K (Y * e) c) (hU : K (U * (1 + d * X * x3 * Y * y3)) (X * y3 + Y * x3)) : K (U * (b * e + d * a * c * x3 * y3)) (a * e * y3 + c * b * x3) := by
  have h1 : K (U * (b * e + d * (X * b) * (Y * e) * x3 * y3)) (X * b * e * y3 + Y * e * b * x3) := (Z.mul (b * e) hU : Z _).of_eq (by grind)
  have h2 : K (U * (b * e + d * (X * b) * (Y * e) * x3 * y3)) (U * (b * e + d * a * c * x3 * y3)) := (K.refl U).mul ((K.refl _).add (((((K.refl (d : Int)).mul hX).mul hY).mul (K.refl x3)).mul (K.refl y3)))
  have h3 : K (X * b * e * y3 + Y * e * b * x3) (a * e * y3 + c * b * x3) := ((hX.mul (K.refl e)).mul (K.refl y3)).add ((hY.mul (K.refl b)).mul (K.refl x3))
  exact h2.symm.trans (h1.trans h3)
theorem sum_leftY {b e a c X Y x3 y3 V : Int} (hX : K (X * b) a) (hY : K (Y * e) c) (hV : K (V * (1 - d * X * x3 * Y * y3)) (Y * y3 + X * x3)) : K (V * (b * e - d * a * c * x3 * y3)) (c * b * y3 + a * e * x3) := by
  have h1 : K (V * (b * e - d * (X * b) * (Y * e) * x3 * y3)) (Y * e * b * y3 + X * b * e * x3) := (Z.mul (b * e) hV : Z _).of_eq (by grind)
  have h2 : K (V * (b * e - d * (X * b) * (Y * e) * x3 * y3)) (V * (b * e - d * a * c * x3 * y3)) := (K.refl V).mul ((K.refl _).sub (((((K.refl (d : Int)).mul hX).mul hY).mul (K.refl x3)).mul (K.refl y3)))
  have h3 : K (Y * e * b * y3 + X * b * e * x3) (c * b * y3 + a * e * x3) := ((hY.mul (K.refl b)).mul (K.refl y3)).add ((hX.mul (K.refl e)).mul (K.refl x3))
  exact h2.symm.trans (h1.trans h3)
theorem no_mul {a b : Int} (ha : ¬ Z a) (hb : ¬ Z b) : ¬ Z (a * b) := fun h => (Z.prime h).elim ha hb
/-- Two that are one quotient are one. -/
theorem same {u v n m q r : Int} (hu : K (u * q) n) (hv : K (v * r) m) (h : Z (n * r - m * q)) (hq : ¬ Z q) (hr : ¬ Z r) : K u v := by
  have : Z (q * r * (u - v)) := ((Z.mul r hu).sub (Z.mul q hv) |>.add h).of_eq (by grind)
  exact (Z.prime this).resolve_left (no_mul hq hr)
set_option maxHeartbeats 1000000 in
theorem add_assoc {P Q R : Pt} (hP : On P) (hQ : On Q) (hR : On R) : add (add P Q) R = add P (add Q R) := by
  have s1 := add_sum hP hQ
  have s2 := add_sum (closed hP hQ) hR
  have s3 := add_sum hQ hR
  have s4 := add_sum hP (closed hQ hR)
  have n1 := den hP hQ
  have n2 := den (closed hP hQ) hR
  have n3 := den hQ hR
  have n4 := den hP (closed hQ hR)
  have l2 := add_lt (add P Q) R
  have l4 := add_lt P (add Q R)
  have ix := Cv.id_x P.1 P.2 Q.1 Q.2 R.1 R.2 d
  have iy := Cv.id_y P.1 P.2 Q.1 Q.2 R.1 R.2 d
  have e1 := hP.2.2
  have e2 := hQ.2.2
  have e3 := hR.2.2
  have zx := ((Z.mul _ e1).add (Z.mul _ e2)).add (Z.mul _ e3) |>.of_eq ix
  have zy := ((Z.mul _ e1).add (Z.mul _ e2)).add (Z.mul _ e3) |>.of_eq iy
  have ux := sum_left s1.x s1.y s2.x
  have uy := sum_leftY s1.x s1.y s2.y
  have vx : K ((add P (add Q R)).1 * ((1 + d * Q.1 * R.1 * Q.2 * R.2) * (1 - d * Q.1 * R.1 * Q.2 * R.2) + d * (Q.1 * R.2 + Q.2 * R.1) * (Q.2 * R.2 + Q.1 * R.1) * P.1 * P.2)) ((Q.1 * R.2 + Q.2 * R.1) * (1 - d * Q.1 * R.1 * Q.2 * R.2) * P.2 + (Q.2 * R.2 + Q.1 * R.1) * (1 + d * Q.1 * R.1 * Q.2 * R.2) * P.1) := sum_left s3.x s3.y ((s4.x : Z _).of_eq (by grind))
  have vy : K ((add P (add Q R)).2 * ((1 + d * Q.1 * R.1 * Q.2 * R.2) * (1 - d * Q.1 * R.1 * Q.2 * R.2) - d * (Q.1 * R.2 + Q.2 * R.1) * (Q.2 * R.2 + Q.1 * R.1) * P.1 * P.2)) ((Q.2 * R.2 + Q.1 * R.1) * (1 + d * Q.1 * R.1 * Q.2 * R.2) * P.2 + (Q.1 * R.2 + Q.2 * R.1) * (1 - d * Q.1 * R.1 * Q.2 * R.2) * P.1) := sum_leftY s3.x s3.y ((s4.y : Z _).of_eq (by grind))
  have q1 : ¬ Z ((1 + d * P.1 * Q.1 * P.2 * Q.2) * (1 - d * P.1 * Q.1 * P.2 * Q.2) + d * (P.1 * Q.2 + P.2 * Q.1) * (P.2 * Q.2 + P.1 * Q.1) * R.1 * R.2) := by
    refine K.no ?_ (no_mul (no_mul n1.1 n1.2) n2.1)
    have h := (((K.refl (d : Int)).mul s1.x.symm).mul s1.y.symm).mul (K.refl ((R.1 : Int) * R.2))
    exact (h : Z _).of_eq (by grind)
  have q2 : ¬ Z ((1 + d * P.1 * Q.1 * P.2 * Q.2) * (1 - d * P.1 * Q.1 * P.2 * Q.2) - d * (P.1 * Q.2 + P.2 * Q.1) * (P.2 * Q.2 + P.1 * Q.1) * R.1 * R.2) := by
    refine K.no ?_ (no_mul (no_mul n1.1 n1.2) n2.2)
    have h := (((K.refl (-(d : Int))).mul s1.x.symm).mul s1.y.symm).mul (K.refl ((R.1 : Int) * R.2))
    exact (h : Z _).of_eq (by grind)
  have q3 : ¬ Z ((1 + d * Q.1 * R.1 * Q.2 * R.2) * (1 - d * Q.1 * R.1 * Q.2 * R.2) + d * (Q.1 * R.2 + Q.2 * R.1) * (Q.2 * R.2 + Q.1 * R.1) * P.1 * P.2) := by
    refine K.no ?_ (no_mul (no_mul n3.1 n3.2) n4.1)
    have h := (((K.refl (d : Int)).mul s3.x.symm).mul s3.y.symm).mul (K.refl ((P.1 : Int) * P.2))
    exact (h : Z _).of_eq (by grind)
  have q4 : ¬ Z ((1 + d * Q.1 * R.1 * Q.2 * R.2) * (1 - d * Q.1 * R.1 * Q.2 * R.2) - d * (Q.1 * R.2 + Q.2 * R.1) * (Q.2 * R.2 + Q.1 * R.1) * P.1 * P.2) := by
    refine K.no ?_ (no_mul (no_mul n3.1 n3.2) n4.2)
    have h := (((K.refl (-(d : Int))).mul s3.x.symm).mul s3.y.symm).mul (K.refl ((P.1 : Int) * P.2))
    exact (h : Z _).of_eq (by grind)
  refine Prod.ext ?_ ?_
  · refine (K_eq l2.1 l4.1).1 (same ux vx (zx.of_eq ?_) q1 q3)
    clear ix iy zx zy ux uy vx vy q1 q2 q3 q4 s1 s2 s3 s4 n1 n2 n3 n4
    grind
  · refine (K_eq l2.2 l4.2).1 (same uy vy (zy.of_eq ?_) q2 q4)
    clear ix iy zx zy ux uy vx vy q1 q2 q3 q4 s1 s2 s3 s4 n1 n2 n3 n4
    grind
/-- So often. -/
def times : Nat → Pt → Pt
  | 0, _ => zero
  | n + 1, P => add P (times n P)
theorem times_on {P : Pt} (hP : On P) : ∀ n, On (times n P)
  | 0 => zero_on
  | n + 1 => closed hP (times_on hP n)
theorem zero_add {P : Pt} (hP : On P) : add zero P = P := by rw [add_comm zero_on hP, add_zero hP]
theorem times_add {P : Pt} (hP : On P) : ∀ m n, times (m + n) P = add (times m P) (times n P)
  | 0, n => by rw [Nat.zero_add, times, zero_add (times_on hP n)]
  | m + 1, n => by rw [Nat.succ_add, times, times, times_add hP m n, add_assoc hP (times_on hP m) (times_on hP n)]
theorem times_one {P : Pt} (hP : On P) : times 1 P = P := by rw [times, times, add_zero hP]
theorem four {P Q R S : Pt} (hP : On P) (hQ : On Q) (hR : On R) (hS : On S) : add (add P Q) (add R S) = add (add P R) (add Q S) := by
  rw [add_assoc hP hQ (closed hR hS), ← add_assoc hQ hR hS, add_comm hQ hR, add_assoc hR hQ hS, ← add_assoc hP hR (closed hQ hS)]
theorem times_sum {P Q : Pt} (hP : On P) (hQ : On Q) : ∀ n, times n (add P Q) = add (times n P) (times n Q)
  | 0 => by rw [times, times, times, add_zero zero_on]
  | n + 1 => by rw [times, times, times, times_sum hP hQ n, four hP hQ (times_on hP n) (times_on hQ n)]
theorem times_zero : ∀ n, times n zero = zero
  | 0 => rfl
  | n + 1 => by rw [times, times_zero n, add_zero zero_on]
theorem times_mul {P : Pt} (hP : On P) : ∀ m n, times (m * n) P = times m (times n P)
  | 0, n => by rw [Nat.zero_mul, times, times]
  | m + 1, n => by rw [Nat.succ_mul, Nat.add_comm, times_add hP, times_mul hP m n, times]
theorem times_two {P : Pt} (hP : On P) (n : Nat) : times (2 * n) P = add (times n P) (times n P) := by rw [Nat.two_mul, times_add hP]
end Go.Proofs.Ytpnfopakkaoibaa.Ct

/- The twist: A point as one number: Y and whether X is odd; and back. Mathematics alone. -/
namespace Go.Proofs.Ytpnfopakkaoibaa.Ct
open Go.Proofs.Ytpnfopakkaoibaa
/-- X's square is never divided by 0. -/
theorem den_y (y : Int) : ¬ Z (1 + d * (y * y)) := fun h => by
  have hi := im_z
  have hs : Z ((F.im : Int) * F.im - d * (y * y)) := (hi.sub h).of_eq (by grind)
  have hy := d_sq _ _ hs
  exact one_no ((h.sub (Z.mul (d * y) hy)).of_eq (by grind))
end Go.Proofs.Ytpnfopakkaoibaa.Ct

/- The twist: The ladder: what TWICE and JOINED make of one number of points. Mathematics alone. -/
namespace Go.Proofs.Ytpnfopakkaoibaa.Ct
open Go.Proofs.Ytpnfopakkaoibaa
theorem d_z : Z ((-121665) * (d : Int) + (-121666)) := by
  have h := (K_add (F.mul d 121665) 121666).trans ((K_mul d 121665).add (K.refl ((121666 : Nat) : Int)))
  rw [d_is] at h
  have h2 : Z (((0 : Nat) : Int) - ((d : Int) * ((121665 : Nat) : Int) + ((121666 : Nat) : Int))) := h
  exact h2.of_eq (by grind)
theorem k_no : ¬ Z (-121665) := fun h => by
  have h2 := Z.neg h
  have : Z ((121665 : Nat) : Int) := h2
  rw [Z_nat] at this
  exact absurd this (by decide)
/-- Twice a point, by Y alone. -/
theorem tw_rel {x y Y : Int} (hE : Z (E x y)) (hs : K (Y * (1 - d * x * x * y * y)) (y * y + x * x)) :
    K (Y * (1 + (-121666) * ((1 - y * y) * (1 - y * y)))) (y * y - (1 - y * y) * (1 + (-121666) * (1 - y * y))) ∧ ¬ Z (1 + (-121666) * ((1 - y * y) * (1 - y * y))) := by
  have hd := d_z
  have n1 := den_y y
  have n2 : ¬ Z (1 - d * x * x * y * y) := complete hE hE (e := 1) rfl
  unfold K at hs ⊢
  constructor
  · refine ((((Z.mul ((-121665) * (1 + d * (y * y))) hs).sub (Z.mul (Y * (2 * (y * y) - y * y * (y * y))) hd)).sub (Z.mul (Y * (-121665) * d * (y * y)) hE)).add (Z.mul (y * y * (y * y)) hd)).sub (Z.mul (-121665) hE) |>.of_eq ?_
    unfold E
    grind
  · intro h
    have h2 : Z ((-121665) * ((1 + d * (y * y)) * (1 - d * x * x * y * y))) := by
      refine ((h.add (Z.mul (2 * (y * y) - y * y * (y * y)) hd)).add (Z.mul ((-121665) * d * (y * y)) hE)).of_eq ?_
      unfold E
      grind
    rcases Z.prime h2 with h3 | h3
    · exact k_no h3
    · rcases Z.prime h3 with h4 | h4
      · exact n1 h4
      · exact n2 h4
theorem jn_id (x1 y1 x2 y2 c : Int) : (y1 + y2) ^ 2 * ((1 + c * x1 * x2 * y1 * y2 - y1 * y2 + x1 * x2) * (1 - c * x1 * x2 * y1 * y2 - y1 * y2 - x1 * x2)) - (y1 - y2) ^ 2 * ((1 + c * x1 * x2 * y1 * y2 + y1 * y2 - x1 * x2) * (1 - c * x1 * x2 * y1 * y2 + y1 * y2 + x1 * x2)) =
    4 * (y1 * y2) * ((y2 ^ 2 - 1) * (y1 ^ 2 - x1 ^ 2 - 1 - c * x1 ^ 2 * y1 ^ 2) + (y1 ^ 2 - 1) * (y2 ^ 2 - x2 ^ 2 - 1 - c * x2 ^ 2 * y2 ^ 2) - (y1 ^ 2 - x1 ^ 2 - 1 - c * x1 ^ 2 * y1 ^ 2) * (y2 ^ 2 - x2 ^ 2 - 1 - c * x2 ^ 2 * y2 ^ 2)) := by grind
theorem Z.sq {a : Int} (h : Z (a ^ 2)) : Z a := by
  have : Z (a * a) := h.of_eq (by grind)
  exact (Z.prime this).elim id id
theorem Z.two {a : Int} (h : Z (2 * a)) : Z a := (Z.prime h).resolve_left two_no
/-- The sum of two points whose difference is known, by Y alone. -/
theorem jn_rel {x1 y1 x2 y2 Y y u : Int} (h1 : Z (E x1 y1)) (h2 : Z (E x2 y2)) (hs : K (Y * (1 - d * x1 * x2 * y1 * y2)) (y1 * y2 + x1 * x2)) (hp : K (y * (1 + d * x1 * x2 * y1 * y2)) (y1 * y2 - x1 * x2)) (hu : K (u * (1 - y)) (1 + y)) (n1 : ¬ Z (1 - y)) (n2 : ¬ Z (1 + y)) :
    K ((y1 + y2) ^ 2 - u * (y1 - y2) ^ 2) (((y1 + y2) ^ 2 + u * (y1 - y2) ^ 2) * Y) ∧ ¬ Z ((y1 + y2) ^ 2 + u * (y1 - y2) ^ 2) := by
  have c1 : ¬ Z (1 + d * x1 * x2 * y1 * y2) := fun hh => complete h1 h2 (e := -1) rfl ((Z.neg hh).of_eq (by grind))
  have c2 : ¬ Z (1 - d * x1 * x2 * y1 * y2) := complete h1 h2 (e := 1) rfl
  have main : K ((y1 + y2) ^ 2 - u * (y1 - y2) ^ 2) (((y1 + y2) ^ 2 + u * (y1 - y2) ^ 2) * Y) := by
    have id := jn_id x1 y1 x2 y2 d
    have hb : Z ((y1 + y2) ^ 2 * ((1 + d * x1 * x2 * y1 * y2 - y1 * y2 + x1 * x2) * (1 - d * x1 * x2 * y1 * y2 - y1 * y2 - x1 * x2)) - (y1 - y2) ^ 2 * ((1 + d * x1 * x2 * y1 * y2 + y1 * y2 - x1 * x2) * (1 - d * x1 * x2 * y1 * y2 + y1 * y2 + x1 * x2))) := by
      rw [id]
      refine Z.mul _ (((Z.mul _ h1).add (Z.mul _ h2)).sub (Z.mul _ h2))
    clear id
    unfold K at *
    generalize (y1 + y2) ^ 2 = al at *
    generalize (y1 - y2) ^ 2 = be at *
    generalize d * x1 * x2 * y1 * y2 = C at *
    generalize y1 * y2 = A at *
    generalize x1 * x2 = B at *
    have hz : Z ((1 - y) * (1 + C) * (1 - C) * (al - u * be - (al + u * be) * Y)) := by
      refine (((hb.add (Z.mul (-al * (1 - C - A - B) + al * (Y * (1 - C) - (A + B)) - be * (1 - C + A + B + (Y * (1 - C) - (A + B)))) hp)).add (Z.mul (-al * (1 + C - A + B) - be * (1 + C + A - B)) hs)).add (Z.mul (-be * (1 + C) * (1 - C + A + B + (Y * (1 - C) - (A + B)))) hu)).of_eq ?_
      grind
    rcases Z.prime hz with h | h
    · rcases Z.prime h with h | h
      · rcases Z.prime h with h | h
        · exact absurd h n1
        · exact absurd h c1
      · exact absurd h c2
    · exact h
  refine ⟨main, fun h => ?_⟩
  unfold K at main
  have hm : Z ((y1 + y2) ^ 2 - u * (y1 - y2) ^ 2) := (main.add (Z.mul Y h)).of_eq (by grind)
  have ha : Z (y1 + y2) := Z.sq (Z.two ((h.add hm).of_eq (by grind)))
  have hb : Z (u * (y1 - y2) ^ 2) := Z.two ((h.sub hm).of_eq (by grind))
  have hy : Z (y1 - y2) := by
    rcases Z.prime hb with h3 | h3
    · exact absurd (((Z.mul (1 - y) h3).sub hu).of_eq (by grind)) n2
    · exact Z.sq h3
  have z1 : Z y1 := Z.two ((ha.add hy).of_eq (by grind))
  have z2 : Z y2 := Z.two ((ha.sub hy).of_eq (by grind))
  have e1 : Z (x1 * x1 + 1) := by
    refine ((Z.mul (y1 - d * x1 ^ 2 * y1) z1).sub h1).of_eq ?_
    unfold E
    grind
  have e2 : Z (x2 * x2 + 1) := by
    refine ((Z.mul (y2 - d * x2 ^ 2 * y2) z2).sub h2).of_eq ?_
    unfold E
    grind
  have yb : Z (y + x1 * x2) := by
    unfold K at hp
    refine ((hp.sub (Z.mul (y * d * x1 * x2 * y2) z1)).add (Z.mul y2 z1)).of_eq ?_
    grind
  have hq : Z ((1 - y) * (1 + y)) := by
    refine (((Z.mul (x1 * x2 - y) yb).sub (Z.mul (x2 * x2) e1)).add e2).of_eq ?_
    grind
  rcases Z.prime hq with h3 | h3
  · exact n1 h3
  · exact n2 h3
/-- The pair (X, W) stands for a point with this Y: X : W is 1 + Y : 1 - Y. -/
structure Rl (X W y : Int) : Prop where
  nz : ¬ Z (X + W)
  eq : K (X - W) ((X + W) * y)
theorem Rl.congr {X W X' W' y : Int} (h : Rl X W y) (hx : K X' X) (hw : K W' W) : Rl X' W' y :=
  ⟨(hx.add hw).no h.nz, (hx.sub hw).trans (h.eq.trans ((hx.add hw).symm.mul (K.refl y)))⟩
theorem tw_core {S T w N0 T0 Y : Int} (hS : ¬ Z S) (hT : Z (T - S * w)) (hN : N0 = 1 + (-121666) * ((1 - w) * (1 - w))) (h0 : T0 = w - (1 - w) * (1 + (-121666) * (1 - w))) (hr : Z (Y * N0 - T0)) (nz : ¬ Z N0) :
    ¬ Z (S * T + (S - T) * (S + (-121666) * (S - T))) ∧ Z (S * T - (S - T) * (S + (-121666) * (S - T)) - (S * T + (S - T) * (S + (-121666) * (S - T))) * Y) := by
  subst hN h0
  constructor
  · intro h
    have h2 : Z (S * (S * (1 + (-121666) * ((1 - w) * (1 - w))))) := by
      refine (h.sub (Z.mul (-2 * (-121666) * S * (1 - w) + (-121666) * (T - S * w)) hT)).of_eq ?_
      grind
    rcases Z.prime h2 with h3 | h3
    · exact hS h3
    · rcases Z.prime h3 with h4 | h4
      · exact hS h4
      · exact nz h4
  · refine (((Z.mul (2 * S + 2 * (-121666) * S * (1 - w) - (-121666) * (T - S * w)) hT).sub (Z.mul (Y * (-2 * (-121666) * S * (1 - w) + (-121666) * (T - S * w))) hT)).sub (Z.mul (S * S) hr)).of_eq ?_
    grind
theorem Rl.twice {X W x y Y : Int} (h : Rl X W y) (hE : Z (E x y)) (hs : K (Y * (1 - d * x * x * y * y)) (y * y + x * x)) :
    Rl ((X + W) * (X + W) * ((X - W) * (X - W))) (((X + W) * (X + W) - (X - W) * (X - W)) * ((X + W) * (X + W) + (-121666) * ((X + W) * (X + W) - (X - W) * (X - W)))) Y := by
  have hr := tw_rel hE hs
  have hS : ¬ Z ((X + W) * (X + W)) := fun hh => (Z.prime hh).elim h.nz h.nz
  have hT : Z ((X - W) * (X - W) - (X + W) * (X + W) * (y * y)) := by
    have := h.eq
    unfold K at this
    exact (Z.mul (X - W + (X + W) * y) this).of_eq (by grind)
  have := tw_core hS hT rfl rfl hr.1 hr.2
  exact ⟨this.1, this.2⟩
theorem jn_core {P Q u al be Y e1 e2 L y1 y2 : Int} (hL : ¬ Z L) (hP : P = L * (y1 + y2) + e1) (hQ : Q = L * (y1 - y2) + e2) (h1 : Z e1) (h2 : Z e2) (hal : al = (y1 + y2) ^ 2) (hbe : be = (y1 - y2) ^ 2) (hm : Z (al - u * be - (al + u * be) * Y)) (nz : ¬ Z (al + u * be)) :
    ¬ Z (P * P + u * (Q * Q)) ∧ Z (P * P - u * (Q * Q) - (P * P + u * (Q * Q)) * Y) := by
  subst hP hQ hal hbe
  constructor
  · intro h
    have h3 : Z (L * (L * ((y1 + y2) ^ 2 + u * (y1 - y2) ^ 2))) := by
      refine ((h.sub (Z.mul (2 * L * (y1 + y2) + e1) h1)).sub (Z.mul (u * (2 * L * (y1 - y2) + e2)) h2)).of_eq ?_
      grind
    rcases Z.prime h3 with h4 | h4
    · exact hL h4
    · rcases Z.prime h4 with h5 | h5
      · exact hL h5
      · exact nz h5
  · refine (((Z.mul (L * L) hm).add (Z.mul ((2 * L * (y1 + y2) + e1) * (1 - Y)) h1)).sub (Z.mul (u * (2 * L * (y1 - y2) + e2) * (1 + Y)) h2)).of_eq ?_
    grind
theorem Rl.joined {X W V U x1 y1 x2 y2 Y y u : Int} (hq : Rl X W y1) (hr : Rl V U y2) (h1 : Z (E x1 y1)) (h2 : Z (E x2 y2)) (hs : K (Y * (1 - d * x1 * x2 * y1 * y2)) (y1 * y2 + x1 * x2)) (hp : K (y * (1 + d * x1 * x2 * y1 * y2)) (y1 * y2 - x1 * x2)) (hu : K (u * (1 - y)) (1 + y)) (n1 : ¬ Z (1 - y)) (n2 : ¬ Z (1 + y)) :
    Rl (((V + U) * (X - W) + (V - U) * (X + W)) * ((V + U) * (X - W) + (V - U) * (X + W))) (u * (((V + U) * (X - W) - (V - U) * (X + W)) * ((V + U) * (X - W) - (V - U) * (X + W)))) Y := by
  have hj := jn_rel h1 h2 hs hp hu n1 n2
  have q := hq.eq
  have r := hr.eq
  unfold K at q r
  have hL : ¬ Z ((X + W) * (V + U)) := fun hh => (Z.prime hh).elim hq.nz hr.nz
  have := jn_core (P := (V + U) * (X - W) + (V - U) * (X + W)) (Q := (V + U) * (X - W) - (V - U) * (X + W)) (u := u) (Y := Y) (e1 := (V + U) * (X - W - (X + W) * y1) + (X + W) * (V - U - (V + U) * y2)) (e2 := (V + U) * (X - W - (X + W) * y1) - (X + W) * (V - U - (V + U) * y2)) (L := (X + W) * (V + U)) (y1 := y1) (y2 := y2) hL (by grind) (by grind) ((Z.mul _ q).add (Z.mul _ r)) ((Z.mul _ q).sub (Z.mul _ r)) rfl rfl hj.1 hj.2
  exact ⟨this.1, this.2⟩
end Go.Proofs.Ytpnfopakkaoibaa.Ct
