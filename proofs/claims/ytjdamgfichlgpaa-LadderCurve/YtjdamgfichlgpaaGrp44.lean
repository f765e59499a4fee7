/- Texts that were joined: CtAss, CtPack. -/
import Derived.Test.YtjdamgfichlgpaaGrp43
/- The twist: Of three points it does not matter which two come first; so often, and so often more. Mathematics alone. -/
namespace Go.Proofs.Ytjdamgfichlgpaa.Ct
open Go.Proofs.Ytjdamgfichlgpaa
/-- A sum of a sum, with one quotient. -/
theorem sum_left {b e a c X Y x3 y3 U : Int} (hX : K (X * b) a) (hY : K (Y * e) c) (hU : K (U * (1 + d * X * x3 * Y * y3)) (X * y3 + Y * x3)) : K (U * (b * e + d * a * c * x3 * y3)) (a * e * y3 + c * b * x3) := by
  have h1 : K (U * (b * e + d * (X * b) * (Y * e) * x3 * y3)) (X * b * e * y3 + Y * e * b * x3) := (Z.mul (b * e) hU : Z _).of_eq (by grind)
  have h2 : K (U * (b * e + d * (X * b) * (Y * e) * x3 * y3)) (U * (b * e + d * a * c * x3 * y3)) := (K.refl U).mul ((K.refl _).add (((((K.refl (d : Int)).mul hX).mul hY).mul (K.refl x3)).mul (K.refl y3)))
  have h3 : K (X * b * e * y3 + Y * e * b * x3) (a * e * y3 + c * b * x3) := ((hX.mul (K.refl e)).mul (K.refl y3)).add ((hY.mul (K.refl b)).mul (K.refl x3))
  exact h2.symm.trans (h1.trans h3)
theorem sum_leftY {b e a c X Y x3 y3 V : Int} (hX : K (X * b) a) (hY : K (Y * e) c) (hV : K (V * (1 - d * X * x3 * Y * y3)) (Y * y3 + X * x3)) : K (V * (b * e - d * a * c * x3 * y3)) (c * b * y3 + a * e * x3) := by
  have h1 : K (V * (b * e - d * (X * b) * (Y * e) * x3 * y3)) (Y * e * b * y3 + X * b * e * x3) := (Z.mul (b * e) hV : Z _).of_eq (by grind)
  have h2 : K (V * (b * e - d * (X * b) * (Y * e) * x3 * y3)) (V * (b * e - d * a * c * x3 * y3)) := (K.refl V).mul ((K.refl _).sub (((((K.refl (d : Int)).mul hX).mul hY).mul (K.refl x3)).mul (K.refl y3)))
  have h3 : K (Y * e * b * y3 + X * b * e * x3) (c * b * y3 + a * e * x3) := ((hY.mul (K.refl b)).mul (K.refl y3)).add ((hX.mul (K.refl e)).mul (K.refl x3))
  exact h2.symm.trans (h1.trans h3)
theorem no_mul {a b : Int} (ha : ¬ Z a) (hb : ¬ Z b) : ¬ Z (a * b) := fun h => (Z.prime h).elim ha hb
/-- Two that are one quotient are one. -/
theorem same {u v n m q r : Int} (hu : K (u * q) n) (hv : K (v * r) m) (h : Z (n * r - m * q)) (hq : ¬ Z q) (hr : ¬ Z r) : K u v := by
  have : Z (q * r * (u - v)) := ((Z.mul r hu).sub (Z.mul q hv) |>.add h).of_eq (by grind)
  exact (Z.prime this).resolve_left (no_mul hq hr)
set_option maxHeartbeats 1000000 in
theorem add_assoc {P Q R : Pt} (hP : On P) (hQ : On Q) (hR : On R) : add (add P Q) R = add P (add Q R) := by
  have s1 := add_sum hP hQ
  have s2 := add_sum (closed hP hQ) hR
  have s3 := add_sum hQ hR
  have s4 := add_sum hP (closed hQ hR)
  have n1 := den hP hQ
  have n2 := den (closed hP hQ) hR
  have n3 := den hQ hR
  have n4 := den hP (closed hQ hR)
  have l2 := add_lt (add P Q) R
  have l4 := add_lt P (add Q R)
  have ix := Cv.id_x P.1 P.2 Q.1 Q.2 R.1 R.2 d
  have iy := Cv.id_y P.1 P.2 Q.1 Q.2 R.1 R.2 d
  have e1 := hP.2.2
  have e2 := hQ.2.2
  have e3 := hR.2.2
  have zx := ((Z.mul _ e1).add (Z.mul _ e2)).add (Z.mul _ e3) |>.of_eq ix
  have zy := ((Z.mul _ e1).add (Z.mul _ e2)).add (Z.mul _ e3) |>.of_eq iy
  have ux := sum_left s1.x s1.y s2.x
  have uy := sum_leftY s1.x s1.y s2.y
  have vx : K ((add P (add Q R)).1 * ((1 + d * Q.1 * R.1 * Q.2 * R.2) * (1 - d * Q.1 * R.1 * Q.2 * R.2) + d * (Q.1 * R.2 + Q.2 * R.1) * (Q.2 * R.2 + Q.1 * R.1) * P.1 * P.2)) ((Q.1 * R.2 + Q.2 * R.1) * (1 - d * Q.1 * R.1 * Q.2 * R.2) * P.2 + (Q.2 * R.2 + Q.1 * R.1) * (1 + d * Q.1 * R.1 * Q.2 * R.2) * P.1) := sum_left s3.x s3.y ((s4.x : Z _).of_eq (by grind))
  have vy : K ((add P (add Q R)).2 * ((1 + d * Q.1 * R.1 * Q.2 * R.2) * (1 - d * Q.1 * R.1 * Q.2 * R.2) - d * (Q.1 * R.2 + Q.2 * R.1) * (Q.2 * R.2 + Q.1 * R.1) * P.1 * P.2)) ((Q.2 * R.2 + Q.1 * R.1) * (1 + d * Q.1 * R.1 * Q.2 * R.2) * P.2 + (Q.1 * R.2 + Q.2 * R.1) * (1 - d * Q.1 * R.1 * Q.2 * R.2) * P.1) := sum_leftY s3.x s3.y ((s4.y : Z _).of_eq (by grind))
  have q1 : ¬ Z ((1 + d * P.1 * Q.1 * P.2 * Q.2) * (1 - d * P.1 * Q.1 * P.2 * Q.2) + d * (P.1 * Q.2 + P.2 * Q.1) * (P.2 * Q.2 + P.1 * Q.1) * R.1 * R.2) := by
    refine K.no ?_ (no_mul (no_mul n1.1 n1.2) n2.1)
    have h := (((K.refl (d : Int)).mul s1.x.symm).mul s1.y.symm).mul (K.refl ((R.1 : Int) * R.2))
    exact (h : Z _).of_eq (by grind)
  have q2 : ¬ Z ((1 + d * P.1 * Q.1 * P.2 * Q.2) * (1 - d * P.1 * Q.1 * P.2 * Q.2) - d * (P.1 * Q.2 + P.2 * Q.1) * (P.2 * Q.2 + P.1 * Q.1) * R.1 * R.2) := by
    refine K.no ?_ (no_mul (no_mul n1.1 n1.2) n2.2)
    have h := (((K.refl (-(d : Int))).mul s1.x.symm).mul s1.y.symm).mul (K.refl ((R.1 : Int) * R.2))
    exact (h : Z _).of_eq (by grind)
  have q3 : ¬ Z ((1 + d * Q.1 * R.1 * Q.2 * R.2) * (1 - d * Q.1 * R.1 * Q.2 * R.2) + d * (Q.1 * R.2 + Q.2 * R.1) * (Q.2 * R.2 + Q.1 * R.1) * P.1 * P.2) := by
    refine K.no ?_ (no_mul (no_mul n3.1 n3.2) n4.1)
    have h := (((K.refl (d : Int)).mul s3.x.symm).mul s3.y.symm).mul (K.refl ((P.1 : Int) * P.2))
    exact (h : Z _).of_eq (by grind)
  have q4 : ¬ Z ((1 + d * Q.1 * R.1 * Q.2 * R.2) * (1 - d * Q.1 * R.1 * Q.2 * R.2) - d * (Q.1 * R.2 + Q.2 * R.1) * (Q.2 * R.2 + Q.1 * R.1) * P.1 * P.2) := by
    refine K.no ?_ (no_mul (no_mul n3.1 n3.2) n4.2)
    have h := (((K.refl (-(d : Int))).mul s3.x.symm).mul s3.y.symm).mul (K.refl ((P.1 : Int) * P.2))
    exact (h : Z _).of_eq (by grind)
  refine Prod.ext ?_ ?_
  · refine (K_eq l2.1 l4.1).1 (same ux vx (zx.of_eq ?_) q1 q3)
    clear ix iy zx zy ux uy vx vy q1 q2 q3 q4 s1 s2 s3 s4 n1 n2 n3 n4
    grind
  · refine (K_eq l2.2 l4.2).1 (same uy vy (zy.of_eq ?_) q2 q4)
    clear ix iy zx zy ux uy vx vy q1 q2 q3 q4 s1 s2 s3 s4 n1 n2 n3 n4
    grind
/-- So often. -/
def times : Nat → Pt → Pt
  | 0, _ => zero
  | n + 1, P => add P (times n P)
theorem times_on {P : Pt} (hP : On P) : ∀ n, On (times n P)
  | 0 => zero_on
  | n + 1 => closed hP (times_on hP n)
theorem zero_add {P : Pt} (hP : On P) : add zero P = P := by rw [add_comm zero_on hP, add_zero hP]
theorem times_add {P : Pt} (hP : On P) : ∀ m n, times (m + n) P = add (times m P) (times n P)
  | 0, n => by rw [Nat.zero_add, times, zero_add (times_on hP n)]
  | m + 1, n => by rw [Nat.succ_add, times, times, times_add hP m n, add_assoc hP (times_on hP m) (times_on hP n)]
theorem times_one {P : Pt} (hP : On P) : times 1 P = P := by rw [times, times, add_zero hP]
theorem four {P Q R S : Pt} (hP : On P) (hQ : On Q) (hR : On R) (hS : On S) : add (add P Q) (add R S) = add (add P R) (add Q S) := by
  rw [add_assoc hP hQ (closed hR hS), ← add_assoc hQ hR hS, add_comm hQ hR, add_assoc hR hQ hS, ← add_assoc hP hR (closed hQ hS)]
theorem times_sum {P Q : Pt} (hP : On P) (hQ : On Q) : ∀ n, times n (add P Q) = add (times n P) (times n Q)
  | 0 => by rw [times, times, times, add_zero zero_on]
  | n + 1 => by rw [times, times, times, times_sum hP hQ n, four hP hQ (times_on hP n) (times_on hQ n)]
theorem times_zero : ∀ n, times n zero = zero
  | 0 => rfl
  | n + 1 => by rw [times, times_zero n, add_zero zero_on]
theorem times_mul {P : Pt} (hP : On P) : ∀ m n, times (m * n) P = times m (times n P)
  | 0, n => by rw [Nat.zero_mul, times, times]
  | m + 1, n => by rw [Nat.succ_mul, Nat.add_comm, times_add hP, times_mul hP m n, times]
theorem times_two {P : Pt} (hP : On P) (n : Nat) : times (2 * n) P = add (times n P) (times n P) := by rw [Nat.two_mul, times_add hP]
end Go.Proofs.Ytjdamgfichlgpaa.Ct

/- The twist: A point as one number: Y and whether X is odd; and back. Mathematics alone. -/
namespace Go.Proofs.Ytjdamgfichlgpaa.Ct
open Go.Proofs.Ytjdamgfichlgpaa
/-- X's square is never divided by 0. -/
theorem den_y (y : Int) : ¬ Z (1 + d * (y * y)) := fun h => by
  have hi := im_z
  have hs : Z ((F.im : Int) * F.im - d * (y * y)) := (hi.sub h).of_eq (by grind)
  have hy := d_sq _ _ hs
  exact one_no ((h.sub (Z.mul (d * y) hy)).of_eq (by grind))
end Go.Proofs.Ytjdamgfichlgpaa.Ct
