/- Texts that were joined: CAss, CPack, PrimeL, OrdN, CProj, Eq, EqP, Al, COrd, KnP, RPt. -/
import Derived.Test.YtfknkfninjjgbaaGreatDoorQCvIdToCGrp
import Derived.Test.YtfknkfninjjgbaaGreatDoorQPrimeToIB
import Derived.Test.YtfknkfninjjgbaaGreatDoorQNumToDigO
import Derived.Test.YtfknkfninjjgbaaGreatDoorRows
import Derived.ChangeKeysEq
import Derived.Laws.StructEq
import Derived.Deep.RegionHeld
import Derived.Test.YtfknkfninjjgbaaGreatDoorQKnToDNum
import Derived.Test.YtfknkfninjjgbaaGreatDoorQDDigPToFeP
import Derived.Test.YtfknkfninjjgbaaGreatDoorQUpVToKnO
/- Of three points it does not matter which two come first; so often, and so often more. Mathematics alone. -/
namespace Go.Proofs.YtfknkfninjjgbaaGreatDoor.Cv
open Go.Proofs.YtfknkfninjjgbaaGreatDoor
/-- A sum of a sum, with one quotient. -/
theorem sum_left {b e a c X Y x3 y3 U : Int} (hX : K (X * b) a) (hY : K (Y * e) c) (hU : K (U * (1 + d * X * x3 * Y * y3)) (X * y3 + Y * x3)) : K (U * (b * e + d * a * c * x3 * y3)) (a * e * y3 + c * b * x3) := by
 have h1 : K (U * (b * e + d * (X * b) * (Y * e) * x3 * y3)) (X * b * e * y3 + Y * e * b * x3) := (Z.mul (b * e) hU : Z _).of_eq (by grind)
 have h2 : K (U * (b * e + d * (X * b) * (Y * e) * x3 * y3)) (U * (b * e + d * a * c * x3 * y3)) := (K.refl U).mul ((K.refl _).add (((((K.refl (d : Int)).mul hX).mul hY).mul (K.refl x3)).mul (K.refl y3)))
 have h3 : K (X * b * e * y3 + Y * e * b * x3) (a * e * y3 + c * b * x3) := ((hX.mul (K.refl e)).mul (K.refl y3)).add ((hY.mul (K.refl b)).mul (K.refl x3))
 exact h2.symm.trans (h1.trans h3)
theorem sum_leftY {b e a c X Y x3 y3 V : Int} (hX : K (X * b) a) (hY : K (Y * e) c) (hV : K (V * (1 - d * X * x3 * Y * y3)) (Y * y3 + X * x3)) : K (V * (b * e - d * a * c * x3 * y3)) (c * b * y3 + a * e * x3) := by
 have h1 : K (V * (b * e - d * (X * b) * (Y * e) * x3 * y3)) (Y * e * b * y3 + X * b * e * x3) := (Z.mul (b * e) hV : Z _).of_eq (by grind)
 have h2 : K (V * (b * e - d * (X * b) * (Y * e) * x3 * y3)) (V * (b * e - d * a * c * x3 * y3)) := (K.refl V).mul ((K.refl _).sub (((((K.refl (d : Int)).mul hX).mul hY).mul (K.refl x3)).mul (K.refl y3)))
 have h3 : K (Y * e * b * y3 + X * b * e * x3) (c * b * y3 + a * e * x3) := ((hY.mul (K.refl b)).mul (K.refl y3)).add ((hX.mul (K.refl e)).mul (K.refl x3))
 exact h2.symm.trans (h1.trans h3)
theorem no_mul {a b : Int} (ha : ¬ Z a) (hb : ¬ Z b) : ¬ Z (a * b) := fun h => (Z.prime h).elim ha hb
/-- Two that are one quotient are one. -/
theorem same {u v n m q r : Int} (hu : K (u * q) n) (hv : K (v * r) m) (h : Z (n * r - m * q)) (hq : ¬ Z q) (hr : ¬ Z r) : K u v := by
 have : Z (q * r * (u - v)) := ((Z.mul r hu).sub (Z.mul q hv) |>.add h).of_eq (by grind)
 exact (Z.prime this).resolve_left (no_mul hq hr)
set_option maxHeartbeats 1000000 in
theorem add_assoc {P Q R : Pt} (hP : On P) (hQ : On Q) (hR : On R) : add (add P Q) R = add P (add Q R) := by
 have s1 := add_sum hP hQ
 have s2 := add_sum (closed hP hQ) hR
 have s3 := add_sum hQ hR
 have s4 := add_sum hP (closed hQ hR)
 have n1 := den hP hQ
 have n2 := den (closed hP hQ) hR
 have n3 := den hQ hR
 have n4 := den hP (closed hQ hR)
 have l2 := add_lt (add P Q) R
 have l4 := add_lt P (add Q R)
 have ix := id_x P.1 P.2 Q.1 Q.2 R.1 R.2 d
 have iy := id_y P.1 P.2 Q.1 Q.2 R.1 R.2 d
 have e1 := hP.2.2
 have e2 := hQ.2.2
 have e3 := hR.2.2
 have zx := ((Z.mul _ e1).add (Z.mul _ e2)).add (Z.mul _ e3) |>.of_eq ix
 have zy := ((Z.mul _ e1).add (Z.mul _ e2)).add (Z.mul _ e3) |>.of_eq iy
 have ux := sum_left s1.x s1.y s2.x
 have uy := sum_leftY s1.x s1.y s2.y
 have vx : K ((add P (add Q R)).1 * ((1 + d * Q.1 * R.1 * Q.2 * R.2) * (1 - d * Q.1 * R.1 * Q.2 * R.2) + d * (Q.1 * R.2 + Q.2 * R.1) * (Q.2 * R.2 + Q.1 * R.1) * P.1 * P.2)) ((Q.1 * R.2 + Q.2 * R.1) * (1 - d * Q.1 * R.1 * Q.2 * R.2) * P.2 + (Q.2 * R.2 + Q.1 * R.1) * (1 + d * Q.1 * R.1 * Q.2 * R.2) * P.1) := sum_left s3.x s3.y ((s4.x : Z _).of_eq (by grind))
 have vy : K ((add P (add Q R)).2 * ((1 + d * Q.1 * R.1 * Q.2 * R.2) * (1 - d * Q.1 * R.1 * Q.2 * R.2) - d * (Q.1 * R.2 + Q.2 * R.1) * (Q.2 * R.2 + Q.1 * R.1) * P.1 * P.2)) ((Q.2 * R.2 + Q.1 * R.1) * (1 + d * Q.1 * R.1 * Q.2 * R.2) * P.2 + (Q.1 * R.2 + Q.2 * R.1) * (1 - d * Q.1 * R.1 * Q.2 * R.2) * P.1) := sum_leftY s3.x s3.y ((s4.y : Z _).of_eq (by grind))
 have q1 : ¬ Z ((1 + d * P.1 * Q.1 * P.2 * Q.2) * (1 - d * P.1 * Q.1 * P.2 * Q.2) + d * (P.1 * Q.2 + P.2 * Q.1) * (P.2 * Q.2 + P.1 * Q.1) * R.1 * R.2) := by
  refine K.no ?_ (no_mul (no_mul n1.1 n1.2) n2.1)
  have h := (((K.refl (d : Int)).mul s1.x.symm).mul s1.y.symm).mul (K.refl ((R.1 : Int) * R.2))
  exact (h : Z _).of_eq (by grind)
 have q2 : ¬ Z ((1 + d * P.1 * Q.1 * P.2 * Q.2) * (1 - d * P.1 * Q.1 * P.2 * Q.2) - d * (P.1 * Q.2 + P.2 * Q.1) * (P.2 * Q.2 + P.1 * Q.1) * R.1 * R.2) := by
  refine K.no ?_ (no_mul (no_mul n1.1 n1.2) n2.2)
  have h := (((K.refl (-(d : Int))).mul s1.x.symm).mul s1.y.symm).mul (K.refl ((R.1 : Int) * R.2))
  exact (h : Z _).of_eq (by grind)
 have q3 : ¬ Z ((1 + d * Q.1 * R.1 * Q.2 * R.2) * (1 - d * Q.1 * R.1 * Q.2 * R.2) + d * (Q.1 * R.2 + Q.2 * R.1) * (Q.2 * R.2 + Q.1 * R.1) * P.1 * P.2) := by
  refine K.no ?_ (no_mul (no_mul n3.1 n3.2) n4.1)
  have h := (((K.refl (d : Int)).mul s3.x.symm).mul s3.y.symm).mul (K.refl ((P.1 : Int) * P.2))
  exact (h : Z _).of_eq (by grind)
 have q4 : ¬ Z ((1 + d * Q.1 * R.1 * Q.2 * R.2) * (1 - d * Q.1 * R.1 * Q.2 * R.2) - d * (Q.1 * R.2 + Q.2 * R.1) * (Q.2 * R.2 + Q.1 * R.1) * P.1 * P.2) := by
  refine K.no ?_ (no_mul (no_mul n3.1 n3.2) n4.2)
  have h := (((K.refl (-(d : Int))).mul s3.x.symm).mul s3.y.symm).mul (K.refl ((P.1 : Int) * P.2))
  exact (h : Z _).of_eq (by grind)
 refine Prod.ext ?_ ?_
 ·refine (K_eq l2.1 l4.1).1 (same ux vx (zx.of_eq ?_) q1 q3)
  clear ix iy zx zy ux uy vx vy q1 q2 q3 q4 s1 s2 s3 s4 n1 n2 n3 n4
  grind
 ·refine (K_eq l2.2 l4.2).1 (same uy vy (zy.of_eq ?_) q2 q4)
  clear ix iy zx zy ux uy vx vy q1 q2 q3 q4 s1 s2 s3 s4 n1 n2 n3 n4
  grind
/-- So often. -/
def times : Nat → Pt → Pt
 | 0, _ => zero
 | n + 1, P => add P (times n P)
theorem times_on {P : Pt} (hP : On P) : ∀ n, On (times n P)
 | 0 => zero_on
 | n + 1 => closed hP (times_on hP n)
theorem zero_add {P : Pt} (hP : On P) : add zero P = P := by rw [add_comm zero_on hP, add_zero hP]
theorem times_add {P : Pt} (hP : On P) : ∀ m n, times (m + n) P = add (times m P) (times n P)
 | 0, n => by rw [Nat.zero_add, times, zero_add (times_on hP n)]
 | m + 1, n => by rw [Nat.succ_add, times, times, times_add hP m n, add_assoc hP (times_on hP m) (times_on hP n)]
theorem times_one {P : Pt} (hP : On P) : times 1 P = P := by rw [times, times, add_zero hP]
theorem four {P Q R S : Pt} (hP : On P) (hQ : On Q) (hR : On R) (hS : On S) : add (add P Q) (add R S) = add (add P R) (add Q S) := by
 rw [add_assoc hP hQ (closed hR hS), ← add_assoc hQ hR hS, add_comm hQ hR, add_assoc hR hQ hS, ← add_assoc hP hR (closed hQ hS)]
theorem times_sum {P Q : Pt} (hP : On P) (hQ : On Q) : ∀ n, times n (add P Q) = add (times n P) (times n Q)
 | 0 => by rw [times, times, times, add_zero zero_on]
 | n + 1 => by rw [times, times, times, times_sum hP hQ n, four hP hQ (times_on hP n) (times_on hQ n)]
theorem times_two {P : Pt} (hP : On P) (n : Nat) : times (2 * n) P = add (times n P) (times n P) := by rw [Nat.two_mul, times_add hP]
end Go.Proofs.YtfknkfninjjgbaaGreatDoor.Cv

/- A point as one number: Y and whether X is odd; and back. Mathematics alone. -/
namespace Go.Proofs.YtfknkfninjjgbaaGreatDoor.Cv
open Go.Proofs.YtfknkfninjjgbaaGreatDoor
/-- X's square is never divided by 0. -/
theorem den_y (y : Int) : ¬ Z (1 + d * (y * y)) := fun h => by
 have hi := im_z
 have hs : Z ((F.im : Int) * F.im - d * (y * y)) := (hi.sub h).of_eq (by grind)
 have hy := d_sq _ _ hs
 exact one_no ((h.sub (Z.mul (d * y) hy)).of_eq (by grind))
/-- Two points of one Y are one, or one is the other's Neg. -/
theorem same_y {P Q : Pt} (hP : On P) (hQ : On Q) (h : P.2 = Q.2) : P = Q ∨ P = neg Q := by
 have e1 := hP.2.2
 have e2 := hQ.2.2
 rw [h] at e1
 have hz : Z ((1 + d * ((Q.2 : Int) * Q.2)) * ((P.1 : Int) * P.1 - Q.1 * Q.1)) := (e2.sub e1).of_eq (by unfold E; grind)
 have hx : K ((P.1 : Int) * P.1) ((Q.1 : Int) * Q.1) := (Z.prime hz).resolve_left (den_y _)
 have hm : F.mul P.1 P.1 = F.mul Q.1 Q.1 := (K_eq (F.mul_lt _ _) (F.mul_lt _ _)).1 ((K_mul _ _).trans (hx.trans (K_mul _ _).symm))
 rcases F.sq_eq hP.1 hQ.1 hm with h1 | h1
 ·exact .inl (Prod.ext h1 h)
 ·exact .inr (Prod.ext h1 h)
/-- A point as a number. -/
def pk (P : Pt) : Nat := P.2 + 2 ^ 255 * (P.1 % 2)
theorem p_255 : F.p < 2 ^ 255 := by decide
theorem pk_parts {P : Pt} (hP : On P) : pk P % 2 ^ 255 = P.2 ∧ pk P / 2 ^ 255 = P.1 % 2 := by
 have := hP.2.1
 have := p_255
 unfold pk
 omega
theorem neg_is {x : Nat} (h : x < F.p) (h0 : x ≠ 0) : F.sub 0 x = F.p - x := by
 unfold F.sub
 rw [Nat.zero_add, Nat.mod_eq_of_lt h]
 exact Nat.mod_eq_of_lt (by omega)
theorem neg_odd {x : Nat} (h : x < F.p) (h0 : x ≠ 0) : F.sub 0 x % 2 = 1 - x % 2 := by
 have hp : F.p % 2 = 1 := by decide
 rw [neg_is h h0]
 omega
theorem neg_zero : F.sub 0 0 = 0 := F.sub_self 0
/-- Two points have two numbers. -/
theorem pk_inj {P Q : Pt} (hP : On P) (hQ : On Q) (h : pk P = pk Q) : P = Q := by
 have a := pk_parts hP
 have b := pk_parts hQ
 rw [h] at a
 rcases same_y hP hQ (a.1.symm.trans b.1) with e | e
 ·exact e
 ·by_cases h0 : Q.1 = 0
  ·rw [e]
   unfold neg
   rw [h0, neg_zero, ← h0]
  ·have h1 := neg_odd hQ.1 h0
   have h2 : P.1 % 2 = Q.1 % 2 := a.2.symm.trans b.2
   rw [e] at h2
   unfold neg at h2
   omega
/-- The number whose square X is. -/
def xx (y : Nat) : Nat := F.mul (F.sub (F.mul y y) 1) (F.inv (F.add (F.mul d (F.mul y y)) 1))
theorem xx_of {x y : Nat} : K ((xx y : Nat) * (1 + d * ((y : Int) * y))) ((y : Int) * y - 1) ∧ (Z (E x y) ↔ F.mul x x = xx y) := by
 have k1 : K (F.add (F.mul d (F.mul y y)) 1 : Nat) (1 + d * ((y : Int) * y)) := by
  have h := (K_add (F.mul d (F.mul y y)) 1).trans (((K_mul d (F.mul y y)).trans ((K.refl (d : Int)).mul (K_mul y y))).add (K.refl ((1 : Nat) : Int)))
  exact (h : Z _).of_eq (by grind)
 have k2 : K ((xx y : Nat) * (1 + d * ((y : Int) * y))) ((y : Int) * y - 1) := by
  refine (quot k1 (den_y _)).trans ?_
  exact (K_sub _ _).trans ((K_mul y y).sub (K.refl _))
 refine ⟨k2, fun h => ?_, fun h => ?_⟩
 ·refine (K_eq (F.mul_lt _ _) (F.mul_lt _ _)).1 ((K_mul x x).trans (cancel (den_y y) ?_))
  refine K.trans ?_ k2.symm
  exact (Z.mul (-1) h : Z _).of_eq (by unfold E; grind)
 ·have h1 := (K_mul x x).symm.trans (by rw [h]; exact K.refl _)
  have h2 := (h1.mul (K.refl (1 + d * ((y : Int) * y)))).trans k2
  exact (Z.mul (-1) h2 : Z _).of_eq (by unfold E; grind)
/-- There is a point of this Y just if that number has a root; then these two. -/
theorem on_iff {x y : Nat} (hx : x < F.p) (hy : y < F.p) : On (x, y) ↔ F.mul x x = xx y := ⟨fun h => (xx_of).2.1 h.2.2, fun h => ⟨hx, hy, (xx_of).2.2 h⟩⟩
theorem neg_sq {x : Nat} (h : x < F.p) : F.mul (F.sub 0 x) (F.sub 0 x) = F.mul x x := by
 by_cases h0 : x = 0
 ·rw [h0, neg_zero]
 ·rw [neg_is h h0, F.neg_mul h]
/-- With the highest bit turned. -/
def turn (n : Nat) : Nat := if n / 2 ^ 255 % 2 = 0 then n + 2 ^ 255 else n - 2 ^ 255
end Go.Proofs.YtfknkfninjjgbaaGreatDoor.Cv

/- That 2^252 + 27742317777372353535851937790883648493 is a prime. Mathematics alone (the factors were found by a program of algebra; that they fit is shown here). -/
namespace Go.Proofs.YtfknkfninjjgbaaGreatDoor.P
end Go.Proofs.YtfknkfninjjgbaaGreatDoor.P

/- How often the base makes nothing: a prime. Mathematics alone. -/
namespace Go.Proofs.YtfknkfninjjgbaaGreatDoor.Cv
open Go.Proofs.YtfknkfninjjgbaaGreatDoor
def ord : Nat := 7237005577332262213973186563042994240857116359379907606001950938285454250989
end Go.Proofs.YtfknkfninjjgbaaGreatDoor.Cv

/- Points as fractions X/Z, Y/Z: their sums without a quotient; so often, bit by bit; the base and its order. Mathematics alone. -/
namespace Go.Proofs.YtfknkfninjjgbaaGreatDoor.Cv
open Go.Proofs.YtfknkfninjjgbaaGreatDoor
/-- X/Z and Y/Z are the point P. -/
structure Fr (X Y T : Int) (P : Pt) : Prop where
 nz : ¬ Z T
 x : K X (P.1 * T)
 y : K Y (P.2 * T)
theorem Fr.one (P : Pt) : Fr P.1 P.2 1 P := ⟨one_no, by rw [Int.mul_one]; exact K.refl _, by rw [Int.mul_one]; exact K.refl _⟩
theorem Fr.sum {X1 Y1 T1 X2 Y2 T2 : Int} {P Q : Pt} (hP : On P) (hQ : On Q) (h1 : Fr X1 Y1 T1 P) (h2 : Fr X2 Y2 T2 Q) :
  Fr (T1 * T2 * (T1 * T2 * (T1 * T2) - d * (X1 * X2) * (Y1 * Y2)) * (X1 * Y2 + Y1 * X2)) (T1 * T2 * (T1 * T2 * (T1 * T2) + d * (X1 * X2) * (Y1 * Y2)) * (X1 * X2 + Y1 * Y2)) ((T1 * T2 * (T1 * T2) - d * (X1 * X2) * (Y1 * Y2)) * (T1 * T2 * (T1 * T2) + d * (X1 * X2) * (Y1 * Y2))) (add P Q) := by
 have s := add_sum hP hQ
 have n := den hP hQ
 have nT : ¬ Z (T1 * T2 * (T1 * T2)) := no_mul (no_mul h1.nz h2.nz) (no_mul h1.nz h2.nz)
 have kc := h1.x.mul h2.x
 have kd := h1.y.mul h2.y
 have ke : K (d * (X1 * X2) * (Y1 * Y2)) (T1 * T2 * (T1 * T2) * (d * P.1 * Q.1 * P.2 * Q.2)) := by
  have := ((K.refl (d : Int)).mul kc).mul kd
  exact (this : Z _).of_eq (by grind)
 have kf : K (T1 * T2 * (T1 * T2) - d * (X1 * X2) * (Y1 * Y2)) (T1 * T2 * (T1 * T2) * (1 - d * P.1 * Q.1 * P.2 * Q.2)) := ((K.refl (T1 * T2 * (T1 * T2))).sub ke : Z _).of_eq (by grind)
 have kg : K (T1 * T2 * (T1 * T2) + d * (X1 * X2) * (Y1 * Y2)) (T1 * T2 * (T1 * T2) * (1 + d * P.1 * Q.1 * P.2 * Q.2)) := ((K.refl (T1 * T2 * (T1 * T2))).add ke : Z _).of_eq (by grind)
 have nf := kf.no (no_mul nT n.2)
 have ng := kg.no (no_mul nT n.1)
 have ks : K (X1 * Y2 + Y1 * X2) (T1 * T2 * (P.1 * Q.2 + P.2 * Q.1)) := ((h1.x.mul h2.y).add (h1.y.mul h2.x) : Z _).of_eq (by grind)
 have kt : K (X1 * X2 + Y1 * Y2) (T1 * T2 * (P.2 * Q.2 + P.1 * Q.1)) := (kc.add kd : Z _).of_eq (by grind)
 refine ⟨no_mul nf ng, ?_, ?_⟩
 ·generalize T1 * T2 * (T1 * T2) - d * (X1 * X2) * (Y1 * Y2) = f at *
  generalize T1 * T2 * (T1 * T2) + d * (X1 * X2) * (Y1 * Y2) = g at *
  generalize X1 * Y2 + Y1 * X2 = u at *
  have a1 : K (T1 * T2 * f * u) (T1 * T2 * f * (T1 * T2 * (P.1 * Q.2 + P.2 * Q.1))) := (K.refl _).mul ks
  have a2 : K ((add P Q).1 * (f * g)) ((add P Q).1 * (f * (T1 * T2 * (T1 * T2) * (1 + d * P.1 * Q.1 * P.2 * Q.2)))) := (K.refl _).mul ((K.refl _).mul kg)
  have a3 : K ((add P Q).1 * (f * (T1 * T2 * (T1 * T2) * (1 + d * P.1 * Q.1 * P.2 * Q.2)))) (T1 * T2 * f * (T1 * T2 * (P.1 * Q.2 + P.2 * Q.1))) := (Z.mul (f * (T1 * T2 * (T1 * T2))) s.x : Z _).of_eq (by grind)
  exact a1.trans (a2.trans a3).symm
 ·generalize T1 * T2 * (T1 * T2) - d * (X1 * X2) * (Y1 * Y2) = f at *
  generalize T1 * T2 * (T1 * T2) + d * (X1 * X2) * (Y1 * Y2) = g at *
  generalize X1 * X2 + Y1 * Y2 = u at *
  have a1 : K (T1 * T2 * g * u) (T1 * T2 * g * (T1 * T2 * (P.2 * Q.2 + P.1 * Q.1))) := (K.refl _).mul kt
  have a2 : K ((add P Q).2 * (f * g)) ((add P Q).2 * (T1 * T2 * (T1 * T2) * (1 - d * P.1 * Q.1 * P.2 * Q.2) * g)) := (K.refl _).mul (kf.mul (K.refl _))
  have a3 : K ((add P Q).2 * (T1 * T2 * (T1 * T2) * (1 - d * P.1 * Q.1 * P.2 * Q.2) * g)) (T1 * T2 * g * (T1 * T2 * (P.2 * Q.2 + P.1 * Q.1))) := (Z.mul (g * (T1 * T2 * (T1 * T2))) s.y : Z _).of_eq (by grind)
  exact a1.trans (a2.trans a3).symm
/-- Three numbers. -/
abbrev Tr := Nat × Nat × Nat
def FrN (t : Tr) (P : Pt) : Prop := Fr t.1 t.2.1 t.2.2 P
/-- The sum of two fractions. -/
def padd (s t : Tr) : Tr :=
 let a := F.mul s.2.2 t.2.2
 let c := F.mul s.1 t.1
 let e' := F.mul s.2.1 t.2.1
 let b := F.mul a a
 let e := F.mul (F.mul d c) e'
 let f := F.sub b e
 let g := F.add b e
 (F.mul (F.mul a f) (F.add (F.mul s.1 t.2.1) (F.mul s.2.1 t.1)), F.mul (F.mul a g) (F.add c e'), F.mul f g)
theorem Fr.congr {X Y T X' Y' T' : Int} {P : Pt} (h : Fr X Y T P) (hx : K X' X) (hy : K Y' Y) (ht : K T' T) : Fr X' Y' T' P :=
 ⟨ht.no h.nz, hx.trans (h.x.trans ((K.refl _).mul ht.symm)), hy.trans (h.y.trans ((K.refl _).mul ht.symm))⟩
theorem padd_fr {s t : Tr} {P Q : Pt} (hP : On P) (hQ : On Q) (h1 : FrN s P) (h2 : FrN t Q) : FrN (padd s t) (add P Q) := by
 have ka := K_mul s.2.2 t.2.2
 have kc := K_mul s.1 t.1
 have ke' := K_mul s.2.1 t.2.1
 have kb := (K_mul (F.mul s.2.2 t.2.2) (F.mul s.2.2 t.2.2)).trans (ka.mul ka)
 have ke := (K_mul (F.mul d (F.mul s.1 t.1)) (F.mul s.2.1 t.2.1)).trans (((K_mul d (F.mul s.1 t.1)).trans ((K.refl (d : Int)).mul kc)).mul ke')
 have kf := (K_sub (F.mul (F.mul s.2.2 t.2.2) (F.mul s.2.2 t.2.2)) (F.mul (F.mul d (F.mul s.1 t.1)) (F.mul s.2.1 t.2.1))).trans (kb.sub ke)
 have kg := (K_add (F.mul (F.mul s.2.2 t.2.2) (F.mul s.2.2 t.2.2)) (F.mul (F.mul d (F.mul s.1 t.1)) (F.mul s.2.1 t.2.1))).trans (kb.add ke)
 refine (Fr.sum hP hQ h1 h2).congr ?_ ?_ ?_
 ·exact (K_mul _ _).trans (((K_mul _ _).trans (ka.mul kf)).mul ((K_add _ _).trans ((K_mul _ _).add (K_mul _ _))))
 ·exact (K_mul _ _).trans (((K_mul _ _).trans (ka.mul kg)).mul ((K_add _ _).trans (kc.add ke')))
 ·exact (K_mul _ _).trans (kf.mul kg)
/-- So often, from the least bit on. -/
def often : Nat → Nat → Tr → Tr → Tr
 | 0, _, acc, _ => acc
 | k + 1, n, acc, t => often k (n / 2) (if n % 2 = 1 then padd acc t else acc) (padd t t)
theorem often_fr : ∀ (k n : Nat) (acc t : Tr) (A P : Pt), n < 2 ^ k → On A → On P → FrN acc A → FrN t P → FrN (often k n acc t) (add A (times n P))
 | 0, n, acc, t, A, P, hn, hA, _, h1, _ => by
  have : n = 0 := by simp at hn; exact hn
  subst this
  rw [often, times, add_zero hA]
  exact h1
 | k + 1, n, acc, t, A, P, hn, hA, hP, h1, h2 => by
  have hn2 : n / 2 < 2 ^ k := by rw [Nat.pow_succ] at hn; omega
  have hd := times_on (closed hP hP) (n / 2)
  have e2 : times (n / 2) (add P P) = times (2 * (n / 2)) P := by rw [times_two hP, times_sum hP hP]
  rw [often]
  by_cases h : n % 2 = 1
  ·rw [if_pos h]
   have ih := often_fr k (n / 2) (padd acc t) (padd t t) (add A P) (add P P) hn2 (closed hA hP) (closed hP hP) (padd_fr hA hP h1 h2) (padd_fr hP hP h2 h2)
   rw [add_assoc hA hP hd, e2] at ih
   rw [show n = 2 * (n / 2) + 1 by omega, times]
   rw [show (2 * (n / 2) + 1) / 2 = n / 2 by omega]
   exact ih
  ·rw [if_neg h]
   have ih := often_fr k (n / 2) acc (padd t t) A (add P P) hn2 hA (closed hP hP) h1 (padd_fr hP hP h2 h2)
   rw [e2, show 2 * (n / 2) = n by omega] at ih
   exact ih
/-- The base. -/
def base : Pt := (15112221349535400772501151409588531511454012693041857206046113283949847762202, 46316835694926478169428394003475163141307993866256225615783033603165251855960)
theorem base_on : On base := (on_iff (by decide) (by decide)).2 (by
 show _ = F.mul _ (F.inv _)
 rw [← F.mul_modl]
 have h : ∀ a b c : Nat, b % F.p ≠ 0 → F.mul a b = c → a < F.p → a = F.mul c (F.inv b) := fun a b c hb hc ha => by
  rw [← hc, F.mul_assoc, F.mul_inv hb, F.mul_one, Nat.mod_eq_of_lt ha]
 exact h _ _ _ (by decide +kernel) (by decide +kernel) (F.mul_lt _ _))
theorem zero_fr : FrN (0, 1, 1) zero := Fr.one zero
end Go.Proofs.YtfknkfninjjgbaaGreatDoor.Cv

/- '==' and '!=' of two arrays of integers: as the rows of numbers are. Over any program. -/
namespace Go.Proofs.YtfknkfninjjgbaaGreatDoor
open Go.RowKit
section
variable {P : Program}
theorem run_equalIn_intN (d : Nat) {e : TypeId} {k : IntKind} (hu : P.underlying e = some (.int k)) (a b : Int) (w : World) : (Op.equalIn (d + 1) e (.int k a) (.int k b)).run P w = .ok (a == b) w := by
 simp [Op.equalIn, run_underlying hu]
theorem run_eqItems_intsN (d : Nat) {e : TypeId} {k : IntKind} (hu : P.underlying e = some (.int k)) (hp : P.plainKey e = true) (f g : Nat → Int) (X Y : Array Value) (w : World) :
  ∀ is : List Nat, (∀ i ∈ is, X[i]? = some (.int k (f i))) → (∀ i ∈ is, Y[i]? = some (.int k (g i))) → (Op.eqItems (d + 1) e 1 X Y is).run P w = .ok (is.all fun i => f i == g i) w
 | [], _, _ => by simp [Op.eqItems]
 | i :: is, hX, hY => by
  have p1 := run_part_plain w hp (hX i (by simp))
  have p2 := run_part_plain w hp (hY i (by simp))
  have ih := run_eqItems_intsN d hu hp f g X Y w is (fun j hj => hX j (by simp [hj])) (fun j hj => hY j (by simp [hj]))
  simp only [Op.eqItems, Sem.run_bind, Nat.mul_one, p1, p2, Result.andThen_ok, run_equalIn_intN d hu]
  cases h : (f i == g i)
  ·simp [h]
  ·simp [h, ih]
theorem run_eql_intsN {t e : TypeId} {n : Nat} {i : TypeInfo} {k : IntKind} (ht : P.underlying t = some (.array n e)) (hi : P.info? e = some i) (hu : P.underlying e = some (.int k)) (hp : P.plainKey e = true) (hc : P.cellsOf e = 1)
  (f g : Nat → Int) (X Y : Array Value) (hX : ∀ j, j < n → X[j]? = some (.int k (f j))) (hY : ∀ j, j < n → Y[j]? = some (.int k (g j))) (w : World) :
  (binOp .eql t (.agg X) (.agg Y)).run P w = .ok (.bool ((List.range n).all fun j => f j == g j)) w := by
 simp only [binOp]
 have h := run_equalIn_array w 9999 X Y ht hi
 rw [hc, run_eqItems_intsN 9998 hu hp f g X Y w _ (fun j hj => hX j (List.mem_range.1 hj)) (fun j hj => hY j (List.mem_range.1 hj))] at h
 simp [Op.equal, Op.maxDepth, h]
theorem run_neq_intsN {t e : TypeId} {n : Nat} {i : TypeInfo} {k : IntKind} (ht : P.underlying t = some (.array n e)) (hi : P.info? e = some i) (hu : P.underlying e = some (.int k)) (hp : P.plainKey e = true) (hc : P.cellsOf e = 1)
  (f g : Nat → Int) (X Y : Array Value) (hX : ∀ j, j < n → X[j]? = some (.int k (f j))) (hY : ∀ j, j < n → Y[j]? = some (.int k (g j))) (w : World) :
  (binOp .neq t (.agg X) (.agg Y)).run P w = .ok (.bool !((List.range n).all fun j => f j == g j)) w := by
 simp only [binOp]
 have h := run_equalIn_array w 9999 X Y ht hi
 rw [hc, run_eqItems_intsN 9998 hu hp f g X Y w _ (fun j hj => hX j (List.mem_range.1 hj)) (fun j hj => hY j (List.mem_range.1 hj))] at h
 simp [Op.equal, Op.maxDepth, h]
end
/-- Are the two one? -/
def Nm.beq (x y : Nm) : Bool := (x.a == y.a) && ((x.b == y.b) && ((x.c == y.c) && (x.d == y.d)))
theorem Nm.beq_self (x : Nm) : Nm.beq x x = true := by simp [Nm.beq]
theorem Nm.beq_iff {x y : Nm} : Nm.beq x y = true ↔ x = y := by
 obtain ⟨xa, xb, xc, xd⟩ := x; obtain ⟨ya, yb, yc, yd⟩ := y
 simp [Nm.beq]
theorem Nm.beq_ne {x y : Nm} (h : x ≠ y) : Nm.beq x y = false := by
 cases e : Nm.beq x y
 ·rfl
 ·exact absurd (Nm.beq_iff.1 e) h
def Nm.get (x : Nm) : Nat → Int
 | 0 => x.a
 | 1 => x.b
 | 2 => x.c
 | _ => x.d
theorem Nm.get_N (x : Nm) (j : Nat) (h : j < 4) : (#[Value.int .u64 x.a, .int .u64 x.b, .int .u64 x.c, .int .u64 x.d] : Array Value)[j]? = some (.int .u64 (x.get j)) := by
 match j, h with
 | 0, _ => rfl
 | 1, _ => rfl
 | 2, _ => rfl
 | 3, _ => rfl
set_option maxRecDepth 100000 in
theorem eqN (x y : Nm) (w : World) : (binOp .eql 26 (N x) (N y)).run Tryz.prog w = .ok (.bool (Nm.beq x y)) w := by
 rw [run_eql_intsN (P := Tryz.prog) (t := 26) (e := 24) (n := 4) (k := .u64) Tryz.underlying26 rfl Tryz.underlying24 (by kernel_rfl) (by kernel_rfl) x.get y.get _ _ x.get_N y.get_N]
 simp [List.range_succ, Nm.get, Nm.beq]
set_option maxRecDepth 100000 in
theorem neN (x y : Nm) (w : World) : (binOp .neq 26 (N x) (N y)).run Tryz.prog w = .ok (.bool !(Nm.beq x y)) w := by
 rw [run_neq_intsN (P := Tryz.prog) (t := 26) (e := 24) (n := 4) (k := .u64) Tryz.underlying26 rfl Tryz.underlying24 (by kernel_rfl) (by kernel_rfl) x.get y.get _ _ x.get_N y.get_N]
 simp [List.range_succ, Nm.get, Nm.beq]
end Go.Proofs.YtfknkfninjjgbaaGreatDoor

/- '==' and '!=' of two points. -/
namespace Go.Proofs.YtfknkfninjjgbaaGreatDoor
open Go.RowKit
theorem part_num (xs : Array Value) (off : Nat) (w : World) : (part 26 xs off).run Tryz.prog w = .ok (.agg (xs.extract off (off + 4))) w := by
 have hs : (Tryz.prog.info? 26).map (·.size) = some 4 := by kernel_rfl
 cases hq : Tryz.prog.info? 26 with
 | none => simp [hq] at hs
 | some i =>
  have hi : i.size = 4 := by simpa [hq] using hs
  simp [part, isAgg, run_underlying Tryz.underlying26, sizeOf, typeInfo, hq, hi]
set_option maxRecDepth 100000 in
theorem equalIn_num (x y : Nm) (w : World) : (Op.equalIn 9999 26 (N x) (N y)).run Tryz.prog w = .ok (Nm.beq x y) w := by
 have h := run_equalIn_array (P := Tryz.prog) (t := 26) (e := 24) w 9998 #[Value.int .u64 x.a, .int .u64 x.b, .int .u64 x.c, .int .u64 x.d] #[Value.int .u64 y.a, .int .u64 y.b, .int .u64 y.c, .int .u64 y.d] Tryz.underlying26 rfl
 rw [show Tryz.prog.cellsOf 24 = 1 by kernel_rfl, run_eqItems_intsN 9997 (k := .u64) Tryz.underlying24 (by kernel_rfl) x.get y.get _ _ w _ (fun j hj => x.get_N j (List.mem_range.1 hj)) (fun j hj => y.get_N j (List.mem_range.1 hj))] at h
 rw [h]
 simp [List.range_succ, Nm.get, Nm.beq]
end Go.Proofs.YtfknkfninjjgbaaGreatDoor

/- What lay in a block lies there when others have been made. -/
namespace Go.Proofs.YtfknkfninjjgbaaGreatDoor
theorem cell_alloc2 (w : World) (a : Addr) (o1 o2 : Obj) (h : (w.cell? a).isSome = true) : ((w.alloc o1).alloc o2).cell? a = w.cell? a := by
 have e := World.cell?_alloc_some w a o1 h
 rw [World.cell?_alloc_some _ a o2 (by rw [e]; exact h), e]
theorem cell_alloc3 (w : World) (a : Addr) (o1 o2 o3 : Obj) (h : (w.cell? a).isSome = true) : (((w.alloc o1).alloc o2).alloc o3).cell? a = w.cell? a := by
 have e := cell_alloc2 w a o1 o2 h
 rw [World.cell?_alloc_some _ a o3 (by rw [e]; exact h), e]
theorem cell_alloc4 (w : World) (a : Addr) (o1 o2 o3 o4 : Obj) (h : (w.cell? a).isSome = true) : ((((w.alloc o1).alloc o2).alloc o3).alloc o4).cell? a = w.cell? a := by
 have e := cell_alloc3 w a o1 o2 o3 h
 rw [World.cell?_alloc_some _ a o4 (by rw [e]; exact h), e]
end Go.Proofs.YtfknkfninjjgbaaGreatDoor

/- Lagrange: eight times the base's order makes nothing of any point; how often counts modulo the order for the base. Mathematics alone. -/
namespace Go.Proofs.YtfknkfninjjgbaaGreatDoor.Cv
open Go.Proofs.YtfknkfninjjgbaaGreatDoor
/-- The points. -/
abbrev G := {P : Pt // On P}
/-- A point's place. -/
def idx (g : G) : Nat := 2 * g.1.2 + g.1.1 % 2
theorem idx_inj {g h : G} (e : idx g = idx h) : g = h := by
 refine Subtype.ext (pk_inj g.2 h.2 ?_)
 unfold idx at e
 unfold pk
 rw [show g.1.1 % 2 = h.1.1 % 2 by omega, show g.1.2 = h.1.2 by omega]
theorem all (m : Nat) : ∃ l : List G, l.Nodup ∧ (∀ g, g ∈ l ↔ idx g < m) ∧ l.length ≤ m := by
 induction m with
 | zero => exact ⟨[], List.nodup_nil, fun g => by simp, Nat.le_refl _⟩
 | succ m ih =>
  obtain ⟨l, h1, h2, h3⟩ := ih
  by_cases h : ∃ g, idx g = m
  ·obtain ⟨g, hg⟩ := h
   refine ⟨g :: l, List.nodup_cons.2 ⟨fun hm => ?_, h1⟩, fun k => ?_, Nat.succ_le_succ h3⟩
   ·have := (h2 g).1 hm
    omega
   ·rw [List.mem_cons, h2]
    constructor
    ·rintro (rfl | hk)
     ·omega
     ·omega
    ·intro hk
     by_cases he : idx k = m
     ·exact .inl (idx_inj (he.trans hg.symm))
     ·exact .inr (by omega)
  ·refine ⟨l, h1, fun k => ?_, Nat.le_succ_of_le h3⟩
   rw [h2]
   constructor
   ·intro hk
    omega
   ·intro hk
    by_cases he : idx k = m
    ·exact absurd ⟨k, he⟩ h
    ·omega
end Go.Proofs.YtfknkfninjjgbaaGreatDoor.Cv

/- What is known of blocks that hold points; package curve's contracts, each as one premise; the verifier's small calls. -/
namespace Go.Proofs.YtfknkfninjjgbaaGreatDoor
open Go.RowKit
attribute [local go_sem] World.cell?_alloc_some cell_alloc2 cell_alloc3 cell_alloc4 frozen?_alloc_cells frozen_out
set_option linter.unusedSimpArgs false
abbrev kalP (w : World) (l h : Nm) : World := w.alloc (.cells #[.int .u64 l.a, .int .u64 l.b, .int .u64 l.c, .int .u64 l.d, .int .u64 h.a, .int .u64 h.b, .int .u64 h.c, .int .u64 h.d] 59)
abbrev kzP (w : World) : World := w.alloc (.cells #[.int .u64 0, .int .u64 0, .int .u64 0, .int .u64 0, .int .u64 0, .int .u64 0, .int .u64 0, .int .u64 0] 59)
/-- A point as Go has it. -/
abbrev pv (P : Cv.Pt) : Value := Wv (nm P.1) (nm P.2)
/-- curve.On. -/
def COnC : Prop := (∀ P : Cv.Pt, Cv.On P → ∀ w, Calls Tryz.prog 90 #[pv P] w fun e w' => e = .returned (.bool true) ∧ Below w.heap.size w w') ∧ (∀ x y : Nm, x.ok → y.ok → ¬ Cv.On (x.nat, y.nat) → ∀ w, Calls Tryz.prog 90 #[Wv x y] w fun e w' => e = .returned (.bool false) ∧ Below w.heap.size w w')
def CBaseC : Prop := ∀ w, Calls Tryz.prog 52 #[] w fun e w' => e = .returned (pv Cv.base) ∧ Below w.heap.size w w'
def CTimesC : Prop := ∀ (n : Nm) (P : Cv.Pt), n.ok → Cv.On P → ∀ w, Calls Tryz.prog 92 #[N n, pv P] w fun e w' => e = .returned (.tuple #[pv (Cv.times n.nat P), .int .i64 0]) ∧ Below w.heap.size w w'
end Go.Proofs.YtfknkfninjjgbaaGreatDoor

/- The document's points: dOf, PtOf, PtBase, Point, Plus. -/
namespace Go.Proofs.YtfknkfninjjgbaaGreatDoor
open Go.RowKit
attribute [local go_sem] World.cell?_alloc_some cell_alloc2 cell_alloc3 cell_alloc4 frozen?_alloc_cells frozen_out
set_option linter.unusedSimpArgs false
theorem pt_built (x y z : Nat) : Tryz.prog.built 63 [(0, .agg (fR x).toArray), (1, .agg (fR y).toArray), (2, .agg (fR z).toArray)] = some (pR x y z).toArray := by kernel_rfl
theorem run_build3 {T : TypeId} {x y z : Operand} {a : Act} {u v t : Value} {cs : List Value} (hx : a.eval x = u) (hy : a.eval y = v) (hz : a.eval z = t) (hb : Tryz.prog.built T [(0, u), (1, v), (2, t)] = some cs.toArray) (w : World) : (Instr.build T ((#[(0, x), (1, y), (2, z)] : Array (Nat × Operand)).map fun x => (x.fst, a.eval x.snd))).run Tryz.prog w = .ok (.agg cs.toArray) w :=
 run_build w T _ _ (by simpa [hx, hy, hz] using hb)
theorem wp_build3 {ops : Array Oper} {rest : List Oper} {o : Oper} {a : Act} {Q : Exit → Act → World → Prop} {w : World} (hgd : o.guard = none) (T : TypeId) (x y z : Operand) (ho : o.op = .build T #[(0, x), (1, y), (2, z)]) (u v t : Value) (cs : List Value) (hx : a.eval x = u) (hy : a.eval y = v) (hz : a.eval z = t) (hb : Tryz.prog.built T [(0, u), (1, v), (2, t)] = some cs.toArray)
  (h : wpList Tryz.prog ops Q rest (a.put o.dst (.agg cs.toArray)) w) : wpList Tryz.prog ops Q (o :: rest) a w := by
 refine wpList_plain hgd fun K hK => ?_
 have e := run_build3 hx hy hz hb w
 unfold Oper.wp
 simp only [execOp, ho, Sem.run_bind, e, Result.andThen_ok, Sem.run_pure]
 exact hK _ _ h
theorem quiet_build3 {ops : Array Oper} {C : World → Prop} {Q : Act → Prop} {o : Oper} {rest : List Oper} {a : Act} (hw : Region.wanted o (yielded ops a.tmps) = true) (T : TypeId) (x y z : Operand) (ho : o.op = .build T #[(0, x), (1, y), (2, z)]) (u v t : Value) (cs : List Value) (hx : a.eval x = u) (hy : a.eval y = v) (hz : a.eval z = t) (hb : Tryz.prog.built T [(0, u), (1, v), (2, t)] = some cs.toArray)
  (h : wpQuiet Tryz.prog ops C Q rest (a.put o.dst (.agg cs.toArray))) : wpQuiet Tryz.prog ops C Q (o :: rest) a := by
 refine BigFrame.wpQuiet_want hw fun K hK => ⟨.agg cs.toArray, fun w _ => ?_, hK _ h⟩
 unfold Oper.quietAt
 have e1 := run_build3 hx hy hz hb w
 have e : (execOp a.eval o).run Tryz.prog w = .ok (.value (.agg cs.toArray)) w := by
  simp only [execOp, ho, Sem.run_bind, e1, Result.andThen_ok, Sem.run_pure]
 rw [e]
 exact ⟨rfl, rfl⟩
theorem d_lit : (fR Cv.d).toArray = #[Value.int IntKind.i64 30883, Value.int IntKind.i64 4953, Value.int IntKind.i64 19914, Value.int IntKind.i64 30187, Value.int IntKind.i64 55467, Value.int IntKind.i64 16705, Value.int IntKind.i64 2637, Value.int IntKind.i64 112, Value.int IntKind.i64 59544, Value.int IntKind.i64 30585, Value.int IntKind.i64 16505, Value.int IntKind.i64 36039, Value.int IntKind.i64 65139, Value.int IntKind.i64 11119, Value.int IntKind.i64 27886, Value.int IntKind.i64 20995] := by kernel_rfl
set_option maxRecDepth 20000 in
set_option maxHeartbeats 600000 in
theorem dOf_fun (w : World) : Calls Tryz.prog 83 #[] w fun e w' => e = .returned (.agg (fR Cv.d).toArray) ∧ Below w.heap.size w w' := by
 obtain ⟨x0, x1⟩ := I.al1 w (fR Cv.d).toArray 61
 rw [d_lit] at x0 x1
 have X0 : Hid _ := x0.all
 have X1 : Hid _ := x1
 clear x0 x1
 go_enter Tryz.func83, Tryz.ntmps83
 go_wp2_with fail
 refine bodyPost_ret (v := .agg (fR Cv.d).toArray) ?_ rfl ⟨rfl, X1.out⟩
 rw [d_lit]
 exact I.results_cell (b := w.heap.size) rfl rfl X0.out Tryz.underlying61 rfl I.info_fe
set_option maxRecDepth 20000 in
set_option maxHeartbeats 600000 in
theorem ptPoint_walk (x y t i u v : Nat) (px py : Nm)
  (O1 : ∀ w, Calls Tryz.prog 60 #[.agg (fR (t)).toArray] w fun e w' => e = .returned (.agg (fR (i)).toArray) ∧ Below w.heap.size w w')
  (M1 : ∀ w, Calls Tryz.prog 61 #[.agg (fR (x)).toArray, .agg (fR (i)).toArray] w fun e w' => e = .returned (.agg (fR (u)).toArray) ∧ Below w.heap.size w w')
  (M2 : ∀ w, Calls Tryz.prog 61 #[.agg (fR (y)).toArray, .agg (fR (i)).toArray] w fun e w' => e = .returned (.agg (fR (v)).toArray) ∧ Below w.heap.size w w')
  (N1 : ∀ w, Calls Tryz.prog 62 #[.agg (fR (u)).toArray] w fun e w' => e = .returned (N px) ∧ Below w.heap.size w w')
  (N2 : ∀ w, Calls Tryz.prog 62 #[.agg (fR (v)).toArray] w fun e w' => e = .returned (N py) ∧ Below w.heap.size w w')
  (w : World) :
  Calls Tryz.prog 27 #[pV x y t] w fun e w' => e = .returned (Wv px py) ∧ Below w.heap.size w w' := by
 go_enter Tryz.func27, Tryz.ntmps27
 have s0 : Hid (Kn (kzP (w.alloc (.cells (pR (x) (y) (t)).toArray 63))) [(w.heap.size + 1, zz8), (w.heap.size, (pR (x) (y) (t)))]) := (((Kn.nil w).al (pR (x) (y) (t)) 63 rfl).al zz8 59 (by simp))
 have b0 : Hid (Below w.heap.size w (kzP (w.alloc (.cells (pR (x) (y) (t)).toArray 63)))) := (((Below.refl _ _).alloc (Nat.le_refl _) _).alloc (by simp <;> omega) _)
 go_wp2_with (first | refine wp_ldW rfl 63 _ rfl (w.heap.size) 0 rfl (pR (x) (y) (t)) _ (Kn.rng s0.out 1 rfl) Tryz.underlying63 rfl (info_pR (x) (y) (t)) ?_ | refine wp_ldW rfl 61 _ rfl (w.heap.size) 0 rfl (fR (x)) _ (Kn.rng0 s0.out 1 rfl) Tryz.underlying61 rfl (info_fR (x)) ?_ | refine wp_ldW rfl 61 _ rfl (w.heap.size) 16 rfl (fR (y)) _ (Kn.rng1 s0.out 1 rfl) Tryz.underlying61 rfl (info_fR (y)) ?_ | refine wp_ldW rfl 61 _ rfl (w.heap.size) 32 rfl (fR (t)) _ (Kn.rng2 s0.out 1 rfl) Tryz.underlying61 rfl (info_fR (t)) ?_)
 refine (O1 _).mono ?_
 rintro e w1 ⟨rfl, hb1⟩
 have s1 : Hid (Kn w1 _) := s0.out.up hb1
 have b1 : Hid (Below w.heap.size w w1) := b0.out.trans (hb1.mono b0.out.size)
 have z1 := b1.out.size
 clear hb1 s0 b0
 have s2x : Hid (Kn (w1.alloc (.cells #[Value.int IntKind.i64 0, .int .i64 0, .int .i64 0, .int .i64 0, .int .i64 0, .int .i64 0, .int .i64 0, .int .i64 0, .int .i64 0, .int .i64 0, .int .i64 0, .int .i64 0, .int .i64 0, .int .i64 0, .int .i64 0, .int .i64 0] 61)) [(w1.heap.size, fZ), (w.heap.size + 1, zz8), (w.heap.size, (pR (x) (y) (t)))]) := s1.out.al fZ 61 rfl
 have b2x : Hid (Below w.heap.size w (w1.alloc (.cells #[Value.int IntKind.i64 0, .int .i64 0, .int .i64 0, .int .i64 0, .int .i64 0, .int .i64 0, .int .i64 0, .int .i64 0, .int .i64 0, .int .i64 0, .int .i64 0, .int .i64 0, .int .i64 0, .int .i64 0, .int .i64 0, .int .i64 0] 61))) := b1.out.alloc b1.out.size _
 have g2 : w.heap.size ≤ w1.heap.size := b1.out.size
 have TT2 : Hid ((w1.alloc (.cells #[Value.int IntKind.i64 0, .int .i64 0, .int .i64 0, .int .i64 0, .int .i64 0, .int .i64 0, .int .i64 0, .int .i64 0, .int .i64 0, .int .i64 0, .int .i64 0, .int .i64 0, .int .i64 0, .int .i64 0, .int .i64 0, .int .i64 0] 61)).there (w1.heap.size) 0 (fR (i)).length) := Kn.there s2x.out 0 rfl (by rw [(fR_length (i)), fZ_length])
 go_wp2_with (first | simp only [I.zero_fe] | refine I.wp_store_eq rfl 61 _ _ rfl (w1.heap.size) 0 (fR (i)) rfl rfl TT2.out (info_fR (i)) (I.one_dI _) ?_)
 intro w2 hw2
 try simp only [Act.put, List.setIfInBounds_toArray, List.set_cons_succ, List.set_cons_zero]
 have s2 : Hid (Kn w2 [(w1.heap.size, (fR (i))), (w.heap.size + 1, zz8), (w.heap.size, (pR (x) (y) (t)))]) := by rw [hw2.out]; exact Kn.put s2x.out (by rw [(fR_length (i)), fZ_length])
 have b2 : Hid (Below w.heap.size w w2) := by rw [hw2.out]; exact I.below_setCells _ _ _ b2x.out g2
 have z2 := b2.out.size
 clear hw2 s2x b2x TT2 s1 b1
 go_wp2_with fail
 refine wp_region_up_then 11 (by kernel_rfl) (by kernel_rfl) (by kernel_rfl) (by kernel_rfl) (by decide) (fun _ _ d _ _ h => by cases d <;> exact h) (fun U hU f hf hcl => ?_)
 have ra_p_0 := fun nx => (Kn.rng (s2.out.up (hf nx).out) 2 rfl : (f nx).rangeAt (w.heap.size) 0 (pR (x) (y) (t)))
 have ra_p_1 := fun nx => (Kn.rng0 (s2.out.up (hf nx).out) 2 rfl : (f nx).rangeAt (w.heap.size) 0 (fR (x)))
 have ra_p_2 := fun nx => (Kn.rng1 (s2.out.up (hf nx).out) 2 rfl : (f nx).rangeAt (w.heap.size) 16 (fR (y)))
 have ra_p_3 := fun nx => (Kn.rng2 (s2.out.up (hf nx).out) 2 rfl : (f nx).rangeAt (w.heap.size) 32 (fR (t)))
 have ra_i_0 := fun nx => (Kn.rng (s2.out.up (hf nx).out) 0 rfl : (f nx).rangeAt (w1.heap.size) 0 (fR (i)))
 simp only [List.take_succ_cons, List.take_zero, List.drop_succ_cons, List.drop_zero]
 repeat (first | (refine I.quiet_load rfl 63 _ rfl (w.heap.size) 0 rfl (pR (x) (y) (t)) _ (fun W hW => by obtain ⟨nx, rfl⟩ := hW; exact ra_p_0 nx) Tryz.underlying63 rfl (info_pR (x) (y) (t)) ?_; simp only [Act.put, List.setIfInBounds_toArray, List.set_cons_succ, List.set_cons_zero]) | (refine I.quiet_load rfl 61 _ rfl (w.heap.size) 0 rfl (fR (x)) _ (fun W hW => by obtain ⟨nx, rfl⟩ := hW; exact ra_p_1 nx) Tryz.underlying61 rfl (info_fR (x)) ?_; simp only [Act.put, List.setIfInBounds_toArray, List.set_cons_succ, List.set_cons_zero]) | (refine I.quiet_load rfl 61 _ rfl (w.heap.size) 16 rfl (fR (y)) _ (fun W hW => by obtain ⟨nx, rfl⟩ := hW; exact ra_p_2 nx) Tryz.underlying61 rfl (info_fR (y)) ?_; simp only [Act.put, List.setIfInBounds_toArray, List.set_cons_succ, List.set_cons_zero]) | (refine I.quiet_load rfl 61 _ rfl (w.heap.size) 32 rfl (fR (t)) _ (fun W hW => by obtain ⟨nx, rfl⟩ := hW; exact ra_p_3 nx) Tryz.underlying61 rfl (info_fR (t)) ?_; simp only [Act.put, List.setIfInBounds_toArray, List.set_cons_succ, List.set_cons_zero]) | (refine I.quiet_load rfl 61 _ rfl (w1.heap.size) 0 rfl (fR (i)) _ (fun W hW => by obtain ⟨nx, rfl⟩ := hW; exact ra_i_0 nx) Tryz.underlying61 rfl (info_fR (i)) ?_; simp only [Act.put, List.setIfInBounds_toArray, List.set_cons_succ, List.set_cons_zero]) | go_big_quiet_step (first | (go_at_call_of 61 [Value.agg (fR (x)).toArray, Value.agg (fR (i)).toArray]; exact (M1 _).mono fun e w'' ⟨he, hb⟩ => ⟨he, hcl.out _ _ hb⟩) | (go_at_call_of 61 [Value.agg (fR (y)).toArray, Value.agg (fR (i)).toArray]; exact (M2 _).mono fun e w'' ⟨he, hb⟩ => ⟨he, hcl.out _ _ hb⟩) | (go_at_call_of 62 [Value.agg (fR (u)).toArray]; exact (N1 _).mono fun e w'' ⟨he, hb⟩ => ⟨he, hcl.out _ _ hb⟩) | (go_at_call_of 62 [Value.agg (fR (v)).toArray]; exact (N2 _).mono fun e w'' ⟨he, hb⟩ => ⟨he, hcl.out _ _ hb⟩)))
 refine wpQuiet_nil ?_
 intro nx
 have hb3 := (hf nx).out
 clear hf hcl
 generalize f nx = w3 at hb3 ⊢
 have s3 : Hid (Kn w3 _) := s2.out.up hb3
 have b3 : Hid (Below w.heap.size w w3) := b2.out.trans (hb3.mono b2.out.size)
 have z3 := b3.out.size
 clear hb3 s2 b2
 have uro_0 : w3.cell? ⟨w.heap.size + 1, 0, none⟩ = some (.int .u64 0) := Kn.get s3.out 1 0 rfl rfl
 have uro_1 : w3.cell? ⟨w.heap.size + 1, 1, none⟩ = some (.int .u64 0) := Kn.get s3.out 1 1 rfl rfl
 have uro_2 : w3.cell? ⟨w.heap.size + 1, 2, none⟩ = some (.int .u64 0) := Kn.get s3.out 1 2 rfl rfl
 have uro_3 : w3.cell? ⟨w.heap.size + 1, 3, none⟩ = some (.int .u64 0) := Kn.get s3.out 1 3 rfl rfl
 have uro_4 : w3.cell? ⟨w.heap.size + 1, 4, none⟩ = some (.int .u64 0) := Kn.get s3.out 1 4 rfl rfl
 have uro_5 : w3.cell? ⟨w.heap.size + 1, 5, none⟩ = some (.int .u64 0) := Kn.get s3.out 1 5 rfl rfl
 have uro_6 : w3.cell? ⟨w.heap.size + 1, 6, none⟩ = some (.int .u64 0) := Kn.get s3.out 1 6 rfl rfl
 have uro_7 : w3.cell? ⟨w.heap.size + 1, 7, none⟩ = some (.int .u64 0) := Kn.get s3.out 1 7 rfl rfl
 have uro_z : ∀ j, w3.frozen? ⟨w.heap.size + 1, j, none⟩ = false := Kn.fz s3.out 1 rfl
 have s4 : Hid (Kn (st8 w3 (w.heap.size + 1) (px) (py)) [(w.heap.size + 1, (c8 (px) (py))), (w1.heap.size, (fR (i))), (w.heap.size, (pR (x) (y) (t)))]) := Kn.st8 (L := [(w1.heap.size, (fR (i))), (w.heap.size, (pR (x) (y) (t)))]) (s3.out.front 1 rfl) (px) (py)
 have b4 : Hid (Below w.heap.size w (st8 w3 (w.heap.size + 1) (px) (py))) := below_st8 b3.out (by omega)
 clear s3 b3
 go_wp2_with fail
 clear uro_0 uro_1 uro_2 uro_3 uro_4 uro_5 uro_6 uro_7 uro_z
 have urr_0 : (st8 w3 (w.heap.size + 1) (px) (py)).cell? ⟨w.heap.size + 1, 0, none⟩ = some (.int .u64 (px).a) := Kn.get s4.out 0 0 rfl rfl
 have urr_1 : (st8 w3 (w.heap.size + 1) (px) (py)).cell? ⟨w.heap.size + 1, 1, none⟩ = some (.int .u64 (px).b) := Kn.get s4.out 0 1 rfl rfl
 have urr_2 : (st8 w3 (w.heap.size + 1) (px) (py)).cell? ⟨w.heap.size + 1, 2, none⟩ = some (.int .u64 (px).c) := Kn.get s4.out 0 2 rfl rfl
 have urr_3 : (st8 w3 (w.heap.size + 1) (px) (py)).cell? ⟨w.heap.size + 1, 3, none⟩ = some (.int .u64 (px).d) := Kn.get s4.out 0 3 rfl rfl
 have urr_4 : (st8 w3 (w.heap.size + 1) (px) (py)).cell? ⟨w.heap.size + 1, 4, none⟩ = some (.int .u64 (py).a) := Kn.get s4.out 0 4 rfl rfl
 have urr_5 : (st8 w3 (w.heap.size + 1) (px) (py)).cell? ⟨w.heap.size + 1, 5, none⟩ = some (.int .u64 (py).b) := Kn.get s4.out 0 5 rfl rfl
 have urr_6 : (st8 w3 (w.heap.size + 1) (px) (py)).cell? ⟨w.heap.size + 1, 6, none⟩ = some (.int .u64 (py).c) := Kn.get s4.out 0 6 rfl rfl
 have urr_7 : (st8 w3 (w.heap.size + 1) (px) (py)).cell? ⟨w.heap.size + 1, 7, none⟩ = some (.int .u64 (py).d) := Kn.get s4.out 0 7 rfl rfl
 refine bodyPost_ret (v := Wv px py) ?_ rfl ⟨rfl, b4.out⟩
 show (results Tryz.f27 _).run Tryz.prog (st8 w3 (w.heap.size + 1) (px) (py)) = .ok _ (st8 w3 (w.heap.size + 1) (px) (py))
 clear s4 b4
 generalize (st8 w3 (w.heap.size + 1) (px) (py)) = W9 at *
 simp [results, Tryz.results27, go_sem, urr_0, urr_1, urr_2, urr_3, urr_4, urr_5, urr_6, urr_7]
end Go.Proofs.YtfknkfninjjgbaaGreatDoor
