/- Texts that were joined: CAss, CPack, LMath, LLad. -/
import Derived.Test.YtpnfopakkaoibaaQCvIdToCGrp
/- Of three points it does not matter which two come first; so often, and so often more. Mathematics alone. -/
namespace Go.Proofs.Ytpnfopakkaoibaa.Cv
open Go.Proofs.Ytpnfopakkaoibaa
/-- A sum of a sum, with one quotient. -/
theorem sum_left {b e a c X Y x3 y3 U : Int} (hX : K (X * b) a) (hY : K (Y * e) c) (hU : K (U * (1 + d * X * x3 * Y * y3)) (X * y3 + Y * x3)) : K (U * (b * e + d * a * c * x3 * y3)) (a * e * y3 + c * b * x3) := by
  have h1 : K (U * (b * e + d * (X * b) * (Y * e) * x3 * y3)) (X * b * e * y3 + Y * e * b * x3) := (Z.mul (b * e) hU : Z _).of_eq (by grind)
  have h2 : K (U * (b * e + d * (X * b) * (Y * e) * x3 * y3)) (U * (b * e + d * a * c * x3 * y3)) := (K.refl U).mul ((K.refl _).add (((((K.refl (d : Int)).mul hX).mul hY).mul (K.refl x3)).mul (K.refl y3)))
  have h3 : K (X * b * e * y3 + Y * e * b * x3) (a * e * y3 + c * b * x3) := ((hX.mul (K.refl e)).mul (K.refl y3)).add ((hY.mul (K.refl b)).mul (K.refl x3))
  exact h2.symm.trans (h1.trans h3)
theorem sum_leftY {b e a c X Y x3 y3 V : Int} (hX : K (X * b) a) (hY : K (Y * e) c) (hV : K (V * (1 - d * X * x3 * Y * y3)) (Y * y3 + X * x3)) : K (V * (b * e - d * a * c * x3 * y3)) (c * b * y3 + a * e * x3) := by
  have h1 : K (V * (b * e - d * (X * b) * (Y * e) * x3 * y3)) (Y * e * b * y3 + X * b * e * x3) := (Z.mul (b * e) hV : Z _).of_eq (by grind)
  have h2 : K (V * (b * e - d * (X * b) * (Y * e) * x3 * y3)) (V * (b * e - d * a * c * x3 * y3)) := (K.refl V).mul ((K.refl _).sub (((((K.refl (d : Int)).mul hX).mul hY).mul (K.refl x3)).mul (K.refl y3)))
  have h3 : K (Y * e * b * y3 + X * b * e * x3) (c * b * y3 + a * e * x3) := ((hY.mul (K.refl b)).mul (K.refl y3)).add ((hX.mul (K.refl e)).mul (K.refl x3))
  exact h2.symm.trans (h1.trans h3)
theorem no_mul {a b : Int} (ha : ¬ Z a) (hb : ¬ Z b) : ¬ Z (a * b) := fun h => (Z.prime h).elim ha hb
/-- Two that are one quotient are one. -/
theorem same {u v n m q r : Int} (hu : K (u * q) n) (hv : K (v * r) m) (h : Z (n * r - m * q)) (hq : ¬ Z q) (hr : ¬ Z r) : K u v := by
  have : Z (q * r * (u - v)) := ((Z.mul r hu).sub (Z.mul q hv) |>.add h).of_eq (by grind)
  exact (Z.prime this).resolve_left (no_mul hq hr)
set_option maxHeartbeats 1000000 in
theorem add_assoc {P Q R : Pt} (hP : On P) (hQ : On Q) (hR : On R) : add (add P Q) R = add P (add Q R) := by
  have s1 := add_sum hP hQ
  have s2 := add_sum (closed hP hQ) hR
  have s3 := add_sum hQ hR
  have s4 := add_sum hP (closed hQ hR)
  have n1 := den hP hQ
  have n2 := den (closed hP hQ) hR
  have n3 := den hQ hR
  have n4 := den hP (closed hQ hR)
  have l2 := add_lt (add P Q) R
  have l4 := add_lt P (add Q R)
  have ix := id_x P.1 P.2 Q.1 Q.2 R.1 R.2 d
  have iy := id_y P.1 P.2 Q.1 Q.2 R.1 R.2 d
  have e1 := hP.2.2
  have e2 := hQ.2.2
  have e3 := hR.2.2
  have zx := ((Z.mul _ e1).add (Z.mul _ e2)).add (Z.mul _ e3) |>.of_eq ix
  have zy := ((Z.mul _ e1).add (Z.mul _ e2)).add (Z.mul _ e3) |>.of_eq iy
  have ux := sum_left s1.x s1.y s2.x
  have uy := sum_leftY s1.x s1.y s2.y
  have vx : K ((add P (add Q R)).1 * ((1 + d * Q.1 * R.1 * Q.2 * R.2) * (1 - d * Q.1 * R.1 * Q.2 * R.2) + d * (Q.1 * R.2 + Q.2 * R.1) * (Q.2 * R.2 + Q.1 * R.1) * P.1 * P.2)) ((Q.1 * R.2 + Q.2 * R.1) * (1 - d * Q.1 * R.1 * Q.2 * R.2) * P.2 + (Q.2 * R.2 + Q.1 * R.1) * (1 + d * Q.1 * R.1 * Q.2 * R.2) * P.1) := sum_left s3.x s3.y ((s4.x : Z _).of_eq (by grind))
  have vy : K ((add P (add Q R)).2 * ((1 + d * Q.1 * R.1 * Q.2 * R.2) * (1 - d * Q.1 * R.1 * Q.2 * R.2) - d * (Q.1 * R.2 + Q.2 * R.1) * (Q.2 * R.2 + Q.1 * R.1) * P.1 * P.2)) ((Q.2 * R.2 + Q.1 * R.1) * (1 + d * Q.1 * R.1 * Q.2 * R.2) * P.2 + (Q.1 * R.2 + Q.2 * R.1) * (1 - d * Q.1 * R.1 * Q.2 * R.2) * P.1) := sum_leftY s3.x s3.y ((s4.y : Z _).of_eq (by grind))
  have q1 : ¬ Z ((1 + d * P.1 * Q.1 * P.2 * Q.2) * (1 - d * P.1 * Q.1 * P.2 * Q.2) + d * (P.1 * Q.2 + P.2 * Q.1) * (P.2 * Q.2 + P.1 * Q.1) * R.1 * R.2) := by
    refine K.no ?_ (no_mul (no_mul n1.1 n1.2) n2.1)
    have h := (((K.refl (d : Int)).mul s1.x.symm).mul s1.y.symm).mul (K.refl ((R.1 : Int) * R.2))
    exact (h : Z _).of_eq (by grind)
  have q2 : ¬ Z ((1 + d * P.1 * Q.1 * P.2 * Q.2) * (1 - d * P.1 * Q.1 * P.2 * Q.2) - d * (P.1 * Q.2 + P.2 * Q.1) * (P.2 * Q.2 + P.1 * Q.1) * R.1 * R.2) := by
    refine K.no ?_ (no_mul (no_mul n1.1 n1.2) n2.2)
    have h := (((K.refl (-(d : Int))).mul s1.x.symm).mul s1.y.symm).mul (K.refl ((R.1 : Int) * R.2))
    exact (h : Z _).of_eq (by grind)
  have q3 : ¬ Z ((1 + d * Q.1 * R.1 * Q.2 * R.2) * (1 - d * Q.1 * R.1 * Q.2 * R.2) + d * (Q.1 * R.2 + Q.2 * R.1) * (Q.2 * R.2 + Q.1 * R.1) * P.1 * P.2) := by
    refine K.no ?_ (no_mul (no_mul n3.1 n3.2) n4.1)
    have h := (((K.refl (d : Int)).mul s3.x.symm).mul s3.y.symm).mul (K.refl ((P.1 : Int) * P.2))
    exact (h : Z _).of_eq (by grind)
  have q4 : ¬ Z ((1 + d * Q.1 * R.1 * Q.2 * R.2) * (1 - d * Q.1 * R.1 * Q.2 * R.2) - d * (Q.1 * R.2 + Q.2 * R.1) * (Q.2 * R.2 + Q.1 * R.1) * P.1 * P.2) := by
    refine K.no ?_ (no_mul (no_mul n3.1 n3.2) n4.2)
    have h := (((K.refl (-(d : Int))).mul s3.x.symm).mul s3.y.symm).mul (K.refl ((P.1 : Int) * P.2))
    exact (h : Z _).of_eq (by grind)
  refine Prod.ext ?_ ?_
  · refine (K_eq l2.1 l4.1).1 (same ux vx (zx.of_eq ?_) q1 q3)
    clear ix iy zx zy ux uy vx vy q1 q2 q3 q4 s1 s2 s3 s4 n1 n2 n3 n4
    grind
  · refine (K_eq l2.2 l4.2).1 (same uy vy (zy.of_eq ?_) q2 q4)
    clear ix iy zx zy ux uy vx vy q1 q2 q3 q4 s1 s2 s3 s4 n1 n2 n3 n4
    grind
/-- So often. -/
def times : Nat → Pt → Pt
  | 0, _ => zero
  | n + 1, P => add P (times n P)
theorem times_on {P : Pt} (hP : On P) : ∀ n, On (times n P)
  | 0 => zero_on
  | n + 1 => closed hP (times_on hP n)
theorem zero_add {P : Pt} (hP : On P) : add zero P = P := by rw [add_comm zero_on hP, add_zero hP]
theorem times_add {P : Pt} (hP : On P) : ∀ m n, times (m + n) P = add (times m P) (times n P)
  | 0, n => by rw [Nat.zero_add, times, zero_add (times_on hP n)]
  | m + 1, n => by rw [Nat.succ_add, times, times, times_add hP m n, add_assoc hP (times_on hP m) (times_on hP n)]
theorem times_one {P : Pt} (hP : On P) : times 1 P = P := by rw [times, times, add_zero hP]
theorem four {P Q R S : Pt} (hP : On P) (hQ : On Q) (hR : On R) (hS : On S) : add (add P Q) (add R S) = add (add P R) (add Q S) := by
  rw [add_assoc hP hQ (closed hR hS), ← add_assoc hQ hR hS, add_comm hQ hR, add_assoc hR hQ hS, ← add_assoc hP hR (closed hQ hS)]
theorem times_sum {P Q : Pt} (hP : On P) (hQ : On Q) : ∀ n, times n (add P Q) = add (times n P) (times n Q)
  | 0 => by rw [times, times, times, add_zero zero_on]
  | n + 1 => by rw [times, times, times, times_sum hP hQ n, four hP hQ (times_on hP n) (times_on hQ n)]
theorem times_zero : ∀ n, times n zero = zero
  | 0 => rfl
  | n + 1 => by rw [times, times_zero n, add_zero zero_on]
theorem times_mul {P : Pt} (hP : On P) : ∀ m n, times (m * n) P = times m (times n P)
  | 0, n => by rw [Nat.zero_mul, times, times]
  | m + 1, n => by rw [Nat.succ_mul, Nat.add_comm, times_add hP, times_mul hP m n, times]
theorem times_two {P : Pt} (hP : On P) (n : Nat) : times (2 * n) P = add (times n P) (times n P) := by rw [Nat.two_mul, times_add hP]
end Go.Proofs.Ytpnfopakkaoibaa.Cv

/- A point as one number: Y and whether X is odd; and back. Mathematics alone. -/
namespace Go.Proofs.Ytpnfopakkaoibaa.Cv
open Go.Proofs.Ytpnfopakkaoibaa
/-- X's square is never divided by 0. -/
theorem den_y (y : Int) : ¬ Z (1 + d * (y * y)) := fun h => by
  have hi := im_z
  have hs : Z ((F.im : Int) * F.im - d * (y * y)) := (hi.sub h).of_eq (by grind)
  have hy := d_sq _ _ hs
  exact one_no ((h.sub (Z.mul (d * y) hy)).of_eq (by grind))
/-- Two points of one Y are one, or one is the other's Neg. -/
theorem same_y {P Q : Pt} (hP : On P) (hQ : On Q) (h : P.2 = Q.2) : P = Q ∨ P = neg Q := by
  have e1 := hP.2.2
  have e2 := hQ.2.2
  rw [h] at e1
  have hz : Z ((1 + d * ((Q.2 : Int) * Q.2)) * ((P.1 : Int) * P.1 - Q.1 * Q.1)) := (e2.sub e1).of_eq (by unfold E; grind)
  have hx : K ((P.1 : Int) * P.1) ((Q.1 : Int) * Q.1) := (Z.prime hz).resolve_left (den_y _)
  have hm : F.mul P.1 P.1 = F.mul Q.1 Q.1 := (K_eq (F.mul_lt _ _) (F.mul_lt _ _)).1 ((K_mul _ _).trans (hx.trans (K_mul _ _).symm))
  rcases F.sq_eq hP.1 hQ.1 hm with h1 | h1
  · exact .inl (Prod.ext h1 h)
  · exact .inr (Prod.ext h1 h)
/-- A point as a number. -/
def pk (P : Pt) : Nat := P.2 + 2 ^ 255 * (P.1 % 2)
theorem p_255 : F.p < 2 ^ 255 := by decide
theorem pk_parts {P : Pt} (hP : On P) : pk P % 2 ^ 255 = P.2 ∧ pk P / 2 ^ 255 = P.1 % 2 := by
  have := hP.2.1
  have := p_255
  unfold pk
  omega
theorem neg_is {x : Nat} (h : x < F.p) (h0 : x ≠ 0) : F.sub 0 x = F.p - x := by
  unfold F.sub
  rw [Nat.zero_add, Nat.mod_eq_of_lt h]
  exact Nat.mod_eq_of_lt (by omega)
theorem neg_odd {x : Nat} (h : x < F.p) (h0 : x ≠ 0) : F.sub 0 x % 2 = 1 - x % 2 := by
  have hp : F.p % 2 = 1 := by decide
  rw [neg_is h h0]
  omega
theorem neg_zero : F.sub 0 0 = 0 := F.sub_self 0
/-- Two points have two numbers. -/
theorem pk_inj {P Q : Pt} (hP : On P) (hQ : On Q) (h : pk P = pk Q) : P = Q := by
  have a := pk_parts hP
  have b := pk_parts hQ
  rw [h] at a
  rcases same_y hP hQ (a.1.symm.trans b.1) with e | e
  · exact e
  · by_cases h0 : Q.1 = 0
    · rw [e]
      unfold neg
      rw [h0, neg_zero, ← h0]
    · have h1 := neg_odd hQ.1 h0
      have h2 : P.1 % 2 = Q.1 % 2 := a.2.symm.trans b.2
      rw [e] at h2
      unfold neg at h2
      omega
/-- The number whose square X is. -/
def xx (y : Nat) : Nat := F.mul (F.sub (F.mul y y) 1) (F.inv (F.add (F.mul d (F.mul y y)) 1))
theorem xx_of {x y : Nat} : K ((xx y : Nat) * (1 + d * ((y : Int) * y))) ((y : Int) * y - 1) ∧ (Z (E x y) ↔ F.mul x x = xx y) := by
  have k1 : K (F.add (F.mul d (F.mul y y)) 1 : Nat) (1 + d * ((y : Int) * y)) := by
    have h := (K_add (F.mul d (F.mul y y)) 1).trans (((K_mul d (F.mul y y)).trans ((K.refl (d : Int)).mul (K_mul y y))).add (K.refl ((1 : Nat) : Int)))
    exact (h : Z _).of_eq (by grind)
  have k2 : K ((xx y : Nat) * (1 + d * ((y : Int) * y))) ((y : Int) * y - 1) := by
    refine (quot k1 (den_y _)).trans ?_
    exact (K_sub _ _).trans ((K_mul y y).sub (K.refl _))
  refine ⟨k2, fun h => ?_, fun h => ?_⟩
  · refine (K_eq (F.mul_lt _ _) (F.mul_lt _ _)).1 ((K_mul x x).trans (cancel (den_y y) ?_))
    refine K.trans ?_ k2.symm
    exact (Z.mul (-1) h : Z _).of_eq (by unfold E; grind)
  · have h1 := (K_mul x x).symm.trans (by rw [h]; exact K.refl _)
    have h2 := (h1.mul (K.refl (1 + d * ((y : Int) * y)))).trans k2
    exact (Z.mul (-1) h2 : Z _).of_eq (by unfold E; grind)
/-- There is a point of this Y just if that number has a root; then these two. -/
theorem on_iff {x y : Nat} (hx : x < F.p) (hy : y < F.p) : On (x, y) ↔ F.mul x x = xx y := ⟨fun h => (xx_of).2.1 h.2.2, fun h => ⟨hx, hy, (xx_of).2.2 h⟩⟩
theorem neg_sq {x : Nat} (h : x < F.p) : F.mul (F.sub 0 x) (F.sub 0 x) = F.mul x x := by
  by_cases h0 : x = 0
  · rw [h0, neg_zero]
  · rw [neg_is h h0, F.neg_mul h]
theorem xx_lt (y : Nat) : xx y < F.p := F.mul_lt _ _
end Go.Proofs.Ytpnfopakkaoibaa.Cv

/- The ladder: what TWICE and JOINED make of one number of points. Mathematics alone. -/
namespace Go.Proofs.Ytpnfopakkaoibaa.Cv
open Go.Proofs.Ytpnfopakkaoibaa
theorem d_z : Z (121666 * (d : Int) + 121665) := by
  have h := (K_add (F.mul d 121666) 121665).trans ((K_mul d 121666).add (K.refl ((121665 : Nat) : Int)))
  rw [d_is] at h
  have h2 : Z (((d : Int) * ((121666 : Nat) : Int) + ((121665 : Nat) : Int)) - ((0 : Nat) : Int)) := h.symm
  exact h2.of_eq (by grind)
theorem k_no : ¬ Z 121666 := fun h => by
  have : Z ((121666 : Nat) : Int) := h
  rw [Z_nat] at this
  exact absurd this (by decide)
/-- Twice a point, by Y alone. -/
theorem tw_rel {x y Y : Int} (hE : Z (E x y)) (hs : K (Y * (1 - d * x * x * y * y)) (y * y + x * x)) :
    K (Y * (1 + 121665 * ((1 - y * y) * (1 - y * y)))) (y * y - (1 - y * y) * (1 + 121665 * (1 - y * y))) ∧ ¬ Z (1 + 121665 * ((1 - y * y) * (1 - y * y))) := by
  have hd := d_z
  have n1 := den_y y
  have n2 : ¬ Z (1 - d * x * x * y * y) := complete hE hE (e := 1) rfl
  unfold K at hs ⊢
  constructor
  · refine ((((Z.mul (121666 * (1 + d * (y * y))) hs).sub (Z.mul (Y * (2 * (y * y) - y * y * (y * y))) hd)).sub (Z.mul (Y * 121666 * d * (y * y)) hE)).add (Z.mul (y * y * (y * y)) hd)).sub (Z.mul 121666 hE) |>.of_eq ?_
    unfold E
    grind
  · intro h
    have h2 : Z (121666 * ((1 + d * (y * y)) * (1 - d * x * x * y * y))) := by
      refine ((h.add (Z.mul (2 * (y * y) - y * y * (y * y)) hd)).add (Z.mul (121666 * d * (y * y)) hE)).of_eq ?_
      unfold E
      grind
    rcases Z.prime h2 with h3 | h3
    · exact k_no h3
    · rcases Z.prime h3 with h4 | h4
      · exact n1 h4
      · exact n2 h4
theorem jn_id (x1 y1 x2 y2 c : Int) : (y1 + y2) ^ 2 * ((1 + c * x1 * x2 * y1 * y2 - y1 * y2 + x1 * x2) * (1 - c * x1 * x2 * y1 * y2 - y1 * y2 - x1 * x2)) - (y1 - y2) ^ 2 * ((1 + c * x1 * x2 * y1 * y2 + y1 * y2 - x1 * x2) * (1 - c * x1 * x2 * y1 * y2 + y1 * y2 + x1 * x2)) =
    4 * (y1 * y2) * ((y2 ^ 2 - 1) * (y1 ^ 2 - x1 ^ 2 - 1 - c * x1 ^ 2 * y1 ^ 2) + (y1 ^ 2 - 1) * (y2 ^ 2 - x2 ^ 2 - 1 - c * x2 ^ 2 * y2 ^ 2) - (y1 ^ 2 - x1 ^ 2 - 1 - c * x1 ^ 2 * y1 ^ 2) * (y2 ^ 2 - x2 ^ 2 - 1 - c * x2 ^ 2 * y2 ^ 2)) := by grind
theorem Z.sq {a : Int} (h : Z (a ^ 2)) : Z a := by
  have : Z (a * a) := h.of_eq (by grind)
  exact (Z.prime this).elim id id
theorem Z.two {a : Int} (h : Z (2 * a)) : Z a := (Z.prime h).resolve_left two_no
/-- The sum of two points whose difference is known, by Y alone. -/
theorem jn_rel {x1 y1 x2 y2 Y y u : Int} (h1 : Z (E x1 y1)) (h2 : Z (E x2 y2)) (hs : K (Y * (1 - d * x1 * x2 * y1 * y2)) (y1 * y2 + x1 * x2)) (hp : K (y * (1 + d * x1 * x2 * y1 * y2)) (y1 * y2 - x1 * x2)) (hu : K (u * (1 - y)) (1 + y)) (n1 : ¬ Z (1 - y)) (n2 : ¬ Z (1 + y)) :
    K ((y1 + y2) ^ 2 - u * (y1 - y2) ^ 2) (((y1 + y2) ^ 2 + u * (y1 - y2) ^ 2) * Y) ∧ ¬ Z ((y1 + y2) ^ 2 + u * (y1 - y2) ^ 2) := by
  have c1 : ¬ Z (1 + d * x1 * x2 * y1 * y2) := fun hh => complete h1 h2 (e := -1) rfl ((Z.neg hh).of_eq (by grind))
  have c2 : ¬ Z (1 - d * x1 * x2 * y1 * y2) := complete h1 h2 (e := 1) rfl
  have main : K ((y1 + y2) ^ 2 - u * (y1 - y2) ^ 2) (((y1 + y2) ^ 2 + u * (y1 - y2) ^ 2) * Y) := by
    have id := jn_id x1 y1 x2 y2 d
    have hb : Z ((y1 + y2) ^ 2 * ((1 + d * x1 * x2 * y1 * y2 - y1 * y2 + x1 * x2) * (1 - d * x1 * x2 * y1 * y2 - y1 * y2 - x1 * x2)) - (y1 - y2) ^ 2 * ((1 + d * x1 * x2 * y1 * y2 + y1 * y2 - x1 * x2) * (1 - d * x1 * x2 * y1 * y2 + y1 * y2 + x1 * x2))) := by
      rw [id]
      refine Z.mul _ (((Z.mul _ h1).add (Z.mul _ h2)).sub (Z.mul _ h2))
    clear id
    unfold K at *
    generalize (y1 + y2) ^ 2 = al at *
    generalize (y1 - y2) ^ 2 = be at *
    generalize d * x1 * x2 * y1 * y2 = C at *
    generalize y1 * y2 = A at *
    generalize x1 * x2 = B at *
    have hz : Z ((1 - y) * (1 + C) * (1 - C) * (al - u * be - (al + u * be) * Y)) := by
      refine (((hb.add (Z.mul (-al * (1 - C - A - B) + al * (Y * (1 - C) - (A + B)) - be * (1 - C + A + B + (Y * (1 - C) - (A + B)))) hp)).add (Z.mul (-al * (1 + C - A + B) - be * (1 + C + A - B)) hs)).add (Z.mul (-be * (1 + C) * (1 - C + A + B + (Y * (1 - C) - (A + B)))) hu)).of_eq ?_
      grind
    rcases Z.prime hz with h | h
    · rcases Z.prime h with h | h
      · rcases Z.prime h with h | h
        · exact absurd h n1
        · exact absurd h c1
      · exact absurd h c2
    · exact h
  refine ⟨main, fun h => ?_⟩
  unfold K at main
  have hm : Z ((y1 + y2) ^ 2 - u * (y1 - y2) ^ 2) := (main.add (Z.mul Y h)).of_eq (by grind)
  have ha : Z (y1 + y2) := Z.sq (Z.two ((h.add hm).of_eq (by grind)))
  have hb : Z (u * (y1 - y2) ^ 2) := Z.two ((h.sub hm).of_eq (by grind))
  have hy : Z (y1 - y2) := by
    rcases Z.prime hb with h3 | h3
    · exact absurd (((Z.mul (1 - y) h3).sub hu).of_eq (by grind)) n2
    · exact Z.sq h3
  have z1 : Z y1 := Z.two ((ha.add hy).of_eq (by grind))
  have z2 : Z y2 := Z.two ((ha.sub hy).of_eq (by grind))
  have e1 : Z (x1 * x1 + 1) := by
    refine ((Z.mul (y1 - d * x1 ^ 2 * y1) z1).sub h1).of_eq ?_
    unfold E
    grind
  have e2 : Z (x2 * x2 + 1) := by
    refine ((Z.mul (y2 - d * x2 ^ 2 * y2) z2).sub h2).of_eq ?_
    unfold E
    grind
  have yb : Z (y + x1 * x2) := by
    unfold K at hp
    refine ((hp.sub (Z.mul (y * d * x1 * x2 * y2) z1)).add (Z.mul y2 z1)).of_eq ?_
    grind
  have hq : Z ((1 - y) * (1 + y)) := by
    refine (((Z.mul (x1 * x2 - y) yb).sub (Z.mul (x2 * x2) e1)).add e2).of_eq ?_
    grind
  rcases Z.prime hq with h3 | h3
  · exact n1 h3
  · exact n2 h3
/-- The pair (X, W) stands for a point with this Y: X : W is 1 + Y : 1 - Y. -/
structure Rl (X W y : Int) : Prop where
  nz : ¬ Z (X + W)
  eq : K (X - W) ((X + W) * y)
theorem Rl.congr {X W X' W' y : Int} (h : Rl X W y) (hx : K X' X) (hw : K W' W) : Rl X' W' y :=
  ⟨(hx.add hw).no h.nz, (hx.sub hw).trans (h.eq.trans ((hx.add hw).symm.mul (K.refl y)))⟩
theorem tw_core {S T w N0 T0 Y : Int} (hS : ¬ Z S) (hT : Z (T - S * w)) (hN : N0 = 1 + 121665 * ((1 - w) * (1 - w))) (h0 : T0 = w - (1 - w) * (1 + 121665 * (1 - w))) (hr : Z (Y * N0 - T0)) (nz : ¬ Z N0) :
    ¬ Z (S * T + (S - T) * (S + 121665 * (S - T))) ∧ Z (S * T - (S - T) * (S + 121665 * (S - T)) - (S * T + (S - T) * (S + 121665 * (S - T))) * Y) := by
  subst hN h0
  constructor
  · intro h
    have h2 : Z (S * (S * (1 + 121665 * ((1 - w) * (1 - w))))) := by
      refine (h.sub (Z.mul (-2 * 121665 * S * (1 - w) + 121665 * (T - S * w)) hT)).of_eq ?_
      grind
    rcases Z.prime h2 with h3 | h3
    · exact hS h3
    · rcases Z.prime h3 with h4 | h4
      · exact hS h4
      · exact nz h4
  · refine (((Z.mul (2 * S + 2 * 121665 * S * (1 - w) - 121665 * (T - S * w)) hT).sub (Z.mul (Y * (-2 * 121665 * S * (1 - w) + 121665 * (T - S * w))) hT)).sub (Z.mul (S * S) hr)).of_eq ?_
    grind
theorem Rl.twice {X W x y Y : Int} (h : Rl X W y) (hE : Z (E x y)) (hs : K (Y * (1 - d * x * x * y * y)) (y * y + x * x)) :
    Rl ((X + W) * (X + W) * ((X - W) * (X - W))) (((X + W) * (X + W) - (X - W) * (X - W)) * ((X + W) * (X + W) + 121665 * ((X + W) * (X + W) - (X - W) * (X - W)))) Y := by
  have hr := tw_rel hE hs
  have hS : ¬ Z ((X + W) * (X + W)) := fun hh => (Z.prime hh).elim h.nz h.nz
  have hT : Z ((X - W) * (X - W) - (X + W) * (X + W) * (y * y)) := by
    have := h.eq
    unfold K at this
    exact (Z.mul (X - W + (X + W) * y) this).of_eq (by grind)
  have := tw_core hS hT rfl rfl hr.1 hr.2
  exact ⟨this.1, this.2⟩
theorem jn_core {P Q u al be Y e1 e2 L y1 y2 : Int} (hL : ¬ Z L) (hP : P = L * (y1 + y2) + e1) (hQ : Q = L * (y1 - y2) + e2) (h1 : Z e1) (h2 : Z e2) (hal : al = (y1 + y2) ^ 2) (hbe : be = (y1 - y2) ^ 2) (hm : Z (al - u * be - (al + u * be) * Y)) (nz : ¬ Z (al + u * be)) :
    ¬ Z (P * P + u * (Q * Q)) ∧ Z (P * P - u * (Q * Q) - (P * P + u * (Q * Q)) * Y) := by
  subst hP hQ hal hbe
  constructor
  · intro h
    have h3 : Z (L * (L * ((y1 + y2) ^ 2 + u * (y1 - y2) ^ 2))) := by
      refine ((h.sub (Z.mul (2 * L * (y1 + y2) + e1) h1)).sub (Z.mul (u * (2 * L * (y1 - y2) + e2)) h2)).of_eq ?_
      grind
    rcases Z.prime h3 with h4 | h4
    · exact hL h4
    · rcases Z.prime h4 with h5 | h5
      · exact hL h5
      · exact nz h5
  · refine (((Z.mul (L * L) hm).add (Z.mul ((2 * L * (y1 + y2) + e1) * (1 - Y)) h1)).sub (Z.mul (u * (2 * L * (y1 - y2) + e2) * (1 + Y)) h2)).of_eq ?_
    grind
theorem Rl.joined {X W V U x1 y1 x2 y2 Y y u : Int} (hq : Rl X W y1) (hr : Rl V U y2) (h1 : Z (E x1 y1)) (h2 : Z (E x2 y2)) (hs : K (Y * (1 - d * x1 * x2 * y1 * y2)) (y1 * y2 + x1 * x2)) (hp : K (y * (1 + d * x1 * x2 * y1 * y2)) (y1 * y2 - x1 * x2)) (hu : K (u * (1 - y)) (1 + y)) (n1 : ¬ Z (1 - y)) (n2 : ¬ Z (1 + y)) :
    Rl (((V + U) * (X - W) + (V - U) * (X + W)) * ((V + U) * (X - W) + (V - U) * (X + W))) (u * (((V + U) * (X - W) - (V - U) * (X + W)) * ((V + U) * (X - W) - (V - U) * (X + W)))) Y := by
  have hj := jn_rel h1 h2 hs hp hu n1 n2
  have q := hq.eq
  have r := hr.eq
  unfold K at q r
  have hL : ¬ Z ((X + W) * (V + U)) := fun hh => (Z.prime hh).elim hq.nz hr.nz
  have := jn_core (P := (V + U) * (X - W) + (V - U) * (X + W)) (Q := (V + U) * (X - W) - (V - U) * (X + W)) (u := u) (Y := Y) (e1 := (V + U) * (X - W - (X + W) * y1) + (X + W) * (V - U - (V + U) * y2)) (e2 := (V + U) * (X - W - (X + W) * y1) - (X + W) * (V - U - (V + U) * y2)) (L := (X + W) * (V + U)) (y1 := y1) (y2 := y2) hL (by grind) (by grind) ((Z.mul _ q).add (Z.mul _ r)) ((Z.mul _ q).sub (Z.mul _ r)) rfl rfl hj.1 hj.2
  exact ⟨this.1, this.2⟩
end Go.Proofs.Ytpnfopakkaoibaa.Cv

/- The ladder makes of a point's one number that of the point, so often. Mathematics alone. -/
namespace Go.Proofs.Ytpnfopakkaoibaa.Cv
open Go.Proofs.Ytpnfopakkaoibaa
/-- TWICE and JOINED. -/
def tw (q : Nat × Nat) : Nat × Nat :=
  (F.mul (F.mul (F.add q.1 q.2) (F.add q.1 q.2)) (F.mul (F.sub q.1 q.2) (F.sub q.1 q.2)),
   F.mul (F.sub (F.mul (F.add q.1 q.2) (F.add q.1 q.2)) (F.mul (F.sub q.1 q.2) (F.sub q.1 q.2))) (F.add (F.mul (F.add q.1 q.2) (F.add q.1 q.2)) (F.mul 121665 (F.sub (F.mul (F.add q.1 q.2) (F.add q.1 q.2)) (F.mul (F.sub q.1 q.2) (F.sub q.1 q.2))))))
def jn (u : Nat) (q r : Nat × Nat) : Nat × Nat :=
  (F.mul (F.add (F.mul (F.add r.1 r.2) (F.sub q.1 q.2)) (F.mul (F.sub r.1 r.2) (F.add q.1 q.2))) (F.add (F.mul (F.add r.1 r.2) (F.sub q.1 q.2)) (F.mul (F.sub r.1 r.2) (F.add q.1 q.2))),
   F.mul u (F.mul (F.sub (F.mul (F.add r.1 r.2) (F.sub q.1 q.2)) (F.mul (F.sub r.1 r.2) (F.add q.1 q.2))) (F.sub (F.mul (F.add r.1 r.2) (F.sub q.1 q.2)) (F.mul (F.sub r.1 r.2) (F.add q.1 q.2)))))
theorem tw_lt (q : Nat × Nat) : (tw q).1 < F.p ∧ (tw q).2 < F.p := ⟨F.mul_lt _ _, F.mul_lt _ _⟩
theorem K.sq {a b : Int} (h : K a b) : K (a * a) (b * b) := h.mul h
theorem tw_K (q : Nat × Nat) : K (tw q).1 (((q.1 : Int) + q.2) * ((q.1 : Int) + q.2) * (((q.1 : Int) - q.2) * ((q.1 : Int) - q.2))) ∧ K (tw q).2 ((((q.1 : Int) + q.2) * ((q.1 : Int) + q.2) - ((q.1 : Int) - q.2) * ((q.1 : Int) - q.2)) * (((q.1 : Int) + q.2) * ((q.1 : Int) + q.2) + 121665 * (((q.1 : Int) + q.2) * ((q.1 : Int) + q.2) - ((q.1 : Int) - q.2) * ((q.1 : Int) - q.2)))) := by
  have kS := (K_mul _ _).trans (K_add q.1 q.2).sq
  have kT := (K_mul _ _).trans (K_sub q.1 q.2).sq
  have ke := (K_sub _ _).trans (kS.sub kT)
  have k5 := (K_mul 121665 _).trans ((K.refl ((121665 : Nat) : Int)).mul ke)
  exact ⟨(K_mul _ _).trans (kS.mul kT), (K_mul _ _).trans (ke.mul ((K_add _ _).trans (kS.add k5)))⟩
theorem jn_K (u : Nat) (q r : Nat × Nat) : K (jn u q r).1 ((((r.1 : Int) + r.2) * ((q.1 : Int) - q.2) + ((r.1 : Int) - r.2) * ((q.1 : Int) + q.2)) * (((r.1 : Int) + r.2) * ((q.1 : Int) - q.2) + ((r.1 : Int) - r.2) * ((q.1 : Int) + q.2))) ∧ K (jn u q r).2 ((u : Int) * ((((r.1 : Int) + r.2) * ((q.1 : Int) - q.2) - ((r.1 : Int) - r.2) * ((q.1 : Int) + q.2)) * (((r.1 : Int) + r.2) * ((q.1 : Int) - q.2) - ((r.1 : Int) - r.2) * ((q.1 : Int) + q.2)))) := by
  have ka := (K_mul _ _).trans ((K_add r.1 r.2).mul (K_sub q.1 q.2))
  have kb := (K_mul _ _).trans ((K_sub r.1 r.2).mul (K_add q.1 q.2))
  have ks := (K_add _ _).trans (ka.add kb)
  have kt := (K_sub _ _).trans (ka.sub kb)
  exact ⟨(K_mul _ _).trans ks.sq, (K_mul _ _).trans ((K.refl (u : Int)).mul ((K_mul _ _).trans kt.sq))⟩
/-- The pairs behind the first i bits, from the highest on. -/
def lst (u k : Nat) : Nat → (Nat × Nat) × (Nat × Nat)
  | 0 => ((1, 0), (u, 1))
  | i + 1 => if k / 2 ^ (255 - i) % 2 = 0 then (tw (lst u k i).1, jn u (lst u k i).1 (lst u k i).2) else (jn u (lst u k i).1 (lst u k i).2, tw (lst u k i).2)
def lad (k u : Nat) : Nat := F.mul (lst (u % F.p) k 256).1.1 (F.inv (lst (u % F.p) k 256).1.2)
def place (P : Pt) : Nat := F.mul (F.add 1 P.2) (F.inv (F.sub 1 P.2))
abbrev RlN (q : Nat × Nat) (P : Pt) : Prop := Rl q.1 q.2 P.2
theorem RlN.twice {q : Nat × Nat} {Q : Pt} (hQ : On Q) (h : RlN q Q) : RlN (tw q) (add Q Q) := (Rl.twice h hQ.2.2 (add_sum hQ hQ).y).congr (tw_K q).1 (tw_K q).2
theorem diff {Q P : Pt} (hQ : On Q) (hP : On P) : K ((P.2 : Int) * (1 + d * Q.1 * (add Q P).1 * Q.2 * (add Q P).2)) ((Q.2 : Int) * (add Q P).2 - Q.1 * (add Q P).1) := by
  have hN := neg_on hQ
  have hR := closed hQ hP
  have e : add (neg Q) (add Q P) = P := by rw [← add_assoc hN hQ hP, add_comm hN hQ, add_neg hQ, add_comm zero_on hP, add_zero hP]
  have hs := (add_sum hN hR).y
  rw [e] at hs
  have kn : K ((neg Q).1 : Int) (-(Q.1 : Int)) := by
    have := K_sub 0 Q.1
    exact (this : Z _).of_eq (by show ((F.sub 0 Q.1 : Nat) : Int) - -(Q.1 : Int) = _; grind)
  unfold K at *
  refine ((hs.add (Z.mul ((P.2 : Int) * d * (add Q P).1 * Q.2 * (add Q P).2) kn)).add (Z.mul ((add Q P).1 : Int) kn)).of_eq ?_
  show _ = ((P.2 : Int) * (1 - d * (neg Q).1 * (add Q P).1 * Q.2 * (add Q P).2) - ((Q.2 : Int) * (add Q P).2 + (neg Q).1 * (add Q P).1)) + _ + _
  grind
theorem RlN.joined {u : Nat} {q r : Nat × Nat} {Q P : Pt} (hQ : On Q) (hP : On P) (h : RlN q Q) (h' : RlN r (add Q P)) (hu : K ((u : Int) * (1 - P.2)) (1 + P.2)) (n1 : ¬ Z (1 - (P.2 : Int))) (n2 : ¬ Z (1 + (P.2 : Int))) : RlN (jn u q r) (add Q (add Q P)) :=
  (Rl.joined h h' hQ.2.2 (closed hQ hP).2.2 (add_sum hQ (closed hQ hP)).y (diff hQ hP) hu n1 n2).congr (jn_K u q r).1 (jn_K u q r).2
theorem lst_rel {P : Pt} (hP : On P) {u k : Nat} (hk : k < 2 ^ 256) (hu : K ((u : Int) * (1 - P.2)) (1 + P.2)) (n1 : ¬ Z (1 - (P.2 : Int))) (n2 : ¬ Z (1 + (P.2 : Int))) :
    ∀ i, i ≤ 256 → RlN (lst u k i).1 (times (k / 2 ^ (256 - i)) P) ∧ RlN (lst u k i).2 (add (times (k / 2 ^ (256 - i)) P) P)
  | 0, _ => by
    have h0 : k / 2 ^ (256 - 0) = 0 := Nat.div_eq_of_lt hk
    rw [h0]
    refine ⟨⟨?_, ?_⟩, ?_⟩
    · show ¬ Z (((1 : Nat) : Int) + ((0 : Nat) : Int))
      exact one_no
    · show K (((1 : Nat) : Int) - ((0 : Nat) : Int)) ((((1 : Nat) : Int) + ((0 : Nat) : Int)) * ((1 : Nat) : Int))
      exact K.refl _
    · rw [show times 0 P = zero from rfl, add_comm zero_on hP, add_zero hP]
      unfold K at hu
      constructor
      · intro h
        have h' : Z ((u : Int) + 1) := h
        exact two_no (((Z.mul (1 - (P.2 : Int)) h').sub hu).of_eq (by grind))
      · show Z (((u : Int) - ((1 : Nat) : Int)) - ((u : Int) + ((1 : Nat) : Int)) * (P.2 : Int))
        exact hu.of_eq (by grind)
  | i + 1, hi => by
    obtain ⟨ih1, ih2⟩ := lst_rel hP hk hu n1 n2 i (by omega)
    have hm : k / 2 ^ (256 - i) = k / 2 ^ (256 - (i + 1)) / 2 := by
      rw [show 256 - i = 256 - (i + 1) + 1 by omega, Nat.pow_succ, Nat.div_div_eq_div_mul]
    have hQ := times_on hP (k / 2 ^ (256 - i))
    have t2 := RlN.twice hQ ih1
    have t3 := RlN.twice (closed hQ hP) ih2
    have j := RlN.joined hQ hP ih1 ih2 hu n1 n2
    have e2 : add (times (k / 2 ^ (256 - i)) P) (times (k / 2 ^ (256 - i)) P) = times (2 * (k / 2 ^ (256 - i))) P := (times_two hP _).symm
    have e3 : add (times (k / 2 ^ (256 - i)) P) (add (times (k / 2 ^ (256 - i)) P) P) = add (times (2 * (k / 2 ^ (256 - i))) P) P := by rw [← add_assoc hQ hQ hP, e2]
    have e1 : times (2 * (k / 2 ^ (256 - i)) + 1) P = add (times (2 * (k / 2 ^ (256 - i))) P) P := by
      rw [times_add hP, times_one hP]
    have e4 : add (add (times (k / 2 ^ (256 - i)) P) P) (add (times (k / 2 ^ (256 - i)) P) P) = add (times (2 * (k / 2 ^ (256 - i)) + 1) P) P := by
      rw [e1, ← e3, add_assoc hQ hP (closed hQ hP), add_comm hP (closed hQ hP), ← add_assoc hQ (closed hQ hP) hP]
    unfold lst
    rw [show 255 - i = 256 - (i + 1) by omega]
    by_cases hb : k / 2 ^ (256 - (i + 1)) % 2 = 0
    · rw [if_pos hb, show k / 2 ^ (256 - (i + 1)) = 2 * (k / 2 ^ (256 - i)) by omega]
      rw [e2] at t2
      rw [e3] at j
      exact ⟨t2, j⟩
    · rw [if_neg hb, show k / 2 ^ (256 - (i + 1)) = 2 * (k / 2 ^ (256 - i)) + 1 by omega]
      rw [e3, ← e1] at j
      rw [e4] at t3
      exact ⟨j, t3⟩
/-- Quotients of pairs that are in proportion. -/
theorem prop_quot {X W a b : Nat} (hn : ¬ (Z (X : Int) ∧ Z (W : Int))) (hm : ¬ (Z (a : Int) ∧ Z (b : Int))) (h : K ((X : Int) * b) ((W : Int) * a)) : F.mul X (F.inv W) = F.mul a (F.inv b) := by
  unfold K at h
  by_cases hW : Z (W : Int)
  · have hb : Z (b : Int) := by
      have : Z ((X : Int) * b) := (h.add (Z.mul (a : Int) hW)).of_eq (by grind)
      exact (Z.prime this).resolve_left fun hx => hn ⟨hx, hW⟩
    have e1 := F.inv_zero ((Z_nat W).1 hW)
    have e2 := F.inv_zero ((Z_nat b).1 hb)
    rw [e1, e2]
    unfold F.mul
    rw [Nat.mul_zero, Nat.mul_zero]
  · have hb : ¬ Z (b : Int) := fun hb => by
      have : Z ((W : Int) * a) := ((Z.mul (X : Int) hb).sub h).of_eq (by grind)
      exact hm ⟨(Z.prime this).resolve_left hW, hb⟩
    have k1 := K_mul X (F.inv W)
    have k2 := K_mul a (F.inv b)
    have iW := K_inv hW
    have ib := K_inv hb
    refine (K_eq (F.mul_lt _ _) (F.mul_lt _ _)).1 (k1.trans (K.trans ?_ k2.symm))
    refine cancel hW (cancel hb ?_)
    unfold K at *
    refine ((((Z.mul ((X : Int) * b) iW).add h).sub (Z.mul ((a : Int) * W) ib))).of_eq ?_
    grind
/-- With u = 0 nothing but 0 comes. -/
theorem tw_flat {q : Nat × Nat} (h : q.1 = 0 ∨ q.2 = 0) : (tw q).2 = 0 := by
  have k := (tw_K q).2
  have hz : Z ((((q.1 : Int) + q.2) * ((q.1 : Int) + q.2) - ((q.1 : Int) - q.2) * ((q.1 : Int) - q.2)) * (((q.1 : Int) + q.2) * ((q.1 : Int) + q.2) + 121665 * (((q.1 : Int) + q.2) * ((q.1 : Int) + q.2) - ((q.1 : Int) - q.2) * ((q.1 : Int) - q.2)))) := by
    refine Z.zero.of_eq ?_
    rcases h with h | h <;> rw [h] <;> grind
  have := k.z hz
  rw [Z_nat, Nat.mod_eq_of_lt (tw_lt q).2] at this
  exact this
theorem jn_flat (q r : Nat × Nat) : (jn 0 q r).2 = 0 := by
  show F.mul 0 _ = 0
  unfold F.mul
  rw [Nat.zero_mul]
  rfl
theorem lst_flat (k : Nat) : ∀ i, (lst 0 k i).1.2 = 0 ∧ ((lst 0 k i).2.1 = 0 ∨ (lst 0 k i).2.2 = 0)
  | 0 => ⟨rfl, .inl rfl⟩
  | i + 1 => by
    obtain ⟨h1, h2⟩ := lst_flat k i
    unfold lst
    split
    · exact ⟨tw_flat (.inr h1), .inr (jn_flat _ _)⟩
    · exact ⟨jn_flat _ _, .inr (tw_flat h2)⟩
theorem lad_flat (k : Nat) {u : Nat} (h : u % F.p = 0) : lad k u = 0 := by
  unfold lad
  rw [h, (lst_flat k 256).1, F.inv_zero (by decide)]
  unfold F.mul
  rw [Nat.mul_zero]
  rfl
theorem place_lt (P : Pt) : place P < F.p := F.mul_lt _ _
/-- Whose number is 0. -/
theorem place_zero {P : Pt} : place P = 0 ↔ Z (1 + (P.2 : Int)) ∨ Z (1 - (P.2 : Int)) := by
  have ka := K_add 1 P.2
  have ks := K_sub 1 P.2
  unfold place
  rw [F.mul_zero_iff]
  constructor
  · rintro (h | h)
    · exact .inl (ka.symm.z ((Z_nat _).2 h))
    · refine .inr (Classical.byContradiction fun hn => F.inv_ne (a := F.sub 1 P.2) (fun e => hn (ks.symm.z ((Z_nat _).2 e))) h)
  · rintro (h | h)
    · exact .inl ((Z_nat _).1 (ka.z h))
    · exact .inr (by rw [F.inv_zero ((Z_nat _).1 (ks.z h))]; rfl)
theorem place_small {P : Pt} (hP : On P) (h : place P = 0) : P.1 = 0 := by
  have hE := hP.2.2
  have hy : Z ((P.2 : Int) * P.2 - 1) := by
    rcases place_zero.1 h with h | h
    · exact (Z.mul ((P.2 : Int) - 1) h).of_eq (by grind)
    · exact (Z.neg (Z.mul ((P.2 : Int) + 1) h)).of_eq (by grind)
  have hx : Z ((P.1 : Int) * ((P.1 : Int) * (1 + d * ((P.2 : Int) * P.2)))) := by
    refine (hy.sub hE).of_eq ?_
    unfold E
    grind
  have h1 : Z (P.1 : Int) := by
    rcases Z.prime hx with h | h
    · exact h
    · exact (Z.prime h).resolve_right (den_y _)
  rw [Z_nat, Nat.mod_eq_of_lt hP.1] at h1
  exact h1
/-- MONTGOMERY. -/
theorem lad_place {P : Pt} (hP : On P) (k : Nat) (hk : k < 2 ^ 256) : lad k (place P) = place (times k P) := by
  have lp := place_lt P
  by_cases h0 : place P = 0
  · rw [lad_flat k (by rw [h0]; rfl)]
    have hx := place_small hP h0
    have all : ∀ n, times n P = zero ∨ times n P = P := fun n => by
      induction n with
      | zero => exact .inl rfl
      | succ n ih =>
        rcases ih with ih | ih
        · right; rw [times, ih, add_zero hP]
        · left
          have hn : neg P = P := by
            refine Prod.ext ?_ rfl
            show F.sub 0 P.1 = P.1
            rw [hx]
            exact neg_zero
          rw [times, ih]
          have := add_neg hP
          rwa [hn] at this
    rcases all k with e | e
    · rw [e]
      refine (place_zero.2 (.inr ?_)).symm
      show Z (1 - ((1 : Nat) : Int))
      exact Z.zero
    · rw [e, h0]
  · have nn := fun h => h0 (place_zero.2 h)
    have n2 : ¬ Z (1 + (P.2 : Int)) := fun h => nn (.inl h)
    have n1 : ¬ Z (1 - (P.2 : Int)) := fun h => nn (.inr h)
    have hu : K ((place P : Int) * (1 - P.2)) (1 + P.2) := (quot (K_sub 1 P.2) n1).trans (K_add 1 P.2)
    have h := (lst_rel hP hk hu n1 n2 256 (Nat.le_refl _)).1
    rw [show 256 - 256 = 0 from rfl, Nat.pow_zero, Nat.div_one] at h
    unfold lad
    rw [Nat.mod_eq_of_lt lp]
    have ka := K_add 1 (times k P).2
    have ks := K_sub 1 (times k P).2
    refine prop_quot (fun hh => h.nz (hh.1.add hh.2)) (fun hh => ?_) ?_
    · exact two_no (((ka.symm.z hh.1).add (ks.symm.z hh.2)).of_eq (by grind))
    · have he := h.eq
      refine ((K.refl _).mul ks).trans (K.trans ?_ ((K.refl _).mul ka).symm)
      unfold K at *
      exact he.of_eq (by grind)
end Go.Proofs.Ytpnfopakkaoibaa.Cv
