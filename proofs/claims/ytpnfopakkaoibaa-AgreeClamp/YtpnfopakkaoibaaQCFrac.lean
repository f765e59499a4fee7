/- Points as the program's fractions: x/z, y/z and x*y/z besides; their sums without a quotient. Mathematics alone. -/
import Derived.Test.YtpnfopakkaoibaaQPrimeLToCProj
namespace Go.Proofs.Ytpnfopakkaoibaa.Cv
open Go.Proofs.Ytpnfopakkaoibaa
/-- x/z and y/z are the point P, and v/z is X times Y. -/
structure Fq (x y v z : Int) (P : Pt) : Prop where
  nz : ¬ Z z
  x : K x (P.1 * z)
  y : K y (P.2 * z)
  v : K v (P.1 * P.2 * z)
theorem Fq.sum {x1 y1 v1 z1 x2 y2 v2 z2 : Int} {P Q : Pt} (hP : On P) (hQ : On Q) (h1 : Fq x1 y1 v1 z1 P) (h2 : Fq x2 y2 v2 z2 Q) :
    Fq ((x1 * y2 + y1 * x2) * (z1 * z2 - d * (v1 * v2))) ((y1 * y2 + x1 * x2) * (z1 * z2 + d * (v1 * v2))) ((x1 * y2 + y1 * x2) * (y1 * y2 + x1 * x2)) ((z1 * z2 + d * (v1 * v2)) * (z1 * z2 - d * (v1 * v2))) (add P Q) := by
  have s := add_sum hP hQ
  have n := den hP hQ
  have nT : ¬ Z (z1 * z2) := no_mul h1.nz h2.nz
  have ke : K (d * (v1 * v2)) (z1 * z2 * (d * P.1 * Q.1 * P.2 * Q.2)) := by
    have := (K.refl (d : Int)).mul (h1.v.mul h2.v)
    exact (this : Z _).of_eq (by grind)
  have kf : K (z1 * z2 - d * (v1 * v2)) (z1 * z2 * (1 - d * P.1 * Q.1 * P.2 * Q.2)) := ((K.refl (z1 * z2)).sub ke : Z _).of_eq (by grind)
  have kg : K (z1 * z2 + d * (v1 * v2)) (z1 * z2 * (1 + d * P.1 * Q.1 * P.2 * Q.2)) := ((K.refl (z1 * z2)).add ke : Z _).of_eq (by grind)
  have nf := kf.no (no_mul nT n.2)
  have ng := kg.no (no_mul nT n.1)
  have ks : K (x1 * y2 + y1 * x2) (z1 * z2 * (P.1 * Q.2 + P.2 * Q.1)) := ((h1.x.mul h2.y).add (h1.y.mul h2.x) : Z _).of_eq (by grind)
  have kt : K (y1 * y2 + x1 * x2) (z1 * z2 * (P.2 * Q.2 + P.1 * Q.1)) := ((h1.y.mul h2.y).add (h1.x.mul h2.x) : Z _).of_eq (by grind)
  have kX : K (x1 * y2 + y1 * x2) ((add P Q).1 * (z1 * z2 + d * (v1 * v2))) := by
    refine ks.trans (K.symm ?_)
    refine ((K.refl _).mul kg).trans ?_
    exact (Z.mul (z1 * z2) s.x : Z _).of_eq (by grind)
  have kY : K (y1 * y2 + x1 * x2) ((add P Q).2 * (z1 * z2 - d * (v1 * v2))) := by
    refine kt.trans (K.symm ?_)
    refine ((K.refl _).mul kf).trans ?_
    exact (Z.mul (z1 * z2) s.y : Z _).of_eq (by grind)
  generalize z1 * z2 - d * (v1 * v2) = f at *
  generalize z1 * z2 + d * (v1 * v2) = g at *
  generalize x1 * y2 + y1 * x2 = a at *
  generalize y1 * y2 + x1 * x2 = b at *
  refine ⟨no_mul ng nf, ?_, ?_, ?_⟩
  · exact (kX.mul (K.refl f) : Z _).of_eq (by grind)
  · exact (kY.mul (K.refl g) : Z _).of_eq (by grind)
  · exact (kX.mul kY : Z _).of_eq (by grind)
/-- Four numbers. -/
abbrev Qd := Nat × Nat × Nat × Nat
def FqN (t : Qd) (P : Pt) : Prop := Fq t.1 t.2.1 t.2.2.1 t.2.2.2 P
def qlt (t : Qd) : Prop := t.1 < F.p ∧ t.2.1 < F.p ∧ t.2.2.1 < F.p ∧ t.2.2.2 < F.p
/-- The sum of two fractions, as the program makes it. -/
def qadd (s t : Qd) : Qd :=
  (F.mul (F.add (F.mul s.1 t.2.1) (F.mul s.2.1 t.1)) (F.sub (F.mul s.2.2.2 t.2.2.2) (F.mul d (F.mul s.2.2.1 t.2.2.1))),
   F.mul (F.add (F.mul s.2.1 t.2.1) (F.mul s.1 t.1)) (F.add (F.mul s.2.2.2 t.2.2.2) (F.mul d (F.mul s.2.2.1 t.2.2.1))),
   F.mul (F.add (F.mul s.1 t.2.1) (F.mul s.2.1 t.1)) (F.add (F.mul s.2.1 t.2.1) (F.mul s.1 t.1)),
   F.mul (F.add (F.mul s.2.2.2 t.2.2.2) (F.mul d (F.mul s.2.2.1 t.2.2.1))) (F.sub (F.mul s.2.2.2 t.2.2.2) (F.mul d (F.mul s.2.2.1 t.2.2.1))))
theorem qadd_lt (s t : Qd) : qlt (qadd s t) := ⟨F.mul_lt _ _, F.mul_lt _ _, F.mul_lt _ _, F.mul_lt _ _⟩
theorem Fq.congr {x y v z x' y' v' z' : Int} {P : Pt} (h : Fq x y v z P) (hx : K x' x) (hy : K y' y) (hv : K v' v) (hz : K z' z) : Fq x' y' v' z' P :=
  ⟨hz.no h.nz, hx.trans (h.x.trans ((K.refl _).mul hz.symm)), hy.trans (h.y.trans ((K.refl _).mul hz.symm)), hv.trans (h.v.trans ((K.refl _).mul hz.symm))⟩
theorem qadd_fq {s t : Qd} {P Q : Pt} (hP : On P) (hQ : On Q) (h1 : FqN s P) (h2 : FqN t Q) : FqN (qadd s t) (add P Q) := by
  have kw := K_mul s.2.2.2 t.2.2.2
  have ke := (K_mul d (F.mul s.2.2.1 t.2.2.1)).trans ((K.refl (d : Int)).mul (K_mul s.2.2.1 t.2.2.1))
  have kf := (K_sub (F.mul s.2.2.2 t.2.2.2) (F.mul d (F.mul s.2.2.1 t.2.2.1))).trans (kw.sub ke)
  have kg := (K_add (F.mul s.2.2.2 t.2.2.2) (F.mul d (F.mul s.2.2.1 t.2.2.1))).trans (kw.add ke)
  have ka := (K_add (F.mul s.1 t.2.1) (F.mul s.2.1 t.1)).trans ((K_mul s.1 t.2.1).add (K_mul s.2.1 t.1))
  have kb := (K_add (F.mul s.2.1 t.2.1) (F.mul s.1 t.1)).trans ((K_mul s.2.1 t.2.1).add (K_mul s.1 t.1))
  refine (Fq.sum hP hQ h1 h2).congr ?_ ?_ ?_ ?_
  · exact (K_mul _ _).trans (ka.mul kf)
  · exact (K_mul _ _).trans (kb.mul kg)
  · exact (K_mul _ _).trans (ka.mul kb)
  · exact (K_mul _ _).trans (kg.mul kf)
/-- A point as a fraction. -/
def asq (P : Pt) : Qd := (P.1, P.2, F.mul P.1 P.2, 1)
theorem asq_lt {P : Pt} (hP : On P) : qlt (asq P) := ⟨hP.1, hP.2.1, F.mul_lt _ _, by show 1 < F.p; decide⟩
theorem asq_fq (P : Pt) : FqN (asq P) P := by
  refine ⟨one_no, ?_, ?_, ?_⟩
  · show K (P.1 : Int) (P.1 * ((1 : Nat) : Int))
    rw [Int.natCast_one, Int.mul_one]
    exact K.refl _
  · show K (P.2 : Int) (P.2 * ((1 : Nat) : Int))
    rw [Int.natCast_one, Int.mul_one]
    exact K.refl _
  · show K (F.mul P.1 P.2 : Nat) (P.1 * P.2 * ((1 : Nat) : Int))
    rw [Int.natCast_one, Int.mul_one]
    exact K_mul _ _
/-- A fraction's point. -/
theorem fq_point {t : Qd} {P : Pt} (hP : On P) (h : FqN t P) : F.mul t.1 (F.inv t.2.2.2) = P.1 ∧ F.mul t.2.1 (F.inv t.2.2.2) = P.2 := by
  have ht : t.2.2.2 % F.p ≠ 0 := fun e => h.nz ((Z_nat _).2 e)
  have ki : K ((t.2.2.2 : Int) * (F.inv t.2.2.2 : Nat)) 1 := by
    have := (K_mul t.2.2.2 (F.inv t.2.2.2)).symm
    rw [F.mul_inv ht] at this
    exact this
  have fin : ∀ (X : Nat) (q : Nat), q < F.p → K (X : Int) ((q : Int) * t.2.2.2) → F.mul X (F.inv t.2.2.2) = q := fun X q hq hk => by
    have k1 := (K_mul X (F.inv t.2.2.2)).trans (hk.mul (K.refl ((F.inv t.2.2.2 : Nat) : Int)))
    have k2 : K ((q : Int) * t.2.2.2 * (F.inv t.2.2.2 : Nat)) ((q : Int) * 1) := by
      rw [Int.mul_assoc]
      exact (K.refl _).mul ki
    have k3 := k1.trans k2
    rw [Int.mul_one] at k3
    have := Z_eq.1 k3
    rwa [Nat.mod_eq_of_lt (F.mul_lt _ _), Nat.mod_eq_of_lt hq] at this
  exact ⟨fin _ _ hP.1 h.x, fin _ _ hP.2.1 h.y⟩
/-- One bit more. -/
theorem times_bit {P : Pt} (hP : On P) (n : Nat) : times (2 * n + 1) P = add (add (times n P) (times n P)) P := by
  rw [times_add hP, times_two hP, times_one hP]
end Go.Proofs.Ytpnfopakkaoibaa.Cv
