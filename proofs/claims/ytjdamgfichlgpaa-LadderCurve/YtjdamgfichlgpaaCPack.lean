/- A point as one number: Y and whether X is odd; and back. Mathematics alone. -/
import Derived.Test.YtjdamgfichlgpaaGrp16
namespace Go.Proofs.Ytjdamgfichlgpaa.Cv
open Go.Proofs.Ytjdamgfichlgpaa
/-- X's square is never divided by 0. -/
theorem den_y (y : Int) : ¬ Z (1 + d * (y * y)) := fun h => by
  have hi := im_z
  have hs : Z ((F.im : Int) * F.im - d * (y * y)) := (hi.sub h).of_eq (by grind)
  have hy := d_sq _ _ hs
  exact one_no ((h.sub (Z.mul (d * y) hy)).of_eq (by grind))
/-- Two points of one Y are one, or one is the other's Neg. -/
theorem same_y {P Q : Pt} (hP : On P) (hQ : On Q) (h : P.2 = Q.2) : P = Q ∨ P = neg Q := by
  have e1 := hP.2.2
  have e2 := hQ.2.2
  rw [h] at e1
  have hz : Z ((1 + d * ((Q.2 : Int) * Q.2)) * ((P.1 : Int) * P.1 - Q.1 * Q.1)) := (e2.sub e1).of_eq (by unfold E; grind)
  have hx : K ((P.1 : Int) * P.1) ((Q.1 : Int) * Q.1) := (Z.prime hz).resolve_left (den_y _)
  have hm : F.mul P.1 P.1 = F.mul Q.1 Q.1 := (K_eq (F.mul_lt _ _) (F.mul_lt _ _)).1 ((K_mul _ _).trans (hx.trans (K_mul _ _).symm))
  rcases F.sq_eq hP.1 hQ.1 hm with h1 | h1
  · exact .inl (Prod.ext h1 h)
  · exact .inr (Prod.ext h1 h)
/-- A point as a number. -/
def pk (P : Pt) : Nat := P.2 + 2 ^ 255 * (P.1 % 2)
theorem p_255 : F.p < 2 ^ 255 := by decide
theorem pk_lt {P : Pt} (hP : On P) : pk P < 2 ^ 256 := by
  have := hP.2.1
  have := p_255
  unfold pk
  omega
theorem pk_parts {P : Pt} (hP : On P) : pk P % 2 ^ 255 = P.2 ∧ pk P / 2 ^ 255 = P.1 % 2 := by
  have := hP.2.1
  have := p_255
  unfold pk
  omega
theorem neg_is {x : Nat} (h : x < F.p) (h0 : x ≠ 0) : F.sub 0 x = F.p - x := by
  unfold F.sub
  rw [Nat.zero_add, Nat.mod_eq_of_lt h]
  exact Nat.mod_eq_of_lt (by omega)
theorem neg_odd {x : Nat} (h : x < F.p) (h0 : x ≠ 0) : F.sub 0 x % 2 = 1 - x % 2 := by
  have hp : F.p % 2 = 1 := by decide
  rw [neg_is h h0]
  omega
theorem neg_zero : F.sub 0 0 = 0 := F.sub_self 0
/-- Two points have two numbers. -/
theorem pk_inj {P Q : Pt} (hP : On P) (hQ : On Q) (h : pk P = pk Q) : P = Q := by
  have a := pk_parts hP
  have b := pk_parts hQ
  rw [h] at a
  rcases same_y hP hQ (a.1.symm.trans b.1) with e | e
  · exact e
  · by_cases h0 : Q.1 = 0
    · rw [e]
      unfold neg
      rw [h0, neg_zero, ← h0]
    · have h1 := neg_odd hQ.1 h0
      have h2 : P.1 % 2 = Q.1 % 2 := a.2.symm.trans b.2
      rw [e] at h2
      unfold neg at h2
      omega
/-- The number whose square X is. -/
def xx (y : Nat) : Nat := F.mul (F.sub (F.mul y y) 1) (F.inv (F.add (F.mul d (F.mul y y)) 1))
theorem xx_of {x y : Nat} : K ((xx y : Nat) * (1 + d * ((y : Int) * y))) ((y : Int) * y - 1) ∧ (Z (E x y) ↔ F.mul x x = xx y) := by
  have k1 : K (F.add (F.mul d (F.mul y y)) 1 : Nat) (1 + d * ((y : Int) * y)) := by
    have h := (K_add (F.mul d (F.mul y y)) 1).trans (((K_mul d (F.mul y y)).trans ((K.refl (d : Int)).mul (K_mul y y))).add (K.refl ((1 : Nat) : Int)))
    exact (h : Z _).of_eq (by grind)
  have k2 : K ((xx y : Nat) * (1 + d * ((y : Int) * y))) ((y : Int) * y - 1) := by
    refine (quot k1 (den_y _)).trans ?_
    exact (K_sub _ _).trans ((K_mul y y).sub (K.refl _))
  refine ⟨k2, fun h => ?_, fun h => ?_⟩
  · refine (K_eq (F.mul_lt _ _) (F.mul_lt _ _)).1 ((K_mul x x).trans (cancel (den_y y) ?_))
    refine K.trans ?_ k2.symm
    exact (Z.mul (-1) h : Z _).of_eq (by unfold E; grind)
  · have h1 := (K_mul x x).symm.trans (by rw [h]; exact K.refl _)
    have h2 := (h1.mul (K.refl (1 + d * ((y : Int) * y)))).trans k2
    exact (Z.mul (-1) h2 : Z _).of_eq (by unfold E; grind)
/-- There is a point of this Y just if that number has a root; then these two. -/
theorem on_iff {x y : Nat} (hx : x < F.p) (hy : y < F.p) : On (x, y) ↔ F.mul x x = xx y := ⟨fun h => (xx_of).2.1 h.2.2, fun h => ⟨hx, hy, (xx_of).2.2 h⟩⟩
theorem neg_neg {x : Nat} (h : x < F.p) : F.sub 0 (F.sub 0 x) = x := by
  by_cases h0 : x = 0
  · rw [h0, neg_zero, neg_zero]
  · rw [neg_is h h0, neg_is (by omega) (by omega)]
    omega
theorem neg_sq {x : Nat} (h : x < F.p) : F.mul (F.sub 0 x) (F.sub 0 x) = F.mul x x := by
  by_cases h0 : x = 0
  · rw [h0, neg_zero]
  · rw [neg_is h h0, F.neg_mul h]
/-- The point of a number. -/
def unp (n : Nat) : Option Pt :=
  if n % 2 ^ 255 < F.p ∧ F.ok (xx (n % 2 ^ 255)) = true then
    if n / 2 ^ 255 = 0 then some (F.root (xx (n % 2 ^ 255)), n % 2 ^ 255)
    else if F.root (xx (n % 2 ^ 255)) = 0 then none else some (F.sub 0 (F.root (xx (n % 2 ^ 255))), n % 2 ^ 255)
  else none
theorem xx_lt (y : Nat) : xx y < F.p := F.mul_lt _ _
theorem unp_is {n : Nat} {P : Pt} (hP : On P) (h : pk P = n) : unp n = some P := by
  have a := pk_parts hP
  rw [h] at a
  have hx : F.mul P.1 P.1 = xx P.2 := (on_iff hP.1 hP.2.1).1 hP
  have hx' : F.mul P.1 P.1 = xx P.2 % F.p := by rw [Nat.mod_eq_of_lt (xx_lt _)]; exact hx
  have hk : F.ok (xx P.2) = true := (F.ok_iff _).2 ⟨_, hx'⟩
  unfold unp
  rw [a.1, a.2, if_pos ⟨hP.2.1, hk⟩]
  by_cases h2 : P.1 % 2 = 0
  · rw [if_pos h2, ← (F.root_only hP.1 h2 hx').1]
  · have h0 : P.1 ≠ 0 := fun e => h2 (by rw [e])
    have hn := neg_odd hP.1 h0
    have hr := (F.root_only (F.sub_lt 0 P.1) (by omega) (by rw [neg_sq hP.1]; exact hx')).1
    rw [if_neg h2, ← hr, if_neg (by rw [neg_is hP.1 h0]; have := hP.1; omega), neg_neg hP.1]
theorem unp_pk {P : Pt} (hP : On P) : unp (pk P) = some P := unp_is hP rfl
theorem unp_some {n : Nat} {P : Pt} (hn : n < 2 ^ 256) (h : unp n = some P) : On P ∧ pk P = n := by
  unfold unp at h
  by_cases h1 : n % 2 ^ 255 < F.p ∧ F.ok (xx (n % 2 ^ 255)) = true
  · rw [if_pos h1] at h
    have hr := F.root_lt (xx (n % 2 ^ 255))
    have he := F.root_even (xx (n % 2 ^ 255))
    have hs := F.root_sq h1.2
    rw [Nat.mod_eq_of_lt (xx_lt _)] at hs
    by_cases h2 : n / 2 ^ 255 = 0
    · rw [if_pos h2] at h
      obtain rfl := Option.some.inj h
      refine ⟨(on_iff hr h1.1).2 hs, ?_⟩
      unfold pk
      simp only
      omega
    · rw [if_neg h2] at h
      by_cases h3 : F.root (xx (n % 2 ^ 255)) = 0
      · rw [if_pos h3] at h
        cases h
      · rw [if_neg h3] at h
        obtain rfl := Option.some.inj h
        have ho := neg_odd hr h3
        refine ⟨(on_iff (F.sub_lt _ _) h1.1).2 (by rw [neg_sq hr]; exact hs), ?_⟩
        unfold pk
        simp only
        omega
  · rw [if_neg h1] at h
    cases h
theorem unp_none {n : Nat} (h : unp n = none) : ¬ ∃ P, On P ∧ pk P = n := fun ⟨P, hP, e⟩ => by
  rw [unp_is hP e] at h
  cases h
theorem unp_no {n : Nat} (hn : n < 2 ^ 256) (h : ¬ ∃ P, On P ∧ pk P = n) : unp n = none := by
  cases e : unp n with
  | none => rfl
  | some P => exact absurd ⟨P, unp_some hn e⟩ h
/-- With the highest bit turned. -/
def turn (n : Nat) : Nat := if n / 2 ^ 255 % 2 = 0 then n + 2 ^ 255 else n - 2 ^ 255
theorem unp_turn {n : Nat} {P : Pt} (hn : n < 2 ^ 256) (h : unp n = some P) (h0 : P.1 ≠ 0) : unp (turn n) = some (neg P) := by
  obtain ⟨hP, e⟩ := unp_some hn h
  refine unp_is (neg_on hP) ?_
  have a := pk_parts hP
  have hy := hP.2.1
  have hp := p_255
  have ho := neg_odd hP.1 h0
  unfold pk at e ⊢
  unfold turn neg
  simp only
  rw [ho]
  split <;> omega
theorem unp_zero {n : Nat} {P : Pt} (hn : n < 2 ^ 256) (h : unp n = some P) (h0 : P.1 = 0) : unp (turn n) = none := by
  obtain ⟨hP, e⟩ := unp_some hn h
  refine unp_no (by unfold turn; split <;> omega) fun ⟨Q, hQ, eq⟩ => ?_
  have a := pk_parts hP
  have b := pk_parts hQ
  rw [e] at a
  rw [eq] at b
  have hp := p_255
  have hn0 : n / 2 ^ 255 = 0 := by rw [a.2, h0]
  unfold turn at b
  rw [if_pos (by omega)] at b
  have hy : Q.2 = P.2 := by omega
  have ho : Q.1 % 2 = 1 := by omega
  rcases same_y hQ hP hy with e1 | e1
  · rw [e1, h0] at ho
    cases ho
  · rw [e1] at ho
    unfold neg at ho
    rw [h0] at ho
    simp only [neg_zero] at ho
    cases ho
end Go.Proofs.Ytjdamgfichlgpaa.Cv
