/- Texts that were joined: CPack, PrimeL, CProj. -/
import Derived.Test.YtbninaelmbkboaaGrp12
import Derived.Test.YtbninaelmbkboaaPrime
/- A point as one number: Y and whether X is odd; and back. Mathematics alone. -/
namespace Go.Proofs.Ytbninaelmbkboaa.Cv
open Go.Proofs.Ytbninaelmbkboaa
/-- X's square is never divided by 0. -/
theorem den_y (y : Int) : ¬ Z (1 + d * (y * y)) := fun h => by
  have hi := im_z
  have hs : Z ((F.im : Int) * F.im - d * (y * y)) := (hi.sub h).of_eq (by grind)
  have hy := d_sq _ _ hs
  exact one_no ((h.sub (Z.mul (d * y) hy)).of_eq (by grind))
/-- Two points of one Y are one, or one is the other's Neg. -/
theorem same_y {P Q : Pt} (hP : On P) (hQ : On Q) (h : P.2 = Q.2) : P = Q ∨ P = neg Q := by
  have e1 := hP.2.2
  have e2 := hQ.2.2
  rw [h] at e1
  have hz : Z ((1 + d * ((Q.2 : Int) * Q.2)) * ((P.1 : Int) * P.1 - Q.1 * Q.1)) := (e2.sub e1).of_eq (by unfold E; grind)
  have hx : K ((P.1 : Int) * P.1) ((Q.1 : Int) * Q.1) := (Z.prime hz).resolve_left (den_y _)
  have hm : F.mul P.1 P.1 = F.mul Q.1 Q.1 := (K_eq (F.mul_lt _ _) (F.mul_lt _ _)).1 ((K_mul _ _).trans (hx.trans (K_mul _ _).symm))
  rcases F.sq_eq hP.1 hQ.1 hm with h1 | h1
  · exact .inl (Prod.ext h1 h)
  · exact .inr (Prod.ext h1 h)
/-- A point as a number. -/
def pk (P : Pt) : Nat := P.2 + 2 ^ 255 * (P.1 % 2)
theorem p_255 : F.p < 2 ^ 255 := by decide
theorem pk_lt {P : Pt} (hP : On P) : pk P < 2 ^ 256 := by
  have := hP.2.1
  have := p_255
  unfold pk
  omega
theorem pk_parts {P : Pt} (hP : On P) : pk P % 2 ^ 255 = P.2 ∧ pk P / 2 ^ 255 = P.1 % 2 := by
  have := hP.2.1
  have := p_255
  unfold pk
  omega
theorem neg_is {x : Nat} (h : x < F.p) (h0 : x ≠ 0) : F.sub 0 x = F.p - x := by
  unfold F.sub
  rw [Nat.zero_add, Nat.mod_eq_of_lt h]
  exact Nat.mod_eq_of_lt (by omega)
theorem neg_odd {x : Nat} (h : x < F.p) (h0 : x ≠ 0) : F.sub 0 x % 2 = 1 - x % 2 := by
  have hp : F.p % 2 = 1 := by decide
  rw [neg_is h h0]
  omega
theorem neg_zero : F.sub 0 0 = 0 := F.sub_self 0
/-- Two points have two numbers. -/
theorem pk_inj {P Q : Pt} (hP : On P) (hQ : On Q) (h : pk P = pk Q) : P = Q := by
  have a := pk_parts hP
  have b := pk_parts hQ
  rw [h] at a
  rcases same_y hP hQ (a.1.symm.trans b.1) with e | e
  · exact e
  · by_cases h0 : Q.1 = 0
    · rw [e]
      unfold neg
      rw [h0, neg_zero, ← h0]
    · have h1 := neg_odd hQ.1 h0
      have h2 : P.1 % 2 = Q.1 % 2 := a.2.symm.trans b.2
      rw [e] at h2
      unfold neg at h2
      omega
/-- The number whose square X is. -/
def xx (y : Nat) : Nat := F.mul (F.sub (F.mul y y) 1) (F.inv (F.add (F.mul d (F.mul y y)) 1))
theorem xx_of {x y : Nat} : K ((xx y : Nat) * (1 + d * ((y : Int) * y))) ((y : Int) * y - 1) ∧ (Z (E x y) ↔ F.mul x x = xx y) := by
  have k1 : K (F.add (F.mul d (F.mul y y)) 1 : Nat) (1 + d * ((y : Int) * y)) := by
    have h := (K_add (F.mul d (F.mul y y)) 1).trans (((K_mul d (F.mul y y)).trans ((K.refl (d : Int)).mul (K_mul y y))).add (K.refl ((1 : Nat) : Int)))
    exact (h : Z _).of_eq (by grind)
  have k2 : K ((xx y : Nat) * (1 + d * ((y : Int) * y))) ((y : Int) * y - 1) := by
    refine (quot k1 (den_y _)).trans ?_
    exact (K_sub _ _).trans ((K_mul y y).sub (K.refl _))
  refine ⟨k2, fun h => ?_, fun h => ?_⟩
  · refine (K_eq (F.mul_lt _ _) (F.mul_lt _ _)).1 ((K_mul x x).trans (cancel (den_y y) ?_))
    refine K.trans ?_ k2.symm
    exact (Z.mul (-1) h : Z _).of_eq (by unfold E; grind)
  · have h1 := (K_mul x x).symm.trans (by rw [h]; exact K.refl _)
    have h2 := (h1.mul (K.refl (1 + d * ((y : Int) * y)))).trans k2
    exact (Z.mul (-1) h2 : Z _).of_eq (by unfold E; grind)
/-- There is a point of this Y just if that number has a root; then these two. -/
theorem on_iff {x y : Nat} (hx : x < F.p) (hy : y < F.p) : On (x, y) ↔ F.mul x x = xx y := ⟨fun h => (xx_of).2.1 h.2.2, fun h => ⟨hx, hy, (xx_of).2.2 h⟩⟩
theorem neg_neg {x : Nat} (h : x < F.p) : F.sub 0 (F.sub 0 x) = x := by
  by_cases h0 : x = 0
  · rw [h0, neg_zero, neg_zero]
  · rw [neg_is h h0, neg_is (by omega) (by omega)]
    omega
theorem neg_sq {x : Nat} (h : x < F.p) : F.mul (F.sub 0 x) (F.sub 0 x) = F.mul x x := by
  by_cases h0 : x = 0
  · rw [h0, neg_zero]
  · rw [neg_is h h0, F.neg_mul h]
/-- The point of a number. -/
def unp (n : Nat) : Option Pt :=
  if n % 2 ^ 255 < F.p ∧ F.ok (xx (n % 2 ^ 255)) = true then
    if n / 2 ^ 255 = 0 then some (F.root (xx (n % 2 ^ 255)), n % 2 ^ 255)
    else if F.root (xx (n % 2 ^ 255)) = 0 then none else some (F.sub 0 (F.root (xx (n % 2 ^ 255))), n % 2 ^ 255)
  else none
theorem xx_lt (y : Nat) : xx y < F.p := F.mul_lt _ _
theorem unp_is {n : Nat} {P : Pt} (hP : On P) (h : pk P = n) : unp n = some P := by
  have a := pk_parts hP
  rw [h] at a
  have hx : F.mul P.1 P.1 = xx P.2 := (on_iff hP.1 hP.2.1).1 hP
  have hx' : F.mul P.1 P.1 = xx P.2 % F.p := by rw [Nat.mod_eq_of_lt (xx_lt _)]; exact hx
  have hk : F.ok (xx P.2) = true := (F.ok_iff _).2 ⟨_, hx'⟩
  unfold unp
  rw [a.1, a.2, if_pos ⟨hP.2.1, hk⟩]
  by_cases h2 : P.1 % 2 = 0
  · rw [if_pos h2, ← (F.root_only hP.1 h2 hx').1]
  · have h0 : P.1 ≠ 0 := fun e => h2 (by rw [e])
    have hn := neg_odd hP.1 h0
    have hr := (F.root_only (F.sub_lt 0 P.1) (by omega) (by rw [neg_sq hP.1]; exact hx')).1
    rw [if_neg h2, ← hr, if_neg (by rw [neg_is hP.1 h0]; have := hP.1; omega), neg_neg hP.1]
theorem unp_pk {P : Pt} (hP : On P) : unp (pk P) = some P := unp_is hP rfl
theorem unp_some {n : Nat} {P : Pt} (hn : n < 2 ^ 256) (h : unp n = some P) : On P ∧ pk P = n := by
  unfold unp at h
  by_cases h1 : n % 2 ^ 255 < F.p ∧ F.ok (xx (n % 2 ^ 255)) = true
  · rw [if_pos h1] at h
    have hr := F.root_lt (xx (n % 2 ^ 255))
    have he := F.root_even (xx (n % 2 ^ 255))
    have hs := F.root_sq h1.2
    rw [Nat.mod_eq_of_lt (xx_lt _)] at hs
    by_cases h2 : n / 2 ^ 255 = 0
    · rw [if_pos h2] at h
      obtain rfl := Option.some.inj h
      refine ⟨(on_iff hr h1.1).2 hs, ?_⟩
      unfold pk
      simp only
      omega
    · rw [if_neg h2] at h
      by_cases h3 : F.root (xx (n % 2 ^ 255)) = 0
      · rw [if_pos h3] at h
        cases h
      · rw [if_neg h3] at h
        obtain rfl := Option.some.inj h
        have ho := neg_odd hr h3
        refine ⟨(on_iff (F.sub_lt _ _) h1.1).2 (by rw [neg_sq hr]; exact hs), ?_⟩
        unfold pk
        simp only
        omega
  · rw [if_neg h1] at h
    cases h
theorem unp_none {n : Nat} (h : unp n = none) : ¬ ∃ P, On P ∧ pk P = n := fun ⟨P, hP, e⟩ => by
  rw [unp_is hP e] at h
  cases h
theorem unp_no {n : Nat} (hn : n < 2 ^ 256) (h : ¬ ∃ P, On P ∧ pk P = n) : unp n = none := by
  cases e : unp n with
  | none => rfl
  | some P => exact absurd ⟨P, unp_some hn e⟩ h
/-- With the highest bit turned. -/
def turn (n : Nat) : Nat := if n / 2 ^ 255 % 2 = 0 then n + 2 ^ 255 else n - 2 ^ 255
theorem unp_turn {n : Nat} {P : Pt} (hn : n < 2 ^ 256) (h : unp n = some P) (h0 : P.1 ≠ 0) : unp (turn n) = some (neg P) := by
  obtain ⟨hP, e⟩ := unp_some hn h
  refine unp_is (neg_on hP) ?_
  have a := pk_parts hP
  have hy := hP.2.1
  have hp := p_255
  have ho := neg_odd hP.1 h0
  unfold pk at e ⊢
  unfold turn neg
  simp only
  rw [ho]
  split <;> omega
theorem unp_zero {n : Nat} {P : Pt} (hn : n < 2 ^ 256) (h : unp n = some P) (h0 : P.1 = 0) : unp (turn n) = none := by
  obtain ⟨hP, e⟩ := unp_some hn h
  refine unp_no (by unfold turn; split <;> omega) fun ⟨Q, hQ, eq⟩ => ?_
  have a := pk_parts hP
  have b := pk_parts hQ
  rw [e] at a
  rw [eq] at b
  have hp := p_255
  have hn0 : n / 2 ^ 255 = 0 := by rw [a.2, h0]
  unfold turn at b
  rw [if_pos (by omega)] at b
  have hy : Q.2 = P.2 := by omega
  have ho : Q.1 % 2 = 1 := by omega
  rcases same_y hQ hP hy with e1 | e1
  · rw [e1, h0] at ho
    cases ho
  · rw [e1] at ho
    unfold neg at ho
    rw [h0] at ho
    simp only [neg_zero] at ho
    cases ho
end Go.Proofs.Ytbninaelmbkboaa.Cv

/- That 2^252 + 27742317777372353535851937790883648493 is a prime. Mathematics alone (the factors were found by a program of algebra; that they fit is shown here). -/
namespace Go.Proofs.Ytbninaelmbkboaa.P
theorem prL_1224481 : Pr 1224481 := prime_tri (f := 1106) (by decide) (by decide +kernel) (by decide)
theorem prL_531581 : Pr 531581 := prime_tri (f := 729) (by decide) (by decide +kernel) (by decide)
theorem prL_12575597_51 : Pr 1257559732178653 :=
  prime_chk2 (q := 1224481) (s := 1027014492) (a := 2) (r := 531581) (t := 2365697292) (b := 2) (k := 64) prL_1224481 prL_531581 (by decide) (by decide +kernel) (by decide +kernel) (by decide) (by decide)
theorem prL_44341556_62 : Pr 4434155615661930479 :=
  prime_chk1 (q := 1257559732178653) (s := 3526) (a := 2) (k := 64) prL_12575597_51 (by decide) (by decide +kernel) (by decide)
theorem prL_17205459_88 : Pr 172054593956031949258510691 :=
  prime_chk1 (q := 4434155615661930479) (s := 38802110) (a := 2) (k := 128) prL_44341556_62 (by decide) (by decide +kernel) (by decide)
theorem prL_19757330_134 : Pr 19757330305831588566944191468367130476339 :=
  prime_chk1 (q := 172054593956031949258510691) (s := 114831751082918) (a := 2) (k := 256) prL_17205459_88 (by decide) (by decide +kernel) (by decide)
theorem prL_27660262_138 : Pr 276602624281642239937218680557139826668747 :=
  prime_chk1 (q := 19757330305831588566944191468367130476339) (s := 14) (a := 2) (k := 256) prL_19757330_134 (by decide) (by decide +kernel) (by decide)
theorem pr_L : Pr 7237005577332262213973186563042994240857116359379907606001950938285454250989 :=
  prime_chk1 (q := 276602624281642239937218680557139826668747) (s := 26163907866482859529727157400808004) (a := 2) (k := 256) prL_27660262_138 (by decide) (by decide +kernel) (by decide)
end Go.Proofs.Ytbninaelmbkboaa.P

/- Points as fractions X/Z, Y/Z: their sums without a quotient; so often, bit by bit; the base and its order. Mathematics alone. -/
namespace Go.Proofs.Ytbninaelmbkboaa.Cv
open Go.Proofs.Ytbninaelmbkboaa
/-- X/Z and Y/Z are the point P. -/
structure Fr (X Y T : Int) (P : Pt) : Prop where
  nz : ¬ Z T
  x : K X (P.1 * T)
  y : K Y (P.2 * T)
theorem Fr.one (P : Pt) : Fr P.1 P.2 1 P := ⟨one_no, by rw [Int.mul_one]; exact K.refl _, by rw [Int.mul_one]; exact K.refl _⟩
theorem Fr.sum {X1 Y1 T1 X2 Y2 T2 : Int} {P Q : Pt} (hP : On P) (hQ : On Q) (h1 : Fr X1 Y1 T1 P) (h2 : Fr X2 Y2 T2 Q) :
    Fr (T1 * T2 * (T1 * T2 * (T1 * T2) - d * (X1 * X2) * (Y1 * Y2)) * (X1 * Y2 + Y1 * X2)) (T1 * T2 * (T1 * T2 * (T1 * T2) + d * (X1 * X2) * (Y1 * Y2)) * (X1 * X2 + Y1 * Y2)) ((T1 * T2 * (T1 * T2) - d * (X1 * X2) * (Y1 * Y2)) * (T1 * T2 * (T1 * T2) + d * (X1 * X2) * (Y1 * Y2))) (add P Q) := by
  have s := add_sum hP hQ
  have n := den hP hQ
  have nT : ¬ Z (T1 * T2 * (T1 * T2)) := no_mul (no_mul h1.nz h2.nz) (no_mul h1.nz h2.nz)
  have kc := h1.x.mul h2.x
  have kd := h1.y.mul h2.y
  have ke : K (d * (X1 * X2) * (Y1 * Y2)) (T1 * T2 * (T1 * T2) * (d * P.1 * Q.1 * P.2 * Q.2)) := by
    have := ((K.refl (d : Int)).mul kc).mul kd
    exact (this : Z _).of_eq (by grind)
  have kf : K (T1 * T2 * (T1 * T2) - d * (X1 * X2) * (Y1 * Y2)) (T1 * T2 * (T1 * T2) * (1 - d * P.1 * Q.1 * P.2 * Q.2)) := ((K.refl (T1 * T2 * (T1 * T2))).sub ke : Z _).of_eq (by grind)
  have kg : K (T1 * T2 * (T1 * T2) + d * (X1 * X2) * (Y1 * Y2)) (T1 * T2 * (T1 * T2) * (1 + d * P.1 * Q.1 * P.2 * Q.2)) := ((K.refl (T1 * T2 * (T1 * T2))).add ke : Z _).of_eq (by grind)
  have nf := kf.no (no_mul nT n.2)
  have ng := kg.no (no_mul nT n.1)
  have ks : K (X1 * Y2 + Y1 * X2) (T1 * T2 * (P.1 * Q.2 + P.2 * Q.1)) := ((h1.x.mul h2.y).add (h1.y.mul h2.x) : Z _).of_eq (by grind)
  have kt : K (X1 * X2 + Y1 * Y2) (T1 * T2 * (P.2 * Q.2 + P.1 * Q.1)) := (kc.add kd : Z _).of_eq (by grind)
  refine ⟨no_mul nf ng, ?_, ?_⟩
  · generalize T1 * T2 * (T1 * T2) - d * (X1 * X2) * (Y1 * Y2) = f at *
    generalize T1 * T2 * (T1 * T2) + d * (X1 * X2) * (Y1 * Y2) = g at *
    generalize X1 * Y2 + Y1 * X2 = u at *
    have a1 : K (T1 * T2 * f * u) (T1 * T2 * f * (T1 * T2 * (P.1 * Q.2 + P.2 * Q.1))) := (K.refl _).mul ks
    have a2 : K ((add P Q).1 * (f * g)) ((add P Q).1 * (f * (T1 * T2 * (T1 * T2) * (1 + d * P.1 * Q.1 * P.2 * Q.2)))) := (K.refl _).mul ((K.refl _).mul kg)
    have a3 : K ((add P Q).1 * (f * (T1 * T2 * (T1 * T2) * (1 + d * P.1 * Q.1 * P.2 * Q.2)))) (T1 * T2 * f * (T1 * T2 * (P.1 * Q.2 + P.2 * Q.1))) := (Z.mul (f * (T1 * T2 * (T1 * T2))) s.x : Z _).of_eq (by grind)
    exact a1.trans (a2.trans a3).symm
  · generalize T1 * T2 * (T1 * T2) - d * (X1 * X2) * (Y1 * Y2) = f at *
    generalize T1 * T2 * (T1 * T2) + d * (X1 * X2) * (Y1 * Y2) = g at *
    generalize X1 * X2 + Y1 * Y2 = u at *
    have a1 : K (T1 * T2 * g * u) (T1 * T2 * g * (T1 * T2 * (P.2 * Q.2 + P.1 * Q.1))) := (K.refl _).mul kt
    have a2 : K ((add P Q).2 * (f * g)) ((add P Q).2 * (T1 * T2 * (T1 * T2) * (1 - d * P.1 * Q.1 * P.2 * Q.2) * g)) := (K.refl _).mul (kf.mul (K.refl _))
    have a3 : K ((add P Q).2 * (T1 * T2 * (T1 * T2) * (1 - d * P.1 * Q.1 * P.2 * Q.2) * g)) (T1 * T2 * g * (T1 * T2 * (P.2 * Q.2 + P.1 * Q.1))) := (Z.mul (g * (T1 * T2 * (T1 * T2))) s.y : Z _).of_eq (by grind)
    exact a1.trans (a2.trans a3).symm
/-- Three numbers. -/
abbrev Tr := Nat × Nat × Nat
def FrN (t : Tr) (P : Pt) : Prop := Fr t.1 t.2.1 t.2.2 P
/-- The sum of two fractions. -/
def padd (s t : Tr) : Tr :=
  let a := F.mul s.2.2 t.2.2
  let c := F.mul s.1 t.1
  let e' := F.mul s.2.1 t.2.1
  let b := F.mul a a
  let e := F.mul (F.mul d c) e'
  let f := F.sub b e
  let g := F.add b e
  (F.mul (F.mul a f) (F.add (F.mul s.1 t.2.1) (F.mul s.2.1 t.1)), F.mul (F.mul a g) (F.add c e'), F.mul f g)
theorem Fr.congr {X Y T X' Y' T' : Int} {P : Pt} (h : Fr X Y T P) (hx : K X' X) (hy : K Y' Y) (ht : K T' T) : Fr X' Y' T' P :=
  ⟨ht.no h.nz, hx.trans (h.x.trans ((K.refl _).mul ht.symm)), hy.trans (h.y.trans ((K.refl _).mul ht.symm))⟩
theorem padd_fr {s t : Tr} {P Q : Pt} (hP : On P) (hQ : On Q) (h1 : FrN s P) (h2 : FrN t Q) : FrN (padd s t) (add P Q) := by
  have ka := K_mul s.2.2 t.2.2
  have kc := K_mul s.1 t.1
  have ke' := K_mul s.2.1 t.2.1
  have kb := (K_mul (F.mul s.2.2 t.2.2) (F.mul s.2.2 t.2.2)).trans (ka.mul ka)
  have ke := (K_mul (F.mul d (F.mul s.1 t.1)) (F.mul s.2.1 t.2.1)).trans (((K_mul d (F.mul s.1 t.1)).trans ((K.refl (d : Int)).mul kc)).mul ke')
  have kf := (K_sub (F.mul (F.mul s.2.2 t.2.2) (F.mul s.2.2 t.2.2)) (F.mul (F.mul d (F.mul s.1 t.1)) (F.mul s.2.1 t.2.1))).trans (kb.sub ke)
  have kg := (K_add (F.mul (F.mul s.2.2 t.2.2) (F.mul s.2.2 t.2.2)) (F.mul (F.mul d (F.mul s.1 t.1)) (F.mul s.2.1 t.2.1))).trans (kb.add ke)
  refine (Fr.sum hP hQ h1 h2).congr ?_ ?_ ?_
  · exact (K_mul _ _).trans (((K_mul _ _).trans (ka.mul kf)).mul ((K_add _ _).trans ((K_mul _ _).add (K_mul _ _))))
  · exact (K_mul _ _).trans (((K_mul _ _).trans (ka.mul kg)).mul ((K_add _ _).trans (kc.add ke')))
  · exact (K_mul _ _).trans (kf.mul kg)
/-- So often, from the least bit on. -/
def often : Nat → Nat → Tr → Tr → Tr
  | 0, _, acc, _ => acc
  | k + 1, n, acc, t => often k (n / 2) (if n % 2 = 1 then padd acc t else acc) (padd t t)
theorem often_fr : ∀ (k n : Nat) (acc t : Tr) (A P : Pt), n < 2 ^ k → On A → On P → FrN acc A → FrN t P → FrN (often k n acc t) (add A (times n P))
  | 0, n, acc, t, A, P, hn, hA, _, h1, _ => by
    have : n = 0 := by simp at hn; exact hn
    subst this
    rw [often, times, add_zero hA]
    exact h1
  | k + 1, n, acc, t, A, P, hn, hA, hP, h1, h2 => by
    have hn2 : n / 2 < 2 ^ k := by rw [Nat.pow_succ] at hn; omega
    have hd := times_on (closed hP hP) (n / 2)
    have e2 : times (n / 2) (add P P) = times (2 * (n / 2)) P := by rw [times_two hP, times_sum hP hP]
    rw [often]
    by_cases h : n % 2 = 1
    · rw [if_pos h]
      have ih := often_fr k (n / 2) (padd acc t) (padd t t) (add A P) (add P P) hn2 (closed hA hP) (closed hP hP) (padd_fr hA hP h1 h2) (padd_fr hP hP h2 h2)
      rw [add_assoc hA hP hd, e2] at ih
      rw [show n = 2 * (n / 2) + 1 by omega, times]
      rw [show (2 * (n / 2) + 1) / 2 = n / 2 by omega]
      exact ih
    · rw [if_neg h]
      have ih := often_fr k (n / 2) acc (padd t t) A (add P P) hn2 hA (closed hP hP) h1 (padd_fr hP hP h2 h2)
      rw [e2, show 2 * (n / 2) = n by omega] at ih
      exact ih
theorem fr_zero {t : Tr} {P : Pt} (hP : On P) (h : FrN t P) (hx : t.1 % F.p = 0) (hy : t.2.1 % F.p = t.2.2 % F.p) : P = zero := by
  have kx : Z ((P.1 : Int) * t.2.2) := h.x.symm.z ((Z_nat _).2 hx)
  have ky : K ((P.2 : Int) * t.2.2) (1 * t.2.2) := h.y.symm.trans (by rw [Int.one_mul]; exact Z_eq.2 hy)
  have hx0 : Z ((P.1 : Int)) := (Z.prime kx).resolve_right h.nz
  have hy1 : K ((P.2 : Int)) ((1 : Nat) : Int) := cancel h.nz ky
  refine Prod.ext ?_ ((K_eq hP.2.1 (by decide)).1 hy1)
  have := (Z_nat _).1 hx0
  rwa [Nat.mod_eq_of_lt hP.1] at this
/-- The base. -/
def base : Pt := (15112221349535400772501151409588531511454012693041857206046113283949847762202, 46316835694926478169428394003475163141307993866256225615783033603165251855960)
theorem base_on : On base := (on_iff (by decide) (by decide)).2 (by
  show _ = F.mul _ (F.inv _)
  rw [← F.mul_modl]
  have h : ∀ a b c : Nat, b % F.p ≠ 0 → F.mul a b = c → a < F.p → a = F.mul c (F.inv b) := fun a b c hb hc ha => by
    rw [← hc, F.mul_assoc, F.mul_inv hb, F.mul_one, Nat.mod_eq_of_lt ha]
  exact h _ _ _ (by decide +kernel) (by decide +kernel) (F.mul_lt _ _))
def ord : Nat := 7237005577332262213973186563042994240857116359379907606001950938285454250989
theorem ord_pr : P.Pr ord := P.pr_L
theorem base_fr : FrN (base.1, base.2, 1) base := Fr.one base
theorem zero_fr : FrN (0, 1, 1) zero := Fr.one zero
theorem base_ord : times ord base = zero := by
  have h := often_fr 253 ord (0, 1, 1) (base.1, base.2, 1) zero base (by decide) zero_on base_on zero_fr base_fr
  have e : (often 253 ord (0, 1, 1) (base.1, base.2, 1)).1 % F.p = 0 ∧ (often 253 ord (0, 1, 1) (base.1, base.2, 1)).2.1 % F.p = (often 253 ord (0, 1, 1) (base.1, base.2, 1)).2.2 % F.p := by decide +kernel
  rw [zero_add (times_on base_on ord)] at h
  exact fr_zero (times_on base_on ord) h e.1 e.2
end Go.Proofs.Ytbninaelmbkboaa.Cv
