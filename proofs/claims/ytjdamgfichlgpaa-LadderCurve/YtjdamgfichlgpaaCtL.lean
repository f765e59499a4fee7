/- The twist: The ladder: what TWICE and JOINED make of one number of points. Mathematics alone. -/
import Derived.Test.YtjdamgfichlgpaaGrp44
import Derived.Test.YtjdamgfichlgpaaGrp44
namespace Go.Proofs.Ytjdamgfichlgpaa.Ct
open Go.Proofs.Ytjdamgfichlgpaa
theorem d_z : Z ((-121665) * (d : Int) + (-121666)) := by
  have h := (K_add (F.mul d 121665) 121666).trans ((K_mul d 121665).add (K.refl ((121666 : Nat) : Int)))
  rw [d_is] at h
  have h2 : Z (((0 : Nat) : Int) - ((d : Int) * ((121665 : Nat) : Int) + ((121666 : Nat) : Int))) := h
  exact h2.of_eq (by grind)
theorem k_no : ¬ Z (-121665) := fun h => by
  have h2 := Z.neg h
  have : Z ((121665 : Nat) : Int) := h2
  rw [Z_nat] at this
  exact absurd this (by decide)
/-- Twice a point, by Y alone. -/
theorem tw_rel {x y Y : Int} (hE : Z (E x y)) (hs : K (Y * (1 - d * x * x * y * y)) (y * y + x * x)) :
    K (Y * (1 + (-121666) * ((1 - y * y) * (1 - y * y)))) (y * y - (1 - y * y) * (1 + (-121666) * (1 - y * y))) ∧ ¬ Z (1 + (-121666) * ((1 - y * y) * (1 - y * y))) := by
  have hd := d_z
  have n1 := den_y y
  have n2 : ¬ Z (1 - d * x * x * y * y) := complete hE hE (e := 1) rfl
  unfold K at hs ⊢
  constructor
  · refine ((((Z.mul ((-121665) * (1 + d * (y * y))) hs).sub (Z.mul (Y * (2 * (y * y) - y * y * (y * y))) hd)).sub (Z.mul (Y * (-121665) * d * (y * y)) hE)).add (Z.mul (y * y * (y * y)) hd)).sub (Z.mul (-121665) hE) |>.of_eq ?_
    unfold E
    grind
  · intro h
    have h2 : Z ((-121665) * ((1 + d * (y * y)) * (1 - d * x * x * y * y))) := by
      refine ((h.add (Z.mul (2 * (y * y) - y * y * (y * y)) hd)).add (Z.mul ((-121665) * d * (y * y)) hE)).of_eq ?_
      unfold E
      grind
    rcases Z.prime h2 with h3 | h3
    · exact k_no h3
    · rcases Z.prime h3 with h4 | h4
      · exact n1 h4
      · exact n2 h4
theorem jn_id (x1 y1 x2 y2 c : Int) : (y1 + y2) ^ 2 * ((1 + c * x1 * x2 * y1 * y2 - y1 * y2 + x1 * x2) * (1 - c * x1 * x2 * y1 * y2 - y1 * y2 - x1 * x2)) - (y1 - y2) ^ 2 * ((1 + c * x1 * x2 * y1 * y2 + y1 * y2 - x1 * x2) * (1 - c * x1 * x2 * y1 * y2 + y1 * y2 + x1 * x2)) =
    4 * (y1 * y2) * ((y2 ^ 2 - 1) * (y1 ^ 2 - x1 ^ 2 - 1 - c * x1 ^ 2 * y1 ^ 2) + (y1 ^ 2 - 1) * (y2 ^ 2 - x2 ^ 2 - 1 - c * x2 ^ 2 * y2 ^ 2) - (y1 ^ 2 - x1 ^ 2 - 1 - c * x1 ^ 2 * y1 ^ 2) * (y2 ^ 2 - x2 ^ 2 - 1 - c * x2 ^ 2 * y2 ^ 2)) := by grind
theorem Z.sq {a : Int} (h : Z (a ^ 2)) : Z a := by
  have : Z (a * a) := h.of_eq (by grind)
  exact (Z.prime this).elim id id
theorem Z.two {a : Int} (h : Z (2 * a)) : Z a := (Z.prime h).resolve_left two_no
/-- The sum of two points whose difference is known, by Y alone. -/
theorem jn_rel {x1 y1 x2 y2 Y y u : Int} (h1 : Z (E x1 y1)) (h2 : Z (E x2 y2)) (hs : K (Y * (1 - d * x1 * x2 * y1 * y2)) (y1 * y2 + x1 * x2)) (hp : K (y * (1 + d * x1 * x2 * y1 * y2)) (y1 * y2 - x1 * x2)) (hu : K (u * (1 - y)) (1 + y)) (n1 : ¬ Z (1 - y)) (n2 : ¬ Z (1 + y)) :
    K ((y1 + y2) ^ 2 - u * (y1 - y2) ^ 2) (((y1 + y2) ^ 2 + u * (y1 - y2) ^ 2) * Y) ∧ ¬ Z ((y1 + y2) ^ 2 + u * (y1 - y2) ^ 2) := by
  have c1 : ¬ Z (1 + d * x1 * x2 * y1 * y2) := fun hh => complete h1 h2 (e := -1) rfl ((Z.neg hh).of_eq (by grind))
  have c2 : ¬ Z (1 - d * x1 * x2 * y1 * y2) := complete h1 h2 (e := 1) rfl
  have main : K ((y1 + y2) ^ 2 - u * (y1 - y2) ^ 2) (((y1 + y2) ^ 2 + u * (y1 - y2) ^ 2) * Y) := by
    have id := jn_id x1 y1 x2 y2 d
    have hb : Z ((y1 + y2) ^ 2 * ((1 + d * x1 * x2 * y1 * y2 - y1 * y2 + x1 * x2) * (1 - d * x1 * x2 * y1 * y2 - y1 * y2 - x1 * x2)) - (y1 - y2) ^ 2 * ((1 + d * x1 * x2 * y1 * y2 + y1 * y2 - x1 * x2) * (1 - d * x1 * x2 * y1 * y2 + y1 * y2 + x1 * x2))) := by
      rw [id]
      refine Z.mul _ (((Z.mul _ h1).add (Z.mul _ h2)).sub (Z.mul _ h2))
    clear id
    unfold K at *
    generalize (y1 + y2) ^ 2 = al at *
    generalize (y1 - y2) ^ 2 = be at *
    generalize d * x1 * x2 * y1 * y2 = C at *
    generalize y1 * y2 = A at *
    generalize x1 * x2 = B at *
    have hz : Z ((1 - y) * (1 + C) * (1 - C) * (al - u * be - (al + u * be) * Y)) := by
      refine (((hb.add (Z.mul (-al * (1 - C - A - B) + al * (Y * (1 - C) - (A + B)) - be * (1 - C + A + B + (Y * (1 - C) - (A + B)))) hp)).add (Z.mul (-al * (1 + C - A + B) - be * (1 + C + A - B)) hs)).add (Z.mul (-be * (1 + C) * (1 - C + A + B + (Y * (1 - C) - (A + B)))) hu)).of_eq ?_
      grind
    rcases Z.prime hz with h | h
    · rcases Z.prime h with h | h
      · rcases Z.prime h with h | h
        · exact absurd h n1
        · exact absurd h c1
      · exact absurd h c2
    · exact h
  refine ⟨main, fun h => ?_⟩
  unfold K at main
  have hm : Z ((y1 + y2) ^ 2 - u * (y1 - y2) ^ 2) := (main.add (Z.mul Y h)).of_eq (by grind)
  have ha : Z (y1 + y2) := Z.sq (Z.two ((h.add hm).of_eq (by grind)))
  have hb : Z (u * (y1 - y2) ^ 2) := Z.two ((h.sub hm).of_eq (by grind))
  have hy : Z (y1 - y2) := by
    rcases Z.prime hb with h3 | h3
    · exact absurd (((Z.mul (1 - y) h3).sub hu).of_eq (by grind)) n2
    · exact Z.sq h3
  have z1 : Z y1 := Z.two ((ha.add hy).of_eq (by grind))
  have z2 : Z y2 := Z.two ((ha.sub hy).of_eq (by grind))
  have e1 : Z (x1 * x1 + 1) := by
    refine ((Z.mul (y1 - d * x1 ^ 2 * y1) z1).sub h1).of_eq ?_
    unfold E
    grind
  have e2 : Z (x2 * x2 + 1) := by
    refine ((Z.mul (y2 - d * x2 ^ 2 * y2) z2).sub h2).of_eq ?_
    unfold E
    grind
  have yb : Z (y + x1 * x2) := by
    unfold K at hp
    refine ((hp.sub (Z.mul (y * d * x1 * x2 * y2) z1)).add (Z.mul y2 z1)).of_eq ?_
    grind
  have hq : Z ((1 - y) * (1 + y)) := by
    refine (((Z.mul (x1 * x2 - y) yb).sub (Z.mul (x2 * x2) e1)).add e2).of_eq ?_
    grind
  rcases Z.prime hq with h3 | h3
  · exact n1 h3
  · exact n2 h3
/-- The pair (X, W) stands for a point with this Y: X : W is 1 + Y : 1 - Y. -/
structure Rl (X W y : Int) : Prop where
  nz : ¬ Z (X + W)
  eq : K (X - W) ((X + W) * y)
theorem Rl.congr {X W X' W' y : Int} (h : Rl X W y) (hx : K X' X) (hw : K W' W) : Rl X' W' y :=
  ⟨(hx.add hw).no h.nz, (hx.sub hw).trans (h.eq.trans ((hx.add hw).symm.mul (K.refl y)))⟩
theorem tw_core {S T w N0 T0 Y : Int} (hS : ¬ Z S) (hT : Z (T - S * w)) (hN : N0 = 1 + (-121666) * ((1 - w) * (1 - w))) (h0 : T0 = w - (1 - w) * (1 + (-121666) * (1 - w))) (hr : Z (Y * N0 - T0)) (nz : ¬ Z N0) :
    ¬ Z (S * T + (S - T) * (S + (-121666) * (S - T))) ∧ Z (S * T - (S - T) * (S + (-121666) * (S - T)) - (S * T + (S - T) * (S + (-121666) * (S - T))) * Y) := by
  subst hN h0
  constructor
  · intro h
    have h2 : Z (S * (S * (1 + (-121666) * ((1 - w) * (1 - w))))) := by
      refine (h.sub (Z.mul (-2 * (-121666) * S * (1 - w) + (-121666) * (T - S * w)) hT)).of_eq ?_
      grind
    rcases Z.prime h2 with h3 | h3
    · exact hS h3
    · rcases Z.prime h3 with h4 | h4
      · exact hS h4
      · exact nz h4
  · refine (((Z.mul (2 * S + 2 * (-121666) * S * (1 - w) - (-121666) * (T - S * w)) hT).sub (Z.mul (Y * (-2 * (-121666) * S * (1 - w) + (-121666) * (T - S * w))) hT)).sub (Z.mul (S * S) hr)).of_eq ?_
    grind
theorem Rl.twice {X W x y Y : Int} (h : Rl X W y) (hE : Z (E x y)) (hs : K (Y * (1 - d * x * x * y * y)) (y * y + x * x)) :
    Rl ((X + W) * (X + W) * ((X - W) * (X - W))) (((X + W) * (X + W) - (X - W) * (X - W)) * ((X + W) * (X + W) + (-121666) * ((X + W) * (X + W) - (X - W) * (X - W)))) Y := by
  have hr := tw_rel hE hs
  have hS : ¬ Z ((X + W) * (X + W)) := fun hh => (Z.prime hh).elim h.nz h.nz
  have hT : Z ((X - W) * (X - W) - (X + W) * (X + W) * (y * y)) := by
    have := h.eq
    unfold K at this
    exact (Z.mul (X - W + (X + W) * y) this).of_eq (by grind)
  have := tw_core hS hT rfl rfl hr.1 hr.2
  exact ⟨this.1, this.2⟩
theorem jn_core {P Q u al be Y e1 e2 L y1 y2 : Int} (hL : ¬ Z L) (hP : P = L * (y1 + y2) + e1) (hQ : Q = L * (y1 - y2) + e2) (h1 : Z e1) (h2 : Z e2) (hal : al = (y1 + y2) ^ 2) (hbe : be = (y1 - y2) ^ 2) (hm : Z (al - u * be - (al + u * be) * Y)) (nz : ¬ Z (al + u * be)) :
    ¬ Z (P * P + u * (Q * Q)) ∧ Z (P * P - u * (Q * Q) - (P * P + u * (Q * Q)) * Y) := by
  subst hP hQ hal hbe
  constructor
  · intro h
    have h3 : Z (L * (L * ((y1 + y2) ^ 2 + u * (y1 - y2) ^ 2))) := by
      refine ((h.sub (Z.mul (2 * L * (y1 + y2) + e1) h1)).sub (Z.mul (u * (2 * L * (y1 - y2) + e2)) h2)).of_eq ?_
      grind
    rcases Z.prime h3 with h4 | h4
    · exact hL h4
    · rcases Z.prime h4 with h5 | h5
      · exact hL h5
      · exact nz h5
  · refine (((Z.mul (L * L) hm).add (Z.mul ((2 * L * (y1 + y2) + e1) * (1 - Y)) h1)).sub (Z.mul (u * (2 * L * (y1 - y2) + e2) * (1 + Y)) h2)).of_eq ?_
    grind
theorem Rl.joined {X W V U x1 y1 x2 y2 Y y u : Int} (hq : Rl X W y1) (hr : Rl V U y2) (h1 : Z (E x1 y1)) (h2 : Z (E x2 y2)) (hs : K (Y * (1 - d * x1 * x2 * y1 * y2)) (y1 * y2 + x1 * x2)) (hp : K (y * (1 + d * x1 * x2 * y1 * y2)) (y1 * y2 - x1 * x2)) (hu : K (u * (1 - y)) (1 + y)) (n1 : ¬ Z (1 - y)) (n2 : ¬ Z (1 + y)) :
    Rl (((V + U) * (X - W) + (V - U) * (X + W)) * ((V + U) * (X - W) + (V - U) * (X + W))) (u * (((V + U) * (X - W) - (V - U) * (X + W)) * ((V + U) * (X - W) - (V - U) * (X + W)))) Y := by
  have hj := jn_rel h1 h2 hs hp hu n1 n2
  have q := hq.eq
  have r := hr.eq
  unfold K at q r
  have hL : ¬ Z ((X + W) * (V + U)) := fun hh => (Z.prime hh).elim hq.nz hr.nz
  have := jn_core (P := (V + U) * (X - W) + (V - U) * (X + W)) (Q := (V + U) * (X - W) - (V - U) * (X + W)) (u := u) (Y := Y) (e1 := (V + U) * (X - W - (X + W) * y1) + (X + W) * (V - U - (V + U) * y2)) (e2 := (V + U) * (X - W - (X + W) * y1) - (X + W) * (V - U - (V + U) * y2)) (L := (X + W) * (V + U)) (y1 := y1) (y2 := y2) hL (by grind) (by grind) ((Z.mul _ q).add (Z.mul _ r)) ((Z.mul _ q).sub (Z.mul _ r)) rfl rfl hj.1 hj.2
  exact ⟨this.1, this.2⟩
end Go.Proofs.Ytjdamgfichlgpaa.Ct
