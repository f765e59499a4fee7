/- The ladder makes of a point's one number that of the point, so often. Mathematics alone. -/
import Derived.Test.YtpnfopakkaoibaaQCAssToLMath
namespace Go.Proofs.Ytpnfopakkaoibaa.Cv
open Go.Proofs.Ytpnfopakkaoibaa
/-- TWICE and JOINED. -/
def tw (q : Nat × Nat) : Nat × Nat :=
  (F.mul (F.mul (F.add q.1 q.2) (F.add q.1 q.2)) (F.mul (F.sub q.1 q.2) (F.sub q.1 q.2)),
   F.mul (F.sub (F.mul (F.add q.1 q.2) (F.add q.1 q.2)) (F.mul (F.sub q.1 q.2) (F.sub q.1 q.2))) (F.add (F.mul (F.add q.1 q.2) (F.add q.1 q.2)) (F.mul 121665 (F.sub (F.mul (F.add q.1 q.2) (F.add q.1 q.2)) (F.mul (F.sub q.1 q.2) (F.sub q.1 q.2))))))
def jn (u : Nat) (q r : Nat × Nat) : Nat × Nat :=
  (F.mul (F.add (F.mul (F.add r.1 r.2) (F.sub q.1 q.2)) (F.mul (F.sub r.1 r.2) (F.add q.1 q.2))) (F.add (F.mul (F.add r.1 r.2) (F.sub q.1 q.2)) (F.mul (F.sub r.1 r.2) (F.add q.1 q.2))),
   F.mul u (F.mul (F.sub (F.mul (F.add r.1 r.2) (F.sub q.1 q.2)) (F.mul (F.sub r.1 r.2) (F.add q.1 q.2))) (F.sub (F.mul (F.add r.1 r.2) (F.sub q.1 q.2)) (F.mul (F.sub r.1 r.2) (F.add q.1 q.2)))))
theorem tw_lt (q : Nat × Nat) : (tw q).1 < F.p ∧ (tw q).2 < F.p := ⟨F.mul_lt _ _, F.mul_lt _ _⟩
theorem K.sq {a b : Int} (h : K a b) : K (a * a) (b * b) := h.mul h
theorem tw_K (q : Nat × Nat) : K (tw q).1 (((q.1 : Int) + q.2) * ((q.1 : Int) + q.2) * (((q.1 : Int) - q.2) * ((q.1 : Int) - q.2))) ∧ K (tw q).2 ((((q.1 : Int) + q.2) * ((q.1 : Int) + q.2) - ((q.1 : Int) - q.2) * ((q.1 : Int) - q.2)) * (((q.1 : Int) + q.2) * ((q.1 : Int) + q.2) + 121665 * (((q.1 : Int) + q.2) * ((q.1 : Int) + q.2) - ((q.1 : Int) - q.2) * ((q.1 : Int) - q.2)))) := by
  have kS := (K_mul _ _).trans (K_add q.1 q.2).sq
  have kT := (K_mul _ _).trans (K_sub q.1 q.2).sq
  have ke := (K_sub _ _).trans (kS.sub kT)
  have k5 := (K_mul 121665 _).trans ((K.refl ((121665 : Nat) : Int)).mul ke)
  exact ⟨(K_mul _ _).trans (kS.mul kT), (K_mul _ _).trans (ke.mul ((K_add _ _).trans (kS.add k5)))⟩
theorem jn_K (u : Nat) (q r : Nat × Nat) : K (jn u q r).1 ((((r.1 : Int) + r.2) * ((q.1 : Int) - q.2) + ((r.1 : Int) - r.2) * ((q.1 : Int) + q.2)) * (((r.1 : Int) + r.2) * ((q.1 : Int) - q.2) + ((r.1 : Int) - r.2) * ((q.1 : Int) + q.2))) ∧ K (jn u q r).2 ((u : Int) * ((((r.1 : Int) + r.2) * ((q.1 : Int) - q.2) - ((r.1 : Int) - r.2) * ((q.1 : Int) + q.2)) * (((r.1 : Int) + r.2) * ((q.1 : Int) - q.2) - ((r.1 : Int) - r.2) * ((q.1 : Int) + q.2)))) := by
  have ka := (K_mul _ _).trans ((K_add r.1 r.2).mul (K_sub q.1 q.2))
  have kb := (K_mul _ _).trans ((K_sub r.1 r.2).mul (K_add q.1 q.2))
  have ks := (K_add _ _).trans (ka.add kb)
  have kt := (K_sub _ _).trans (ka.sub kb)
  exact ⟨(K_mul _ _).trans ks.sq, (K_mul _ _).trans ((K.refl (u : Int)).mul ((K_mul _ _).trans kt.sq))⟩
/-- The pairs behind the first i bits, from the highest on. -/
def lst (u k : Nat) : Nat → (Nat × Nat) × (Nat × Nat)
  | 0 => ((1, 0), (u, 1))
  | i + 1 => if k / 2 ^ (255 - i) % 2 = 0 then (tw (lst u k i).1, jn u (lst u k i).1 (lst u k i).2) else (jn u (lst u k i).1 (lst u k i).2, tw (lst u k i).2)
def lad (k u : Nat) : Nat := F.mul (lst (u % F.p) k 256).1.1 (F.inv (lst (u % F.p) k 256).1.2)
def place (P : Pt) : Nat := F.mul (F.add 1 P.2) (F.inv (F.sub 1 P.2))
abbrev RlN (q : Nat × Nat) (P : Pt) : Prop := Rl q.1 q.2 P.2
theorem RlN.twice {q : Nat × Nat} {Q : Pt} (hQ : On Q) (h : RlN q Q) : RlN (tw q) (add Q Q) := (Rl.twice h hQ.2.2 (add_sum hQ hQ).y).congr (tw_K q).1 (tw_K q).2
theorem diff {Q P : Pt} (hQ : On Q) (hP : On P) : K ((P.2 : Int) * (1 + d * Q.1 * (add Q P).1 * Q.2 * (add Q P).2)) ((Q.2 : Int) * (add Q P).2 - Q.1 * (add Q P).1) := by
  have hN := neg_on hQ
  have hR := closed hQ hP
  have e : add (neg Q) (add Q P) = P := by rw [← add_assoc hN hQ hP, add_comm hN hQ, add_neg hQ, add_comm zero_on hP, add_zero hP]
  have hs := (add_sum hN hR).y
  rw [e] at hs
  have kn : K ((neg Q).1 : Int) (-(Q.1 : Int)) := by
    have := K_sub 0 Q.1
    exact (this : Z _).of_eq (by show ((F.sub 0 Q.1 : Nat) : Int) - -(Q.1 : Int) = _; grind)
  unfold K at *
  refine ((hs.add (Z.mul ((P.2 : Int) * d * (add Q P).1 * Q.2 * (add Q P).2) kn)).add (Z.mul ((add Q P).1 : Int) kn)).of_eq ?_
  show _ = ((P.2 : Int) * (1 - d * (neg Q).1 * (add Q P).1 * Q.2 * (add Q P).2) - ((Q.2 : Int) * (add Q P).2 + (neg Q).1 * (add Q P).1)) + _ + _
  grind
theorem RlN.joined {u : Nat} {q r : Nat × Nat} {Q P : Pt} (hQ : On Q) (hP : On P) (h : RlN q Q) (h' : RlN r (add Q P)) (hu : K ((u : Int) * (1 - P.2)) (1 + P.2)) (n1 : ¬ Z (1 - (P.2 : Int))) (n2 : ¬ Z (1 + (P.2 : Int))) : RlN (jn u q r) (add Q (add Q P)) :=
  (Rl.joined h h' hQ.2.2 (closed hQ hP).2.2 (add_sum hQ (closed hQ hP)).y (diff hQ hP) hu n1 n2).congr (jn_K u q r).1 (jn_K u q r).2
theorem lst_rel {P : Pt} (hP : On P) {u k : Nat} (hk : k < 2 ^ 256) (hu : K ((u : Int) * (1 - P.2)) (1 + P.2)) (n1 : ¬ Z (1 - (P.2 : Int))) (n2 : ¬ Z (1 + (P.2 : Int))) :
    ∀ i, i ≤ 256 → RlN (lst u k i).1 (times (k / 2 ^ (256 - i)) P) ∧ RlN (lst u k i).2 (add (times (k / 2 ^ (256 - i)) P) P)
  | 0, _ => by
    have h0 : k / 2 ^ (256 - 0) = 0 := Nat.div_eq_of_lt hk
    rw [h0]
    refine ⟨⟨?_, ?_⟩, ?_⟩
    · show ¬ Z (((1 : Nat) : Int) + ((0 : Nat) : Int))
      exact one_no
    · show K (((1 : Nat) : Int) - ((0 : Nat) : Int)) ((((1 : Nat) : Int) + ((0 : Nat) : Int)) * ((1 : Nat) : Int))
      exact K.refl _
    · rw [show times 0 P = zero from rfl, add_comm zero_on hP, add_zero hP]
      unfold K at hu
      constructor
      · intro h
        have h' : Z ((u : Int) + 1) := h
        exact two_no (((Z.mul (1 - (P.2 : Int)) h').sub hu).of_eq (by grind))
      · show Z (((u : Int) - ((1 : Nat) : Int)) - ((u : Int) + ((1 : Nat) : Int)) * (P.2 : Int))
        exact hu.of_eq (by grind)
  | i + 1, hi => by
    obtain ⟨ih1, ih2⟩ := lst_rel hP hk hu n1 n2 i (by omega)
    have hm : k / 2 ^ (256 - i) = k / 2 ^ (256 - (i + 1)) / 2 := by
      rw [show 256 - i = 256 - (i + 1) + 1 by omega, Nat.pow_succ, Nat.div_div_eq_div_mul]
    have hQ := times_on hP (k / 2 ^ (256 - i))
    have t2 := RlN.twice hQ ih1
    have t3 := RlN.twice (closed hQ hP) ih2
    have j := RlN.joined hQ hP ih1 ih2 hu n1 n2
    have e2 : add (times (k / 2 ^ (256 - i)) P) (times (k / 2 ^ (256 - i)) P) = times (2 * (k / 2 ^ (256 - i))) P := (times_two hP _).symm
    have e3 : add (times (k / 2 ^ (256 - i)) P) (add (times (k / 2 ^ (256 - i)) P) P) = add (times (2 * (k / 2 ^ (256 - i))) P) P := by rw [← add_assoc hQ hQ hP, e2]
    have e1 : times (2 * (k / 2 ^ (256 - i)) + 1) P = add (times (2 * (k / 2 ^ (256 - i))) P) P := by
      rw [times_add hP, times_one hP]
    have e4 : add (add (times (k / 2 ^ (256 - i)) P) P) (add (times (k / 2 ^ (256 - i)) P) P) = add (times (2 * (k / 2 ^ (256 - i)) + 1) P) P := by
      rw [e1, ← e3, add_assoc hQ hP (closed hQ hP), add_comm hP (closed hQ hP), ← add_assoc hQ (closed hQ hP) hP]
    unfold lst
    rw [show 255 - i = 256 - (i + 1) by omega]
    by_cases hb : k / 2 ^ (256 - (i + 1)) % 2 = 0
    · rw [if_pos hb, show k / 2 ^ (256 - (i + 1)) = 2 * (k / 2 ^ (256 - i)) by omega]
      rw [e2] at t2
      rw [e3] at j
      exact ⟨t2, j⟩
    · rw [if_neg hb, show k / 2 ^ (256 - (i + 1)) = 2 * (k / 2 ^ (256 - i)) + 1 by omega]
      rw [e3, ← e1] at j
      rw [e4] at t3
      exact ⟨j, t3⟩
/-- Quotients of pairs that are in proportion. -/
theorem prop_quot {X W a b : Nat} (hn : ¬ (Z (X : Int) ∧ Z (W : Int))) (hm : ¬ (Z (a : Int) ∧ Z (b : Int))) (h : K ((X : Int) * b) ((W : Int) * a)) : F.mul X (F.inv W) = F.mul a (F.inv b) := by
  unfold K at h
  by_cases hW : Z (W : Int)
  · have hb : Z (b : Int) := by
      have : Z ((X : Int) * b) := (h.add (Z.mul (a : Int) hW)).of_eq (by grind)
      exact (Z.prime this).resolve_left fun hx => hn ⟨hx, hW⟩
    have e1 := F.inv_zero ((Z_nat W).1 hW)
    have e2 := F.inv_zero ((Z_nat b).1 hb)
    rw [e1, e2]
    unfold F.mul
    rw [Nat.mul_zero, Nat.mul_zero]
  · have hb : ¬ Z (b : Int) := fun hb => by
      have : Z ((W : Int) * a) := ((Z.mul (X : Int) hb).sub h).of_eq (by grind)
      exact hm ⟨(Z.prime this).resolve_left hW, hb⟩
    have k1 := K_mul X (F.inv W)
    have k2 := K_mul a (F.inv b)
    have iW := K_inv hW
    have ib := K_inv hb
    refine (K_eq (F.mul_lt _ _) (F.mul_lt _ _)).1 (k1.trans (K.trans ?_ k2.symm))
    refine cancel hW (cancel hb ?_)
    unfold K at *
    refine ((((Z.mul ((X : Int) * b) iW).add h).sub (Z.mul ((a : Int) * W) ib))).of_eq ?_
    grind
/-- With u = 0 nothing but 0 comes. -/
theorem tw_flat {q : Nat × Nat} (h : q.1 = 0 ∨ q.2 = 0) : (tw q).2 = 0 := by
  have k := (tw_K q).2
  have hz : Z ((((q.1 : Int) + q.2) * ((q.1 : Int) + q.2) - ((q.1 : Int) - q.2) * ((q.1 : Int) - q.2)) * (((q.1 : Int) + q.2) * ((q.1 : Int) + q.2) + 121665 * (((q.1 : Int) + q.2) * ((q.1 : Int) + q.2) - ((q.1 : Int) - q.2) * ((q.1 : Int) - q.2)))) := by
    refine Z.zero.of_eq ?_
    rcases h with h | h <;> rw [h] <;> grind
  have := k.z hz
  rw [Z_nat, Nat.mod_eq_of_lt (tw_lt q).2] at this
  exact this
theorem jn_flat (q r : Nat × Nat) : (jn 0 q r).2 = 0 := by
  show F.mul 0 _ = 0
  unfold F.mul
  rw [Nat.zero_mul]
  rfl
theorem lst_flat (k : Nat) : ∀ i, (lst 0 k i).1.2 = 0 ∧ ((lst 0 k i).2.1 = 0 ∨ (lst 0 k i).2.2 = 0)
  | 0 => ⟨rfl, .inl rfl⟩
  | i + 1 => by
    obtain ⟨h1, h2⟩ := lst_flat k i
    unfold lst
    split
    · exact ⟨tw_flat (.inr h1), .inr (jn_flat _ _)⟩
    · exact ⟨jn_flat _ _, .inr (tw_flat h2)⟩
theorem lad_flat (k : Nat) {u : Nat} (h : u % F.p = 0) : lad k u = 0 := by
  unfold lad
  rw [h, (lst_flat k 256).1, F.inv_zero (by decide)]
  unfold F.mul
  rw [Nat.mul_zero]
  rfl
theorem place_lt (P : Pt) : place P < F.p := F.mul_lt _ _
/-- Whose number is 0. -/
theorem place_zero {P : Pt} : place P = 0 ↔ Z (1 + (P.2 : Int)) ∨ Z (1 - (P.2 : Int)) := by
  have ka := K_add 1 P.2
  have ks := K_sub 1 P.2
  unfold place
  rw [F.mul_zero_iff]
  constructor
  · rintro (h | h)
    · exact .inl (ka.symm.z ((Z_nat _).2 h))
    · refine .inr (Classical.byContradiction fun hn => F.inv_ne (a := F.sub 1 P.2) (fun e => hn (ks.symm.z ((Z_nat _).2 e))) h)
  · rintro (h | h)
    · exact .inl ((Z_nat _).1 (ka.z h))
    · exact .inr (by rw [F.inv_zero ((Z_nat _).1 (ks.z h))]; rfl)
theorem place_small {P : Pt} (hP : On P) (h : place P = 0) : P.1 = 0 := by
  have hE := hP.2.2
  have hy : Z ((P.2 : Int) * P.2 - 1) := by
    rcases place_zero.1 h with h | h
    · exact (Z.mul ((P.2 : Int) - 1) h).of_eq (by grind)
    · exact (Z.neg (Z.mul ((P.2 : Int) + 1) h)).of_eq (by grind)
  have hx : Z ((P.1 : Int) * ((P.1 : Int) * (1 + d * ((P.2 : Int) * P.2)))) := by
    refine (hy.sub hE).of_eq ?_
    unfold E
    grind
  have h1 : Z (P.1 : Int) := by
    rcases Z.prime hx with h | h
    · exact h
    · exact (Z.prime h).resolve_right (den_y _)
  rw [Z_nat, Nat.mod_eq_of_lt hP.1] at h1
  exact h1
/-- MONTGOMERY. -/
theorem lad_place {P : Pt} (hP : On P) (k : Nat) (hk : k < 2 ^ 256) : lad k (place P) = place (times k P) := by
  have lp := place_lt P
  by_cases h0 : place P = 0
  · rw [lad_flat k (by rw [h0]; rfl)]
    have hx := place_small hP h0
    have all : ∀ n, times n P = zero ∨ times n P = P := fun n => by
      induction n with
      | zero => exact .inl rfl
      | succ n ih =>
        rcases ih with ih | ih
        · right; rw [times, ih, add_zero hP]
        · left
          have hn : neg P = P := by
            refine Prod.ext ?_ rfl
            show F.sub 0 P.1 = P.1
            rw [hx]
            exact neg_zero
          rw [times, ih]
          have := add_neg hP
          rwa [hn] at this
    rcases all k with e | e
    · rw [e]
      refine (place_zero.2 (.inr ?_)).symm
      show Z (1 - ((1 : Nat) : Int))
      exact Z.zero
    · rw [e, h0]
  · have nn := fun h => h0 (place_zero.2 h)
    have n2 : ¬ Z (1 + (P.2 : Int)) := fun h => nn (.inl h)
    have n1 : ¬ Z (1 - (P.2 : Int)) := fun h => nn (.inr h)
    have hu : K ((place P : Int) * (1 - P.2)) (1 + P.2) := (quot (K_sub 1 P.2) n1).trans (K_add 1 P.2)
    have h := (lst_rel hP hk hu n1 n2 256 (Nat.le_refl _)).1
    rw [show 256 - 256 = 0 from rfl, Nat.pow_zero, Nat.div_one] at h
    unfold lad
    rw [Nat.mod_eq_of_lt lp]
    have ka := K_add 1 (times k P).2
    have ks := K_sub 1 (times k P).2
    refine prop_quot (fun hh => h.nz (hh.1.add hh.2)) (fun hh => ?_) ?_
    · exact two_no (((ka.symm.z hh.1).add (ks.symm.z hh.2)).of_eq (by grind))
    · have he := h.eq
      refine ((K.refl _).mul ks).trans (K.trans ?_ ((K.refl _).mul ka).symm)
      unfold K at *
      exact he.of_eq (by grind)
end Go.Proofs.Ytpnfopakkaoibaa.Cv
