/- Texts that were joined: LTw, LSw. -/
import Derived.Test.YtpnfopakkaoibaaQCAssToLLad
import Derived.Test.YtpnfopakkaoibaaQCtMathToCtL
/- The ladder on the twist; each number is one of the curve's or one of the twist's: whoever comes first, it is the same. Mathematics alone. -/
namespace Go.Proofs.Ytpnfopakkaoibaa.Ct
open Go.Proofs.Ytpnfopakkaoibaa
theorem Rl.flip {X W y : Int} (h : Rl X W y) : Rl (-X) (-W) y := by
  constructor
  · intro hh
    exact h.nz ((Z.neg hh).of_eq (by grind))
  · have he := h.eq
    unfold K at *
    exact (Z.neg he).of_eq (by grind)
abbrev RlT (q : Nat × Nat) (P : Pt) : Prop := Rl (-(q.1 : Int)) q.2 P.2
theorem RlT.twice {q : Nat × Nat} {Q : Pt} (hQ : On Q) (h : RlT q Q) : RlT (Cv.tw q) (add Q Q) := by
  have h1 := (Rl.twice h hQ.2.2 (add_sum hQ hQ).y).flip
  have k1 : Z (((Cv.tw q).1 : Int) - _) := (Cv.tw_K q).1
  have k2 : Z (((Cv.tw q).2 : Int) - _) := (Cv.tw_K q).2
  refine h1.congr ?_ ?_
  · show Z _
    exact (Z.neg k1).of_eq (by grind)
  · show Z _
    exact k2.of_eq (by grind)
theorem diff {Q P : Pt} (hQ : On Q) (hP : On P) : K ((P.2 : Int) * (1 + d * Q.1 * (add Q P).1 * Q.2 * (add Q P).2)) ((Q.2 : Int) * (add Q P).2 - Q.1 * (add Q P).1) := by
  have hN := neg_on hQ
  have hR := closed hQ hP
  have e : add (neg Q) (add Q P) = P := by rw [← add_assoc hN hQ hP, add_comm hN hQ, add_neg hQ, add_comm zero_on hP, add_zero hP]
  have hs := (add_sum hN hR).y
  rw [e] at hs
  have kn : K ((neg Q).1 : Int) (-(Q.1 : Int)) := by
    have := K_sub 0 Q.1
    exact (this : Z _).of_eq (by show ((F.sub 0 Q.1 : Nat) : Int) - -(Q.1 : Int) = _; grind)
  unfold K at *
  refine ((hs.add (Z.mul ((P.2 : Int) * d * (add Q P).1 * Q.2 * (add Q P).2) kn)).add (Z.mul ((add Q P).1 : Int) kn)).of_eq ?_
  show _ = ((P.2 : Int) * (1 - d * (neg Q).1 * (add Q P).1 * Q.2 * (add Q P).2) - ((Q.2 : Int) * (add Q P).2 + (neg Q).1 * (add Q P).1)) + _ + _
  grind
theorem RlT.joined {u : Nat} {q r : Nat × Nat} {Q P : Pt} (hQ : On Q) (hP : On P) (h : RlT q Q) (h' : RlT r (add Q P)) (hu : K (-(u : Int) * (1 - P.2)) (1 + P.2)) (n1 : ¬ Z (1 - (P.2 : Int))) (n2 : ¬ Z (1 + (P.2 : Int))) : RlT (Cv.jn u q r) (add Q (add Q P)) := by
  have h1 := (Rl.joined h h' hQ.2.2 (closed hQ hP).2.2 (add_sum hQ (closed hQ hP)).y (diff hQ hP) hu n1 n2).flip
  have k1 : Z (((Cv.jn u q r).1 : Int) - _) := (Cv.jn_K u q r).1
  have k2 : Z (((Cv.jn u q r).2 : Int) - _) := (Cv.jn_K u q r).2
  refine h1.congr ?_ ?_
  · show Z _
    exact (Z.neg k1).of_eq (by grind)
  · show Z _
    exact k2.of_eq (by grind)
theorem lst_rel {P : Pt} (hP : On P) {u k : Nat} (hk : k < 2 ^ 256) (hu : K (-(u : Int) * (1 - P.2)) (1 + P.2)) (n1 : ¬ Z (1 - (P.2 : Int))) (n2 : ¬ Z (1 + (P.2 : Int))) :
    ∀ i, i ≤ 256 → RlT (Cv.lst u k i).1 (times (k / 2 ^ (256 - i)) P) ∧ RlT (Cv.lst u k i).2 (add (times (k / 2 ^ (256 - i)) P) P)
  | 0, _ => by
    have h0 : k / 2 ^ (256 - 0) = 0 := Nat.div_eq_of_lt hk
    rw [h0]
    refine ⟨⟨?_, ?_⟩, ?_⟩
    · show ¬ Z (-((1 : Nat) : Int) + ((0 : Nat) : Int))
      exact fun hh => one_no ((Z.neg hh).of_eq (by grind))
    · show K (-((1 : Nat) : Int) - ((0 : Nat) : Int)) ((-((1 : Nat) : Int) + ((0 : Nat) : Int)) * ((1 : Nat) : Int))
      exact K.refl _
    · rw [show times 0 P = zero from rfl, add_comm zero_on hP, add_zero hP]
      unfold K at hu
      constructor
      · intro h
        have h' : Z (-(u : Int) + 1) := h
        exact two_no (((Z.mul (1 - (P.2 : Int)) h').sub hu).of_eq (by grind))
      · show Z ((-(u : Int) - ((1 : Nat) : Int)) - (-(u : Int) + ((1 : Nat) : Int)) * (P.2 : Int))
        exact hu.of_eq (by grind)
  | i + 1, hi => by
    obtain ⟨ih1, ih2⟩ := lst_rel hP hk hu n1 n2 i (by omega)
    have hm : k / 2 ^ (256 - i) = k / 2 ^ (256 - (i + 1)) / 2 := by
      rw [show 256 - i = 256 - (i + 1) + 1 by omega, Nat.pow_succ, Nat.div_div_eq_div_mul]
    have hQ := times_on hP (k / 2 ^ (256 - i))
    have t2 := RlT.twice hQ ih1
    have t3 := RlT.twice (closed hQ hP) ih2
    have j := RlT.joined hQ hP ih1 ih2 hu n1 n2
    have e2 : add (times (k / 2 ^ (256 - i)) P) (times (k / 2 ^ (256 - i)) P) = times (2 * (k / 2 ^ (256 - i))) P := (times_two hP _).symm
    have e3 : add (times (k / 2 ^ (256 - i)) P) (add (times (k / 2 ^ (256 - i)) P) P) = add (times (2 * (k / 2 ^ (256 - i))) P) P := by rw [← add_assoc hQ hQ hP, e2]
    have e1 : times (2 * (k / 2 ^ (256 - i)) + 1) P = add (times (2 * (k / 2 ^ (256 - i))) P) P := by
      rw [times_add hP, times_one hP]
    have e4 : add (add (times (k / 2 ^ (256 - i)) P) P) (add (times (k / 2 ^ (256 - i)) P) P) = add (times (2 * (k / 2 ^ (256 - i)) + 1) P) P := by
      rw [e1, ← e3, add_assoc hQ hP (closed hQ hP), add_comm hP (closed hQ hP), ← add_assoc hQ (closed hQ hP) hP]
    unfold Cv.lst
    rw [show 255 - i = 256 - (i + 1) by omega]
    by_cases hb : k / 2 ^ (256 - (i + 1)) % 2 = 0
    · rw [if_pos hb, show k / 2 ^ (256 - (i + 1)) = 2 * (k / 2 ^ (256 - i)) by omega]
      rw [e2] at t2
      rw [e3] at j
      exact ⟨t2, j⟩
    · rw [if_neg hb, show k / 2 ^ (256 - (i + 1)) = 2 * (k / 2 ^ (256 - i)) + 1 by omega]
      rw [e3, ← e1] at j
      rw [e4] at t3
      exact ⟨j, t3⟩
/-- The number of a point of the twist. -/
def place (P : Pt) : Nat := F.mul (F.sub 0 (F.add 1 P.2)) (F.inv (F.sub 1 P.2))
theorem place_lt (P : Pt) : place P < F.p := F.mul_lt _ _
theorem K_top (P : Pt) : K ((F.sub 0 (F.add 1 P.2) : Nat) : Int) (-(1 + (P.2 : Int))) := by
  have h := (K_sub 0 (F.add 1 P.2)).trans ((K.refl ((0 : Nat) : Int)).sub (K_add 1 P.2))
  exact (h : Z _).of_eq (by grind)
theorem place_zero {P : Pt} : place P = 0 ↔ Z (1 + (P.2 : Int)) ∨ Z (1 - (P.2 : Int)) := by
  have ka := K_top P
  have ks := K_sub 1 P.2
  unfold place
  rw [F.mul_zero_iff]
  constructor
  · rintro (h | h)
    · exact .inl ((Z.neg (ka.symm.z ((Z_nat _).2 h))).of_eq (by grind))
    · refine .inr (Classical.byContradiction fun hn => F.inv_ne (a := F.sub 1 P.2) (fun e => hn (ks.symm.z ((Z_nat _).2 e))) h)
  · rintro (h | h)
    · exact .inl ((Z_nat _).1 (ka.z (Z.neg h)))
    · exact .inr (by rw [F.inv_zero ((Z_nat _).1 (ks.z h))]; rfl)
theorem place_of {P : Pt} {v : Nat} (hv : v < F.p) (n1 : ¬ Z (1 - (P.2 : Int))) (h : K ((v : Int) * (1 - P.2)) (-(1 + (P.2 : Int)))) : place P = v := by
  refine (K_eq (place_lt P) hv).1 (cancel n1 ?_)
  exact ((quot (K_sub 1 P.2) n1).trans (K_top P)).trans h.symm
theorem place_small {P : Pt} (hP : On P) (h : place P = 0) : P.1 = 0 := by
  have hE := hP.2.2
  have hy : Z ((P.2 : Int) * P.2 - 1) := by
    rcases place_zero.1 h with h | h
    · exact (Z.mul ((P.2 : Int) - 1) h).of_eq (by grind)
    · exact (Z.neg (Z.mul ((P.2 : Int) + 1) h)).of_eq (by grind)
  have hx : Z ((P.1 : Int) * ((P.1 : Int) * (1 + d * ((P.2 : Int) * P.2)))) := by
    refine (hy.sub hE).of_eq ?_
    unfold E
    grind
  have h1 : Z (P.1 : Int) := by
    rcases Z.prime hx with h | h
    · exact h
    · exact (Z.prime h).resolve_right (den_y _)
  rw [Z_nat, Nat.mod_eq_of_lt hP.1] at h1
  exact h1
theorem lad_place {P : Pt} (hP : On P) (k : Nat) (hk : k < 2 ^ 256) : Cv.lad k (place P) = place (times k P) := by
  have lp := place_lt P
  by_cases h0 : place P = 0
  · rw [Cv.lad_flat k (by rw [h0]; rfl)]
    have hx := place_small hP h0
    have all : ∀ n, times n P = zero ∨ times n P = P := fun n => by
      induction n with
      | zero => exact .inl rfl
      | succ n ih =>
        rcases ih with ih | ih
        · right; rw [times, ih, add_zero hP]
        · left
          have hn : neg P = P := by
            refine Prod.ext ?_ rfl
            show F.sub 0 P.1 = P.1
            rw [hx]
            exact F.sub_self 0
          rw [times, ih]
          have := add_neg hP
          rwa [hn] at this
    rcases all k with e | e
    · rw [e]
      refine (place_zero.2 (.inr ?_)).symm
      show Z (1 - ((1 : Nat) : Int))
      exact Z.zero
    · rw [e, h0]
  · have nn := fun h => h0 (place_zero.2 h)
    have n2 : ¬ Z (1 + (P.2 : Int)) := fun h => nn (.inl h)
    have n1 : ¬ Z (1 - (P.2 : Int)) := fun h => nn (.inr h)
    have hu : K (-(place P : Int) * (1 - P.2)) (1 + P.2) := by
      have h := (quot (K_sub 1 P.2) n1).trans (K_top P)
      exact (Z.neg h : Z _).of_eq (by show _ = -(((place P : Nat) : Int) * _ - _); grind)
    have h := (lst_rel hP hk hu n1 n2 256 (Nat.le_refl _)).1
    rw [show 256 - 256 = 0 from rfl, Nat.pow_zero, Nat.div_one] at h
    unfold Cv.lad
    rw [Nat.mod_eq_of_lt lp]
    have ka := K_top (times k P)
    have ks := K_sub 1 (times k P).2
    refine Cv.prop_quot (fun hh => h.nz ((Z.neg (show Z _ from hh.1)).add (show Z _ from hh.2))) (fun hh => ?_) ?_
    · exact two_no (((ks.symm.z (show Z _ from hh.2)).sub (ka.symm.z (show Z _ from hh.1))).of_eq (by grind))
    · have he := h.eq
      refine Cv.K.trans (Cv.K.mul (Cv.K.refl _) (show Cv.K _ _ from ks)) (Cv.K.trans ?_ (Cv.K.mul (Cv.K.refl _) (show Cv.K _ _ from ka)).symm)
      show Z _
      unfold K at he
      exact (Z.neg he).of_eq (by grind)
end Go.Proofs.Ytpnfopakkaoibaa.Ct

/- Each number below P is a point's, of the curve or of its twist; the ladder, whoever comes first. Mathematics alone. -/
namespace Go.Proofs.Ytpnfopakkaoibaa.Cv
open Go.Proofs.Ytpnfopakkaoibaa
theorem place_of {P : Pt} {v : Nat} (hv : v < F.p) (n1 : ¬ Z (1 - (P.2 : Int))) (h : K ((v : Int) * (1 - P.2)) (1 + (P.2 : Int))) : place P = v := by
  refine (K_eq (place_lt P) hv).1 (cancel n1 ?_)
  exact ((quot (K_sub 1 P.2) n1).trans (K_add 1 P.2)).trans h.symm
theorem dd_one : Z ((d : Int) * (Ct.d : Int) - 1) := by
  have h := K_mul d Ct.d
  rw [show F.mul d Ct.d = 1 by decide +kernel] at h
  exact (Z.neg h : Z _).of_eq (by show _ = -(((1 : Nat) : Int) - _); grind)
theorem chi_nd : F.chi (F.p - d) = F.p - 1 := (F.chi_pw (F.p - d)).trans (by decide +kernel)
/-- What is no square on the curve is one on the twist. -/
theorem twist_ok {z x : Nat} (hz : F.ok x = false) (h : F.mul (F.p - d) x = z) : F.ok z = true := by
  have h1 : F.chi x = F.p - 1 := by
    unfold F.ok at hz
    simpa using hz
  unfold F.ok
  rw [← h, F.chi_mul, chi_nd, h1]
  decide +kernel
theorem each (v : Nat) (hv : v < F.p) : (∃ P, On P ∧ place P = v) ∨ ∃ P, Ct.On P ∧ Ct.place P = v := by
  by_cases h0 : v = 0
  · refine .inl ⟨zero, zero_on, ?_⟩
    rw [h0]
    refine place_zero.2 (.inr ?_)
    show Z (1 - ((1 : Nat) : Int))
    exact Z.zero
  by_cases h1 : Z ((v : Int) + 1)
  · refine .inr ⟨(F.im, 0), ⟨F.pow_lt _ _, F.p_pos, ?_⟩, Ct.place_of hv ?_ ?_⟩
    · show Ct.Z (((0 : Nat) : Int) ^ 2 - (F.im : Int) ^ 2 - 1 - Ct.d * (F.im : Int) ^ 2 * ((0 : Nat) : Int) ^ 2)
      exact (Ct.Z.neg Ct.im_z).of_eq (by grind)
    · show ¬ Ct.Z (1 - ((0 : Nat) : Int))
      exact fun h => Ct.one_no (h.of_eq (by grind))
    · show Ct.Z ((v : Int) * (1 - ((0 : Nat) : Int)) - -(1 + ((0 : Nat) : Int)))
      exact (show Ct.Z _ from h1).of_eq (by grind)
  obtain ⟨y, hy, hk⟩ : ∃ y : Nat, y < F.p ∧ K ((y : Int) * ((v : Int) + 1)) ((v : Int) - 1) := ⟨F.mul (F.sub v 1) (F.inv (F.add v 1)), F.mul_lt _ _, (quot (K_add v 1) h1).trans (K_sub v 1)⟩
  unfold K at hk
  have n1 : ¬ Z (1 - (y : Int)) := fun h => two_no (((Z.mul ((v : Int) + 1) h).add hk).of_eq (by grind))
  have hp : Z ((v : Int) * (1 - y) - (1 + (y : Int))) := (Z.neg hk).of_eq (by grind)
  by_cases hok : F.ok (xx y) = true
  · refine .inl ⟨(F.root (xx y), y), (on_iff (F.root_lt _) hy).2 ?_, place_of hv n1 hp⟩
    rw [F.root_sq hok, Nat.mod_eq_of_lt (xx_lt y)]
  · have hno : F.ok (xx y) = false := Bool.eq_false_iff.2 hok
    have hx := (xx_of (x := 0) (y := y)).1
    unfold K at hx
    have hD := den_y (y : Int)
    have hy0 : ¬ Z (y : Int) := fun h => by
      have hm : Z ((xx y : Int) + 1) := ((hx.sub (Z.mul ((xx y : Int) * d * y) h)).add (Z.mul (y : Int) h)).of_eq (by grind)
      have hs : F.mul F.im F.im = xx y % F.p := by
        have k := K_mul F.im F.im
        have hi := im_z
        unfold K at k
        have : Z ((F.mul F.im F.im : Nat) - ((xx y : Nat) : Int)) := ((k.add hi).sub hm).of_eq (by grind)
        have := Z_eq.1 this
        rwa [Nat.mod_eq_of_lt (F.mul_lt _ _)] at this
      exact hok ((F.ok_iff _).2 ⟨_, hs⟩)
    have iy := K_inv hy0
    unfold K at iy
    obtain ⟨Y, hY⟩ : ∃ Y, Y = F.inv y := ⟨_, rfl⟩
    have lY : Y < F.p := hY ▸ F.inv_lt y
    rw [← hY] at iy
    obtain ⟨z, hz⟩ : ∃ z, z = F.mul (F.p - d) (xx y) := ⟨_, rfl⟩
    have okz : F.ok z = true := twist_ok hno hz.symm
    have kz : Z ((z : Int) + d * (xx y : Int)) := by
      have k := K_mul (F.p - d) (xx y)
      rw [← hz] at k
      unfold K at k
      have hl := d_lt
      have e : ((F.p - d : Nat) : Int) = (F.p : Int) - d := by omega
      rw [e] at k
      have pz : Z ((F.p : Int) * (xx y : Int)) := ⟨_, rfl⟩
      exact (k.add pz).of_eq (by grind)
    have zE : Z ((z : Int) * (1 + Ct.d * ((Y : Int) * Y)) - ((Y : Int) * Y - 1)) := by
      -- times y*y: z*(y*y + d') - (1 - y*y)
      have w1 : Z ((z : Int) * (1 + d * ((y : Int) * y)) - d * (1 - (y : Int) * y)) := ((Z.mul (1 + d * ((y : Int) * y)) kz).sub (Z.mul d hx)).of_eq (by grind)
      have hdd := dd_one
      have w2 : Z ((z : Int) * (Ct.d + (y : Int) * y) - (1 - (y : Int) * y)) := by
        refine (((Z.mul (Ct.d : Int) w1).sub (Z.mul ((z : Int) * ((y : Int) * y)) hdd)).add (Z.mul (1 - (y : Int) * y) hdd)).of_eq ?_
        grind
      have yy : Z ((y : Int) * y * ((Y : Int) * Y) - 1) := (Z.mul ((y : Int) * Y + 1) iy).of_eq (by grind)
      have w3 : Z ((y : Int) * y * ((z : Int) * (1 + Ct.d * ((Y : Int) * Y)) - ((Y : Int) * Y - 1))) := by
        refine ((w2.add (Z.mul ((z : Int) * Ct.d) yy)).sub yy).of_eq ?_
        grind
      rcases Z.prime w3 with h | h
      · exact absurd ((Z.prime h).elim id id) hy0
      · exact h
    refine .inr ⟨(F.root z, Y), ⟨F.root_lt _, lY, ?_⟩, Ct.place_of hv ?_ ?_⟩
    · have kr : Z ((F.root z : Int) * (F.root z : Int) - (z : Int)) := by
        have k := K_mul (F.root z) (F.root z)
        have hl : z < F.p := hz ▸ F.mul_lt _ _
        rw [F.root_sq okz, Nat.mod_eq_of_lt hl] at k
        exact (Z.neg k : Z _).of_eq (by show _ = -(((z : Nat) : Int) - _); grind)
      show Z (Ct.E _ _)
      refine ((Z.neg zE).sub (Z.mul (1 + Ct.d * ((Y : Int) * Y)) kr)).of_eq ?_
      unfold Ct.E
      grind
    · intro h
      have h' : Z (1 - (Y : Int)) := h
      exact n1 (((Z.neg (Z.mul (y : Int) h')).sub iy).of_eq (by grind))
    · show Z ((v : Int) * (1 - (Y : Int)) - -(1 + (Y : Int)))
      have w : Z ((y : Int) * ((v : Int) * (1 - (Y : Int)) + (1 + (Y : Int)))) := by
        refine ((Z.neg hp).sub (Z.mul ((v : Int) - 1) iy)).of_eq ?_
        grind
      exact ((Z.prime w).resolve_left hy0).of_eq (by grind)
end Go.Proofs.Ytpnfopakkaoibaa.Cv
