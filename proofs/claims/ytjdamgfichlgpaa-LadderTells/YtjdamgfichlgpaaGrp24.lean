/- Texts that were joined: LTw, LSw, LadC. -/
import Derived.Test.YtjdamgfichlgpaaGrp22
import Derived.Test.YtjdamgfichlgpaaGrp23
import Derived.Test.YtjdamgfichlgpaaGrp14
import Derived.Test.YtjdamgfichlgpaaFldC
/- The ladder on the twist; each number is one of the curve's or one of the twist's: whoever comes first, it is the same. Mathematics alone. -/
namespace Go.Proofs.Ytjdamgfichlgpaa.Ct
open Go.Proofs.Ytjdamgfichlgpaa
theorem Rl.flip {X W y : Int} (h : Rl X W y) : Rl (-X) (-W) y := by
  constructor
  · intro hh
    exact h.nz ((Z.neg hh).of_eq (by grind))
  · have he := h.eq
    unfold K at *
    exact (Z.neg he).of_eq (by grind)
abbrev RlT (q : Nat × Nat) (P : Pt) : Prop := Rl (-(q.1 : Int)) q.2 P.2
theorem RlT.twice {q : Nat × Nat} {Q : Pt} (hQ : On Q) (h : RlT q Q) : RlT (Cv.tw q) (add Q Q) := by
  have h1 := (Rl.twice h hQ.2.2 (add_sum hQ hQ).y).flip
  have k1 : Z (((Cv.tw q).1 : Int) - _) := (Cv.tw_K q).1
  have k2 : Z (((Cv.tw q).2 : Int) - _) := (Cv.tw_K q).2
  refine h1.congr ?_ ?_
  · show Z _
    exact (Z.neg k1).of_eq (by grind)
  · show Z _
    exact k2.of_eq (by grind)
theorem diff {Q P : Pt} (hQ : On Q) (hP : On P) : K ((P.2 : Int) * (1 + d * Q.1 * (add Q P).1 * Q.2 * (add Q P).2)) ((Q.2 : Int) * (add Q P).2 - Q.1 * (add Q P).1) := by
  have hN := neg_on hQ
  have hR := closed hQ hP
  have e : add (neg Q) (add Q P) = P := by rw [← add_assoc hN hQ hP, add_comm hN hQ, add_neg hQ, add_comm zero_on hP, add_zero hP]
  have hs := (add_sum hN hR).y
  rw [e] at hs
  have kn : K ((neg Q).1 : Int) (-(Q.1 : Int)) := by
    have := K_sub 0 Q.1
    exact (this : Z _).of_eq (by show ((F.sub 0 Q.1 : Nat) : Int) - -(Q.1 : Int) = _; grind)
  unfold K at *
  refine ((hs.add (Z.mul ((P.2 : Int) * d * (add Q P).1 * Q.2 * (add Q P).2) kn)).add (Z.mul ((add Q P).1 : Int) kn)).of_eq ?_
  show _ = ((P.2 : Int) * (1 - d * (neg Q).1 * (add Q P).1 * Q.2 * (add Q P).2) - ((Q.2 : Int) * (add Q P).2 + (neg Q).1 * (add Q P).1)) + _ + _
  grind
theorem RlT.joined {u : Nat} {q r : Nat × Nat} {Q P : Pt} (hQ : On Q) (hP : On P) (h : RlT q Q) (h' : RlT r (add Q P)) (hu : K (-(u : Int) * (1 - P.2)) (1 + P.2)) (n1 : ¬ Z (1 - (P.2 : Int))) (n2 : ¬ Z (1 + (P.2 : Int))) : RlT (Cv.jn u q r) (add Q (add Q P)) := by
  have h1 := (Rl.joined h h' hQ.2.2 (closed hQ hP).2.2 (add_sum hQ (closed hQ hP)).y (diff hQ hP) hu n1 n2).flip
  have k1 : Z (((Cv.jn u q r).1 : Int) - _) := (Cv.jn_K u q r).1
  have k2 : Z (((Cv.jn u q r).2 : Int) - _) := (Cv.jn_K u q r).2
  refine h1.congr ?_ ?_
  · show Z _
    exact (Z.neg k1).of_eq (by grind)
  · show Z _
    exact k2.of_eq (by grind)
theorem lst_rel {P : Pt} (hP : On P) {u k : Nat} (hk : k < 2 ^ 256) (hu : K (-(u : Int) * (1 - P.2)) (1 + P.2)) (n1 : ¬ Z (1 - (P.2 : Int))) (n2 : ¬ Z (1 + (P.2 : Int))) :
    ∀ i, i ≤ 256 → RlT (Cv.lst u k i).1 (times (k / 2 ^ (256 - i)) P) ∧ RlT (Cv.lst u k i).2 (add (times (k / 2 ^ (256 - i)) P) P)
  | 0, _ => by
    have h0 : k / 2 ^ (256 - 0) = 0 := Nat.div_eq_of_lt hk
    rw [h0]
    refine ⟨⟨?_, ?_⟩, ?_⟩
    · show ¬ Z (-((1 : Nat) : Int) + ((0 : Nat) : Int))
      exact fun hh => one_no ((Z.neg hh).of_eq (by grind))
    · show K (-((1 : Nat) : Int) - ((0 : Nat) : Int)) ((-((1 : Nat) : Int) + ((0 : Nat) : Int)) * ((1 : Nat) : Int))
      exact K.refl _
    · rw [show times 0 P = zero from rfl, add_comm zero_on hP, add_zero hP]
      unfold K at hu
      constructor
      · intro h
        have h' : Z (-(u : Int) + 1) := h
        exact two_no (((Z.mul (1 - (P.2 : Int)) h').sub hu).of_eq (by grind))
      · show Z ((-(u : Int) - ((1 : Nat) : Int)) - (-(u : Int) + ((1 : Nat) : Int)) * (P.2 : Int))
        exact hu.of_eq (by grind)
  | i + 1, hi => by
    obtain ⟨ih1, ih2⟩ := lst_rel hP hk hu n1 n2 i (by omega)
    have hm : k / 2 ^ (256 - i) = k / 2 ^ (256 - (i + 1)) / 2 := by
      rw [show 256 - i = 256 - (i + 1) + 1 by omega, Nat.pow_succ, Nat.div_div_eq_div_mul]
    have hQ := times_on hP (k / 2 ^ (256 - i))
    have t2 := RlT.twice hQ ih1
    have t3 := RlT.twice (closed hQ hP) ih2
    have j := RlT.joined hQ hP ih1 ih2 hu n1 n2
    have e2 : add (times (k / 2 ^ (256 - i)) P) (times (k / 2 ^ (256 - i)) P) = times (2 * (k / 2 ^ (256 - i))) P := (times_two hP _).symm
    have e3 : add (times (k / 2 ^ (256 - i)) P) (add (times (k / 2 ^ (256 - i)) P) P) = add (times (2 * (k / 2 ^ (256 - i))) P) P := by rw [← add_assoc hQ hQ hP, e2]
    have e1 : times (2 * (k / 2 ^ (256 - i)) + 1) P = add (times (2 * (k / 2 ^ (256 - i))) P) P := by
      rw [times_add hP, times_one hP]
    have e4 : add (add (times (k / 2 ^ (256 - i)) P) P) (add (times (k / 2 ^ (256 - i)) P) P) = add (times (2 * (k / 2 ^ (256 - i)) + 1) P) P := by
      rw [e1, ← e3, add_assoc hQ hP (closed hQ hP), add_comm hP (closed hQ hP), ← add_assoc hQ (closed hQ hP) hP]
    unfold Cv.lst
    rw [show 255 - i = 256 - (i + 1) by omega]
    by_cases hb : k / 2 ^ (256 - (i + 1)) % 2 = 0
    · rw [if_pos hb, show k / 2 ^ (256 - (i + 1)) = 2 * (k / 2 ^ (256 - i)) by omega]
      rw [e2] at t2
      rw [e3] at j
      exact ⟨t2, j⟩
    · rw [if_neg hb, show k / 2 ^ (256 - (i + 1)) = 2 * (k / 2 ^ (256 - i)) + 1 by omega]
      rw [e3, ← e1] at j
      rw [e4] at t3
      exact ⟨j, t3⟩
/-- The number of a point of the twist. -/
def place (P : Pt) : Nat := F.mul (F.sub 0 (F.add 1 P.2)) (F.inv (F.sub 1 P.2))
theorem place_lt (P : Pt) : place P < F.p := F.mul_lt _ _
theorem K_top (P : Pt) : K ((F.sub 0 (F.add 1 P.2) : Nat) : Int) (-(1 + (P.2 : Int))) := by
  have h := (K_sub 0 (F.add 1 P.2)).trans ((K.refl ((0 : Nat) : Int)).sub (K_add 1 P.2))
  exact (h : Z _).of_eq (by grind)
theorem place_zero {P : Pt} : place P = 0 ↔ Z (1 + (P.2 : Int)) ∨ Z (1 - (P.2 : Int)) := by
  have ka := K_top P
  have ks := K_sub 1 P.2
  unfold place
  rw [F.mul_zero_iff]
  constructor
  · rintro (h | h)
    · exact .inl ((Z.neg (ka.symm.z ((Z_nat _).2 h))).of_eq (by grind))
    · refine .inr (Classical.byContradiction fun hn => F.inv_ne (a := F.sub 1 P.2) (fun e => hn (ks.symm.z ((Z_nat _).2 e))) h)
  · rintro (h | h)
    · exact .inl ((Z_nat _).1 (ka.z (Z.neg h)))
    · exact .inr (by rw [F.inv_zero ((Z_nat _).1 (ks.z h))]; rfl)
theorem place_of {P : Pt} {v : Nat} (hv : v < F.p) (n1 : ¬ Z (1 - (P.2 : Int))) (h : K ((v : Int) * (1 - P.2)) (-(1 + (P.2 : Int)))) : place P = v := by
  refine (K_eq (place_lt P) hv).1 (cancel n1 ?_)
  exact ((quot (K_sub 1 P.2) n1).trans (K_top P)).trans h.symm
theorem place_small {P : Pt} (hP : On P) (h : place P = 0) : P.1 = 0 := by
  have hE := hP.2.2
  have hy : Z ((P.2 : Int) * P.2 - 1) := by
    rcases place_zero.1 h with h | h
    · exact (Z.mul ((P.2 : Int) - 1) h).of_eq (by grind)
    · exact (Z.neg (Z.mul ((P.2 : Int) + 1) h)).of_eq (by grind)
  have hx : Z ((P.1 : Int) * ((P.1 : Int) * (1 + d * ((P.2 : Int) * P.2)))) := by
    refine (hy.sub hE).of_eq ?_
    unfold E
    grind
  have h1 : Z (P.1 : Int) := by
    rcases Z.prime hx with h | h
    · exact h
    · exact (Z.prime h).resolve_right (den_y _)
  rw [Z_nat, Nat.mod_eq_of_lt hP.1] at h1
  exact h1
theorem lad_place {P : Pt} (hP : On P) (k : Nat) (hk : k < 2 ^ 256) : Cv.lad k (place P) = place (times k P) := by
  have lp := place_lt P
  by_cases h0 : place P = 0
  · rw [Cv.lad_flat k (by rw [h0]; rfl)]
    have hx := place_small hP h0
    have all : ∀ n, times n P = zero ∨ times n P = P := fun n => by
      induction n with
      | zero => exact .inl rfl
      | succ n ih =>
        rcases ih with ih | ih
        · right; rw [times, ih, add_zero hP]
        · left
          have hn : neg P = P := by
            refine Prod.ext ?_ rfl
            show F.sub 0 P.1 = P.1
            rw [hx]
            exact F.sub_self 0
          rw [times, ih]
          have := add_neg hP
          rwa [hn] at this
    rcases all k with e | e
    · rw [e]
      refine (place_zero.2 (.inr ?_)).symm
      show Z (1 - ((1 : Nat) : Int))
      exact Z.zero
    · rw [e, h0]
  · have nn := fun h => h0 (place_zero.2 h)
    have n2 : ¬ Z (1 + (P.2 : Int)) := fun h => nn (.inl h)
    have n1 : ¬ Z (1 - (P.2 : Int)) := fun h => nn (.inr h)
    have hu : K (-(place P : Int) * (1 - P.2)) (1 + P.2) := by
      have h := (quot (K_sub 1 P.2) n1).trans (K_top P)
      exact (Z.neg h : Z _).of_eq (by show _ = -(((place P : Nat) : Int) * _ - _); grind)
    have h := (lst_rel hP hk hu n1 n2 256 (Nat.le_refl _)).1
    rw [show 256 - 256 = 0 from rfl, Nat.pow_zero, Nat.div_one] at h
    unfold Cv.lad
    rw [Nat.mod_eq_of_lt lp]
    have ka := K_top (times k P)
    have ks := K_sub 1 (times k P).2
    refine Cv.prop_quot (fun hh => h.nz ((Z.neg (show Z _ from hh.1)).add (show Z _ from hh.2))) (fun hh => ?_) ?_
    · exact two_no (((ks.symm.z (show Z _ from hh.2)).sub (ka.symm.z (show Z _ from hh.1))).of_eq (by grind))
    · have he := h.eq
      refine Cv.K.trans (Cv.K.mul (Cv.K.refl _) (show Cv.K _ _ from ks)) (Cv.K.trans ?_ (Cv.K.mul (Cv.K.refl _) (show Cv.K _ _ from ka)).symm)
      show Z _
      unfold K at he
      exact (Z.neg he).of_eq (by grind)
end Go.Proofs.Ytjdamgfichlgpaa.Ct

/- Each number below P is a point's, of the curve or of its twist; the ladder, whoever comes first. Mathematics alone. -/
namespace Go.Proofs.Ytjdamgfichlgpaa.Cv
open Go.Proofs.Ytjdamgfichlgpaa
theorem place_of {P : Pt} {v : Nat} (hv : v < F.p) (n1 : ¬ Z (1 - (P.2 : Int))) (h : K ((v : Int) * (1 - P.2)) (1 + (P.2 : Int))) : place P = v := by
  refine (K_eq (place_lt P) hv).1 (cancel n1 ?_)
  exact ((quot (K_sub 1 P.2) n1).trans (K_add 1 P.2)).trans h.symm
theorem dd_one : Z ((d : Int) * (Ct.d : Int) - 1) := by
  have h := K_mul d Ct.d
  rw [show F.mul d Ct.d = 1 by decide +kernel] at h
  exact (Z.neg h : Z _).of_eq (by show _ = -(((1 : Nat) : Int) - _); grind)
theorem chi_nd : F.chi (F.p - d) = F.p - 1 := (F.chi_pw (F.p - d)).trans (by decide +kernel)
/-- What is no square on the curve is one on the twist. -/
theorem twist_ok {z x : Nat} (hz : F.ok x = false) (h : F.mul (F.p - d) x = z) : F.ok z = true := by
  have h1 : F.chi x = F.p - 1 := by
    unfold F.ok at hz
    simpa using hz
  unfold F.ok
  rw [← h, F.chi_mul, chi_nd, h1]
  decide +kernel
theorem each (v : Nat) (hv : v < F.p) : (∃ P, On P ∧ place P = v) ∨ ∃ P, Ct.On P ∧ Ct.place P = v := by
  by_cases h0 : v = 0
  · refine .inl ⟨zero, zero_on, ?_⟩
    rw [h0]
    refine place_zero.2 (.inr ?_)
    show Z (1 - ((1 : Nat) : Int))
    exact Z.zero
  by_cases h1 : Z ((v : Int) + 1)
  · refine .inr ⟨(F.im, 0), ⟨F.pow_lt _ _, F.p_pos, ?_⟩, Ct.place_of hv ?_ ?_⟩
    · show Ct.Z (((0 : Nat) : Int) ^ 2 - (F.im : Int) ^ 2 - 1 - Ct.d * (F.im : Int) ^ 2 * ((0 : Nat) : Int) ^ 2)
      exact (Ct.Z.neg Ct.im_z).of_eq (by grind)
    · show ¬ Ct.Z (1 - ((0 : Nat) : Int))
      exact fun h => Ct.one_no (h.of_eq (by grind))
    · show Ct.Z ((v : Int) * (1 - ((0 : Nat) : Int)) - -(1 + ((0 : Nat) : Int)))
      exact (show Ct.Z _ from h1).of_eq (by grind)
  obtain ⟨y, hy, hk⟩ : ∃ y : Nat, y < F.p ∧ K ((y : Int) * ((v : Int) + 1)) ((v : Int) - 1) := ⟨F.mul (F.sub v 1) (F.inv (F.add v 1)), F.mul_lt _ _, (quot (K_add v 1) h1).trans (K_sub v 1)⟩
  unfold K at hk
  have n1 : ¬ Z (1 - (y : Int)) := fun h => two_no (((Z.mul ((v : Int) + 1) h).add hk).of_eq (by grind))
  have hp : Z ((v : Int) * (1 - y) - (1 + (y : Int))) := (Z.neg hk).of_eq (by grind)
  by_cases hok : F.ok (xx y) = true
  · refine .inl ⟨(F.root (xx y), y), (on_iff (F.root_lt _) hy).2 ?_, place_of hv n1 hp⟩
    rw [F.root_sq hok, Nat.mod_eq_of_lt (xx_lt y)]
  · have hno : F.ok (xx y) = false := Bool.eq_false_iff.2 hok
    have hx := (xx_of (x := 0) (y := y)).1
    unfold K at hx
    have hD := den_y (y : Int)
    have hy0 : ¬ Z (y : Int) := fun h => by
      have hm : Z ((xx y : Int) + 1) := ((hx.sub (Z.mul ((xx y : Int) * d * y) h)).add (Z.mul (y : Int) h)).of_eq (by grind)
      have hs : F.mul F.im F.im = xx y % F.p := by
        have k := K_mul F.im F.im
        have hi := im_z
        unfold K at k
        have : Z ((F.mul F.im F.im : Nat) - ((xx y : Nat) : Int)) := ((k.add hi).sub hm).of_eq (by grind)
        have := Z_eq.1 this
        rwa [Nat.mod_eq_of_lt (F.mul_lt _ _)] at this
      exact hok ((F.ok_iff _).2 ⟨_, hs⟩)
    have iy := K_inv hy0
    unfold K at iy
    obtain ⟨Y, hY⟩ : ∃ Y, Y = F.inv y := ⟨_, rfl⟩
    have lY : Y < F.p := hY ▸ F.inv_lt y
    rw [← hY] at iy
    obtain ⟨z, hz⟩ : ∃ z, z = F.mul (F.p - d) (xx y) := ⟨_, rfl⟩
    have okz : F.ok z = true := twist_ok hno hz.symm
    have kz : Z ((z : Int) + d * (xx y : Int)) := by
      have k := K_mul (F.p - d) (xx y)
      rw [← hz] at k
      unfold K at k
      have hl := d_lt
      have e : ((F.p - d : Nat) : Int) = (F.p : Int) - d := by omega
      rw [e] at k
      have pz : Z ((F.p : Int) * (xx y : Int)) := ⟨_, rfl⟩
      exact (k.add pz).of_eq (by grind)
    have zE : Z ((z : Int) * (1 + Ct.d * ((Y : Int) * Y)) - ((Y : Int) * Y - 1)) := by
      -- times y*y: z*(y*y + d') - (1 - y*y)
      have w1 : Z ((z : Int) * (1 + d * ((y : Int) * y)) - d * (1 - (y : Int) * y)) := ((Z.mul (1 + d * ((y : Int) * y)) kz).sub (Z.mul d hx)).of_eq (by grind)
      have hdd := dd_one
      have w2 : Z ((z : Int) * (Ct.d + (y : Int) * y) - (1 - (y : Int) * y)) := by
        refine (((Z.mul (Ct.d : Int) w1).sub (Z.mul ((z : Int) * ((y : Int) * y)) hdd)).add (Z.mul (1 - (y : Int) * y) hdd)).of_eq ?_
        grind
      have yy : Z ((y : Int) * y * ((Y : Int) * Y) - 1) := (Z.mul ((y : Int) * Y + 1) iy).of_eq (by grind)
      have w3 : Z ((y : Int) * y * ((z : Int) * (1 + Ct.d * ((Y : Int) * Y)) - ((Y : Int) * Y - 1))) := by
        refine ((w2.add (Z.mul ((z : Int) * Ct.d) yy)).sub yy).of_eq ?_
        grind
      rcases Z.prime w3 with h | h
      · exact absurd ((Z.prime h).elim id id) hy0
      · exact h
    refine .inr ⟨(F.root z, Y), ⟨F.root_lt _, lY, ?_⟩, Ct.place_of hv ?_ ?_⟩
    · have kr : Z ((F.root z : Int) * (F.root z : Int) - (z : Int)) := by
        have k := K_mul (F.root z) (F.root z)
        have hl : z < F.p := hz ▸ F.mul_lt _ _
        rw [F.root_sq okz, Nat.mod_eq_of_lt hl] at k
        exact (Z.neg k : Z _).of_eq (by show _ = -(((z : Nat) : Int) - _); grind)
      show Z (Ct.E _ _)
      refine ((Z.neg zE).sub (Z.mul (1 + Ct.d * ((Y : Int) * Y)) kr)).of_eq ?_
      unfold Ct.E
      grind
    · intro h
      have h' : Z (1 - (Y : Int)) := h
      exact n1 (((Z.neg (Z.mul (y : Int) h')).sub iy).of_eq (by grind))
    · show Z ((v : Int) * (1 - (Y : Int)) - -(1 + (Y : Int)))
      have w : Z ((y : Int) * ((v : Int) * (1 - (Y : Int)) + (1 + (Y : Int)))) := by
        refine ((Z.neg hp).sub (Z.mul ((v : Int) - 1) iy)).of_eq ?_
        grind
      exact ((Z.prime w).resolve_left hy0).of_eq (by grind)
theorem lad_mod (k u : Nat) : lad k (u % F.p) = lad k u := by
  unfold lad
  rw [Nat.mod_mod]
/-- DIFFIE, HELLMAN. -/
theorem lad_swap (j k u : Nat) (hj : j < 2 ^ 256) (hk : k < 2 ^ 256) : lad j (lad k u) = lad k (lad j u) ∧ (j * k < 2 ^ 256 → lad (j * k) u = lad j (lad k u)) := by
  rw [← lad_mod k u, ← lad_mod j u, ← lad_mod (j * k) u]
  rcases each (u % F.p) (F.mod_lt u) with ⟨P, hP, e⟩ | ⟨P, hP, e⟩
  · rw [← e, lad_place hP k hk, lad_place hP j hj, lad_place (times_on hP k) j hj, lad_place (times_on hP j) k hk, ← times_mul hP, ← times_mul hP]
    exact ⟨by rw [Nat.mul_comm], fun h => lad_place hP _ h⟩
  · rw [← e, Ct.lad_place hP k hk, Ct.lad_place hP j hj, Ct.lad_place (Ct.times_on hP k) j hj, Ct.lad_place (Ct.times_on hP j) k hk, ← Ct.times_mul hP, ← Ct.times_mul hP]
    exact ⟨by rw [Nat.mul_comm], fun h => Ct.lad_place hP _ h⟩
theorem lad_one (u : Nat) : lad 1 u = u % F.p := by
  rw [← lad_mod]
  rcases each (u % F.p) (F.mod_lt u) with ⟨P, hP, e⟩ | ⟨P, hP, e⟩
  · rw [← e, lad_place hP 1 (by decide), times_one hP]
  · rw [← e, Ct.lad_place hP 1 (by decide), Ct.times_one hP]
theorem lad_none (u : Nat) : lad 0 u = 0 := by
  rw [← lad_mod]
  rcases each (u % F.p) (F.mod_lt u) with ⟨P, hP, e⟩ | ⟨P, hP, e⟩
  · rw [← e, lad_place hP 0 (by decide)]
    exact place_zero.2 (.inr (by show Z (1 - ((1 : Nat) : Int)); exact Z.zero))
  · rw [← e, Ct.lad_place hP 0 (by decide)]
    exact Ct.place_zero.2 (.inr (by show Ct.Z (1 - ((1 : Nat) : Int)); exact Ct.Z.zero))
end Go.Proofs.Ytjdamgfichlgpaa.Cv

/- What package ladder must keep: its calls' contracts, each as one premise; the verifier's small calls. -/
namespace Go.Proofs.Ytjdamgfichlgpaa
open Go.RowKit
attribute [local go_sem] World.cell?_alloc_some cell_alloc2 cell_alloc3 cell_alloc4 frozen?_alloc_cells frozen_out
set_option linter.unusedSimpArgs false
def LLadC : Prop := ∀ k u : Nm, k.ok → u.ok → ∀ w, Calls Try.prog 9 #[N k, N u] w fun e w' => e = .returned (N (nm (Cv.lad k.nat u.nat))) ∧ Below w.heap.size w w'
def LOfC : Prop := ∀ P : Cv.Pt, Cv.On P → ∀ w, Calls Try.prog 8 #[pv P] w fun e w' => e = .returned (.tuple #[N (nm (Cv.place P)), .int .i64 0]) ∧ Below w.heap.size w w'
def LOfN : Prop := ∀ x y : Nm, x.ok → y.ok → ¬ Cv.On (x.nat, y.nat) → ∀ w, Calls Try.prog 8 #[Wv x y] w fun e w' => e = .returned (.tuple #[N ⟨0, 0, 0, 0⟩, .int .i64 1]) ∧ Below w.heap.size w w'
set_option maxHeartbeats 1000000 in
theorem ladders_walk (e1 : ∀ w, (binOp .eql 24 (N ⟨9, 0, 0, 0⟩) (N ⟨9, 0, 0, 0⟩)).run Try.prog w = .ok (.bool true) w)
    (L1 : ∀ w, Calls Try.prog 9 #[N ⟨1,0,0,0⟩, N ⟨9,0,0,0⟩] w fun e w' => e = .returned (N ⟨9,0,0,0⟩) ∧ Below w.heap.size w w')
    (w : World) : Calls Try.prog 18 #[] w fun e w' => e = .returned (.bool true) ∧ Below w.heap.size w w' := by
  go_enter Try.func18, Try.ntmps18
  have s0 : Hid (Kn w []) := (Kn.nil w)
  have b0 : Hid (Below w.heap.size w w) := (Below.refl _ _)
  go_wp2_with fail
  refine (L1 _).mono ?_
  rintro e w1 ⟨rfl, hb1⟩
  have s1 : Hid (Kn w1 []) := s0.out.up hb1
  have b1 : Hid (Below w.heap.size w w1) := b0.out.trans (hb1.mono b0.out.size)
  have z1 := b1.out.size
  clear hb1 s0 b0
  go_wp2_with fail
  go_ret
  exact ⟨rfl, b1.out⟩
theorem ladders_fun (LC : LLadC) (w : World) : Calls Try.prog 18 #[] w fun e w' => e = .returned (.bool true) ∧ Below w.heap.size w w' := by
  have e1 := eqN ⟨9, 0, 0, 0⟩ ⟨9, 0, 0, 0⟩
  rw [Nm.beq_self] at e1
  have h := LC ⟨1, 0, 0, 0⟩ ⟨9, 0, 0, 0⟩ fo_ok (by constructor <;> (constructor <;> decide))
  have e : nm (Cv.lad (⟨1, 0, 0, 0⟩ : Nm).nat (⟨9, 0, 0, 0⟩ : Nm).nat) = ⟨9, 0, 0, 0⟩ := by
    rw [show (⟨1, 0, 0, 0⟩ : Nm).nat = 1 from rfl, show (⟨9, 0, 0, 0⟩ : Nm).nat = 9 from rfl, Cv.lad_one]
    rfl
  rw [e] at h
  exact ladders_walk e1 h w
set_option maxHeartbeats 1000000 in
theorem place_walk (px py u : Nm) (er : Int)
    (O1 : ∀ w, Calls Try.prog 8 #[Wv px py] w fun e w' => e = .returned (.tuple #[N u, .int .i64 er]) ∧ Below w.heap.size w w')
    (w : World) : Calls Try.prog 20 #[Wv px py] w fun e w' => e = .returned (N u) ∧ Below w.heap.size w w' := by
  go_enter Try.func20, Try.ntmps20
  have s0 : Hid (Kn (kz4 (kalP w (px) (py))) [(w.heap.size + 1, zz4), (w.heap.size, (c8 (px) (py)))]) := (((Kn.nil w).al (c8 (px) (py)) 26 rfl).al zz4 24 (by simp))
  have b0 : Hid (Below w.heap.size w (kz4 (kalP w (px) (py)))) := (((Below.refl _ _).alloc (Nat.le_refl _) _).alloc (by simp <;> omega) _)
  go_wp2_with fail
  refine (O1 _).mono ?_
  rintro e w1 ⟨rfl, hb1⟩
  have s1 : Hid (Kn w1 [(w.heap.size + 1, zz4), (w.heap.size, (c8 (px) (py)))]) := s0.out.up hb1
  have b1 : Hid (Below w.heap.size w w1) := b0.out.trans (hb1.mono b0.out.size)
  have z1 := b1.out.size
  clear hb1 s0 b0
  have s2 : Hid (Kn (kal4 w1 (u)) [(w1.heap.size, (c4 (u))), (w.heap.size + 1, zz4), (w.heap.size, (c8 (px) (py)))]) := s1.out.al (c4 (u)) 24 rfl
  have b2 : Hid (Below w.heap.size w (kal4 w1 (u))) := b1.out.alloc b1.out.size _
  have z2 := b1.out.size
  clear s1 b1
  have uu_0 : (kal4 w1 (u)).cell? ⟨w1.heap.size, 0, none⟩ = some (.int .u64 (u).a) := Kn.get s2.out 0 0 rfl rfl
  have uu_1 : (kal4 w1 (u)).cell? ⟨w1.heap.size, 1, none⟩ = some (.int .u64 (u).b) := Kn.get s2.out 0 1 rfl rfl
  have uu_2 : (kal4 w1 (u)).cell? ⟨w1.heap.size, 2, none⟩ = some (.int .u64 (u).c) := Kn.get s2.out 0 2 rfl rfl
  have uu_3 : (kal4 w1 (u)).cell? ⟨w1.heap.size, 3, none⟩ = some (.int .u64 (u).d) := Kn.get s2.out 0 3 rfl rfl
  have uro_0 : (kal4 w1 (u)).cell? ⟨w.heap.size + 1, 0, none⟩ = some (.int .u64 0) := Kn.get s2.out 1 0 rfl rfl
  have uro_1 : (kal4 w1 (u)).cell? ⟨w.heap.size + 1, 1, none⟩ = some (.int .u64 0) := Kn.get s2.out 1 1 rfl rfl
  have uro_2 : (kal4 w1 (u)).cell? ⟨w.heap.size + 1, 2, none⟩ = some (.int .u64 0) := Kn.get s2.out 1 2 rfl rfl
  have uro_3 : (kal4 w1 (u)).cell? ⟨w.heap.size + 1, 3, none⟩ = some (.int .u64 0) := Kn.get s2.out 1 3 rfl rfl
  have uro_z : ∀ j, (kal4 w1 (u)).frozen? ⟨w.heap.size + 1, j, none⟩ = false := Kn.fz s2.out 1 rfl
  have s3 : Hid (Kn (st4 (kal4 w1 (u)) (w.heap.size + 1) (u)) [(w.heap.size + 1, (c4 (u))), (w1.heap.size, (c4 (u))), (w.heap.size, (c8 (px) (py)))]) := Kn.st4 (L := [(w1.heap.size, (c4 (u))), (w.heap.size, (c8 (px) (py)))]) (s2.out.front 1 rfl) (u)
  have b3 : Hid (Below w.heap.size w (st4 (kal4 w1 (u)) (w.heap.size + 1) (u))) := below_st4 b2.out (by omega)
  clear s2 b2
  go_wp2_with fail
  clear uu_0 uu_1 uu_2 uu_3 uro_0 uro_1 uro_2 uro_3 uro_z
  have urr_0 : (st4 (kal4 w1 (u)) (w.heap.size + 1) (u)).cell? ⟨w.heap.size + 1, 0, none⟩ = some (.int .u64 (u).a) := Kn.get s3.out 0 0 rfl rfl
  have urr_1 : (st4 (kal4 w1 (u)) (w.heap.size + 1) (u)).cell? ⟨w.heap.size + 1, 1, none⟩ = some (.int .u64 (u).b) := Kn.get s3.out 0 1 rfl rfl
  have urr_2 : (st4 (kal4 w1 (u)) (w.heap.size + 1) (u)).cell? ⟨w.heap.size + 1, 2, none⟩ = some (.int .u64 (u).c) := Kn.get s3.out 0 2 rfl rfl
  have urr_3 : (st4 (kal4 w1 (u)) (w.heap.size + 1) (u)).cell? ⟨w.heap.size + 1, 3, none⟩ = some (.int .u64 (u).d) := Kn.get s3.out 0 3 rfl rfl
  refine bodyPost_ret (v := N u) ?_ rfl ⟨rfl, b3.out⟩
  show (results Try.f20 _).run Try.prog (st4 (kal4 w1 (u)) (w.heap.size + 1) (u)) = .ok _ (st4 (kal4 w1 (u)) (w.heap.size + 1) (u))
  clear s3 b3
  generalize (st4 (kal4 w1 (u)) (w.heap.size + 1) (u)) = W9 at *
  simp [results, Try.results20, go_sem, urr_0, urr_1, urr_2, urr_3]
theorem place_fun (LO : LOfC) (P : Cv.Pt) (hP : Cv.On P) (w : World) : Calls Try.prog 20 #[pv P] w fun e w' => e = .returned (N (nm (Cv.place P))) ∧ Below w.heap.size w w' := place_walk _ _ _ _ (LO P hP) w
end Go.Proofs.Ytjdamgfichlgpaa
