/- Each number below P is a point's, of the curve or of its twist; the ladder, whoever comes first. Mathematics alone. -/
import Derived.Test.YtjdamgfichlgpaaLTw
namespace Go.Proofs.Ytjdamgfichlgpaa.Cv
open Go.Proofs.Ytjdamgfichlgpaa
theorem place_of {P : Pt} {v : Nat} (hv : v < F.p) (n1 : ¬ Z (1 - (P.2 : Int))) (h : K ((v : Int) * (1 - P.2)) (1 + (P.2 : Int))) : place P = v := by
  refine (K_eq (place_lt P) hv).1 (cancel n1 ?_)
  exact ((quot (K_sub 1 P.2) n1).trans (K_add 1 P.2)).trans h.symm
theorem dd_one : Z ((d : Int) * (Ct.d : Int) - 1) := by
  have h := K_mul d Ct.d
  rw [show F.mul d Ct.d = 1 by decide +kernel] at h
  exact (Z.neg h : Z _).of_eq (by show _ = -(((1 : Nat) : Int) - _); grind)
theorem chi_nd : F.chi (F.p - d) = F.p - 1 := (F.chi_pw (F.p - d)).trans (by decide +kernel)
/-- What is no square on the curve is one on the twist. -/
theorem twist_ok {z x : Nat} (hz : F.ok x = false) (h : F.mul (F.p - d) x = z) : F.ok z = true := by
  have h1 : F.chi x = F.p - 1 := by
    unfold F.ok at hz
    simpa using hz
  unfold F.ok
  rw [← h, F.chi_mul, chi_nd, h1]
  decide +kernel
theorem each (v : Nat) (hv : v < F.p) : (∃ P, On P ∧ place P = v) ∨ ∃ P, Ct.On P ∧ Ct.place P = v := by
  by_cases h0 : v = 0
  · refine .inl ⟨zero, zero_on, ?_⟩
    rw [h0]
    refine place_zero.2 (.inr ?_)
    show Z (1 - ((1 : Nat) : Int))
    exact Z.zero
  by_cases h1 : Z ((v : Int) + 1)
  · refine .inr ⟨(F.im, 0), ⟨F.pow_lt _ _, F.p_pos, ?_⟩, Ct.place_of hv ?_ ?_⟩
    · show Ct.Z (((0 : Nat) : Int) ^ 2 - (F.im : Int) ^ 2 - 1 - Ct.d * (F.im : Int) ^ 2 * ((0 : Nat) : Int) ^ 2)
      exact (Ct.Z.neg Ct.im_z).of_eq (by grind)
    · show ¬ Ct.Z (1 - ((0 : Nat) : Int))
      exact fun h => Ct.one_no (h.of_eq (by grind))
    · show Ct.Z ((v : Int) * (1 - ((0 : Nat) : Int)) - -(1 + ((0 : Nat) : Int)))
      exact (show Ct.Z _ from h1).of_eq (by grind)
  obtain ⟨y, hy, hk⟩ : ∃ y : Nat, y < F.p ∧ K ((y : Int) * ((v : Int) + 1)) ((v : Int) - 1) := ⟨F.mul (F.sub v 1) (F.inv (F.add v 1)), F.mul_lt _ _, (quot (K_add v 1) h1).trans (K_sub v 1)⟩
  unfold K at hk
  have n1 : ¬ Z (1 - (y : Int)) := fun h => two_no (((Z.mul ((v : Int) + 1) h).add hk).of_eq (by grind))
  have hp : Z ((v : Int) * (1 - y) - (1 + (y : Int))) := (Z.neg hk).of_eq (by grind)
  by_cases hok : F.ok (xx y) = true
  · refine .inl ⟨(F.root (xx y), y), (on_iff (F.root_lt _) hy).2 ?_, place_of hv n1 hp⟩
    rw [F.root_sq hok, Nat.mod_eq_of_lt (xx_lt y)]
  · have hno : F.ok (xx y) = false := Bool.eq_false_iff.2 hok
    have hx := (xx_of (x := 0) (y := y)).1
    unfold K at hx
    have hD := den_y (y : Int)
    have hy0 : ¬ Z (y : Int) := fun h => by
      have hm : Z ((xx y : Int) + 1) := ((hx.sub (Z.mul ((xx y : Int) * d * y) h)).add (Z.mul (y : Int) h)).of_eq (by grind)
      have hs : F.mul F.im F.im = xx y % F.p := by
        have k := K_mul F.im F.im
        have hi := im_z
        unfold K at k
        have : Z ((F.mul F.im F.im : Nat) - ((xx y : Nat) : Int)) := ((k.add hi).sub hm).of_eq (by grind)
        have := Z_eq.1 this
        rwa [Nat.mod_eq_of_lt (F.mul_lt _ _)] at this
      exact hok ((F.ok_iff _).2 ⟨_, hs⟩)
    have iy := K_inv hy0
    unfold K at iy
    obtain ⟨Y, hY⟩ : ∃ Y, Y = F.inv y := ⟨_, rfl⟩
    have lY : Y < F.p := hY ▸ F.inv_lt y
    rw [← hY] at iy
    obtain ⟨z, hz⟩ : ∃ z, z = F.mul (F.p - d) (xx y) := ⟨_, rfl⟩
    have okz : F.ok z = true := twist_ok hno hz.symm
    have kz : Z ((z : Int) + d * (xx y : Int)) := by
      have k := K_mul (F.p - d) (xx y)
      rw [← hz] at k
      unfold K at k
      have hl := d_lt
      have e : ((F.p - d : Nat) : Int) = (F.p : Int) - d := by omega
      rw [e] at k
      have pz : Z ((F.p : Int) * (xx y : Int)) := ⟨_, rfl⟩
      exact (k.add pz).of_eq (by grind)
    have zE : Z ((z : Int) * (1 + Ct.d * ((Y : Int) * Y)) - ((Y : Int) * Y - 1)) := by
      -- times y*y: z*(y*y + d') - (1 - y*y)
      have w1 : Z ((z : Int) * (1 + d * ((y : Int) * y)) - d * (1 - (y : Int) * y)) := ((Z.mul (1 + d * ((y : Int) * y)) kz).sub (Z.mul d hx)).of_eq (by grind)
      have hdd := dd_one
      have w2 : Z ((z : Int) * (Ct.d + (y : Int) * y) - (1 - (y : Int) * y)) := by
        refine (((Z.mul (Ct.d : Int) w1).sub (Z.mul ((z : Int) * ((y : Int) * y)) hdd)).add (Z.mul (1 - (y : Int) * y) hdd)).of_eq ?_
        grind
      have yy : Z ((y : Int) * y * ((Y : Int) * Y) - 1) := (Z.mul ((y : Int) * Y + 1) iy).of_eq (by grind)
      have w3 : Z ((y : Int) * y * ((z : Int) * (1 + Ct.d * ((Y : Int) * Y)) - ((Y : Int) * Y - 1))) := by
        refine ((w2.add (Z.mul ((z : Int) * Ct.d) yy)).sub yy).of_eq ?_
        grind
      rcases Z.prime w3 with h | h
      · exact absurd ((Z.prime h).elim id id) hy0
      · exact h
    refine .inr ⟨(F.root z, Y), ⟨F.root_lt _, lY, ?_⟩, Ct.place_of hv ?_ ?_⟩
    · have kr : Z ((F.root z : Int) * (F.root z : Int) - (z : Int)) := by
        have k := K_mul (F.root z) (F.root z)
        have hl : z < F.p := hz ▸ F.mul_lt _ _
        rw [F.root_sq okz, Nat.mod_eq_of_lt hl] at k
        exact (Z.neg k : Z _).of_eq (by show _ = -(((z : Nat) : Int) - _); grind)
      show Z (Ct.E _ _)
      refine ((Z.neg zE).sub (Z.mul (1 + Ct.d * ((Y : Int) * Y)) kr)).of_eq ?_
      unfold Ct.E
      grind
    · intro h
      have h' : Z (1 - (Y : Int)) := h
      exact n1 (((Z.neg (Z.mul (y : Int) h')).sub iy).of_eq (by grind))
    · show Z ((v : Int) * (1 - (Y : Int)) - -(1 + (Y : Int)))
      have w : Z ((y : Int) * ((v : Int) * (1 - (Y : Int)) + (1 + (Y : Int)))) := by
        refine ((Z.neg hp).sub (Z.mul ((v : Int) - 1) iy)).of_eq ?_
        grind
      exact ((Z.prime w).resolve_left hy0).of_eq (by grind)
theorem lad_mod (k u : Nat) : lad k (u % F.p) = lad k u := by
  unfold lad
  rw [Nat.mod_mod]
/-- DIFFIE, HELLMAN. -/
theorem lad_swap (j k u : Nat) (hj : j < 2 ^ 256) (hk : k < 2 ^ 256) : lad j (lad k u) = lad k (lad j u) ∧ (j * k < 2 ^ 256 → lad (j * k) u = lad j (lad k u)) := by
  rw [← lad_mod k u, ← lad_mod j u, ← lad_mod (j * k) u]
  rcases each (u % F.p) (F.mod_lt u) with ⟨P, hP, e⟩ | ⟨P, hP, e⟩
  · rw [← e, lad_place hP k hk, lad_place hP j hj, lad_place (times_on hP k) j hj, lad_place (times_on hP j) k hk, ← times_mul hP, ← times_mul hP]
    exact ⟨by rw [Nat.mul_comm], fun h => lad_place hP _ h⟩
  · rw [← e, Ct.lad_place hP k hk, Ct.lad_place hP j hj, Ct.lad_place (Ct.times_on hP k) j hj, Ct.lad_place (Ct.times_on hP j) k hk, ← Ct.times_mul hP, ← Ct.times_mul hP]
    exact ⟨by rw [Nat.mul_comm], fun h => Ct.lad_place hP _ h⟩
theorem lad_one (u : Nat) : lad 1 u = u % F.p := by
  rw [← lad_mod]
  rcases each (u % F.p) (F.mod_lt u) with ⟨P, hP, e⟩ | ⟨P, hP, e⟩
  · rw [← e, lad_place hP 1 (by decide), times_one hP]
  · rw [← e, Ct.lad_place hP 1 (by decide), Ct.times_one hP]
theorem lad_none (u : Nat) : lad 0 u = 0 := by
  rw [← lad_mod]
  rcases each (u % F.p) (F.mod_lt u) with ⟨P, hP, e⟩ | ⟨P, hP, e⟩
  · rw [← e, lad_place hP 0 (by decide)]
    exact place_zero.2 (.inr (by show Z (1 - ((1 : Nat) : Int)); exact Z.zero))
  · rw [← e, Ct.lad_place hP 0 (by decide)]
    exact Ct.place_zero.2 (.inr (by show Ct.Z (1 - ((1 : Nat) : Int)); exact Ct.Z.zero))
end Go.Proofs.Ytjdamgfichlgpaa.Cv
