/- The document's ladder by halves and the program's: the same pairs up to a factor that is not 0. Mathematics alone. -/
import Derived.Test.YtjdamgfichlgpaaGrp22
namespace Go.Proofs.Ytjdamgfichlgpaa.Cv
open Go.Proofs.Ytjdamgfichlgpaa
/-- double and both, as the document's side has them. -/
def dbl (q : Nat × Nat) : Nat × Nat :=
  (F.mul (F.sub (F.mul q.1 q.1) (F.mul q.2 q.2)) (F.sub (F.mul q.1 q.1) (F.mul q.2 q.2)),
   F.mul (F.mul 4 (F.mul q.1 q.2)) (F.add (F.add (F.mul q.1 q.1) (F.mul 486662 (F.mul q.1 q.2))) (F.mul q.2 q.2)))
def bth (u : Nat) (q r : Nat × Nat) : Nat × Nat :=
  (F.mul (F.sub (F.mul q.1 r.1) (F.mul q.2 r.2)) (F.sub (F.mul q.1 r.1) (F.mul q.2 r.2)),
   F.mul u (F.mul (F.sub (F.mul q.1 r.2) (F.mul q.2 r.1)) (F.sub (F.mul q.1 r.2) (F.mul q.2 r.1))))
/-- Of n, and of n + 1; by halves, at most k times. -/
def rg (u : Nat) : Nat → Nat → (Nat × Nat) × (Nat × Nat)
  | 0, _ => ((1, 0), (u, 1))
  | k + 1, n => if n = 0 then ((1, 0), (u, 1)) else if n % 2 = 0 then (dbl (rg u k (n / 2)).1, bth u (rg u k (n / 2)).1 (rg u k (n / 2)).2) else (bth u (rg u k (n / 2)).1 (rg u k (n / 2)).2, dbl (rg u k (n / 2)).2)
theorem rg_zero (u k : Nat) : rg u k 0 = ((1, 0), (u, 1)) := by
  cases k with
  | zero => rfl
  | succ k => rw [rg, if_pos rfl]
theorem rg_more (u : Nat) : ∀ k n, n < 2 ^ k → rg u (k + 1) n = rg u k n
  | 0, n, h => by
    have : n = 0 := by rw [Nat.pow_zero] at h; omega
    subst this
    rw [rg_zero, rg_zero]
  | k + 1, n, h => by
    have h2 : n / 2 < 2 ^ k := by rw [Nat.pow_succ] at h; omega
    have ih := rg_more u k (n / 2) h2
    rw [rg, ih]
    conv => rhs; rw [rg]
theorem dbl_K (q : Nat × Nat) : K (dbl q).1 (((q.1 : Int) * q.1 - q.2 * q.2) * ((q.1 : Int) * q.1 - q.2 * q.2)) ∧ K (dbl q).2 (4 * ((q.1 : Int) * q.2) * ((q.1 : Int) * q.1 + 486662 * ((q.1 : Int) * q.2) + q.2 * q.2)) := by
  have kd := (K_sub _ _).trans ((K_mul q.1 q.1).sub (K_mul q.2 q.2))
  have kx := K_mul q.1 q.2
  have k4 := (K_mul 4 _).trans ((K.refl ((4 : Nat) : Int)).mul kx)
  have kA := (K_mul 486662 _).trans ((K.refl ((486662 : Nat) : Int)).mul kx)
  have ks := (K_add _ _).trans (((K_add _ _).trans ((K_mul q.1 q.1).add kA)).add (K_mul q.2 q.2))
  exact ⟨(K_mul _ _).trans kd.sq, (K_mul _ _).trans (k4.mul ks)⟩
theorem bth_K (u : Nat) (q r : Nat × Nat) : K (bth u q r).1 (((q.1 : Int) * r.1 - q.2 * r.2) * ((q.1 : Int) * r.1 - q.2 * r.2)) ∧ K (bth u q r).2 ((u : Int) * (((q.1 : Int) * r.2 - q.2 * r.1) * ((q.1 : Int) * r.2 - q.2 * r.1))) := by
  have ks := (K_sub _ _).trans ((K_mul q.1 r.1).sub (K_mul q.2 r.2))
  have kt := (K_sub _ _).trans ((K_mul q.1 r.2).sub (K_mul q.2 r.1))
  exact ⟨(K_mul _ _).trans ks.sq, (K_mul _ _).trans ((K.refl (u : Int)).mul ((K_mul _ _).trans kt.sq))⟩
/-- a is c times b. -/
def Sc (c : Int) (a b : Nat × Nat) : Prop := K a.1 (c * b.1) ∧ K a.2 (c * b.2)
theorem tw_sc {c : Int} {a b : Nat × Nat} (h : Sc c a b) : Sc (c * c * (c * c)) (tw a) (dbl b) := by
  obtain ⟨h1, h2⟩ := h
  have t := tw_K a
  have e := dbl_K b
  have kS := (h1.add h2).sq
  have kT := (h1.sub h2).sq
  have ke := kS.sub kT
  constructor
  · refine (t.1.trans (kS.mul kT)).trans (K.symm ?_)
    refine ((K.refl (c * c * (c * c))).mul e.1).trans ?_
    exact (Z.zero).of_eq (by grind)
  · refine (t.2.trans (ke.mul (kS.add ((K.refl (121665 : Int)).mul ke)))).trans (K.symm ?_)
    refine ((K.refl (c * c * (c * c))).mul e.2).trans ?_
    exact (Z.zero).of_eq (by grind)
theorem jn_sc (u : Nat) {c e : Int} {q r Q R : Nat × Nat} (h : Sc c q Q) (h' : Sc e r R) : Sc (4 * (c * c) * (e * e)) (jn u q r) (bth u Q R) := by
  obtain ⟨h1, h2⟩ := h
  obtain ⟨g1, g2⟩ := h'
  have t := jn_K u q r
  have b := bth_K u Q R
  have ka := (g1.add g2).mul (h1.sub h2)
  have kb := (g1.sub g2).mul (h1.add h2)
  constructor
  · refine (t.1.trans (ka.add kb).sq).trans (K.symm ?_)
    refine ((K.refl (4 * (c * c) * (e * e))).mul b.1).trans ?_
    exact (Z.zero).of_eq (by grind)
  · refine (t.2.trans ((K.refl (u : Int)).mul (ka.sub kb).sq)).trans (K.symm ?_)
    refine ((K.refl (4 * (c * c) * (e * e))).mul b.2).trans ?_
    exact (Z.zero).of_eq (by grind)
theorem four_no : ¬ Z 4 := fun h => by
  have : Z (2 * 2) := h
  rcases Z.prime this with h | h
  · exact two_no h
  · exact two_no h
theorem sc_step {c e : Int} (hc : ¬ Z c) (he : ¬ Z e) : ¬ Z (c * c * (c * c)) ∧ ¬ Z (e * e * (e * e)) ∧ ¬ Z (4 * (c * c) * (e * e)) :=
  ⟨no_mul (no_mul hc hc) (no_mul hc hc), no_mul (no_mul he he) (no_mul he he), no_mul (no_mul four_no (no_mul hc hc)) (no_mul he he)⟩
theorem Sc.trans {c e : Int} {a b g : Nat × Nat} (h : Sc c a b) (h' : Sc e b g) : Sc (c * e) a g :=
  ⟨(h.1.trans ((K.refl c).mul h'.1)).trans ((Z.zero).of_eq (by grind)), (h.2.trans ((K.refl c).mul h'.2)).trans ((Z.zero).of_eq (by grind))⟩
theorem dbl_one : dbl (1, 0) = (1, 0) := by decide +kernel
theorem bth_one (u : Nat) : Sc u (bth u (1, 0) (u, 1)) (u, 1) := by
  have b := bth_K u (1, 0) (u, 1)
  simp only [Int.natCast_zero, Int.natCast_one] at b
  exact ⟨b.1.trans ((Z.zero).of_eq (by grind)), b.2.trans ((Z.zero).of_eq (by simp only [Int.natCast_one]; grind))⟩
theorem rg_step {u n : Nat} (h0 : n ≠ 0) (hn : n < 2 ^ 256) : rg u 256 n = if n % 2 = 0 then (dbl (rg u 256 (n / 2)).1, bth u (rg u 256 (n / 2)).1 (rg u 256 (n / 2)).2) else (bth u (rg u 256 (n / 2)).1 (rg u 256 (n / 2)).2, dbl (rg u 256 (n / 2)).2) := by
  have h2 : n / 2 < 2 ^ 255 := by omega
  have e := rg_more u 255 (n / 2) h2
  rw [show 255 + 1 = 256 from rfl] at e
  rw [e]
  show rg u (255 + 1) n = _
  rw [rg, if_neg h0]
theorem lst_rg {u k : Nat} (hu : ¬ Z (u : Int)) (hk : k < 2 ^ 256) : ∀ i, i ≤ 256 → ∃ c e : Int, ¬ Z c ∧ ¬ Z e ∧ Sc c (lst u k i).1 (rg u 256 (k / 2 ^ (256 - i))).1 ∧ Sc e (lst u k i).2 (rg u 256 (k / 2 ^ (256 - i))).2
  | 0, _ => by
    rw [show k / 2 ^ (256 - 0) = 0 from Nat.div_eq_of_lt hk, rg_zero]
    refine ⟨1, 1, one_no, one_no, ⟨?_, ?_⟩, ?_, ?_⟩ <;> (rw [Int.one_mul]; exact K.refl _)
  | i + 1, hi => by
    obtain ⟨c, e, hc, he, hq, hr⟩ := lst_rg hu hk i (by omega)
    obtain ⟨n1, n2, n3⟩ := sc_step hc he
    have hn : k / 2 ^ (256 - i) = k / 2 ^ (255 - i) / 2 := by rw [Nat.div_div_eq_div_mul, ← Nat.pow_succ, show (255 - i).succ = 256 - i by omega]
    have hlt : k / 2 ^ (255 - i) < 2 ^ 256 := Nat.lt_of_le_of_lt (Nat.div_le_self _ _) hk
    rw [show 256 - (i + 1) = 255 - i by omega]
    rw [hn] at hq hr
    have hl : lst u k (i + 1) = if k / 2 ^ (255 - i) % 2 = 0 then (tw (lst u k i).1, jn u (lst u k i).1 (lst u k i).2) else (jn u (lst u k i).1 (lst u k i).2, tw (lst u k i).2) := rfl
    rw [hl]
    clear hl hn
    generalize k / 2 ^ (255 - i) = n at *
    generalize lst u k i = L at *
    by_cases h0 : n = 0
    · subst h0
      rw [Nat.zero_div, rg_zero] at hq hr
      rw [if_pos (Nat.zero_mod 2), rg_zero]
      refine ⟨_, _, n1, no_mul n3 hu, ?_, (jn_sc u hq hr).trans (bth_one u)⟩
      have := tw_sc hq
      rwa [dbl_one] at this
    · rw [rg_step h0 hlt]
      by_cases h2 : n % 2 = 0
      · rw [if_pos h2, if_pos h2]
        exact ⟨_, _, n1, n3, tw_sc hq, jn_sc u hq hr⟩
      · rw [if_neg h2, if_neg h2]
        exact ⟨_, _, n3, n2, jn_sc u hq hr, tw_sc hr⟩
theorem sc_quot {c : Int} (hc : ¬ Z c) {a b : Nat × Nat} (h : Sc c a b) : F.mul a.1 (F.inv a.2) = F.mul b.1 (F.inv b.2) := by
  by_cases hb : Z (b.2 : Int)
  · have ha : Z (a.2 : Int) := h.2.z (Z.mul c hb)
    rw [F.inv_zero ((Z_nat _).1 ha), F.inv_zero ((Z_nat _).1 hb)]
    unfold F.mul
    rw [Nat.mul_zero, Nat.mul_zero]
  · have ha : ¬ Z (a.2 : Int) := h.2.no (no_mul hc hb)
    have q1 := quot (t := a.1) (K.refl (a.2 : Int)) ha
    have q2 := quot (t := b.1) (K.refl (b.2 : Int)) hb
    refine (K_eq (F.mul_lt _ _) (F.mul_lt _ _)).1 (cancel ha ?_)
    refine q1.trans (h.1.trans ?_)
    refine ((K.refl c).mul q2.symm).trans ?_
    refine K.trans ?_ ((K.refl _).mul h.2.symm)
    exact (Z.zero).of_eq (by grind)
theorem rg_flat : ∀ k n, (rg 0 k n).1.2 = 0
  | 0, _ => rfl
  | k + 1, n => by
    have ih := rg_flat k (n / 2)
    rw [rg]
    split
    · rfl
    · split
      · show F.mul (F.mul 4 (F.mul _ (rg 0 k (n / 2)).1.2)) _ = 0
        rw [ih]
        unfold F.mul
        simp
      · show F.mul 0 _ = 0
        unfold F.mul
        simp
/-- The document's ladder by halves is the ladder. -/
theorem lad_rg (k u : Nat) (hk : k < 2 ^ 256) : lad k u = F.mul (rg (u % F.p) 256 k).1.1 (F.inv (rg (u % F.p) 256 k).1.2) := by
  by_cases hu : u % F.p = 0
  · rw [lad_flat k hu, hu, rg_flat, F.inv_zero (by rfl)]
    unfold F.mul
    simp
  · have hz : ¬ Z ((u % F.p : Nat) : Int) := fun h => hu (by have := (Z_nat _).1 h; rwa [Nat.mod_mod] at this)
    obtain ⟨c, e, hc, _, hq, _⟩ := lst_rg hz hk 256 (Nat.le_refl _)
    rw [Nat.sub_self, Nat.pow_zero, Nat.div_one] at hq
    exact sc_quot hc hq
theorem one_lt : 1 < F.p := by decide
theorem dbl_lt (q : Nat × Nat) : (dbl q).1 < F.p ∧ (dbl q).2 < F.p := ⟨F.mul_lt _ _, F.mul_lt _ _⟩
theorem bth_lt (u : Nat) (q r : Nat × Nat) : (bth u q r).1 < F.p ∧ (bth u q r).2 < F.p := ⟨F.mul_lt _ _, F.mul_lt _ _⟩
theorem rg_lt {u : Nat} (hu : u < F.p) : ∀ k n, ((rg u k n).1.1 < F.p ∧ (rg u k n).1.2 < F.p) ∧ (rg u k n).2.1 < F.p ∧ (rg u k n).2.2 < F.p
  | 0, _ => ⟨⟨one_lt, F.p_pos⟩, hu, one_lt⟩
  | k + 1, n => by
    rw [rg]
    split
    · exact ⟨⟨one_lt, F.p_pos⟩, hu, one_lt⟩
    · split
      · exact ⟨dbl_lt _, bth_lt _ _ _⟩
      · exact ⟨bth_lt _ _ _, dbl_lt _⟩
end Go.Proofs.Ytjdamgfichlgpaa.Cv
