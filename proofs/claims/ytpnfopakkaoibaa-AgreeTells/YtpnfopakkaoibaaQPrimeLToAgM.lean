/- Texts that were joined: PrimeL, OrdN, CProj, COrd, COwn, PlN, AgM. -/
import Derived.Test.YtpnfopakkaoibaaQPrimeToFMath
import Derived.Test.YtpnfopakkaoibaaQCAssToLLad
import Derived.Test.YtpnfopakkaoibaaQLTwToLSw
/- That 2^252 + 27742317777372353535851937790883648493 is a prime. Mathematics alone (the factors were found by a program of algebra; that they fit is shown here). -/
namespace Go.Proofs.Ytpnfopakkaoibaa.P
theorem prL_1224481 : Pr 1224481 := prime_tri (f := 1106) (by decide) (by decide +kernel) (by decide)
theorem prL_531581 : Pr 531581 := prime_tri (f := 729) (by decide) (by decide +kernel) (by decide)
theorem prL_12575597_51 : Pr 1257559732178653 :=
  prime_chk2 (q := 1224481) (s := 1027014492) (a := 2) (r := 531581) (t := 2365697292) (b := 2) (k := 64) prL_1224481 prL_531581 (by decide) (by decide +kernel) (by decide +kernel) (by decide) (by decide)
theorem prL_44341556_62 : Pr 4434155615661930479 :=
  prime_chk1 (q := 1257559732178653) (s := 3526) (a := 2) (k := 64) prL_12575597_51 (by decide) (by decide +kernel) (by decide)
theorem prL_17205459_88 : Pr 172054593956031949258510691 :=
  prime_chk1 (q := 4434155615661930479) (s := 38802110) (a := 2) (k := 128) prL_44341556_62 (by decide) (by decide +kernel) (by decide)
theorem prL_19757330_134 : Pr 19757330305831588566944191468367130476339 :=
  prime_chk1 (q := 172054593956031949258510691) (s := 114831751082918) (a := 2) (k := 256) prL_17205459_88 (by decide) (by decide +kernel) (by decide)
theorem prL_27660262_138 : Pr 276602624281642239937218680557139826668747 :=
  prime_chk1 (q := 19757330305831588566944191468367130476339) (s := 14) (a := 2) (k := 256) prL_19757330_134 (by decide) (by decide +kernel) (by decide)
theorem pr_L : Pr 7237005577332262213973186563042994240857116359379907606001950938285454250989 :=
  prime_chk1 (q := 276602624281642239937218680557139826668747) (s := 26163907866482859529727157400808004) (a := 2) (k := 256) prL_27660262_138 (by decide) (by decide +kernel) (by decide)
end Go.Proofs.Ytpnfopakkaoibaa.P

/- How often the base makes nothing: a prime. Mathematics alone. -/
namespace Go.Proofs.Ytpnfopakkaoibaa.Cv
open Go.Proofs.Ytpnfopakkaoibaa
def ord : Nat := 7237005577332262213973186563042994240857116359379907606001950938285454250989
theorem ord_pr : P.Pr ord := P.pr_L
end Go.Proofs.Ytpnfopakkaoibaa.Cv

/- Points as fractions X/Z, Y/Z: their sums without a quotient; so often, bit by bit; the base and its order. Mathematics alone. -/
namespace Go.Proofs.Ytpnfopakkaoibaa.Cv
open Go.Proofs.Ytpnfopakkaoibaa
/-- X/Z and Y/Z are the point P. -/
structure Fr (X Y T : Int) (P : Pt) : Prop where
  nz : ¬ Z T
  x : K X (P.1 * T)
  y : K Y (P.2 * T)
theorem Fr.one (P : Pt) : Fr P.1 P.2 1 P := ⟨one_no, by rw [Int.mul_one]; exact K.refl _, by rw [Int.mul_one]; exact K.refl _⟩
theorem Fr.sum {X1 Y1 T1 X2 Y2 T2 : Int} {P Q : Pt} (hP : On P) (hQ : On Q) (h1 : Fr X1 Y1 T1 P) (h2 : Fr X2 Y2 T2 Q) :
    Fr (T1 * T2 * (T1 * T2 * (T1 * T2) - d * (X1 * X2) * (Y1 * Y2)) * (X1 * Y2 + Y1 * X2)) (T1 * T2 * (T1 * T2 * (T1 * T2) + d * (X1 * X2) * (Y1 * Y2)) * (X1 * X2 + Y1 * Y2)) ((T1 * T2 * (T1 * T2) - d * (X1 * X2) * (Y1 * Y2)) * (T1 * T2 * (T1 * T2) + d * (X1 * X2) * (Y1 * Y2))) (add P Q) := by
  have s := add_sum hP hQ
  have n := den hP hQ
  have nT : ¬ Z (T1 * T2 * (T1 * T2)) := no_mul (no_mul h1.nz h2.nz) (no_mul h1.nz h2.nz)
  have kc := h1.x.mul h2.x
  have kd := h1.y.mul h2.y
  have ke : K (d * (X1 * X2) * (Y1 * Y2)) (T1 * T2 * (T1 * T2) * (d * P.1 * Q.1 * P.2 * Q.2)) := by
    have := ((K.refl (d : Int)).mul kc).mul kd
    exact (this : Z _).of_eq (by grind)
  have kf : K (T1 * T2 * (T1 * T2) - d * (X1 * X2) * (Y1 * Y2)) (T1 * T2 * (T1 * T2) * (1 - d * P.1 * Q.1 * P.2 * Q.2)) := ((K.refl (T1 * T2 * (T1 * T2))).sub ke : Z _).of_eq (by grind)
  have kg : K (T1 * T2 * (T1 * T2) + d * (X1 * X2) * (Y1 * Y2)) (T1 * T2 * (T1 * T2) * (1 + d * P.1 * Q.1 * P.2 * Q.2)) := ((K.refl (T1 * T2 * (T1 * T2))).add ke : Z _).of_eq (by grind)
  have nf := kf.no (no_mul nT n.2)
  have ng := kg.no (no_mul nT n.1)
  have ks : K (X1 * Y2 + Y1 * X2) (T1 * T2 * (P.1 * Q.2 + P.2 * Q.1)) := ((h1.x.mul h2.y).add (h1.y.mul h2.x) : Z _).of_eq (by grind)
  have kt : K (X1 * X2 + Y1 * Y2) (T1 * T2 * (P.2 * Q.2 + P.1 * Q.1)) := (kc.add kd : Z _).of_eq (by grind)
  refine ⟨no_mul nf ng, ?_, ?_⟩
  · generalize T1 * T2 * (T1 * T2) - d * (X1 * X2) * (Y1 * Y2) = f at *
    generalize T1 * T2 * (T1 * T2) + d * (X1 * X2) * (Y1 * Y2) = g at *
    generalize X1 * Y2 + Y1 * X2 = u at *
    have a1 : K (T1 * T2 * f * u) (T1 * T2 * f * (T1 * T2 * (P.1 * Q.2 + P.2 * Q.1))) := (K.refl _).mul ks
    have a2 : K ((add P Q).1 * (f * g)) ((add P Q).1 * (f * (T1 * T2 * (T1 * T2) * (1 + d * P.1 * Q.1 * P.2 * Q.2)))) := (K.refl _).mul ((K.refl _).mul kg)
    have a3 : K ((add P Q).1 * (f * (T1 * T2 * (T1 * T2) * (1 + d * P.1 * Q.1 * P.2 * Q.2)))) (T1 * T2 * f * (T1 * T2 * (P.1 * Q.2 + P.2 * Q.1))) := (Z.mul (f * (T1 * T2 * (T1 * T2))) s.x : Z _).of_eq (by grind)
    exact a1.trans (a2.trans a3).symm
  · generalize T1 * T2 * (T1 * T2) - d * (X1 * X2) * (Y1 * Y2) = f at *
    generalize T1 * T2 * (T1 * T2) + d * (X1 * X2) * (Y1 * Y2) = g at *
    generalize X1 * X2 + Y1 * Y2 = u at *
    have a1 : K (T1 * T2 * g * u) (T1 * T2 * g * (T1 * T2 * (P.2 * Q.2 + P.1 * Q.1))) := (K.refl _).mul kt
    have a2 : K ((add P Q).2 * (f * g)) ((add P Q).2 * (T1 * T2 * (T1 * T2) * (1 - d * P.1 * Q.1 * P.2 * Q.2) * g)) := (K.refl _).mul (kf.mul (K.refl _))
    have a3 : K ((add P Q).2 * (T1 * T2 * (T1 * T2) * (1 - d * P.1 * Q.1 * P.2 * Q.2) * g)) (T1 * T2 * g * (T1 * T2 * (P.2 * Q.2 + P.1 * Q.1))) := (Z.mul (g * (T1 * T2 * (T1 * T2))) s.y : Z _).of_eq (by grind)
    exact a1.trans (a2.trans a3).symm
/-- Three numbers. -/
abbrev Tr := Nat × Nat × Nat
def FrN (t : Tr) (P : Pt) : Prop := Fr t.1 t.2.1 t.2.2 P
/-- The sum of two fractions. -/
def padd (s t : Tr) : Tr :=
  let a := F.mul s.2.2 t.2.2
  let c := F.mul s.1 t.1
  let e' := F.mul s.2.1 t.2.1
  let b := F.mul a a
  let e := F.mul (F.mul d c) e'
  let f := F.sub b e
  let g := F.add b e
  (F.mul (F.mul a f) (F.add (F.mul s.1 t.2.1) (F.mul s.2.1 t.1)), F.mul (F.mul a g) (F.add c e'), F.mul f g)
theorem Fr.congr {X Y T X' Y' T' : Int} {P : Pt} (h : Fr X Y T P) (hx : K X' X) (hy : K Y' Y) (ht : K T' T) : Fr X' Y' T' P :=
  ⟨ht.no h.nz, hx.trans (h.x.trans ((K.refl _).mul ht.symm)), hy.trans (h.y.trans ((K.refl _).mul ht.symm))⟩
theorem padd_fr {s t : Tr} {P Q : Pt} (hP : On P) (hQ : On Q) (h1 : FrN s P) (h2 : FrN t Q) : FrN (padd s t) (add P Q) := by
  have ka := K_mul s.2.2 t.2.2
  have kc := K_mul s.1 t.1
  have ke' := K_mul s.2.1 t.2.1
  have kb := (K_mul (F.mul s.2.2 t.2.2) (F.mul s.2.2 t.2.2)).trans (ka.mul ka)
  have ke := (K_mul (F.mul d (F.mul s.1 t.1)) (F.mul s.2.1 t.2.1)).trans (((K_mul d (F.mul s.1 t.1)).trans ((K.refl (d : Int)).mul kc)).mul ke')
  have kf := (K_sub (F.mul (F.mul s.2.2 t.2.2) (F.mul s.2.2 t.2.2)) (F.mul (F.mul d (F.mul s.1 t.1)) (F.mul s.2.1 t.2.1))).trans (kb.sub ke)
  have kg := (K_add (F.mul (F.mul s.2.2 t.2.2) (F.mul s.2.2 t.2.2)) (F.mul (F.mul d (F.mul s.1 t.1)) (F.mul s.2.1 t.2.1))).trans (kb.add ke)
  refine (Fr.sum hP hQ h1 h2).congr ?_ ?_ ?_
  · exact (K_mul _ _).trans (((K_mul _ _).trans (ka.mul kf)).mul ((K_add _ _).trans ((K_mul _ _).add (K_mul _ _))))
  · exact (K_mul _ _).trans (((K_mul _ _).trans (ka.mul kg)).mul ((K_add _ _).trans (kc.add ke')))
  · exact (K_mul _ _).trans (kf.mul kg)
/-- So often, from the least bit on. -/
def often : Nat → Nat → Tr → Tr → Tr
  | 0, _, acc, _ => acc
  | k + 1, n, acc, t => often k (n / 2) (if n % 2 = 1 then padd acc t else acc) (padd t t)
theorem often_fr : ∀ (k n : Nat) (acc t : Tr) (A P : Pt), n < 2 ^ k → On A → On P → FrN acc A → FrN t P → FrN (often k n acc t) (add A (times n P))
  | 0, n, acc, t, A, P, hn, hA, _, h1, _ => by
    have : n = 0 := by simp at hn; exact hn
    subst this
    rw [often, times, add_zero hA]
    exact h1
  | k + 1, n, acc, t, A, P, hn, hA, hP, h1, h2 => by
    have hn2 : n / 2 < 2 ^ k := by rw [Nat.pow_succ] at hn; omega
    have hd := times_on (closed hP hP) (n / 2)
    have e2 : times (n / 2) (add P P) = times (2 * (n / 2)) P := by rw [times_two hP, times_sum hP hP]
    rw [often]
    by_cases h : n % 2 = 1
    · rw [if_pos h]
      have ih := often_fr k (n / 2) (padd acc t) (padd t t) (add A P) (add P P) hn2 (closed hA hP) (closed hP hP) (padd_fr hA hP h1 h2) (padd_fr hP hP h2 h2)
      rw [add_assoc hA hP hd, e2] at ih
      rw [show n = 2 * (n / 2) + 1 by omega, times]
      rw [show (2 * (n / 2) + 1) / 2 = n / 2 by omega]
      exact ih
    · rw [if_neg h]
      have ih := often_fr k (n / 2) acc (padd t t) A (add P P) hn2 hA (closed hP hP) h1 (padd_fr hP hP h2 h2)
      rw [e2, show 2 * (n / 2) = n by omega] at ih
      exact ih
theorem fr_zero {t : Tr} {P : Pt} (hP : On P) (h : FrN t P) (hx : t.1 % F.p = 0) (hy : t.2.1 % F.p = t.2.2 % F.p) : P = zero := by
  have kx : Z ((P.1 : Int) * t.2.2) := h.x.symm.z ((Z_nat _).2 hx)
  have ky : K ((P.2 : Int) * t.2.2) (1 * t.2.2) := h.y.symm.trans (by rw [Int.one_mul]; exact Z_eq.2 hy)
  have hx0 : Z ((P.1 : Int)) := (Z.prime kx).resolve_right h.nz
  have hy1 : K ((P.2 : Int)) ((1 : Nat) : Int) := cancel h.nz ky
  refine Prod.ext ?_ ((K_eq hP.2.1 (by decide)).1 hy1)
  have := (Z_nat _).1 hx0
  rwa [Nat.mod_eq_of_lt hP.1] at this
/-- The base. -/
def base : Pt := (15112221349535400772501151409588531511454012693041857206046113283949847762202, 46316835694926478169428394003475163141307993866256225615783033603165251855960)
theorem base_on : On base := (on_iff (by decide) (by decide)).2 (by
  show _ = F.mul _ (F.inv _)
  rw [← F.mul_modl]
  have h : ∀ a b c : Nat, b % F.p ≠ 0 → F.mul a b = c → a < F.p → a = F.mul c (F.inv b) := fun a b c hb hc ha => by
    rw [← hc, F.mul_assoc, F.mul_inv hb, F.mul_one, Nat.mod_eq_of_lt ha]
  exact h _ _ _ (by decide +kernel) (by decide +kernel) (F.mul_lt _ _))
theorem base_fr : FrN (base.1, base.2, 1) base := Fr.one base
theorem zero_fr : FrN (0, 1, 1) zero := Fr.one zero
theorem base_ord : times ord base = zero := by
  have h := often_fr 253 ord (0, 1, 1) (base.1, base.2, 1) zero base (by decide) zero_on base_on zero_fr base_fr
  have e : (often 253 ord (0, 1, 1) (base.1, base.2, 1)).1 % F.p = 0 ∧ (often 253 ord (0, 1, 1) (base.1, base.2, 1)).2.1 % F.p = (often 253 ord (0, 1, 1) (base.1, base.2, 1)).2.2 % F.p := by decide +kernel
  rw [zero_add (times_on base_on ord)] at h
  exact fr_zero (times_on base_on ord) h e.1 e.2
end Go.Proofs.Ytpnfopakkaoibaa.Cv

/- Lagrange: eight times the base's order makes nothing of any point; how often counts modulo the order for the base. Mathematics alone. -/
namespace Go.Proofs.Ytpnfopakkaoibaa.Cv
open Go.Proofs.Ytpnfopakkaoibaa
/-- The points. -/
abbrev G := {P : Pt // On P}
def gadd (g h : G) : G := ⟨add g.1 h.1, closed g.2 h.2⟩
def gzero : G := ⟨zero, zero_on⟩
theorem gadd_comm (g h : G) : gadd g h = gadd h g := Subtype.ext (add_comm g.2 h.2)
theorem gadd_assoc (g h k : G) : gadd (gadd g h) k = gadd g (gadd h k) := Subtype.ext (add_assoc g.2 h.2 k.2)
/-- A point's place. -/
def idx (g : G) : Nat := 2 * g.1.2 + g.1.1 % 2
theorem idx_inj {g h : G} (e : idx g = idx h) : g = h := by
  refine Subtype.ext (pk_inj g.2 h.2 ?_)
  unfold idx at e
  unfold pk
  rw [show g.1.1 % 2 = h.1.1 % 2 by omega, show g.1.2 = h.1.2 by omega]
theorem idx_lt (g : G) : idx g < 2 * F.p := by
  have := g.2.2.1
  unfold idx
  omega
theorem all (m : Nat) : ∃ l : List G, l.Nodup ∧ (∀ g, g ∈ l ↔ idx g < m) ∧ l.length ≤ m := by
  induction m with
  | zero => exact ⟨[], List.nodup_nil, fun g => by simp, Nat.le_refl _⟩
  | succ m ih =>
    obtain ⟨l, h1, h2, h3⟩ := ih
    by_cases h : ∃ g, idx g = m
    · obtain ⟨g, hg⟩ := h
      refine ⟨g :: l, List.nodup_cons.2 ⟨fun hm => ?_, h1⟩, fun k => ?_, Nat.succ_le_succ h3⟩
      · have := (h2 g).1 hm
        omega
      · rw [List.mem_cons, h2]
        constructor
        · rintro (rfl | hk)
          · omega
          · omega
        · intro hk
          by_cases he : idx k = m
          · exact .inl (idx_inj (he.trans hg.symm))
          · exact .inr (by omega)
    · refine ⟨l, h1, fun k => ?_, Nat.le_succ_of_le h3⟩
      rw [h2]
      constructor
      · intro hk
        omega
      · intro hk
        by_cases he : idx k = m
        · exact absurd ⟨k, he⟩ h
        · omega
def gsum (l : List G) : G := l.foldr gadd gzero
def gtimes (n : Nat) (g : G) : G := ⟨times n g.1, times_on g.2 n⟩
theorem gcancel {g h k : G} (e : gadd g k = gadd h k) : g = h := by
  have e1 : add (add g.1 k.1) (neg k.1) = add (add h.1 k.1) (neg k.1) := by
    have := congrArg Subtype.val e
    exact congrArg (fun x => add x (neg k.1)) this
  rw [add_assoc g.2 k.2 (neg_on k.2), add_assoc h.2 k.2 (neg_on k.2), add_neg k.2, add_zero g.2, add_zero h.2] at e1
  exact Subtype.ext e1
theorem gsum_map (g : G) : ∀ l : List G, gsum (l.map (gadd g)) = gadd (gtimes l.length g) (gsum l)
  | [] => Subtype.ext (add_zero zero_on).symm
  | k :: l => by
    have ih := gsum_map g l
    show gadd (gadd g k) (gsum (l.map (gadd g))) = gadd (gadd g (gtimes l.length g)) (gadd k (gsum l))
    rw [ih]
    refine Subtype.ext ?_
    exact four g.2 k.2 (gtimes l.length g).2 (gsum l).2
/-- As often as there are points makes nothing. -/
theorem lagrange : ∃ N, 0 < N ∧ N ≤ 2 * F.p ∧ ∀ P, On P → times N P = zero := by
  obtain ⟨l, h1, h2, h3⟩ := all (2 * F.p)
  have hall : ∀ g, g ∈ l := fun g => (h2 g).2 (idx_lt g)
  refine ⟨l.length, List.length_pos_of_mem (hall gzero), h3, fun P hP => ?_⟩
  have hinj : ∀ a b : G, gadd ⟨P, hP⟩ a = gadd ⟨P, hP⟩ b → a = b := fun a b e => gcancel (k := ⟨P, hP⟩) (by rw [gadd_comm a, gadd_comm b]; exact e)
  have hn : (l.map (gadd ⟨P, hP⟩)).Nodup := by
    unfold List.Nodup at *
    rw [List.pairwise_map]
    exact h1.imp fun hne e => hne (hinj _ _ e)
  have hp : (l.map (gadd ⟨P, hP⟩)).Perm l := (List.perm_ext_iff_of_nodup hn h1).2 fun a => by
    refine ⟨fun _ => hall a, fun _ => ?_⟩
    refine List.mem_map.2 ⟨gadd ⟨neg P, neg_on hP⟩ a, hall _, ?_⟩
    rw [← gadd_assoc]
    refine Subtype.ext ?_
    show add (add P (neg P)) a.1 = a.1
    rw [add_neg hP, zero_add a.2]
  have hs : gsum (l.map (gadd ⟨P, hP⟩)) = gsum l := hp.foldr_eq' (fun x _ y _ z => by rw [← gadd_assoc, ← gadd_assoc, gadd_comm y x]) gzero
  rw [gsum_map] at hs
  have e : gadd (gtimes l.length ⟨P, hP⟩) (gsum l) = gadd gzero (gsum l) := by
    rw [hs]
    exact Subtype.ext (zero_add (gsum l).2).symm
  exact congrArg Subtype.val (gcancel e)
theorem times_mod {P : Pt} (hP : On P) {m : Nat} (h : times m P = zero) (n : Nat) : times (n % m) P = times n P := by
  have e := Nat.div_add_mod n m
  have h1 : times (m * (n / m)) P = zero := by rw [Nat.mul_comm, times_mul hP, h, times_zero]
  have h2 := times_add hP (m * (n / m)) (n % m)
  rw [e, h1, zero_add (times_on hP _)] at h2
  exact h2.symm
theorem times_gcd {P : Pt} (hP : On P) : ∀ m n, times m P = zero → times n P = zero → times (Nat.gcd m n) P = zero := by
  intro m n
  induction m, n using Nat.gcd.induction with
  | H0 n => intro _ h; rwa [Nat.gcd_zero_left]
  | H1 m n _ ih =>
    intro h1 h2
    rw [Nat.gcd_rec]
    exact ih (by rw [times_mod hP h1]; exact h2) h1
theorem base_ne : base ≠ zero := fun e => by
  have := congrArg Prod.fst e
  exact absurd this (by decide)
/-- The base's order. -/
theorem base_iff (n : Nat) : times n base = zero ↔ n % ord = 0 := by
  constructor
  · intro h
    have hg := times_gcd base_on n ord h base_ord
    rcases ord_pr.2 _ (Nat.gcd_dvd_right n ord) with e | e
    · rw [e, times_one base_on] at hg
      exact absurd hg base_ne
    · exact (Nat.dvd_iff_mod_eq_zero ..).1 (e ▸ Nat.gcd_dvd_left n ord)
  · intro h
    rw [← times_mod base_on base_ord n, h, times]
/-- A point of order eight. -/
def eighth : Pt := (14399317868200118260347934320527232580618823971194345261214217575416788799818, 55188659117513257062467267217118295137698188065244968500265048394206261417927)
theorem on_of {x y : Nat} (hx : x < F.p) (hy : y < F.p) (h : F.mul (F.mul x x) (F.add (F.mul d (F.mul y y)) 1) = F.sub (F.mul y y) 1) (h0 : F.add (F.mul d (F.mul y y)) 1 % F.p ≠ 0) : On (x, y) := by
  refine (on_iff hx hy).2 ?_
  unfold xx
  rw [← h, F.mul_assoc, F.mul_inv h0, F.mul_one, Nat.mod_eq_of_lt (F.mul_lt _ _)]
theorem eighth_on : On eighth := on_of (by decide) (by decide) (by decide +kernel) (by decide +kernel)
theorem eighth_fr : FrN (eighth.1, eighth.2, 1) eighth := Fr.one eighth
theorem eighth_8 : times 8 eighth = zero := by
  have h := often_fr 4 8 (0, 1, 1) (eighth.1, eighth.2, 1) zero eighth (by decide) zero_on eighth_on zero_fr eighth_fr
  have e : (often 4 8 (0, 1, 1) (eighth.1, eighth.2, 1)).1 % F.p = 0 ∧ (often 4 8 (0, 1, 1) (eighth.1, eighth.2, 1)).2.1 % F.p = (often 4 8 (0, 1, 1) (eighth.1, eighth.2, 1)).2.2 % F.p := by decide +kernel
  rw [zero_add (times_on eighth_on 8)] at h
  exact fr_zero (times_on eighth_on 8) h e.1 e.2
theorem eighth_4 : times 4 eighth ≠ zero := fun he => by
  have h := often_fr 4 4 (0, 1, 1) (eighth.1, eighth.2, 1) zero eighth (by decide) zero_on eighth_on zero_fr eighth_fr
  have e : (often 4 4 (0, 1, 1) (eighth.1, eighth.2, 1)).2.1 % F.p ≠ (often 4 4 (0, 1, 1) (eighth.1, eighth.2, 1)).2.2 % F.p := by decide +kernel
  rw [zero_add (times_on eighth_on 4), he] at h
  refine e (Z_eq.1 ?_)
  have := h.y
  unfold zero at this
  simp only [Int.natCast_one, Int.one_mul] at this
  exact this
/-- Eight times the order makes nothing of any point. -/
theorem eight_ord {P : Pt} (hP : On P) : times (ord * 8) P = zero := by
  obtain ⟨N, h0, h2, h⟩ := lagrange
  have d1 : ord ∣ N := (Nat.dvd_iff_mod_eq_zero ..).2 ((base_iff N).1 (h base base_on))
  have d8 : 8 ∣ N := by
    have hg := times_gcd eighth_on N 8 (h eighth eighth_on) eighth_8
    have hd := Nat.gcd_dvd_right N 8
    have hl := Nat.le_of_dvd (by decide) hd
    have hN := Nat.gcd_dvd_left N 8
    generalize Nat.gcd N 8 = g at *
    by_cases h8 : g = 8
    · rw [h8] at hN
      exact hN
    · exfalso
      have h4 : g ∣ 4 := by
        have : g = 0 ∨ g = 1 ∨ g = 2 ∨ g = 3 ∨ g = 4 ∨ g = 5 ∨ g = 6 ∨ g = 7 := by omega
        rcases this with e | e | e | e | e | e | e | e <;> rw [e] at hd ⊢ <;> first | decide | (exact absurd hd (by decide))
      obtain ⟨c, hc⟩ := h4
      refine eighth_4 ?_
      rw [hc, Nat.mul_comm, times_mul eighth_on, hg, times_zero]
  have dm : ord * 8 ∣ N := Nat.Coprime.mul_dvd_of_dvd_of_dvd (by decide +kernel) d1 d8
  obtain ⟨c, hc⟩ := dm
  have h16 : 2 * F.p < ord * 8 * 2 := by decide
  have hc1 : c = 1 := by
    have hc2 : c < 2 := by
      refine Nat.lt_of_not_le fun hh => ?_
      have := Nat.mul_le_mul_left (ord * 8) hh
      omega
    have hc0 : c ≠ 0 := fun e => by rw [e, Nat.mul_zero] at hc; omega
    omega
  rw [hc1, Nat.mul_one] at hc
  rw [← hc]
  exact h P hP
end Go.Proofs.Ytpnfopakkaoibaa.Cv

/- The point that is its own Neg, beside Zero; no multiple of the base packs to 0. Mathematics alone. -/
namespace Go.Proofs.Ytpnfopakkaoibaa.Cv
open Go.Proofs.Ytpnfopakkaoibaa
/-- The point that is its own Neg, beside Zero. -/
def own : Pt := (0, F.sub 0 1)
end Go.Proofs.Ytpnfopakkaoibaa.Cv

/- Which points have the number 0, and the base's number. Mathematics alone. -/
namespace Go.Proofs.Ytpnfopakkaoibaa.Cv
open Go.Proofs.Ytpnfopakkaoibaa
theorem place_none : place zero = 0 := by
  unfold place zero
  rw [show F.sub 1 (0, 1).2 = 0 by decide, F.inv_zero (by decide)]
  rfl
theorem place_base : place base = 9 := by
  have h : ∀ a b c : Nat, b % F.p ≠ 0 → F.mul a b = c → a < F.p → F.mul c (F.inv b) = a := fun a b c hb hc ha => by
    rw [← hc, F.mul_assoc, F.mul_inv hb, F.mul_one, Nat.mod_eq_of_lt ha]
  unfold place
  exact h 9 _ _ (by decide +kernel) (by decide +kernel) (by decide)
end Go.Proofs.Ytpnfopakkaoibaa.Cv

/- Two that agree: what a clamped secret is, and that both (and all three) come to one point. Mathematics alone. -/
namespace Go.Proofs.Ytpnfopakkaoibaa.Ag
open Go.Proofs.Ytpnfopakkaoibaa
/-- A secret's number, clamped. -/
def cl (n : Nat) : Nat := 2 ^ 254 + n % 2 ^ 254 / 8 * 8
theorem p254_is : (2 : Nat) ^ 254 = 28948022309329048855892746252171976963317496166410141009864396001978282409984 := by decide
theorem p255_is : (2 : Nat) ^ 255 = 57896044618658097711785492504343953926634992332820282019728792003956564819968 := by decide
theorem cl_lt (n : Nat) : cl n < 2 ^ 255 := by
  unfold cl
  rw [p254_is, p255_is]
  omega
theorem cl_lt256 (n : Nat) : cl n < 2 ^ 256 := Nat.lt_trans (cl_lt n) (by decide)
theorem cl_ge (n : Nat) : 2 ^ 254 ≤ cl n := Nat.le_add_right _ _
theorem cl_mod (n : Nat) : cl n % 8 = 0 := by
  unfold cl
  rw [p254_is]
  omega
/-- It is eight times a number below the base's order, which is not 0. -/
theorem cl_eight (n : Nat) : ∃ m, cl n = 8 * m ∧ 0 < m ∧ m < Cv.ord := by
  refine ⟨cl n / 8, ?_, ?_, ?_⟩
  · have := cl_mod n
    omega
  · have h1 := cl_ge n
    rw [p254_is] at h1
    omega
  · have h1 := cl_lt n
    have h2 : (2 : Nat) ^ 255 ≤ 8 * Cv.ord := by decide
    omega
theorem cop {k : Nat} (h0 : 0 < k) (h : k < Cv.ord) : Nat.Coprime k Cv.ord := by
  rcases Cv.ord_pr.2 _ (Nat.gcd_dvd_right k Cv.ord) with e | e
  · exact e
  · have := Nat.le_of_dvd h0 (Nat.gcd_dvd_left k Cv.ord)
    omega
theorem cl_cop (n : Nat) : Nat.Coprime (cl n) Cv.ord := by
  obtain ⟨m, e, h0, h⟩ := cl_eight n
  rw [e]
  exact Nat.Coprime.mul_left (by decide +kernel) (cop h0 h)
/-- What is coprime to the order takes the base to no point whose number is 0. -/
theorem place_ne {k : Nat} (h : Nat.Coprime k Cv.ord) : Cv.place (Cv.times k Cv.base) ≠ 0 := fun e => by
  have hP := Cv.times_on Cv.base_on k
  have hx := Cv.place_small hP e
  have hn : Cv.neg (Cv.times k Cv.base) = Cv.times k Cv.base := by
    refine Prod.ext ?_ rfl
    show F.sub 0 (Cv.times k Cv.base).1 = (Cv.times k Cv.base).1
    rw [hx]
    exact F.sub_self 0
  have ha := Cv.add_neg hP
  rw [hn, ← Cv.times_two Cv.base_on, Cv.base_iff] at ha
  have hd := Nat.dvd_of_mod_eq_zero ha
  have h2 : Nat.Coprime (2 * k) Cv.ord := Nat.Coprime.mul_left (by decide +kernel) h
  have := Nat.Coprime.eq_one_of_dvd h2.symm hd
  exact absurd this (by decide)
theorem nine (k : Nat) (hk : k < 2 ^ 256) : Cv.lad k 9 = Cv.place (Cv.times k Cv.base) := by
  rw [← Cv.place_base]
  exact Cv.lad_place Cv.base_on k hk
/-- A public number, and a shared one. -/
def pub (a : Nat) : Nat := Cv.lad (cl a) 9
def sh (a u : Nat) : Nat := Cv.lad (cl a) (u % 2 ^ 255)
theorem pub_lt (a : Nat) : pub a < F.p := F.mul_lt _ _
theorem sh_lt (a u : Nat) : sh a u < F.p := F.mul_lt _ _
theorem lt_256 {n : Nat} (h : n < F.p) : n < 2 ^ 256 := Nat.lt_trans h F.p_lt
theorem low {n : Nat} (h : n < F.p) : n % 2 ^ 255 = n := Nat.mod_eq_of_lt (Nat.lt_trans h (by decide))
theorem pub_is (a : Nat) : pub a = Cv.place (Cv.times (cl a) Cv.base) := nine _ (cl_lt256 a)
theorem sh_of {P : Cv.Pt} (hP : Cv.On P) (a : Nat) : sh a (Cv.place P) = Cv.place (Cv.times (cl a) P) := by
  unfold sh
  rw [low (Cv.place_lt P)]
  exact Cv.lad_place hP _ (cl_lt256 a)
theorem two (a b : Nat) : sh a (pub b) = Cv.place (Cv.times (cl a * cl b) Cv.base) := by
  rw [pub_is, sh_of (Cv.times_on Cv.base_on _), Cv.times_mul Cv.base_on]
theorem three (a b c : Nat) : sh c (sh a (pub b)) = Cv.place (Cv.times (cl c * (cl a * cl b)) Cv.base) := by
  rw [two, sh_of (Cv.times_on Cv.base_on _), Cv.times_mul Cv.base_on (cl c)]
/-- DIFFIE, HELLMAN: both have the same, and it is not 0. -/
theorem both (a b : Nat) : sh a (pub b) = sh b (pub a) ∧ sh a (pub b) ≠ 0 := by
  rw [two, two, Nat.mul_comm]
  exact ⟨rfl, place_ne (Nat.Coprime.mul_left (cl_cop b) (cl_cop a))⟩
theorem all (a b c : Nat) : sh c (sh a (pub b)) = sh a (sh b (pub c)) ∧ sh c (sh a (pub b)) ≠ 0 := by
  rw [three, three]
  refine ⟨?_, place_ne (Nat.Coprime.mul_left (cl_cop c) (Nat.Coprime.mul_left (cl_cop a) (cl_cop b)))⟩
  rw [show cl c * (cl a * cl b) = cl a * (cl b * cl c) by rw [Nat.mul_comm, Nat.mul_assoc]]
/-- Nobody agrees with a point whose eightfold is Zero. -/
theorem small {P : Cv.Pt} (hP : Cv.On P) (a : Nat) : sh a (Cv.place (Cv.times Cv.ord P)) = 0 := by
  obtain ⟨m, e, -, -⟩ := cl_eight a
  rw [sh_of (Cv.times_on hP _), ← Cv.times_mul hP, e, show 8 * m * Cv.ord = m * (Cv.ord * 8) by rw [Nat.mul_comm 8 m, Nat.mul_assoc, Nat.mul_comm 8], Cv.times_mul hP, Cv.eight_ord hP, Cv.times_zero, Cv.place_none]
end Go.Proofs.Ytpnfopakkaoibaa.Ag
