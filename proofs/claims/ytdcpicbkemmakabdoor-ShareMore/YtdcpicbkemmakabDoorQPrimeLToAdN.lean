/- Texts that were joined: PrimeL, OrdN, ShM, ShN, NmN, ScD, AdN. -/
import Derived.Test.YtdcpicbkemmakabDoorQPrime
import Derived.Test.YtdcpicbkemmakabDoorQAddSubToMulV
/- That 2^252 + 27742317777372353535851937790883648493 is a prime. Mathematics alone (the factors were found by a program of algebra; that they fit is shown here). -/
namespace Go.Proofs.YtdcpicbkemmakabDoor.P
theorem prL_1224481 : Pr 1224481 := prime_tri (f := 1106) (by decide) (by decide +kernel) (by decide)
theorem prL_531581 : Pr 531581 := prime_tri (f := 729) (by decide) (by decide +kernel) (by decide)
theorem prL_12575597_51 : Pr 1257559732178653 :=
  prime_chk2 (q := 1224481) (s := 1027014492) (a := 2) (r := 531581) (t := 2365697292) (b := 2) (k := 64) prL_1224481 prL_531581 (by decide) (by decide +kernel) (by decide +kernel) (by decide) (by decide)
theorem prL_44341556_62 : Pr 4434155615661930479 :=
  prime_chk1 (q := 1257559732178653) (s := 3526) (a := 2) (k := 64) prL_12575597_51 (by decide) (by decide +kernel) (by decide)
theorem prL_17205459_88 : Pr 172054593956031949258510691 :=
  prime_chk1 (q := 4434155615661930479) (s := 38802110) (a := 2) (k := 128) prL_44341556_62 (by decide) (by decide +kernel) (by decide)
theorem prL_19757330_134 : Pr 19757330305831588566944191468367130476339 :=
  prime_chk1 (q := 172054593956031949258510691) (s := 114831751082918) (a := 2) (k := 256) prL_17205459_88 (by decide) (by decide +kernel) (by decide)
theorem prL_27660262_138 : Pr 276602624281642239937218680557139826668747 :=
  prime_chk1 (q := 19757330305831588566944191468367130476339) (s := 14) (a := 2) (k := 256) prL_19757330_134 (by decide) (by decide +kernel) (by decide)
theorem pr_L : Pr 7237005577332262213973186563042994240857116359379907606001950938285454250989 :=
  prime_chk1 (q := 276602624281642239937218680557139826668747) (s := 26163907866482859529727157400808004) (a := 2) (k := 256) prL_27660262_138 (by decide) (by decide +kernel) (by decide)
end Go.Proofs.YtdcpicbkemmakabDoor.P

/- How often the base makes nothing: a prime. Mathematics alone. -/
namespace Go.Proofs.YtdcpicbkemmakabDoor.Cv
open Go.Proofs.YtdcpicbkemmakabDoor
def ord : Nat := 7237005577332262213973186563042994240857116359379907606001950938285454250989
theorem ord_pr : P.Pr ord := P.pr_L
end Go.Proofs.YtdcpicbkemmakabDoor.Cv

/- Polynomials modulo the base's order: of a degree below n there is one that has given values at n places. Mathematics alone. -/
namespace Go.Proofs.YtdcpicbkemmakabDoor.So
open Go.Proofs.YtdcpicbkemmakabDoor
/-- A multiple of the order; the same modulo the order. -/
def Z (a : Int) : Prop := (Cv.ord : Int) ∣ a
def K (a b : Int) : Prop := Z (a - b)
theorem Z.add {a b : Int} (ha : Z a) (hb : Z b) : Z (a + b) := Int.dvd_add ha hb
theorem Z.sub {a b : Int} (ha : Z a) (hb : Z b) : Z (a - b) := Int.dvd_sub ha hb
theorem Z.neg {a : Int} (ha : Z a) : Z (-a) := (Int.dvd_neg).2 ha
theorem Z.mul (c : Int) {a : Int} (ha : Z a) : Z (c * a) := Int.dvd_trans ha (Int.dvd_mul_left _ _)
theorem Z.zero : Z 0 := Int.dvd_zero _
theorem Z.of_eq {a b : Int} (h : Z a) (e : b = a) : Z b := by rw [e]; exact h
theorem Z.prime {a b : Int} (h : Z (a * b)) : Z a ∨ Z b := by
  have h2 : Cv.ord ∣ a.natAbs * b.natAbs := by rw [← Int.natAbs_mul]; exact Int.ofNat_dvd_left.1 h
  rcases Cv.ord_pr.euclid h2 with h | h
  · exact .inl (Int.ofNat_dvd_left.2 h)
  · exact .inr (Int.ofNat_dvd_left.2 h)
theorem K.refl (a : Int) : K a a := by unfold K; rw [Int.sub_self]; exact Z.zero
theorem K.symm {a b : Int} (h : K a b) : K b a := (Z.neg h).of_eq (by omega)
theorem K.trans {a b c : Int} (h : K a b) (h' : K b c) : K a c := (Z.add h h').of_eq (by omega)
theorem K.add {a b a' b' : Int} (h : K a b) (h' : K a' b') : K (a + a') (b + b') := (Z.add h h').of_eq (by omega)
theorem K.sub {a b a' b' : Int} (h : K a b) (h' : K a' b') : K (a - a') (b - b') := (Z.sub h h').of_eq (by omega)
theorem K.mul {a b a' b' : Int} (h : K a b) (h' : K a' b') : K (a * a') (b * b') := (Z.add (Z.mul a' h) (Z.mul b h')).of_eq (by grind)
theorem K.z {a b : Int} (h : K a b) (hb : Z b) : Z a := (Z.add h hb).of_eq (by omega)
theorem K.of_eq {a b : Int} (h : a = b) : K a b := by rw [h]; exact K.refl _
theorem one_no : ¬ Z 1 := fun h => by
  have := Int.le_of_dvd (by decide) h
  exact absurd this (by decide)
/-- A small number that is not 0 is no multiple. -/
theorem small_no {a : Int} (h0 : a ≠ 0) (h1 : -(Cv.ord : Int) < a) (h2 : a < Cv.ord) : ¬ Z a := fun h => by
  obtain ⟨q, hq⟩ := h
  have hp : (0 : Int) < Cv.ord := by decide
  have : q = 0 := by
    rcases Int.lt_trichotomy q 0 with h | h | h
    · have := Int.mul_le_mul_of_nonneg_left (show q ≤ -1 by omega) (Int.le_of_lt hp)
      omega
    · exact h
    · have := Int.mul_le_mul_of_nonneg_left (show 1 ≤ q by omega) (Int.le_of_lt hp)
      omega
  rw [this, Int.mul_zero] at hq
  exact h0 hq
/-- What is left. -/
def rd (a : Int) : Nat := (a % (Cv.ord : Int)).toNat
theorem pos : (0 : Int) < Cv.ord := by decide
theorem rd_lt (a : Int) : rd a < Cv.ord := by
  have h1 := Int.emod_nonneg a (Int.ne_of_gt pos)
  have h2 := Int.emod_lt_of_pos a pos
  unfold rd
  omega
theorem rd_K (a : Int) : K (rd a : Int) a := by
  have h1 := Int.emod_nonneg a (Int.ne_of_gt pos)
  have h3 := Int.emod_add_mul_ediv a (Cv.ord : Int)
  unfold rd K
  rw [Int.toNat_of_nonneg h1]
  exact Int.dvd_trans (Int.dvd_mul_right _ (-(a / (Cv.ord : Int)))) (by rw [Int.mul_neg]; exact ⟨1, by omega⟩)
theorem K_eq {m n : Nat} (hm : m < Cv.ord) (hn : n < Cv.ord) (h : K (m : Int) n) : m = n := by
  rcases Nat.lt_or_ge m n with g | g
  · refine Classical.byContradiction fun _ => small_no (a := (m : Int) - n) (by omega) (by omega) (by omega) h
  · rcases Nat.eq_or_lt_of_le g with e | e
    · exact e.symm
    · exact absurd h (small_no (a := (m : Int) - n) (by omega) (by omega) (by omega))
theorem rd_mod (n : Nat) : rd n = n % Cv.ord := by
  unfold rd
  rw [← Int.natCast_emod, Int.toNat_natCast]
theorem K_mod (n : Nat) : K ((n % Cv.ord : Nat) : Int) n := by rw [← rd_mod]; exact rd_K _
theorem inv_some {a : Int} (h : ¬ Z a) : ∃ b : Int, K (a * b) 1 := by
  have hg : Nat.gcd a.natAbs Cv.ord = 1 := by
    rcases Cv.ord_pr.2 _ (Nat.gcd_dvd_right a.natAbs Cv.ord) with e | e
    · exact e
    · exact absurd (Int.ofNat_dvd_left.2 (e ▸ Nat.gcd_dvd_left a.natAbs Cv.ord)) h
  have hk : (¬ Cv.ord ∣ a.natAbs) := fun hd => h (Int.ofNat_dvd_left.2 hd)
  have hf := P.fermat Cv.ord_pr hk
  have e1 : Z (((a.natAbs ^ (Cv.ord - 2) : Nat) : Int) * a.natAbs - 1) := by
    have e2 : a.natAbs ^ (Cv.ord - 1) = a.natAbs ^ (Cv.ord - 2) * a.natAbs := by
      rw [show Cv.ord - 1 = Cv.ord - 2 + 1 by decide, Nat.pow_succ]
    rw [e2] at hf
    have h3 := K_mod (a.natAbs ^ (Cv.ord - 2) * a.natAbs)
    rw [hf] at h3
    exact (Z.neg h3).of_eq (by push_cast; omega)
  rcases Int.natAbs_eq a with e | e
  · exact ⟨((a.natAbs ^ (Cv.ord - 2) : Nat) : Int), e1.of_eq (by rw [Int.mul_comm, ← e])⟩
  · refine ⟨-((a.natAbs ^ (Cv.ord - 2) : Nat) : Int), e1.of_eq ?_⟩
    generalize ((a.natAbs ^ (Cv.ord - 2) : Nat) : Int) = t
    rw [show a * -t - 1 = -a * t - 1 by grind, show -a = (a.natAbs : Int) by omega, Int.mul_comm]
/-- A polynomial's value. -/
def ev : List Int → Int → Int
  | [], _ => 0
  | a :: c, x => a + x * ev c x
/-- The values of a polynomial of a degree less than n. -/
def Po (n : Nat) (f : Int → Int) : Prop := ∃ c : List Int, c.length ≤ n ∧ ∀ x, K (f x) (ev c x)
theorem Po.congr {n : Nat} {f g : Int → Int} (h : Po n f) (e : ∀ x, K (g x) (f x)) : Po n g := by
  obtain ⟨c, hc, h⟩ := h
  exact ⟨c, hc, fun x => (e x).trans (h x)⟩
theorem Po.mono {m n : Nat} {f : Int → Int} (h : Po m f) (hn : m ≤ n) : Po n f := by
  obtain ⟨c, hc, h⟩ := h
  exact ⟨c, Nat.le_trans hc hn, h⟩
theorem Po.zero (n : Nat) : Po n (fun _ => 0) := ⟨[], Nat.zero_le _, fun _ => K.refl _⟩
theorem Po.ev (c : List Int) : Po c.length (ev c) := ⟨c, Nat.le_refl _, fun _ => K.refl _⟩
def padd : List Int → List Int → List Int
  | [], d => d
  | c, [] => c
  | a :: c, b :: d => (a + b) :: padd c d
theorem padd_ev : ∀ c d x, So.ev (padd c d) x = So.ev c x + So.ev d x
  | [], d, x => by simp [padd, So.ev]
  | a :: c, [], x => by simp [padd, So.ev]
  | a :: c, b :: d, x => by
    simp only [padd, So.ev, padd_ev c d x]
    grind
theorem padd_len : ∀ c d : List Int, (padd c d).length ≤ max c.length d.length
  | [], d => by simp [padd]
  | a :: c, [] => by simp [padd]
  | a :: c, b :: d => by
    have := padd_len c d
    simp only [padd, List.length_cons]
    omega
theorem Po.add {n : Nat} {f g : Int → Int} (h : Po n f) (h' : Po n g) : Po n (fun x => f x + g x) := by
  obtain ⟨c, hc, h⟩ := h
  obtain ⟨d, hd, h'⟩ := h'
  refine ⟨padd c d, ?_, fun x => ?_⟩
  · have := padd_len c d
    omega
  · rw [padd_ev]
    exact (h x).add (h' x)
theorem smul_ev (a : Int) : ∀ c x, So.ev (c.map (a * ·)) x = a * So.ev c x
  | [], x => by simp [So.ev]
  | b :: c, x => by
    simp only [List.map_cons, So.ev, smul_ev a c x]
    grind
theorem Po.smul {n : Nat} {f : Int → Int} (a : Int) (h : Po n f) : Po n (fun x => a * f x) := by
  obtain ⟨c, hc, h⟩ := h
  refine ⟨c.map (a * ·), by rw [List.length_map]; exact hc, fun x => ?_⟩
  rw [smul_ev]
  exact (K.refl a).mul (h x)
theorem Po.sub {n : Nat} {f g : Int → Int} (h : Po n f) (h' : Po n g) : Po n (fun x => f x - g x) :=
  (h.add (h'.smul (-1))).congr fun x => K.of_eq (by grind)
theorem Po.const (a : Int) : Po 1 (fun _ => a) := ⟨[a], Nat.le_refl _, fun x => K.of_eq (by simp [So.ev])⟩
theorem Po.lin {n : Nat} {f : Int → Int} (a : Int) (h : Po n f) : Po (n + 1) (fun x => (x - a) * f x) := by
  have hx : Po (n + 1) (fun x => x * f x) := by
    obtain ⟨c, hc, h⟩ := h
    refine ⟨0 :: c, Nat.succ_le_succ hc, fun x => ?_⟩
    simp only [So.ev]
    exact ((K.refl x).mul (h x)).trans (K.of_eq (by omega))
  exact (hx.sub ((h.smul a).mono (Nat.le_succ n))).congr fun x => K.of_eq (by grind)
/-- A root is taken out. -/
theorem factor : ∀ (c : List Int) (a : Int), ∃ q : List Int, q.length = c.length - 1 ∧ ∀ x, So.ev c x = So.ev c a + (x - a) * So.ev q x
  | [], a => ⟨[], rfl, fun x => by simp [So.ev]⟩
  | [b], a => ⟨[], rfl, fun x => by simp [So.ev]⟩
  | b :: e :: t, a => by
    obtain ⟨q, hq, h⟩ := factor (e :: t) a
    refine ⟨So.ev (e :: t) a :: q, by simp [hq], fun x => ?_⟩
    have hx := h x
    have e1 : So.ev (b :: e :: t) x = b + x * So.ev (e :: t) x := rfl
    have e2 : So.ev (b :: e :: t) a = b + a * So.ev (e :: t) a := rfl
    have e3 : So.ev (So.ev (e :: t) a :: q) x = So.ev (e :: t) a + x * So.ev q x := rfl
    rw [e1, e2, e3, hx]
    grind
/-- Places of which no two are the same. -/
def Apart (l : List Int) : Prop := l.Pairwise fun a b => ¬ Z (a - b)
theorem roots : ∀ (l : List Int) (c : List Int), c.length ≤ l.length → Apart l → (∀ a ∈ l, Z (So.ev c a)) → ∀ x, Z (So.ev c x)
  | [], c, hc, _, _, x => by
    cases c with
    | nil => exact Z.zero
    | cons a c => simp at hc
  | a :: l, c, hc, ha, hz, x => by
    obtain ⟨q, hq, h⟩ := factor c a
    have h0 := hz a List.mem_cons_self
    have ha' := List.pairwise_cons.1 ha
    have hr := roots l q (by simp at hc; omega) ha'.2 (fun b hb => by
      have h1 := hz b (List.mem_cons_of_mem _ hb)
      rw [h b] at h1
      have h2 : Z ((b - a) * So.ev q b) := (h1.sub h0).of_eq (by omega)
      rcases Z.prime h2 with h3 | h3
      · exact absurd ((Z.neg h3).of_eq (by omega)) (ha'.1 b hb)
      · exact h3)
    rw [h x]
    exact h0.add (Z.mul _ (hr x))
theorem Po.roots {n : Nat} {f : Int → Int} (h : Po n f) {l : List Int} (hl : n ≤ l.length) (ha : Apart l) (hz : ∀ a ∈ l, Z (f a)) (x : Int) : Z (f x) := by
  obtain ⟨c, hc, h⟩ := h
  exact (h x).z (So.roots l c (by omega) ha (fun a hm => (h a).symm.z (hz a hm)) x)
/-- There is one alone. -/
theorem Po.only {n : Nat} {f g : Int → Int} (h : Po n f) (h' : Po n g) {l : List Int} (hl : n ≤ l.length) (ha : Apart l) (he : ∀ a ∈ l, K (f a) (g a)) (x : Int) : K (f x) (g x) :=
  (h.sub h').roots hl ha he x
/-- Points: the polynomial through them. -/
abbrev Pts := List (Int × Int)
def Good (l : Pts) : Prop := Apart (l.map Prod.fst)
def IsAt (l : Pts) (f : Int → Int) : Prop := Po l.length f ∧ ∀ q ∈ l, K (f q.1) q.2
theorem IsAt.only {l : Pts} {f g : Int → Int} (hg : Good l) (h : IsAt l f) (h' : IsAt l g) (x : Int) : K (f x) (g x) :=
  h.1.only h'.1 (by rw [List.length_map]; exact Nat.le_refl _) hg (fun a ha => by
    obtain ⟨q, hq, rfl⟩ := List.mem_map.1 ha
    exact (h.2 q hq).trans (h'.2 q hq).symm) x
/-- The product of all differences. -/
def prod : List Int → Int → Int
  | [], _ => 1
  | a :: l, x => (x - a) * prod l x
theorem prod_po : ∀ l, Po (l.length + 1) (prod l)
  | [] => Po.const 1
  | a :: l => (prod_po l).lin a
theorem prod_root : ∀ (l : List Int) (a : Int), a ∈ l → prod l a = 0
  | b :: l, a, h => by
    rcases List.mem_cons.1 h with e | h
    · rw [prod, e, Int.sub_self, Int.zero_mul]
    · rw [prod, prod_root l a h, Int.mul_zero]
theorem prod_no : ∀ (l : List Int) (x : Int), (∀ a ∈ l, ¬ Z (x - a)) → ¬ Z (prod l x)
  | [], _, _ => one_no
  | a :: l, x, h => fun hz => by
    rcases Z.prime hz with h1 | h1
    · exact h a List.mem_cons_self h1
    · exact prod_no l x (fun b hb => h b (List.mem_cons_of_mem _ hb)) h1
/-- There is one. -/
theorem at_some : ∀ l : Pts, Good l → ∃ f, IsAt l f
  | [], _ => ⟨fun _ => 0, Po.zero 0, fun q hq => by cases hq⟩
  | (X, Y) :: l, hg => by
    have hg' := List.pairwise_cons.1 (show Apart (X :: l.map Prod.fst) from hg)
    obtain ⟨f, hf⟩ := at_some l hg'.2
    have hn : ¬ Z (prod (l.map Prod.fst) X) := prod_no _ _ hg'.1
    obtain ⟨b, hb⟩ := inv_some hn
    refine ⟨fun x => f x + (Y - f X) * b * prod (l.map Prod.fst) x, ?_, fun q hq => ?_⟩
    · have h1 := prod_po (l.map Prod.fst)
      rw [List.length_map] at h1
      exact (hf.1.mono (Nat.le_succ _)).add (h1.smul _)
    · rcases List.mem_cons.1 hq with e | hq
      · subst e
        show Z _
        exact (Z.mul (Y - f X) hb).of_eq (by simp only []; grind)
      · have h0 := prod_root (l.map Prod.fst) q.1 (List.mem_map.2 ⟨q, hq, rfl⟩)
        show K (f q.1 + _) _
        rw [h0, Int.mul_zero, Int.add_zero]
        exact hf.2 q hq
end Go.Proofs.YtdcpicbkemmakabDoor.So

/- Newton's differences make the polynomial through given points. Mathematics alone. -/
namespace Go.Proofs.YtdcpicbkemmakabDoor.So
open Go.Proofs.YtdcpicbkemmakabDoor
section newton
variable (X : Nat → Int) (D : Nat → Nat → Int) (n : Nat)
/-- The product of the differences from place a on. -/
def W (a : Nat) : Nat → Int → Int
  | 0, _ => 1
  | k + 1, x => W a k x * (x - X (a + k))
def nwt (a : Nat) : Nat → Int → Int
  | 0, _ => D a 0
  | k + 1, x => nwt a k x + D (a + k + 1) (k + 1) * W X a (k + 1) x
theorem W_front (a : Nat) (x : Int) : ∀ k, W X a (k + 1) x = (x - X a) * W X (a + 1) k x
  | 0 => by simp [W]
  | k + 1 => by
    rw [W, W_front a x k, W, show a + 1 + k = a + (k + 1) by omega]
    grind
def IsD : Prop := ∀ a k, a + k + 1 < n → K (D (a + k + 1) (k + 1) * (X (a + k + 1) - X a)) (D (a + k + 1) k - D (a + k) k)
theorem nwt_next (h : IsD X D n) (a : Nat) (x : Int) : ∀ k, a + k + 1 < n → K ((x - X a) * (nwt X D (a + 1) k x - nwt X D a k x)) ((D (a + k + 1) k - D (a + k) k) * W X a (k + 1) x)
  | 0, _ => K.of_eq (by simp [nwt, W]; grind)
  | k + 1, hk => by
    have ih := nwt_next h a x k (by omega)
    have hd := h a k (by omega)
    have w1 := W_front X a x k
    have w2 := W_front X a x (k + 1)
    have w3 : W X (a + 1) (k + 1) x = W X (a + 1) k x * (x - X (a + k + 1)) := by
      rw [W, show a + 1 + k = a + k + 1 by omega]
    rw [w1] at ih
    rw [w2, w3]
    have e1 : nwt X D (a + 1) (k + 1) x = nwt X D (a + 1) k x + D (a + k + 1 + 1) (k + 1) * (W X (a + 1) k x * (x - X (a + k + 1))) := by
      rw [nwt, w3, show a + 1 + k + 1 = a + k + 1 + 1 by omega]
    have e2 : nwt X D a (k + 1) x = nwt X D a k x + D (a + k + 1) (k + 1) * ((x - X a) * W X (a + 1) k x) := by
      rw [nwt, w1]
    rw [e1, e2, show a + (k + 1) + 1 = a + k + 1 + 1 by omega, show a + (k + 1) = a + k + 1 by omega]
    generalize W X (a + 1) k x = w at *
    generalize nwt X D (a + 1) k x = p at *
    generalize nwt X D a k x = q at *
    generalize D (a + k + 1) (k + 1) = d1 at *
    generalize D (a + k + 1 + 1) (k + 1) = d2 at *
    generalize D (a + k + 1) k - D (a + k) k = d3 at *
    generalize X (a + k + 1) = xk at *
    generalize X a = xa at *
    unfold K at *
    refine (ih.sub (Z.mul ((x - xa) * w) hd)).of_eq ?_
    grind
theorem nwt_nev (h : IsD X D n) (a : Nat) (x : Int) (k : Nat) (hk : a + k + 1 < n) : K ((X (a + k + 1) - X a) * nwt X D a (k + 1) x) ((x - X a) * nwt X D (a + 1) k x - (x - X (a + k + 1)) * nwt X D a k x) := by
  have ih := nwt_next X D n h a x k hk
  have hd := h a k hk
  rw [show nwt X D a (k + 1) x = nwt X D a k x + D (a + k + 1) (k + 1) * W X a (k + 1) x from rfl]
  generalize W X a (k + 1) x = w at *
  generalize nwt X D (a + 1) k x = p at *
  generalize nwt X D a k x = q at *
  generalize D (a + k + 1) (k + 1) = d1 at *
  generalize D (a + k + 1) k - D (a + k) k = d3 at *
  generalize X (a + k + 1) = xk at *
  generalize X a = xa at *
  unfold K at *
  refine ((Z.mul w hd).sub ih).of_eq ?_
  grind
theorem nwt_at (h : IsD X D n) (hx : ∀ i j, i < j → j < n → ¬ Z (X j - X i)) : ∀ k a i, a + k < n → i ≤ k → K (nwt X D a k (X (a + i))) (D (a + i) 0)
  | 0, a, i, _, hi => by
    obtain rfl : i = 0 := by omega
    exact K.refl _
  | k + 1, a, i, hk, hi => by
    have hn := nwt_nev X D n h a (X (a + i)) k (by omega)
    have hne := hx a (a + k + 1) (by omega) (by omega)
    refine Classical.byContradiction fun hc => ?_
    have main : K ((X (a + k + 1) - X a) * nwt X D a (k + 1) (X (a + i))) ((X (a + k + 1) - X a) * D (a + i) 0) := by
      refine hn.trans ?_
      by_cases h0 : i = 0
      · subst h0
        have := nwt_at h hx k a 0 (by omega) (Nat.zero_le _)
        rw [Nat.add_zero] at *
        have e := ((K.refl (X a - X (a + k + 1))).mul this)
        exact (K.of_eq (by grind)).trans ((K.refl (0 : Int)).sub e |>.trans (K.of_eq (by grind)))
      · by_cases h1 : i = k + 1
        · subst h1
          have := nwt_at h hx k (a + 1) k (by omega) (Nat.le_refl _)
          rw [show a + 1 + k = a + (k + 1) by omega] at this
          rw [show a + k + 1 = a + (k + 1) by omega]
          have e := ((K.refl (X (a + (k + 1)) - X a)).mul this)
          exact (K.of_eq (by grind)).trans e
        · have t1 := nwt_at h hx k (a + 1) (i - 1) (by omega) (by omega)
          have t2 := nwt_at h hx k a i (by omega) (by omega)
          rw [show a + 1 + (i - 1) = a + i by omega] at t1
          have e := ((K.refl (X (a + i) - X a)).mul t1).sub ((K.refl (X (a + i) - X (a + k + 1))).mul t2)
          exact e.trans (K.of_eq (by grind))
    have hz : Z ((X (a + k + 1) - X a) * (nwt X D a (k + 1) (X (a + i)) - D (a + i) 0)) := (show Z _ from main).of_eq (by grind)
    rcases Z.prime hz with h2 | h2
    · exact hne h2
    · exact hc h2
theorem W_po (a : Nat) : ∀ k, Po (k + 1) (W X a k)
  | 0 => Po.const 1
  | k + 1 => ((W_po a k).lin (X (a + k))).congr fun x => K.of_eq (by rw [W]; grind)
theorem nwt_po (a : Nat) : ∀ k, Po (k + 1) (nwt X D a k)
  | 0 => Po.const (D a 0)
  | k + 1 => ((nwt_po a k).mono (Nat.le_succ _)).add ((W_po X a (k + 1)).smul (D (a + k + 1) (k + 1)))
/-- From the last one on. -/
def hrn (x : Int) : Nat → Int
  | 0 => 0
  | m + 1 => hrn x m * (x - X (n - (m + 1))) + D (n - (m + 1)) (n - (m + 1))
theorem hrn_nwt (x : Int) : ∀ k, k < n → nwt X D 0 k x + hrn X D n x (n - (k + 1)) * W X 0 (k + 1) x = hrn X D n x n
  | 0, hk => by
    obtain ⟨m, rfl⟩ : ∃ m, n = m + 1 := ⟨n - 1, by omega⟩
    rw [show m + 1 - (0 + 1) = m by omega, hrn, show m + 1 - (m + 1) = 0 by omega]
    simp [nwt, W]
    grind
  | k + 1, hk => by
    have ih := hrn_nwt x k (by omega)
    rw [← ih]
    obtain ⟨m, hm⟩ : ∃ m, n - (k + 1) = m + 1 := ⟨n - (k + 1) - 1, by omega⟩
    have w : W X 0 (k + 1 + 1) x = W X 0 (k + 1) x * (x - X (k + 1)) := by rw [W, Nat.zero_add]
    have nn : nwt X D 0 (k + 1) x = nwt X D 0 k x + D (k + 1) (k + 1) * W X 0 (k + 1) x := by rw [nwt, Nat.zero_add]
    rw [hm, show n - (k + 1 + 1) = m by omega, hrn, show n - (m + 1) = k + 1 by omega, nn, w]
    generalize W X 0 (k + 1) x = w
    generalize hrn X D n x m = h
    generalize D (k + 1) (k + 1) = d
    grind
theorem hrn_is (x : Int) (hn : 0 < n) : hrn X D n x n = nwt X D 0 (n - 1) x := by
  have := hrn_nwt X D n x (n - 1) (by omega)
  rw [show n - (n - 1 + 1) = 0 by omega, hrn, Int.zero_mul, Int.add_zero] at this
  exact this.symm
end newton
/-- Differences as the document takes them. -/
def ml (a b : Nat) : Nat := (a + Cv.ord - b) % Cv.ord
def iv (a : Nat) : Nat := a ^ (Cv.ord - 2) % Cv.ord
def dd (X Y : Nat → Nat) (i : Nat) : Nat → Nat
  | 0 => Y i
  | k + 1 => ml (dd X Y i k) (dd X Y (i - 1) k) * iv (ml (X i) (X (i - (k + 1)))) % Cv.ord
theorem ml_K {a b : Nat} (hb : b < Cv.ord) : K (ml a b : Int) ((a : Int) - b) := by
  unfold ml
  refine (K_mod _).trans ?_
  have e : ((a + Cv.ord - b : Nat) : Int) = (a : Int) + (Cv.ord : Int) - b := by omega
  rw [e]
  exact ⟨1, by rw [Int.mul_one]; omega⟩
theorem iv_lt (a : Nat) : iv a < Cv.ord := Nat.mod_lt _ (by decide)
theorem iv_K {a : Nat} (h : ¬ Z (a : Int)) : K ((a : Int) * (iv a : Int)) 1 := by
  have hk : ¬ Cv.ord ∣ a := fun hd => h (Int.ofNat_dvd.2 hd)
  have hf := P.fermat Cv.ord_pr hk
  rw [show Cv.ord - 1 = Cv.ord - 2 + 1 by decide, Nat.pow_succ] at hf
  have h3 := K_mod (a ^ (Cv.ord - 2) * a)
  rw [hf] at h3
  have h4 : K (iv a : Int) ((a ^ (Cv.ord - 2) : Nat) : Int) := K_mod _
  generalize a ^ (Cv.ord - 2) = t at *
  push_cast at h3
  exact ((K.refl (a : Int)).mul h4).trans ((K.of_eq (Int.mul_comm _ _)).trans h3.symm)
theorem dd_lt (X Y : Nat → Nat) (hY : ∀ i, Y i < Cv.ord) (i k : Nat) : dd X Y i k < Cv.ord := by
  cases k with
  | zero => exact hY i
  | succ k => exact Nat.mod_lt _ (by decide)
theorem dd_is (X Y : Nat → Nat) (n : Nat) (hY : ∀ i, Y i < Cv.ord) (hX : ∀ i, X i < Cv.ord) (hx : ∀ i j, i < j → j < n → ¬ Z ((X j : Int) - X i)) : IsD (fun i => X i) (fun i k => dd X Y i k) n := fun a k hk => by
  have hn := hx a (a + k + 1) (by omega) hk
  show K ((dd X Y (a + k + 1) (k + 1) : Int) * _) _
  rw [dd, show a + k + 1 - 1 = a + k by omega, show a + k + 1 - (k + 1) = a by omega]
  have h1 := ml_K (a := X (a + k + 1)) (hX a)
  have h2 := ml_K (a := dd X Y (a + k + 1) k) (dd_lt X Y hY (a + k) k)
  have h3 := iv_K (a := ml (X (a + k + 1)) (X a)) (fun h => hn (h1.symm.z h))
  generalize ml (X (a + k + 1)) (X a) = m at *
  have h4 := K_mod (ml (dd X Y (a + k + 1) k) (dd X Y (a + k) k) * iv m)
  generalize ml (dd X Y (a + k + 1) k) (dd X Y (a + k) k) = t at *
  generalize (dd X Y (a + k + 1) k : Int) - dd X Y (a + k) k = d at *
  generalize (X (a + k + 1) : Int) - X a = e at *
  rw [Int.natCast_mul] at h4
  refine (h4.mul h1.symm).trans ?_
  refine ((K.of_eq (by grind)).trans ((K.refl (t : Int)).mul h3)).trans ?_
  exact (K.of_eq (Int.mul_one _)).trans h2
/-- The document's answer: Horner's way over Newton's differences. -/
def hn (X Y : Nat → Nat) (n x : Nat) : Nat → Nat
  | 0 => 0
  | m + 1 => (hn X Y n x m * ml x (X (n - (m + 1))) + dd X Y (n - (m + 1)) (n - (m + 1))) % Cv.ord
theorem hn_K (X Y : Nat → Nat) (n x : Nat) (hX : ∀ i, X i < Cv.ord) : ∀ m, K (hn X Y n x m : Int) (hrn (fun i => (X i : Int)) (fun i k => (dd X Y i k : Int)) n x m)
  | 0 => K.refl _
  | m + 1 => by
    have ih := hn_K X Y n x hX m
    have h1 := ml_K (a := x) (hX (n - (m + 1)))
    rw [hn, hrn]
    refine (K_mod _).trans ?_
    push_cast
    exact (ih.mul h1).add (K.refl _)
theorem hn_lt (X Y : Nat → Nat) (n x m : Nat) : hn X Y n x m < Cv.ord := by
  cases m with
  | zero => exact (by decide : 0 < Cv.ord)
  | succ m => exact Nat.mod_lt _ (by decide)
/-- It is the value of the polynomial through the points. -/
theorem hn_is (X Y : Nat → Nat) (n x : Nat) (h0 : 0 < n) (hY : ∀ i, Y i < Cv.ord) (hX : ∀ i, X i < Cv.ord) (hx : ∀ i j, i < j → j < n → ¬ Z ((X j : Int) - X i)) {f : Int → Int} (hf : IsAt ((List.range n).map fun i => ((X i : Int), (Y i : Int))) f) : hn X Y n x n = rd (f x) := by
  have hd := dd_is X Y n hY hX hx
  have hp := nwt_po (fun i => (X i : Int)) (fun i k => (dd X Y i k : Int)) 0 (n - 1)
  rw [show n - 1 + 1 = n by omega] at hp
  have hl : ((List.range n).map fun i => ((X i : Int), (Y i : Int))).length = n := by rw [List.length_map, List.length_range]
  have ha : IsAt ((List.range n).map fun i => ((X i : Int), (Y i : Int))) (nwt (fun i => (X i : Int)) (fun i k => (dd X Y i k : Int)) 0 (n - 1)) := by
    refine ⟨by rw [hl]; exact hp, fun q hq => ?_⟩
    obtain ⟨i, hi, rfl⟩ := List.mem_map.1 hq
    have hi := List.mem_range.1 hi
    have := nwt_at _ _ n hd hx (n - 1) 0 i (by omega) (by omega)
    rw [Nat.zero_add] at this
    exact this
  have hg : Good ((List.range n).map fun i => ((X i : Int), (Y i : Int))) := by
    unfold Good Apart
    rw [List.map_map, List.pairwise_map]
    refine List.Pairwise.imp_of_mem ?_ List.pairwise_lt_range
    intro a b _ hb hab hz
    exact hx a b hab (List.mem_range.1 hb) ((Z.neg hz).of_eq (by simp only [Function.comp]; omega))
  have e1 := ha.only hg hf (x : Int)
  have e2 := hn_K X Y n x hX n
  rw [hrn_is _ _ _ _ h0] at e2
  exact K_eq (hn_lt _ _ _ _ _) (rd_lt _) ((e2.trans e1).trans (rd_K _).symm)
end Go.Proofs.YtdcpicbkemmakabDoor.So

/- A natural number as Go has it: four words. -/
namespace Go.Proofs.YtdcpicbkemmakabDoor
open Go.RowKit
/-- A number as Go has it. -/
abbrev nm (n : Nat) : Nm := Nm.of ((n : Nat) : Int)
theorem nm_ok (n : Nat) : (nm n).ok := Nm.of_ok _
theorem nm_nat {n : Nat} (h : n < 2 ^ 256) : (nm n).nat = n := Nm.of_nat h
theorem Nm.eq_nm {x : Nm} {n : Nat} (h : x.ok) (e : x.nat = n) : x = nm n := by rw [← e]; exact Nm.eq_of_nat h
end Go.Proofs.YtdcpicbkemmakabDoor

/- What package scalar must keep: its calls' contracts, by numbers modulo the order. -/
namespace Go.Proofs.YtdcpicbkemmakabDoor
open Go.RowKit
set_option linter.unusedSimpArgs false
theorem ord_lt : Cv.ord < 2 ^ 256 := by decide
theorem ord_pos : 0 < Cv.ord := by decide
def SLowC : Prop := ∀ x : Nm, x.ok → ∀ w, Calls Tryd.prog 25 #[N x] w fun e w' => e = .returned (N (nm (x.nat % Cv.ord))) ∧ Below w.heap.size w w'
def SAddC : Prop := ∀ x y : Nm, x.ok → y.ok → ∀ w, Calls Tryd.prog 12 #[N x, N y] w fun e w' => e = .returned (N (nm ((x.nat + y.nat) % Cv.ord))) ∧ Below w.heap.size w w'
def SMulC : Prop := ∀ x y : Nm, x.ok → y.ok → ∀ w, Calls Tryd.prog 11 #[N x, N y] w fun e w' => e = .returned (N (nm (x.nat * y.nat % Cv.ord))) ∧ Below w.heap.size w w'
def SNegC : Prop := ∀ x : Nm, x.ok → ∀ w, Calls Tryd.prog 33 #[N x] w fun e w' => e = .returned (N (nm ((Cv.ord - x.nat % Cv.ord) % Cv.ord))) ∧ Below w.heap.size w w'
theorem s_nat (n : Nat) : (nm (n % Cv.ord)).nat = n % Cv.ord := nm_nat (Nat.lt_trans (Nat.mod_lt _ ord_pos) ord_lt)
def SInvC : Prop := ∀ x : Nm, x.ok → ∀ w, Calls Tryd.prog 13 #[N x] w fun e w' => e = .returned (N (nm (x.nat ^ (Cv.ord - 2) % Cv.ord))) ∧ Below w.heap.size w w'
end Go.Proofs.YtdcpicbkemmakabDoor

/- limb.Add, limb.Sub and the halves of a product, by numbers. -/
namespace Go.Proofs.YtdcpicbkemmakabDoor
open Go.RowKit
set_option linter.unusedSimpArgs false
/-- limb.Add and limb.Sub by the numbers that they answer. -/
theorem add_nat (x y : Nm) (ox : x.ok) (oy : y.ok) (w : World) : Calls Tryd.prog 24 #[N x, N y] w fun e w' => e = .returned (.tuple #[N (nm ((x.nat + y.nat) % 2 ^ 256)), .int .u64 (((x.nat + y.nat) / 2 ^ 256 : Nat) : Int)]) ∧ Below w.heap.size w w' := by
  have h := add_fun x y ox oy w
  have e1 : addS x y = nm ((x.nat + y.nat) % 2 ^ 256) := by
    unfold addS nm
    rw [← Nm.nat_cast ox, ← Nm.nat_cast oy, M_cast, ← Int.natCast_add, ← Int.natCast_emod]
  have e2 : addC x y = (((x.nat + y.nat) / 2 ^ 256 : Nat) : Int) := by
    unfold addC
    rw [← Nm.nat_cast ox, ← Nm.nat_cast oy, M_cast, ← Int.natCast_add, ← Int.natCast_ediv]
  rw [e1, e2] at h
  exact h
theorem sub_nat (x y : Nm) (ox : x.ok) (oy : y.ok) (w : World) : Calls Tryd.prog 27 #[N x, N y] w fun e w' => e = .returned (.tuple #[N (nm ((x.nat + 2 ^ 256 - y.nat) % 2 ^ 256)), .int .u64 (if x.nat < y.nat then 1 else 0)]) ∧ Below w.heap.size w w' := by
  have h := sub_fun x y ox oy w
  have lx := Nm.nat_lt ox; have ly := Nm.nat_lt oy
  have p2 : (2 : Nat) ^ 256 = 115792089237316195423570985008687907853269984665640564039457584007913129639936 := by decide
  have e1 : subS x y = nm ((x.nat + 2 ^ 256 - y.nat) % 2 ^ 256) := by
    unfold subS nm M
    rw [← Nm.nat_cast ox, ← Nm.nat_cast oy]
    congr 1
    rw [p2] at *
    omega
  have e2 : subC x y = if x.nat < y.nat then 1 else 0 := by
    unfold subC M
    rw [← Nm.nat_cast ox, ← Nm.nat_cast oy]
    rw [p2] at *
    split <;> omega
  rw [e1, e2] at h
  exact h
theorem WL_nm (n : Nat) : WL n = nm (n % 2 ^ 256) := by
  unfold WL nm
  rw [M_cast, ← Int.natCast_emod]
theorem WH_nm (n : Nat) : WH n = nm (n / 2 ^ 256) := by
  unfold WH nm
  rw [M_cast, ← Int.natCast_ediv]
end Go.Proofs.YtdcpicbkemmakabDoor
