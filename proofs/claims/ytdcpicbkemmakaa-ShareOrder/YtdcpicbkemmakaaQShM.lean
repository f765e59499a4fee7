/- Polynomials modulo the base's order: of a degree below n there is one that has given values at n places. Mathematics alone. -/
import Derived.Test.YtdcpicbkemmakaaQPrimeToScD
namespace Go.Proofs.Ytdcpicbkemmakaa.So
open Go.Proofs.Ytdcpicbkemmakaa
/-- A multiple of the order; the same modulo the order. -/
def Z (a : Int) : Prop := (Cv.ord : Int) ∣ a
def K (a b : Int) : Prop := Z (a - b)
theorem Z.add {a b : Int} (ha : Z a) (hb : Z b) : Z (a + b) := Int.dvd_add ha hb
theorem Z.sub {a b : Int} (ha : Z a) (hb : Z b) : Z (a - b) := Int.dvd_sub ha hb
theorem Z.neg {a : Int} (ha : Z a) : Z (-a) := (Int.dvd_neg).2 ha
theorem Z.mul (c : Int) {a : Int} (ha : Z a) : Z (c * a) := Int.dvd_trans ha (Int.dvd_mul_left _ _)
theorem Z.zero : Z 0 := Int.dvd_zero _
theorem Z.of_eq {a b : Int} (h : Z a) (e : b = a) : Z b := by rw [e]; exact h
theorem Z.prime {a b : Int} (h : Z (a * b)) : Z a ∨ Z b := by
  have h2 : Cv.ord ∣ a.natAbs * b.natAbs := by rw [← Int.natAbs_mul]; exact Int.ofNat_dvd_left.1 h
  rcases Cv.ord_pr.euclid h2 with h | h
  · exact .inl (Int.ofNat_dvd_left.2 h)
  · exact .inr (Int.ofNat_dvd_left.2 h)
theorem K.refl (a : Int) : K a a := by unfold K; rw [Int.sub_self]; exact Z.zero
theorem K.symm {a b : Int} (h : K a b) : K b a := (Z.neg h).of_eq (by omega)
theorem K.trans {a b c : Int} (h : K a b) (h' : K b c) : K a c := (Z.add h h').of_eq (by omega)
theorem K.add {a b a' b' : Int} (h : K a b) (h' : K a' b') : K (a + a') (b + b') := (Z.add h h').of_eq (by omega)
theorem K.sub {a b a' b' : Int} (h : K a b) (h' : K a' b') : K (a - a') (b - b') := (Z.sub h h').of_eq (by omega)
theorem K.mul {a b a' b' : Int} (h : K a b) (h' : K a' b') : K (a * a') (b * b') := (Z.add (Z.mul a' h) (Z.mul b h')).of_eq (by grind)
theorem K.z {a b : Int} (h : K a b) (hb : Z b) : Z a := (Z.add h hb).of_eq (by omega)
theorem K.of_eq {a b : Int} (h : a = b) : K a b := by rw [h]; exact K.refl _
theorem one_no : ¬ Z 1 := fun h => by
  have := Int.le_of_dvd (by decide) h
  exact absurd this (by decide)
/-- A small number that is not 0 is no multiple. -/
theorem small_no {a : Int} (h0 : a ≠ 0) (h1 : -(Cv.ord : Int) < a) (h2 : a < Cv.ord) : ¬ Z a := fun h => by
  obtain ⟨q, hq⟩ := h
  have hp : (0 : Int) < Cv.ord := by decide
  have : q = 0 := by
    rcases Int.lt_trichotomy q 0 with h | h | h
    · have := Int.mul_le_mul_of_nonneg_left (show q ≤ -1 by omega) (Int.le_of_lt hp)
      omega
    · exact h
    · have := Int.mul_le_mul_of_nonneg_left (show 1 ≤ q by omega) (Int.le_of_lt hp)
      omega
  rw [this, Int.mul_zero] at hq
  exact h0 hq
/-- What is left. -/
def rd (a : Int) : Nat := (a % (Cv.ord : Int)).toNat
theorem pos : (0 : Int) < Cv.ord := by decide
theorem rd_lt (a : Int) : rd a < Cv.ord := by
  have h1 := Int.emod_nonneg a (Int.ne_of_gt pos)
  have h2 := Int.emod_lt_of_pos a pos
  unfold rd
  omega
theorem rd_K (a : Int) : K (rd a : Int) a := by
  have h1 := Int.emod_nonneg a (Int.ne_of_gt pos)
  have h3 := Int.emod_add_mul_ediv a (Cv.ord : Int)
  unfold rd K
  rw [Int.toNat_of_nonneg h1]
  exact Int.dvd_trans (Int.dvd_mul_right _ (-(a / (Cv.ord : Int)))) (by rw [Int.mul_neg]; exact ⟨1, by omega⟩)
theorem K_eq {m n : Nat} (hm : m < Cv.ord) (hn : n < Cv.ord) (h : K (m : Int) n) : m = n := by
  rcases Nat.lt_or_ge m n with g | g
  · refine Classical.byContradiction fun _ => small_no (a := (m : Int) - n) (by omega) (by omega) (by omega) h
  · rcases Nat.eq_or_lt_of_le g with e | e
    · exact e.symm
    · exact absurd h (small_no (a := (m : Int) - n) (by omega) (by omega) (by omega))
theorem rd_eq {a b : Int} (h : K a b) : rd a = rd b := K_eq (rd_lt a) (rd_lt b) (((rd_K a).trans h).trans (rd_K b).symm)
theorem rd_nat {n : Nat} (h : n < Cv.ord) : rd n = n := K_eq (rd_lt _) h (rd_K _)
theorem rd_mod (n : Nat) : rd n = n % Cv.ord := by
  unfold rd
  rw [← Int.natCast_emod, Int.toNat_natCast]
theorem K_mod (n : Nat) : K ((n % Cv.ord : Nat) : Int) n := by rw [← rd_mod]; exact rd_K _
theorem inv_some {a : Int} (h : ¬ Z a) : ∃ b : Int, K (a * b) 1 := by
  have hg : Nat.gcd a.natAbs Cv.ord = 1 := by
    rcases Cv.ord_pr.2 _ (Nat.gcd_dvd_right a.natAbs Cv.ord) with e | e
    · exact e
    · exact absurd (Int.ofNat_dvd_left.2 (e ▸ Nat.gcd_dvd_left a.natAbs Cv.ord)) h
  have hk : (¬ Cv.ord ∣ a.natAbs) := fun hd => h (Int.ofNat_dvd_left.2 hd)
  have hf := P.fermat Cv.ord_pr hk
  have e1 : Z (((a.natAbs ^ (Cv.ord - 2) : Nat) : Int) * a.natAbs - 1) := by
    have e2 : a.natAbs ^ (Cv.ord - 1) = a.natAbs ^ (Cv.ord - 2) * a.natAbs := by
      rw [show Cv.ord - 1 = Cv.ord - 2 + 1 by decide, Nat.pow_succ]
    rw [e2] at hf
    have h3 := K_mod (a.natAbs ^ (Cv.ord - 2) * a.natAbs)
    rw [hf] at h3
    exact (Z.neg h3).of_eq (by push_cast; omega)
  rcases Int.natAbs_eq a with e | e
  · exact ⟨((a.natAbs ^ (Cv.ord - 2) : Nat) : Int), e1.of_eq (by rw [Int.mul_comm, ← e])⟩
  · refine ⟨-((a.natAbs ^ (Cv.ord - 2) : Nat) : Int), e1.of_eq ?_⟩
    generalize ((a.natAbs ^ (Cv.ord - 2) : Nat) : Int) = t
    rw [show a * -t - 1 = -a * t - 1 by grind, show -a = (a.natAbs : Int) by omega, Int.mul_comm]
/-- A polynomial's value. -/
def ev : List Int → Int → Int
  | [], _ => 0
  | a :: c, x => a + x * ev c x
/-- The values of a polynomial of a degree less than n. -/
def Po (n : Nat) (f : Int → Int) : Prop := ∃ c : List Int, c.length ≤ n ∧ ∀ x, K (f x) (ev c x)
theorem Po.congr {n : Nat} {f g : Int → Int} (h : Po n f) (e : ∀ x, K (g x) (f x)) : Po n g := by
  obtain ⟨c, hc, h⟩ := h
  exact ⟨c, hc, fun x => (e x).trans (h x)⟩
theorem Po.mono {m n : Nat} {f : Int → Int} (h : Po m f) (hn : m ≤ n) : Po n f := by
  obtain ⟨c, hc, h⟩ := h
  exact ⟨c, Nat.le_trans hc hn, h⟩
theorem Po.zero (n : Nat) : Po n (fun _ => 0) := ⟨[], Nat.zero_le _, fun _ => K.refl _⟩
theorem Po.ev (c : List Int) : Po c.length (ev c) := ⟨c, Nat.le_refl _, fun _ => K.refl _⟩
def padd : List Int → List Int → List Int
  | [], d => d
  | c, [] => c
  | a :: c, b :: d => (a + b) :: padd c d
theorem padd_ev : ∀ c d x, So.ev (padd c d) x = So.ev c x + So.ev d x
  | [], d, x => by simp [padd, So.ev]
  | a :: c, [], x => by simp [padd, So.ev]
  | a :: c, b :: d, x => by
    simp only [padd, So.ev, padd_ev c d x]
    grind
theorem padd_len : ∀ c d : List Int, (padd c d).length ≤ max c.length d.length
  | [], d => by simp [padd]
  | a :: c, [] => by simp [padd]
  | a :: c, b :: d => by
    have := padd_len c d
    simp only [padd, List.length_cons]
    omega
theorem Po.add {n : Nat} {f g : Int → Int} (h : Po n f) (h' : Po n g) : Po n (fun x => f x + g x) := by
  obtain ⟨c, hc, h⟩ := h
  obtain ⟨d, hd, h'⟩ := h'
  refine ⟨padd c d, ?_, fun x => ?_⟩
  · have := padd_len c d
    omega
  · rw [padd_ev]
    exact (h x).add (h' x)
theorem smul_ev (a : Int) : ∀ c x, So.ev (c.map (a * ·)) x = a * So.ev c x
  | [], x => by simp [So.ev]
  | b :: c, x => by
    simp only [List.map_cons, So.ev, smul_ev a c x]
    grind
theorem Po.smul {n : Nat} {f : Int → Int} (a : Int) (h : Po n f) : Po n (fun x => a * f x) := by
  obtain ⟨c, hc, h⟩ := h
  refine ⟨c.map (a * ·), by rw [List.length_map]; exact hc, fun x => ?_⟩
  rw [smul_ev]
  exact (K.refl a).mul (h x)
theorem Po.sub {n : Nat} {f g : Int → Int} (h : Po n f) (h' : Po n g) : Po n (fun x => f x - g x) :=
  (h.add (h'.smul (-1))).congr fun x => K.of_eq (by grind)
theorem Po.const (a : Int) : Po 1 (fun _ => a) := ⟨[a], Nat.le_refl _, fun x => K.of_eq (by simp [So.ev])⟩
theorem Po.lin {n : Nat} {f : Int → Int} (a : Int) (h : Po n f) : Po (n + 1) (fun x => (x - a) * f x) := by
  have hx : Po (n + 1) (fun x => x * f x) := by
    obtain ⟨c, hc, h⟩ := h
    refine ⟨0 :: c, Nat.succ_le_succ hc, fun x => ?_⟩
    simp only [So.ev]
    exact ((K.refl x).mul (h x)).trans (K.of_eq (by omega))
  exact (hx.sub ((h.smul a).mono (Nat.le_succ n))).congr fun x => K.of_eq (by grind)
/-- A root is taken out. -/
theorem factor : ∀ (c : List Int) (a : Int), ∃ q : List Int, q.length = c.length - 1 ∧ ∀ x, So.ev c x = So.ev c a + (x - a) * So.ev q x
  | [], a => ⟨[], rfl, fun x => by simp [So.ev]⟩
  | [b], a => ⟨[], rfl, fun x => by simp [So.ev]⟩
  | b :: e :: t, a => by
    obtain ⟨q, hq, h⟩ := factor (e :: t) a
    refine ⟨So.ev (e :: t) a :: q, by simp [hq], fun x => ?_⟩
    have hx := h x
    have e1 : So.ev (b :: e :: t) x = b + x * So.ev (e :: t) x := rfl
    have e2 : So.ev (b :: e :: t) a = b + a * So.ev (e :: t) a := rfl
    have e3 : So.ev (So.ev (e :: t) a :: q) x = So.ev (e :: t) a + x * So.ev q x := rfl
    rw [e1, e2, e3, hx]
    grind
/-- Places of which no two are the same. -/
def Apart (l : List Int) : Prop := l.Pairwise fun a b => ¬ Z (a - b)
theorem roots : ∀ (l : List Int) (c : List Int), c.length ≤ l.length → Apart l → (∀ a ∈ l, Z (So.ev c a)) → ∀ x, Z (So.ev c x)
  | [], c, hc, _, _, x => by
    cases c with
    | nil => exact Z.zero
    | cons a c => simp at hc
  | a :: l, c, hc, ha, hz, x => by
    obtain ⟨q, hq, h⟩ := factor c a
    have h0 := hz a List.mem_cons_self
    have ha' := List.pairwise_cons.1 ha
    have hr := roots l q (by simp at hc; omega) ha'.2 (fun b hb => by
      have h1 := hz b (List.mem_cons_of_mem _ hb)
      rw [h b] at h1
      have h2 : Z ((b - a) * So.ev q b) := (h1.sub h0).of_eq (by omega)
      rcases Z.prime h2 with h3 | h3
      · exact absurd ((Z.neg h3).of_eq (by omega)) (ha'.1 b hb)
      · exact h3)
    rw [h x]
    exact h0.add (Z.mul _ (hr x))
theorem Po.roots {n : Nat} {f : Int → Int} (h : Po n f) {l : List Int} (hl : n ≤ l.length) (ha : Apart l) (hz : ∀ a ∈ l, Z (f a)) (x : Int) : Z (f x) := by
  obtain ⟨c, hc, h⟩ := h
  exact (h x).z (So.roots l c (by omega) ha (fun a hm => (h a).symm.z (hz a hm)) x)
/-- There is one alone. -/
theorem Po.only {n : Nat} {f g : Int → Int} (h : Po n f) (h' : Po n g) {l : List Int} (hl : n ≤ l.length) (ha : Apart l) (he : ∀ a ∈ l, K (f a) (g a)) (x : Int) : K (f x) (g x) :=
  (h.sub h').roots hl ha he x
/-- Points: the polynomial through them. -/
abbrev Pts := List (Int × Int)
def Good (l : Pts) : Prop := Apart (l.map Prod.fst)
def IsAt (l : Pts) (f : Int → Int) : Prop := Po l.length f ∧ ∀ q ∈ l, K (f q.1) q.2
theorem IsAt.only {l : Pts} {f g : Int → Int} (hg : Good l) (h : IsAt l f) (h' : IsAt l g) (x : Int) : K (f x) (g x) :=
  h.1.only h'.1 (by rw [List.length_map]; exact Nat.le_refl _) hg (fun a ha => by
    obtain ⟨q, hq, rfl⟩ := List.mem_map.1 ha
    exact (h.2 q hq).trans (h'.2 q hq).symm) x
theorem IsAt.perm {l l' : Pts} {f : Int → Int} (hp : l.Perm l') (h : IsAt l f) : IsAt l' f :=
  ⟨hp.length_eq ▸ h.1, fun q hq => h.2 q (hp.mem_iff.2 hq)⟩
theorem Apart.perm {l l' : List Int} (hp : l.Perm l') (h : Apart l) : Apart l' :=
  (hp.pairwise_iff fun {a b} hn hz => hn ((Z.neg hz).of_eq (by omega))).1 h
theorem Good.perm {l l' : Pts} (hp : l.Perm l') (h : Good l) : Good l' := Apart.perm (hp.map _) h
/-- The product of all differences. -/
def prod : List Int → Int → Int
  | [], _ => 1
  | a :: l, x => (x - a) * prod l x
theorem prod_po : ∀ l, Po (l.length + 1) (prod l)
  | [] => Po.const 1
  | a :: l => (prod_po l).lin a
theorem prod_root : ∀ (l : List Int) (a : Int), a ∈ l → prod l a = 0
  | b :: l, a, h => by
    rcases List.mem_cons.1 h with e | h
    · rw [prod, e, Int.sub_self, Int.zero_mul]
    · rw [prod, prod_root l a h, Int.mul_zero]
theorem prod_no : ∀ (l : List Int) (x : Int), (∀ a ∈ l, ¬ Z (x - a)) → ¬ Z (prod l x)
  | [], _, _ => one_no
  | a :: l, x, h => fun hz => by
    rcases Z.prime hz with h1 | h1
    · exact h a List.mem_cons_self h1
    · exact prod_no l x (fun b hb => h b (List.mem_cons_of_mem _ hb)) h1
/-- There is one. -/
theorem at_some : ∀ l : Pts, Good l → ∃ f, IsAt l f
  | [], _ => ⟨fun _ => 0, Po.zero 0, fun q hq => by cases hq⟩
  | (X, Y) :: l, hg => by
    have hg' := List.pairwise_cons.1 (show Apart (X :: l.map Prod.fst) from hg)
    obtain ⟨f, hf⟩ := at_some l hg'.2
    have hn : ¬ Z (prod (l.map Prod.fst) X) := prod_no _ _ hg'.1
    obtain ⟨b, hb⟩ := inv_some hn
    refine ⟨fun x => f x + (Y - f X) * b * prod (l.map Prod.fst) x, ?_, fun q hq => ?_⟩
    · have h1 := prod_po (l.map Prod.fst)
      rw [List.length_map] at h1
      exact (hf.1.mono (Nat.le_succ _)).add (h1.smul _)
    · rcases List.mem_cons.1 hq with e | hq
      · subst e
        show Z _
        exact (Z.mul (Y - f X) hb).of_eq (by simp only []; grind)
      · have h0 := prod_root (l.map Prod.fst) q.1 (List.mem_map.2 ⟨q, hq, rfl⟩)
        show K (f q.1 + _) _
        rw [h0, Int.mul_zero, Int.add_zero]
        exact hf.2 q hq
end Go.Proofs.Ytdcpicbkemmakaa.So
