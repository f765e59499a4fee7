/- Texts that were joined: COrd, KnP. -/
import Derived.Test.YtjdamgfichlgpaaGrp18
import Derived.Test.YtjdamgfichlgpaaGrp2
import Derived.Test.YtjdamgfichlgpaaKn
import Derived.Test.YtjdamgfichlgpaaGrp10
import Derived.Test.YtjdamgfichlgpaaAl
/- Lagrange: eight times the base's order makes nothing of any point; how often counts modulo the order for the base. Mathematics alone. -/
namespace Go.Proofs.Ytjdamgfichlgpaa.Cv
open Go.Proofs.Ytjdamgfichlgpaa
/-- The points. -/
abbrev G := {P : Pt // On P}
def gadd (g h : G) : G := ⟨add g.1 h.1, closed g.2 h.2⟩
def gzero : G := ⟨zero, zero_on⟩
theorem gadd_comm (g h : G) : gadd g h = gadd h g := Subtype.ext (add_comm g.2 h.2)
theorem gadd_assoc (g h k : G) : gadd (gadd g h) k = gadd g (gadd h k) := Subtype.ext (add_assoc g.2 h.2 k.2)
/-- A point's place. -/
def idx (g : G) : Nat := 2 * g.1.2 + g.1.1 % 2
theorem idx_inj {g h : G} (e : idx g = idx h) : g = h := by
  refine Subtype.ext (pk_inj g.2 h.2 ?_)
  unfold idx at e
  unfold pk
  rw [show g.1.1 % 2 = h.1.1 % 2 by omega, show g.1.2 = h.1.2 by omega]
theorem idx_lt (g : G) : idx g < 2 * F.p := by
  have := g.2.2.1
  unfold idx
  omega
theorem all (m : Nat) : ∃ l : List G, l.Nodup ∧ (∀ g, g ∈ l ↔ idx g < m) ∧ l.length ≤ m := by
  induction m with
  | zero => exact ⟨[], List.nodup_nil, fun g => by simp, Nat.le_refl _⟩
  | succ m ih =>
    obtain ⟨l, h1, h2, h3⟩ := ih
    by_cases h : ∃ g, idx g = m
    · obtain ⟨g, hg⟩ := h
      refine ⟨g :: l, List.nodup_cons.2 ⟨fun hm => ?_, h1⟩, fun k => ?_, Nat.succ_le_succ h3⟩
      · have := (h2 g).1 hm
        omega
      · rw [List.mem_cons, h2]
        constructor
        · rintro (rfl | hk)
          · omega
          · omega
        · intro hk
          by_cases he : idx k = m
          · exact .inl (idx_inj (he.trans hg.symm))
          · exact .inr (by omega)
    · refine ⟨l, h1, fun k => ?_, Nat.le_succ_of_le h3⟩
      rw [h2]
      constructor
      · intro hk
        omega
      · intro hk
        by_cases he : idx k = m
        · exact absurd ⟨k, he⟩ h
        · omega
def gsum (l : List G) : G := l.foldr gadd gzero
def gtimes (n : Nat) (g : G) : G := ⟨times n g.1, times_on g.2 n⟩
theorem gcancel {g h k : G} (e : gadd g k = gadd h k) : g = h := by
  have e1 : add (add g.1 k.1) (neg k.1) = add (add h.1 k.1) (neg k.1) := by
    have := congrArg Subtype.val e
    exact congrArg (fun x => add x (neg k.1)) this
  rw [add_assoc g.2 k.2 (neg_on k.2), add_assoc h.2 k.2 (neg_on k.2), add_neg k.2, add_zero g.2, add_zero h.2] at e1
  exact Subtype.ext e1
theorem gsum_map (g : G) : ∀ l : List G, gsum (l.map (gadd g)) = gadd (gtimes l.length g) (gsum l)
  | [] => Subtype.ext (add_zero zero_on).symm
  | k :: l => by
    have ih := gsum_map g l
    show gadd (gadd g k) (gsum (l.map (gadd g))) = gadd (gadd g (gtimes l.length g)) (gadd k (gsum l))
    rw [ih]
    refine Subtype.ext ?_
    exact four g.2 k.2 (gtimes l.length g).2 (gsum l).2
/-- As often as there are points makes nothing. -/
theorem lagrange : ∃ N, 0 < N ∧ N ≤ 2 * F.p ∧ ∀ P, On P → times N P = zero := by
  obtain ⟨l, h1, h2, h3⟩ := all (2 * F.p)
  have hall : ∀ g, g ∈ l := fun g => (h2 g).2 (idx_lt g)
  refine ⟨l.length, List.length_pos_of_mem (hall gzero), h3, fun P hP => ?_⟩
  have hinj : ∀ a b : G, gadd ⟨P, hP⟩ a = gadd ⟨P, hP⟩ b → a = b := fun a b e => gcancel (k := ⟨P, hP⟩) (by rw [gadd_comm a, gadd_comm b]; exact e)
  have hn : (l.map (gadd ⟨P, hP⟩)).Nodup := by
    unfold List.Nodup at *
    rw [List.pairwise_map]
    exact h1.imp fun hne e => hne (hinj _ _ e)
  have hp : (l.map (gadd ⟨P, hP⟩)).Perm l := (List.perm_ext_iff_of_nodup hn h1).2 fun a => by
    refine ⟨fun _ => hall a, fun _ => ?_⟩
    refine List.mem_map.2 ⟨gadd ⟨neg P, neg_on hP⟩ a, hall _, ?_⟩
    rw [← gadd_assoc]
    refine Subtype.ext ?_
    show add (add P (neg P)) a.1 = a.1
    rw [add_neg hP, zero_add a.2]
  have hs : gsum (l.map (gadd ⟨P, hP⟩)) = gsum l := hp.foldr_eq' (fun x _ y _ z => by rw [← gadd_assoc, ← gadd_assoc, gadd_comm y x]) gzero
  rw [gsum_map] at hs
  have e : gadd (gtimes l.length ⟨P, hP⟩) (gsum l) = gadd gzero (gsum l) := by
    rw [hs]
    exact Subtype.ext (zero_add (gsum l).2).symm
  exact congrArg Subtype.val (gcancel e)
theorem times_mod {P : Pt} (hP : On P) {m : Nat} (h : times m P = zero) (n : Nat) : times (n % m) P = times n P := by
  have e := Nat.div_add_mod n m
  have h1 : times (m * (n / m)) P = zero := by rw [Nat.mul_comm, times_mul hP, h, times_zero]
  have h2 := times_add hP (m * (n / m)) (n % m)
  rw [e, h1, zero_add (times_on hP _)] at h2
  exact h2.symm
theorem times_gcd {P : Pt} (hP : On P) : ∀ m n, times m P = zero → times n P = zero → times (Nat.gcd m n) P = zero := by
  intro m n
  induction m, n using Nat.gcd.induction with
  | H0 n => intro _ h; rwa [Nat.gcd_zero_left]
  | H1 m n _ ih =>
    intro h1 h2
    rw [Nat.gcd_rec]
    exact ih (by rw [times_mod hP h1]; exact h2) h1
theorem base_ne : base ≠ zero := fun e => by
  have := congrArg Prod.fst e
  exact absurd this (by decide)
/-- The base's order. -/
theorem base_iff (n : Nat) : times n base = zero ↔ n % ord = 0 := by
  constructor
  · intro h
    have hg := times_gcd base_on n ord h base_ord
    rcases ord_pr.2 _ (Nat.gcd_dvd_right n ord) with e | e
    · rw [e, times_one base_on] at hg
      exact absurd hg base_ne
    · exact (Nat.dvd_iff_mod_eq_zero ..).1 (e ▸ Nat.gcd_dvd_left n ord)
  · intro h
    rw [← times_mod base_on base_ord n, h, times]
theorem base_mod (n : Nat) : times (n % ord) base = times n base := times_mod base_on base_ord n
/-- A point of order eight. -/
def eighth : Pt := (14399317868200118260347934320527232580618823971194345261214217575416788799818, 55188659117513257062467267217118295137698188065244968500265048394206261417927)
theorem on_of {x y : Nat} (hx : x < F.p) (hy : y < F.p) (h : F.mul (F.mul x x) (F.add (F.mul d (F.mul y y)) 1) = F.sub (F.mul y y) 1) (h0 : F.add (F.mul d (F.mul y y)) 1 % F.p ≠ 0) : On (x, y) := by
  refine (on_iff hx hy).2 ?_
  unfold xx
  rw [← h, F.mul_assoc, F.mul_inv h0, F.mul_one, Nat.mod_eq_of_lt (F.mul_lt _ _)]
theorem eighth_on : On eighth := on_of (by decide) (by decide) (by decide +kernel) (by decide +kernel)
theorem eighth_fr : FrN (eighth.1, eighth.2, 1) eighth := Fr.one eighth
theorem eighth_8 : times 8 eighth = zero := by
  have h := often_fr 4 8 (0, 1, 1) (eighth.1, eighth.2, 1) zero eighth (by decide) zero_on eighth_on zero_fr eighth_fr
  have e : (often 4 8 (0, 1, 1) (eighth.1, eighth.2, 1)).1 % F.p = 0 ∧ (often 4 8 (0, 1, 1) (eighth.1, eighth.2, 1)).2.1 % F.p = (often 4 8 (0, 1, 1) (eighth.1, eighth.2, 1)).2.2 % F.p := by decide +kernel
  rw [zero_add (times_on eighth_on 8)] at h
  exact fr_zero (times_on eighth_on 8) h e.1 e.2
theorem eighth_4 : times 4 eighth ≠ zero := fun he => by
  have h := often_fr 4 4 (0, 1, 1) (eighth.1, eighth.2, 1) zero eighth (by decide) zero_on eighth_on zero_fr eighth_fr
  have e : (often 4 4 (0, 1, 1) (eighth.1, eighth.2, 1)).2.1 % F.p ≠ (often 4 4 (0, 1, 1) (eighth.1, eighth.2, 1)).2.2 % F.p := by decide +kernel
  rw [zero_add (times_on eighth_on 4), he] at h
  refine e (Z_eq.1 ?_)
  have := h.y
  unfold zero at this
  simp only [Int.natCast_one, Int.one_mul] at this
  exact this
/-- Eight times the order makes nothing of any point. -/
theorem eight_ord {P : Pt} (hP : On P) : times (ord * 8) P = zero := by
  obtain ⟨N, h0, h2, h⟩ := lagrange
  have d1 : ord ∣ N := (Nat.dvd_iff_mod_eq_zero ..).2 ((base_iff N).1 (h base base_on))
  have d8 : 8 ∣ N := by
    have hg := times_gcd eighth_on N 8 (h eighth eighth_on) eighth_8
    have hd := Nat.gcd_dvd_right N 8
    have hl := Nat.le_of_dvd (by decide) hd
    have hN := Nat.gcd_dvd_left N 8
    generalize Nat.gcd N 8 = g at *
    by_cases h8 : g = 8
    · rw [h8] at hN
      exact hN
    · exfalso
      have h4 : g ∣ 4 := by
        have : g = 0 ∨ g = 1 ∨ g = 2 ∨ g = 3 ∨ g = 4 ∨ g = 5 ∨ g = 6 ∨ g = 7 := by omega
        rcases this with e | e | e | e | e | e | e | e <;> rw [e] at hd ⊢ <;> first | decide | (exact absurd hd (by decide))
      obtain ⟨c, hc⟩ := h4
      refine eighth_4 ?_
      rw [hc, Nat.mul_comm, times_mul eighth_on, hg, times_zero]
  have dm : ord * 8 ∣ N := Nat.Coprime.mul_dvd_of_dvd_of_dvd (by decide +kernel) d1 d8
  obtain ⟨c, hc⟩ := dm
  have h16 : 2 * F.p < ord * 8 * 2 := by decide
  have hc1 : c = 1 := by
    have hc2 : c < 2 := by
      refine Nat.lt_of_not_le fun hh => ?_
      have := Nat.mul_le_mul_left (ord * 8) hh
      omega
    have hc0 : c ≠ 0 := fun e => by rw [e, Nat.mul_zero] at hc; omega
    omega
  rw [hc1, Nat.mul_one] at hc
  rw [← hc]
  exact h P hP
end Go.Proofs.Ytjdamgfichlgpaa.Cv

/- What is known of blocks that hold points; package curve's contracts, each as one premise; the verifier's small calls. -/
namespace Go.Proofs.Ytjdamgfichlgpaa
open Go.RowKit
attribute [local go_sem] World.cell?_alloc_some cell_alloc2 cell_alloc3 cell_alloc4 frozen?_alloc_cells frozen_out
set_option linter.unusedSimpArgs false
abbrev kalP (w : World) (l h : Nm) : World := w.alloc (.cells #[.int .u64 l.a, .int .u64 l.b, .int .u64 l.c, .int .u64 l.d, .int .u64 h.a, .int .u64 h.b, .int .u64 h.c, .int .u64 h.d] 26)
abbrev kzP (w : World) : World := w.alloc (.cells #[.int .u64 0, .int .u64 0, .int .u64 0, .int .u64 0, .int .u64 0, .int .u64 0, .int .u64 0, .int .u64 0] 26)
/-- A point as Go has it. -/
abbrev pv (P : Cv.Pt) : Value := Wv (nm P.1) (nm P.2)
/-- curve.On. -/
def COnC : Prop := (∀ P : Cv.Pt, Cv.On P → ∀ w, Calls Try.prog 19 #[pv P] w fun e w' => e = .returned (.bool true) ∧ Below w.heap.size w w') ∧ (∀ x y : Nm, x.ok → y.ok → ¬ Cv.On (x.nat, y.nat) → ∀ w, Calls Try.prog 19 #[Wv x y] w fun e w' => e = .returned (.bool false) ∧ Below w.heap.size w w')
def CZeroC : Prop := ∀ w, Calls Try.prog 29 #[] w fun e w' => e = .returned (pv Cv.zero) ∧ Below w.heap.size w w'
def CBaseC : Prop := ∀ w, Calls Try.prog 28 #[] w fun e w' => e = .returned (pv Cv.base) ∧ Below w.heap.size w w'
def CNegC : Prop := ∀ P : Cv.Pt, Cv.On P → ∀ w, Calls Try.prog 31 #[pv P] w fun e w' => e = .returned (.tuple #[pv (Cv.neg P), .int .i64 0]) ∧ Below w.heap.size w w'
def CAddC : Prop := ∀ P Q : Cv.Pt, Cv.On P → Cv.On Q → ∀ w, Calls Try.prog 57 #[pv P, pv Q] w fun e w' => e = .returned (.tuple #[pv (Cv.add P Q), .int .i64 0]) ∧ Below w.heap.size w w'
def CTimesC : Prop := ∀ (n : Nm) (P : Cv.Pt), n.ok → Cv.On P → ∀ w, Calls Try.prog 53 #[N n, pv P] w fun e w' => e = .returned (.tuple #[pv (Cv.times n.nat P), .int .i64 0]) ∧ Below w.heap.size w w'
end Go.Proofs.Ytjdamgfichlgpaa
