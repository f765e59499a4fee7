/- Texts that were joined: ShLg, ShC, ShE, ShLi, ShSm. -/
import Derived.Test.YtdcpicbkemmakaaDoorQPrimeToAdN
import Derived.Test.YtdcpicbkemmakaaDoorQGArrToShD
import Derived.Test.YtdcpicbkemmakaaDoorQEqToOf
import Derived.Test.YtdcpicbkemmakaaDoorQUpAToUp3
import Derived.Test.YtdcpicbkemmakaaDoorQShLaToShLt
import Derived.Test.YtdcpicbkemmakaaDoorQShNsToShPi
import Derived.Test.YtdcpicbkemmakaaDoorQUpMToUpS
/- The polynomial through given points, as a sum of fractions over one denominator. Mathematics alone. -/
namespace Go.Proofs.YtdcpicbkemmakaaDoor.So
open Go.Proofs.YtdcpicbkemmakaaDoor
/-- A difference modulo the order. -/
def df (a b : Nat) : Nat := (a + (Cv.ord - b % Cv.ord) % Cv.ord) % Cv.ord
theorem df_K (a b : Nat) : K (df a b : Int) ((a : Int) - b) := by
  unfold df
  refine (K_mod _).trans ?_
  have h1 := K_mod (Cv.ord - b % Cv.ord)
  have h2 := K_mod b
  have hb : b % Cv.ord < Cv.ord := Nat.mod_lt _ (by decide)
  push_cast
  have e : K ((Cv.ord - b % Cv.ord : Nat) : Int) (-(b : Int)) := by
    have e1 : ((Cv.ord - b % Cv.ord : Nat) : Int) = (Cv.ord : Int) - ((b % Cv.ord : Nat) : Int) := by omega
    rw [e1]
    have h3 : K (Cv.ord : Int) 0 := ⟨1, by omega⟩
    exact (h3.sub h2).trans (K.of_eq (by omega))
  have h4 := h1.trans e
  exact ((K.refl (a : Int)).add h4).trans (K.of_eq (by omega))
theorem df_lt (a b : Nat) : df a b < Cv.ord := Nat.mod_lt _ (by decide)
/-- The product of all differences but one's own: of whole numbers. -/
def oI (X : Nat → Nat) (i : Nat) : Nat → Int → Int
  | 0, _ => 1
  | m + 1, x => if m = i then oI X i m x else oI X i m x * (x - X m)
theorem oI_po1 (X : Nat → Nat) (i : Nat) : ∀ m, Po (m + 1) (oI X i m)
  | 0 => Po.const 1
  | m + 1 => by
    by_cases h : m = i
    · exact ((oI_po1 X i m).mono (Nat.le_succ _)).congr fun x => K.of_eq (by rw [oI, if_pos h])
    · exact ((oI_po1 X i m).lin (X m)).congr fun x => K.of_eq (by rw [oI, if_neg h]; grind)
theorem oI_po (X : Nat → Nat) (i : Nat) : ∀ m, i < m → Po m (oI X i m)
  | m + 1, hi => by
    by_cases h : m = i
    · exact (oI_po1 X i m).congr fun x => K.of_eq (by rw [oI, if_pos h])
    · exact ((oI_po X i m (by omega)).lin (X m)).congr fun x => K.of_eq (by rw [oI, if_neg h]; grind)
theorem oI_root (X : Nat → Nat) (i k : Nat) (hk : k ≠ i) : ∀ m, k < m → oI X i m (X k) = 0
  | m + 1, h => by
    by_cases hm : m = i
    · rw [oI, if_pos hm]
      exact oI_root X i k hk m (by omega)
    · rw [oI, if_neg hm]
      by_cases e : k = m
      · rw [e, Int.sub_self, Int.mul_zero]
      · rw [oI_root X i k hk m (by omega), Int.zero_mul]
theorem oI_no (X : Nat → Nat) (n i : Nat) (hx : ∀ j, j < n → j ≠ i → ¬ Z ((X i : Int) - X j)) : ∀ m, m ≤ n → ¬ Z (oI X i m (X i))
  | 0, _ => one_no
  | m + 1, h => by
    by_cases hm : m = i
    · rw [oI, if_pos hm]
      exact oI_no X n i hx m (by omega)
    · rw [oI, if_neg hm]
      intro hz
      rcases Z.prime hz with h1 | h1
      · exact oI_no X n i hx m (by omega) h1
      · exact hx m (by omega) hm h1
/-- The same, modulo the order. -/
def oN (X : Nat → Nat) (i x : Nat) : Nat → Nat
  | 0 => 1
  | m + 1 => if m = i then oN X i x m else oN X i x m * df x (X m) % Cv.ord
theorem oN_lt (X : Nat → Nat) (i x : Nat) : ∀ m, oN X i x m < Cv.ord
  | 0 => (by decide : 1 < Cv.ord)
  | m + 1 => by
    rw [oN]
    split
    · exact oN_lt X i x m
    · exact Nat.mod_lt _ (by decide)
theorem oN_K (X : Nat → Nat) (i x : Nat) : ∀ m, K (oN X i x m : Int) (oI X i m x)
  | 0 => K.refl _
  | m + 1 => by
    rw [oN, oI]
    split
    · exact oN_K X i x m
    · refine (K_mod _).trans ?_
      push_cast
      exact (oN_K X i x m).mul (df_K x (X m))
/-- What is above, and below, the fraction's line. -/
def bN (X : Nat → Nat) (n : Nat) : Nat → Nat
  | 0 => 1
  | i + 1 => bN X n i * oN X i (X i) n % Cv.ord
def tN (X Y : Nat → Nat) (n x : Nat) : Nat → Nat
  | 0 => 0
  | i + 1 => (tN X Y n x i * oN X i (X i) n % Cv.ord + Y i * oN X i x n % Cv.ord * bN X n i % Cv.ord) % Cv.ord
theorem bN_lt (X : Nat → Nat) (n : Nat) : ∀ m, bN X n m < Cv.ord
  | 0 => (by decide : 1 < Cv.ord)
  | m + 1 => Nat.mod_lt _ (by decide)
theorem tN_lt (X Y : Nat → Nat) (n x : Nat) : ∀ m, tN X Y n x m < Cv.ord
  | 0 => (by decide : 0 < Cv.ord)
  | m + 1 => Nat.mod_lt _ (by decide)
def gI (X Y : Nat → Nat) (b : Nat → Int) (n : Nat) : Nat → Int → Int
  | 0, _ => 0
  | m + 1, x => gI X Y b n m x + Y m * b m * oI X m n x
theorem gI_po (X Y : Nat → Nat) (b : Nat → Int) (n : Nat) : ∀ m, m ≤ n → Po n (gI X Y b n m)
  | 0, _ => Po.zero n
  | m + 1, h => (gI_po X Y b n m (by omega)).add ((oI_po X m n (by omega)).smul _)
theorem gI_out (X Y : Nat → Nat) (b : Nat → Int) (n k : Nat) (hk : k < n) : ∀ m, m ≤ k → gI X Y b n m (X k) = 0
  | 0, _ => rfl
  | m + 1, h => by
    rw [gI, gI_out X Y b n k hk m (by omega), oI_root X m k (by omega) n hk, Int.mul_zero, Int.add_zero]
theorem gI_at (X Y : Nat → Nat) (b : Nat → Int) (n k : Nat) (hb : K (oI X k n (X k) * b k) 1) (hk : k < n) : ∀ m, k < m → K (gI X Y b n m (X k)) (Y k)
  | m + 1, h => by
    rw [gI]
    by_cases e : k = m
    · subst e
      rw [gI_out X Y b n k hk k (Nat.le_refl _), Int.zero_add]
      exact (K.of_eq (by grind)).trans (((K.refl (Y k : Int)).mul hb).trans (K.of_eq (Int.mul_one _)))
    · rw [oI_root X m k e n hk, Int.mul_zero, Int.add_zero]
      exact gI_at X Y b n k hb hk m (by omega)
theorem bN_no (X : Nat → Nat) (n : Nat) (hx : ∀ i j, i < n → j < n → j ≠ i → ¬ Z ((X i : Int) - X j)) : ∀ m, m ≤ n → ¬ Z (bN X n m : Int)
  | 0, _ => one_no
  | m + 1, h => fun hz => by
    rw [bN] at hz
    have h1 := (K_mod _).symm.z hz
    rw [Int.natCast_mul] at h1
    rcases Z.prime h1 with h2 | h2
    · exact bN_no X n hx m (by omega) h2
    · exact oI_no X n m (fun j hj hn => hx m j (by omega) hj hn) n (Nat.le_refl _) ((oN_K X m (X m) n).symm.z h2)
theorem tN_K (X Y : Nat → Nat) (b : Nat → Int) (n x : Nat) (hb : ∀ i, i < n → K (oI X i n (X i) * b i) 1) : ∀ m, m ≤ n → K (tN X Y n x m : Int) (bN X n m * gI X Y b n m x)
  | 0, _ => K.of_eq (by simp [tN, gI])
  | m + 1, h => by
    have ih := tN_K X Y b n x hb m (by omega)
    have h1 := hb m (by omega)
    have u := oN_K X m (X m) n
    have o := oN_K X m x n
    rw [tN, bN, gI]
    generalize hT : tN X Y n x m = T at *
    generalize hB : bN X n m = B at *
    generalize hU : oN X m (X m) n = U at *
    generalize hO : oN X m x n = O at *
    have k1 : K ((T * U % Cv.ord : Nat) : Int) ((B : Int) * gI X Y b n m x * U) := (K_mod _).trans (by push_cast; exact ih.mul (K.refl _))
    have k2 : K ((Y m * O % Cv.ord * B % Cv.ord : Nat) : Int) ((Y m : Int) * O * B) := (K_mod _).trans (by
      have := K_mod (Y m * O)
      rw [Int.natCast_mul (Y m) O] at this
      rw [Int.natCast_mul (Y m * O % Cv.ord) B]
      exact this.mul (K.refl _))
    have k3 : K ((B * U % Cv.ord : Nat) : Int) ((B : Int) * U) := (K_mod _).trans (by push_cast; exact K.refl _)
    refine (K_mod _).trans ?_
    rw [Int.natCast_add]
    refine (k1.add k2).trans ?_
    refine K.trans ?_ (k3.symm.mul (K.refl _))
    generalize gI X Y b n m x = g at *
    generalize oI X m n x = o1 at *
    generalize oI X m n (X m) = u1 at *
    generalize b m = bm at *
    generalize (Y m : Int) = y at *
    generalize (B : Int) = B' at *
    generalize (U : Int) = U' at *
    generalize (O : Int) = O' at *
    have e1 : K (y * O' * B') (y * o1 * B' * (U' * bm)) := by
      have q1 : K (y * O' * B') (y * o1 * B') := ((K.refl y).mul o).mul (K.refl B')
      have q2 : K (U' * bm) 1 := (u.mul (K.refl bm)).trans h1
      exact q1.trans ((K.of_eq (Int.mul_one _).symm).trans ((K.refl _).mul q2.symm))
    exact ((K.refl _).add e1).trans (K.of_eq (by grind))
theorem inv_all (X : Nat → Nat) (n : Nat) (hx : ∀ i j, i < n → j < n → j ≠ i → ¬ Z ((X i : Int) - X j)) : ∃ b : Nat → Int, ∀ i, i < n → K (oI X i n (X i) * b i) 1 := by
  have h : ∀ i, ∃ b : Int, i < n → K (oI X i n (X i) * b) 1 := fun i => by
    by_cases hi : i < n
    · obtain ⟨b, hb⟩ := inv_some (oI_no X n i (fun j hj hn => hx i j hi hj hn) n (Nat.le_refl _))
      exact ⟨b, fun _ => hb⟩
    · exact ⟨0, fun h => absurd h hi⟩
  exact ⟨fun i => (h i).choose, fun i hi => (h i).choose_spec hi⟩
/-- The fraction is the value of the polynomial through the points. -/
theorem lag_is (X Y : Nat → Nat) (n x : Nat) (hx : ∀ i j, i < n → j < n → j ≠ i → ¬ Z ((X i : Int) - X j)) : ∃ f, IsAt ((List.range n).map fun i => ((X i : Int), (Y i : Int))) f ∧ rd (f x) = tN X Y n x n * iv (bN X n n) % Cv.ord := by
  obtain ⟨b, hb⟩ := inv_all X n hx
  refine ⟨gI X Y b n n, ⟨?_, fun q hq => ?_⟩, ?_⟩
  · have := gI_po X Y b n n (Nat.le_refl _)
    rw [List.length_map, List.length_range]
    exact this
  · obtain ⟨i, hi, rfl⟩ := List.mem_map.1 hq
    have hi := List.mem_range.1 hi
    exact gI_at X Y b n i (hb i hi) hi n hi
  · have h1 := tN_K X Y b n x hb n (Nat.le_refl _)
    have h2 := iv_K (bN_no X n hx n (Nat.le_refl _))
    refine K_eq (rd_lt _) (Nat.mod_lt _ (by decide)) ((rd_K _).trans ?_)
    refine K.symm ((K_mod _).trans ?_)
    show K (((tN X Y n x n * iv (bN X n n) : Nat)) : Int) _
    generalize iv (bN X n n) = v at *
    generalize bN X n n = B at *
    generalize tN X Y n x n = T at *
    rw [Int.natCast_mul]
    refine (h1.mul (K.refl (v : Int))).trans ?_
    generalize gI X Y b n n x = g at *
    exact (K.of_eq (by grind)).trans (((K.refl g).mul h2).trans (K.of_eq (Int.mul_one _)))
end Go.Proofs.YtdcpicbkemmakaaDoor.So

/- What package share must keep of At, and ShareTells out of it. -/
namespace Go.Proofs.YtdcpicbkemmakaaDoor
open Go.RowKit
attribute [local go_sem] World.cell?_alloc_some cell_alloc2 cell_alloc3 cell_alloc4 frozen?_alloc_cells frozen_out
set_option linter.unusedSimpArgs false
/-- What At answers. -/
def atM (l : List Shr) (x : Int) : Nm := if fltN l x = 0 then nm (atN l x.toNat) else ⟨0, 0, 0, 0⟩
def AtC : Prop := ∀ (l : List Shr), (∀ s ∈ l, s.ok) → ∀ x : Int, -9223372036854775808 ≤ x ∧ x ≤ 9223372036854775807 → ∀ v w, Shs w v l → Calls Tryd.prog 11 #[v, .int .i64 x] w fun e w' => e = .returned (.tuple #[N (atM l x), .int .i64 ((fltN l x : Nat) : Int)]) ∧ Below w.heap.size w w'
theorem flt_good {l : List Shr} {x : Int} (h : fltN l x = 0) : 0 < l.length ∧ l.length ≤ 20 ∧ 0 ≤ x ∧ x ≤ 255 ∧ ∀ i, i < l.length → ¬ badAt l i := by
  unfold fltN at h
  split at h
  · cases h
  split at h
  · cases h
  split at h
  · cases h
  rename_i h1 h2 h3
  refine ⟨by omega, by omega, by omega, by omega, fun i hi hb => h3 ((any_bad l).2 ⟨i, hi, hb⟩)⟩
end Go.Proofs.YtdcpicbkemmakaaDoor

/- Shares that the document takes, and the value of their polynomial: no order, one more, one fewer. -/
namespace Go.Proofs.YtdcpicbkemmakaaDoor
open Go.RowKit
set_option linter.unusedSimpArgs false
/-- Shares that the document takes. -/
def goodL (l : List Shr) : Prop := (∀ s ∈ l, shOk s) ∧ (l.map Shr.x).Nodup
theorem getD_at {l : List Shr} {i : Nat} (hi : i < l.length) : l.getD i shr0 = l[i] := by rw [List.getD_eq_getElem?_getD, List.getElem?_eq_getElem hi]; rfl
theorem good_iff (l : List Shr) : (¬ ∃ i, i < l.length ∧ badAt l i) ↔ goodL l := by
  constructor
  · intro h
    refine ⟨fun s hs => ?_, ?_⟩
    · obtain ⟨i, hi, rfl⟩ := List.getElem_of_mem hs
      refine Classical.byContradiction fun hn => h ⟨i, hi, .inl ?_⟩
      rw [getD_at hi]
      exact hn
    · unfold List.Nodup
      rw [List.pairwise_map, List.pairwise_iff_getElem]
      intro i j hi hj hij he
      refine h ⟨j, hj, .inr ⟨i, hij, ?_⟩⟩
      rw [getD_at hi, getD_at hj]
      exact he
  · rintro ⟨h1, h2⟩ ⟨i, hi, hb⟩
    unfold badAt at hb
    rw [getD_at hi] at hb
    rcases hb with hb | ⟨j, hj, hb⟩
    · exact hb (h1 _ (List.getElem_mem hi))
    · rw [getD_at (by omega)] at hb
      unfold List.Nodup at h2
      rw [List.pairwise_map, List.pairwise_iff_getElem] at h2
      exact h2 j i (by omega) hi hj hb
theorem flt_zero (l : List Shr) (x : Int) : fltN l x = 0 ↔ 0 < l.length ∧ l.length ≤ 20 ∧ 0 ≤ x ∧ x ≤ 255 ∧ goodL l := by
  constructor
  · intro h
    have hg := flt_good h
    exact ⟨hg.1, hg.2.1, hg.2.2.1, hg.2.2.2.1, (good_iff l).1 fun ⟨i, hi, hb⟩ => hg.2.2.2.2 i hi hb⟩
  · rintro ⟨h1, h2, h3, h4, h5⟩
    unfold fltN
    rw [if_neg (by omega), if_neg (by omega), if_neg fun hh => (good_iff l).2 h5 ((any_bad l).1 hh)]
theorem flt_one {l : List Shr} {x : Int} (h20 : l.length ≤ 20) (h : fltN l x ≠ 0) : fltN l x = 1 := by
  unfold fltN at h ⊢
  rw [if_neg (by omega)] at h ⊢
  split
  · rfl
  · rename_i h1
    rw [if_neg h1] at h
    split
    · rfl
    · rename_i h2
      rw [if_neg h2] at h
      exact absurd rfl h
/-- The points. -/
def pts (l : List Shr) : So.Pts := l.map fun s => (s.x, (s.y.nat : Int))
theorem apart_of {a b : Int} (h : a ≠ b) (ha : -1000 ≤ a ∧ a ≤ 1000) (hb : -1000 ≤ b ∧ b ≤ 1000) : ¬ So.Z (a - b) := by
  have h1 : (2000 : Int) < Cv.ord := by decide
  exact So.small_no (by omega) (by omega) (by omega)
theorem goodL.pts {l : List Shr} (h : goodL l) : So.Good (pts l) := by
  unfold So.Good So.Apart Go.Proofs.YtdcpicbkemmakaaDoor.pts
  rw [List.map_map, List.pairwise_map]
  have h2 := h.2
  unfold List.Nodup at h2
  rw [List.pairwise_map] at h2
  refine List.Pairwise.imp_of_mem ?_ h2
  intro a b ha hb hab
  have g1 := h.1 a ha
  have g2 := h.1 b hb
  unfold shOk at g1 g2
  exact apart_of (a := a.x) (b := b.x) hab (by omega) (by omega)
theorem atN_is {l : List Shr} (h : goodL l) (h0 : 0 < l.length) (x : Nat) {f : Int → Int} (hf : So.IsAt (pts l) f) : atN l x = So.rd (f x) := by
  have XB : ∀ i, shX l i < 256 := fun i => Nat.mod_lt _ (by decide)
  have XO : ∀ i, shX l i < Cv.ord := fun i => Nat.lt_trans (XB i) (by decide)
  have YO : ∀ i, shY l i < Cv.ord := fun i => Nat.mod_lt _ o_pos
  have at_ : ∀ i (hi : i < l.length), (shX l i : Int) = l[i].x ∧ shY l i = l[i].y.nat := fun i hi => by
    have hm := h.1 l[i] (List.getElem_mem hi)
    unfold shX shY shN
    rw [getD_at hi]
    have h1 := hm.1
    exact ⟨by omega, Nat.mod_eq_of_lt hm.2⟩
  have e : pts l = (List.range l.length).map fun i => ((shX l i : Int), (shY l i : Int)) := by
    refine List.ext_getElem (by simp [pts]) fun i h1 h2 => ?_
    have hi : i < l.length := by simpa [pts] using h1
    simp only [pts, List.getElem_map, List.getElem_range]
    rw [(at_ i hi).1, (at_ i hi).2]
  rw [e] at hf
  refine So.hn_is (shX l) (shY l) l.length x h0 YO XO (fun i j hij hj => ?_) hf
  rw [(at_ i (by omega)).1, (at_ j hj).1]
  have h2 := h.2
  unfold List.Nodup at h2
  rw [List.pairwise_map, List.pairwise_iff_getElem] at h2
  have g1 := h.1 l[i] (List.getElem_mem (by omega))
  have g2 := h.1 l[j] (List.getElem_mem hj)
  unfold shOk at g1 g2
  exact apart_of (Ne.symm (h2 i j (by omega) hj hij)) (by omega) (by omega)
theorem at_poly {l : List Shr} (h : goodL l) (h0 : 0 < l.length) : ∃ f, So.IsAt (pts l) f ∧ ∀ x : Nat, atN l x = So.rd (f x) := by
  obtain ⟨f, hf⟩ := So.at_some (pts l) h.pts
  exact ⟨f, hf, fun x => atN_is h h0 x hf⟩
end Go.Proofs.YtdcpicbkemmakaaDoor

/- Package share, as it landed: what At answers is what the document has. -/
namespace Go.Proofs.YtdcpicbkemmakaaDoor
open Go.RowKit
set_option linter.unusedSimpArgs false
theorem smN_nm {x : Nat} (h : x < 18446744073709551616) : smN x = nm x := by
  have := Nm.eq_nm (smN_ok h) rfl
  rw [smN_nat] at this
  exact this
theorem nm_lt {a : Nat} (h : a < Cv.ord) : (nm a).nat = a := nm_nat (Nat.lt_trans h ord_lt)
theorem mul_lt (a b : Nat) (ha : a < Cv.ord) (hb : b < Cv.ord) (w : World) : Calls Tryd.prog 19 #[N (nm a), N (nm b)] w fun e w' => e = .returned (N (nm (a * b % Cv.ord))) ∧ Below w.heap.size w w' := by
  have := sMulC (nm a) (nm b) (nm_ok _) (nm_ok _) w
  rwa [nm_lt ha, nm_lt hb] at this
theorem add_lt (a b : Nat) (ha : a < Cv.ord) (hb : b < Cv.ord) (w : World) : Calls Tryd.prog 17 #[N (nm a), N (nm b)] w fun e w' => e = .returned (N (nm ((a + b) % Cv.ord))) ∧ Below w.heap.size w w' := by
  have := sAddC (nm a) (nm b) (nm_ok _) (nm_ok _) w
  rwa [nm_lt ha, nm_lt hb] at this
/-- The weight of a share, as a fraction. -/
theorem weight_fun (n b o cp i : Nat) (x : Nat) (hi : i < n) (n20 : n ≤ 20) (hx : x < 256) (X : Nat → Nat) (hX : ∀ i, X i < 256) (ys : Nat → Nm) (w : World)
    (CR : Hid (∀ W, Below w.heap.size w W → ∀ i, i < n → W.rangeAt b (o + i * 5) (shC ⟨(X i : Int), ys i⟩))) :
    Calls Tryd.prog 38 #[.slice (some ⟨b, o, none⟩) n cp, .int .i64 (i : Int), .int .i64 (x : Int)] w fun e w' => e = .returned (.tuple #[N (nm (So.oN X i x n)), N (nm (So.oN X i (X i) n))]) ∧ Below w.heap.size w w' := by
  have one : smN 1 = nm 1 := smN_nm (by decide)
  refine weight_walk n b o cp i x hi n20 (fun i => (X i : Int)) ys (fun m => nm (So.oN X i x m)) (fun m => nm (So.oN X i (X i) m)) (fun j => nm (So.df x (X j))) (fun j => nm (So.df (X i) (X j))) one.symm one.symm w CR ?_ ?_ ?_ ?_ ?_ ?_
  · show nm (So.oN X i x (i + 1)) = nm (So.oN X i x i)
    rw [So.oN, if_pos rfl]
  · show nm (So.oN X i (X i) (i + 1)) = nm (So.oN X i (X i) i)
    rw [So.oN, if_pos rfl]
  · intro j _ _ W
    exact diff_is x (X j) (by omega) (by have := hX j; omega) W
  · intro j _ _ W
    exact diff_is (X i) (X j) (by have := hX i; omega) (by have := hX j; omega) W
  · intro j _ hj W
    have := mul_lt _ _ (So.oN_lt X i x j) (So.df_lt x (X j)) W
    rw [show So.oN X i x (j + 1) = So.oN X i x j * So.df x (X j) % Cv.ord by rw [So.oN, if_neg hj]]
    exact this
  · intro j _ hj W
    have := mul_lt _ _ (So.oN_lt X i (X i) j) (So.df_lt (X i) (X j)) W
    rw [show So.oN X i (X i) (j + 1) = So.oN X i (X i) j * So.df (X i) (X j) % Cv.ord by rw [So.oN, if_neg hj]]
    exact this
/-- The fraction that At answers. -/
def atF (l : List Shr) (x : Nat) : Nat := So.tN (shX l) (shY l) l.length x l.length * So.iv (So.bN (shX l) l.length l.length) % Cv.ord
theorem atF_is {l : List Shr} (h : goodL l) (h0 : 0 < l.length) (x : Nat) : atF l x = atN l x := by
  have at_ : ∀ i (hi : i < l.length), (shX l i : Int) = l[i].x ∧ shY l i = l[i].y.nat := fun i hi => by
    have hm := h.1 l[i] (List.getElem_mem hi)
    unfold shX shY shN
    rw [getD_at hi]
    have h1 := hm.1
    exact ⟨by omega, Nat.mod_eq_of_lt hm.2⟩
  have e : pts l = (List.range l.length).map fun i => ((shX l i : Int), (shY l i : Int)) := by
    refine List.ext_getElem (by simp [pts]) fun i h1 h2 => ?_
    have hi : i < l.length := by simpa [pts] using h1
    simp only [pts, List.getElem_map, List.getElem_range]
    rw [(at_ i hi).1, (at_ i hi).2]
  obtain ⟨f, hf, he⟩ := So.lag_is (shX l) (shY l) l.length x (fun i j hi hj hij => by
    rw [(at_ i hi).1, (at_ j hj).1]
    have g1 := h.1 l[i] (List.getElem_mem hi)
    have g2 := h.1 l[j] (List.getElem_mem hj)
    unfold shOk at g1 g2
    refine apart_of (fun e => ?_) (by omega) (by omega)
    have h2 := h.2
    unfold List.Nodup at h2
    rw [List.pairwise_map, List.pairwise_iff_getElem] at h2
    rcases Nat.lt_or_ge i j with g | g
    · exact h2 i j hi hj g e
    · exact h2 j i hj hi (by omega) e.symm)
  unfold atF
  rw [← he]
  exact (atN_is h h0 x (by rw [e]; exact hf)).symm
theorem at_good (l : List Shr) (hl : ∀ s ∈ l, s.ok) (x : Nat) (hx : x < 256) (h0 : 0 < l.length) (h20 : l.length ≤ 20) (hg : goodL l) (b o cp : Nat) (w : World)
    (CR : Hid (∀ W, Below w.heap.size w W → ∀ i, i < l.length → W.rangeAt b (o + i * 5) (shC ⟨(shX l i : Int), shN l i⟩)))
    (AS : Hid (∀ W, Below w.heap.size w W → Calls Tryd.prog 36 #[.slice (some ⟨b, o, none⟩) l.length cp] W fun e w' => e = .returned (.bool true) ∧ Below W.heap.size W w')) :
    Calls Tryd.prog 11 #[.slice (some ⟨b, o, none⟩) l.length cp, .int .i64 (x : Int)] w fun e w' => e = .returned (.tuple #[N (nm (atN l x)), .int .i64 0]) ∧ Below w.heap.size w w' := by
  rw [← atF_is hg h0 x]
  unfold atF
  have XB : ∀ i, shX l i < 256 := fun i => Nat.mod_lt _ (by decide)
  have nY : ∀ i, i < l.length → (shN l i).ok ∧ (shN l i).nat = shY l i := fun i hi => by
    have hm := hg.1 l[i] (List.getElem_mem hi)
    have hk := hl l[i] (List.getElem_mem hi)
    unfold shY shN
    rw [getD_at hi]
    exact ⟨hk.2, (Nat.mod_eq_of_lt hm.2).symm⟩
  have YO : ∀ i, shY l i < Cv.ord := fun i => Nat.mod_lt _ o_pos
  generalize shX l = X at *
  refine at_walk l.length b o cp x h0 h20 (by omega) (fun i => (X i : Int)) (shN l) (fun j => nm (So.oN X j x l.length)) (fun j => nm (So.oN X j (X j) l.length))
    (fun j => nm (shY l j * So.oN X j x l.length % Cv.ord)) (fun j => nm (shY l j * So.oN X j x l.length % Cv.ord * So.bN X l.length j % Cv.ord)) (fun j => nm (So.tN X (shY l) l.length x j * So.oN X j (X j) l.length % Cv.ord))
    (fun j => nm (So.tN X (shY l) l.length x j)) (fun j => nm (So.bN X l.length j)) (nm (So.iv (So.bN X l.length l.length))) _ (show nm 0 = smN 0 from (smN_nm (by decide)).symm) (show nm 1 = smN 1 from (smN_nm (by decide)).symm) w CR AS ?_ ?_ ?_ ?_ ?_ ?_ ?_ ?_
  · intro j hj W hW
    exact weight_fun l.length b o cp j x hj h20 hx X XB (shN l) W (fun W' hW' => CR.out W' (hW.trans (hW'.mono hW.size)))
  · intro j hj W
    have := sMulC (shN l j) (nm (So.oN X j x l.length)) (nY j hj).1 (nm_ok _) W
    rwa [(nY j hj).2, nm_lt (So.oN_lt _ _ _ _)] at this
  · intro j hj W
    exact mul_lt _ _ (Nat.mod_lt _ o_pos) (So.bN_lt _ _ _) W
  · intro j hj W
    exact mul_lt _ _ (So.tN_lt _ _ _ _ _) (So.oN_lt _ _ _ _) W
  · intro j hj W
    exact add_lt _ _ (Nat.mod_lt _ o_pos) (Nat.mod_lt _ o_pos) W
  · intro j hj W
    exact mul_lt _ _ (So.bN_lt _ _ _) (So.oN_lt _ _ _ _) W
  · intro W
    have := sInvC (nm (So.bN X l.length l.length)) (nm_ok _) W
    rwa [nm_lt (So.bN_lt _ _ _), pow_o] at this
  · intro W
    exact mul_lt _ _ (So.tN_lt _ _ _ _ _) (So.iv_lt _) W
/-- What At answers. -/
theorem atC : AtC := fun l hl x hx v w hv => by
  obtain ⟨a, cp, rfl, hc, hm⟩ := id hv
  unfold atM
  by_cases h20 : 20 < l.length
  · have e : fltN l x = 2 := by unfold fltN; rw [if_pos h20]
    rw [e]
    exact at_large a _ cp h20 x w
  by_cases h0 : l.length = 0
  · have e : fltN l x = 1 := by unfold fltN; rw [if_neg h20, if_pos (.inl h0)]
    rw [e, h0]
    exact at_none a cp x w
  by_cases h1 : x < 0
  · have e : fltN l x = 1 := by unfold fltN; rw [if_neg h20, if_pos (.inr (.inl h1))]
    rw [e]
    exact at_less a _ cp (by omega) h0 x h1 w
  by_cases h2 : 255 < x
  · have e : fltN l x = 1 := by unfold fltN; rw [if_neg h20, if_pos (.inr (.inr h2))]
    rw [e]
    exact at_more a _ cp (by omega) h0 x h2 w
  obtain ⟨b, o, rfl, -⟩ := hm (by omega)
  have at_ : ∀ i, i < l.length → l[i]? = some ⟨(l.getD i shr0).x, shN l i⟩ ∧ (shN l i).ok := fun i hi => by
    have e : l.getD i shr0 = l[i] := by rw [List.getD_eq_getElem?_getD, List.getElem?_eq_getElem hi]; rfl
    unfold shN
    rw [e]
    exact ⟨List.getElem?_eq_getElem hi, (hl l[i] (List.getElem_mem hi)).2⟩
  have CR : Hid (∀ W, Below w.heap.size w W → ∀ i, i < l.length → W.rangeAt b (o + i * 5) (shC ⟨(l.getD i shr0).x, shN l i⟩)) := fun W hW i hi => by
    obtain ⟨a', c', e, -, h⟩ := hv.up (hW.mono (Nat.le_refl _))
    cases e
    obtain ⟨b', o', e, h⟩ := h (by omega)
    cases e
    exact h i _ (at_ i hi).1
  have eq : ∀ i, i < l.length → (badL (fun i => (l.getD i shr0).x) (fun i => decide ((shN l i).nat < Cv.ord)) i ↔ badAt l i) := fun i hi => by
    unfold badL badAt shOk
    have e : (decide ((shN l i).nat < Cv.ord) = false) ↔ ¬ (l.getD i shr0).y.nat < Cv.ord := by
      rw [decide_eq_false_iff_not]
      exact Iff.rfl
    simp only [e]
    constructor
    · rintro (h | h | h | h)
      · exact .inl fun hh => by omega
      · exact .inl fun hh => by omega
      · exact .inl fun hh => h hh.2
      · exact .inr h
    · rintro (h | h)
      · by_cases g1 : (l.getD i shr0).x < 1
        · exact .inl g1
        by_cases g2 : 255 < (l.getD i shr0).x
        · exact .inr (.inl g2)
        exact .inr (.inr (.inl fun g3 => h ⟨⟨by omega, by omega⟩, g3⟩))
      · exact .inr (.inr (.inr h))
  have AS : ∀ r : Bool, ((∃ j, j < l.length ∧ badAt l j) → r = false) → ((∀ j, j < l.length → ¬ badAt l j) → r = true) → Hid (∀ W, Below w.heap.size w W → Calls Tryd.prog 36 #[.slice (some ⟨b, o, none⟩) l.length cp] W fun e w' => e = .returned (.bool r) ∧ Below W.heap.size W w') := fun r r1 r0 W hW =>
    areShares_walk l.length b o cp (by omega) (fun i => (l.getD i shr0).x) (shN l) (fun i => decide ((shN l i).nat < Cv.ord)) r W (fun W' hW' => CR.out W' (hW.trans (hW'.mono hW.size)))
      (fun ⟨j, hj, hb⟩ => r1 ⟨j, hj, (eq j hj).1 hb⟩) (fun h => r0 fun j hj hb => h j hj ((eq j hj).2 hb)) (fun j hj W' => isBelow_is _ (at_ j hj).2 W')
  by_cases hb : ∃ i, i < l.length ∧ badAt l i
  · have e : fltN l x = 1 := by
      unfold fltN
      rw [if_neg h20, if_neg (by rintro (h | h | h) <;> contradiction), if_pos ((any_bad l).2 hb)]
    rw [e]
    exact at_bad _ _ cp (by omega) h0 x (by omega) w (AS false (fun _ => rfl) (fun h => by obtain ⟨i, hi, h2⟩ := hb; exact absurd h2 (h i hi))).out
  · have hg := (good_iff l).1 hb
    have e : fltN l x = 0 := (flt_zero l x).2 ⟨by omega, by omega, by omega, by omega, hg⟩
    rw [e, if_pos rfl]
    obtain ⟨z, rfl⟩ : ∃ z : Nat, x = (z : Int) := ⟨x.toNat, by omega⟩
    rw [Int.toNat_natCast]
    refine at_good l hl z (by omega) (by omega) (by omega) hg b o cp w (fun W hW i hi => ?_) (AS true (fun ⟨i, hi, h⟩ => absurd ⟨i, hi, h⟩ hb) (fun _ => rfl))
    have ex : (shX l i : Int) = (l.getD i shr0).x := by
      have hm := hg.1 l[i] (List.getElem_mem hi)
      unfold shX
      rw [getD_at hi]
      have := hm.1
      omega
    rw [ex]
    exact CR.out W hW i hi
end Go.Proofs.YtdcpicbkemmakaaDoor

/- Sums of shares: what they are shares of; ShareSums' walk. -/
namespace Go.Proofs.YtdcpicbkemmakaaDoor
open Go.RowKit
attribute [local go_sem] World.cell?_alloc_some cell_alloc2 cell_alloc3 cell_alloc4 frozen?_alloc_cells frozen_out
attribute [local go_sem] YieldsP execOp
attribute [local simp] MP.eq_p
set_option linter.unusedSimpArgs false
def smT (c d : List Nat) (i : Nat) : Nm := nm ((pvN c (i + 1) % Cv.ord + pvN d (i + 1) % Cv.ord) % Cv.ord)
def smL (T : Nat → Nm) (k : Nat) : List Shr := (List.range k).map fun i => ⟨((i + 1 : Nat) : Int), T i⟩
theorem smL_length (T : Nat → Nm) (k : Nat) : (smL T k).length = k := by simp [smL]
theorem smL_succ (T : Nat → Nm) (k : Nat) : smL T (k + 1) = smL T k ++ [⟨((k + 1 : Nat) : Int), T k⟩] := by
  unfold smL
  rw [List.range_succ, List.map_append, List.map_cons, List.map_nil]
theorem pvN_zero (c : List Nat) : pvN c 0 = c.getD 0 0 := by
  cases c with
  | nil => rfl
  | cons a c => simp [pvN]
theorem ord_big : 0 < Cv.ord := by decide
theorem smL_good (c d : List Nat) (k : Nat) (k20 : k ≤ 20) : goodL (smL (smT c d) k) := by
  refine ⟨fun s hs => ?_, ?_⟩
  · obtain ⟨i, hi, rfl⟩ := List.mem_map.1 hs
    have hi := List.mem_range.1 hi
    refine ⟨⟨?_, ?_⟩, ?_⟩
    · show (1 : Int) ≤ ((i + 1 : Nat) : Int)
      omega
    · show ((i + 1 : Nat) : Int) ≤ 255
      omega
    · show (smT c d i).nat < Cv.ord
      rw [smT, s_nat]
      exact Nat.mod_lt _ ord_big
  · unfold smL
    rw [List.map_map]
    unfold List.Nodup
    rw [List.pairwise_map]
    refine List.Pairwise.imp ?_ (List.nodup_range (n := k))
    intro a b hab
    show ((a + 1 : Nat) : Int) ≠ ((b + 1 : Nat) : Int)
    omega
theorem smL_at (c d : List Nat) (k : Nat) (hc : c.length ≤ k) (hd : d.length ≤ k) (k1 : 1 ≤ k) (k20 : k ≤ 20) : fltN (smL (smT c d) k) 0 = 0 ∧ atM (smL (smT c d) k) 0 = nm ((c.getD 0 0 + d.getD 0 0) % Cv.ord) := by
  have hg := smL_good c d k k20
  have hf : fltN (smL (smT c d) k) 0 = 0 := (flt_zero _ _).2 ⟨by rw [smL_length]; omega, by rw [smL_length]; omega, by decide, by decide, hg⟩
  refine ⟨hf, ?_⟩
  unfold atM
  rw [if_pos hf]
  have h1 : So.IsAt (pts (smL (smT c d) k)) (fun x => So.ev (c.map fun (a : Nat) => (a : Int)) x + So.ev (d.map fun (a : Nat) => (a : Int)) x) := by
    refine ⟨?_, fun q hq => ?_⟩
    · have e : (pts (smL (smT c d) k)).length = k := by simp [pts, smL]
      rw [e]
      exact ((So.Po.ev _).mono (by simpa using hc)).add ((So.Po.ev _).mono (by simpa using hd))
    · obtain ⟨s, hs, rfl⟩ := List.mem_map.1 hq
      obtain ⟨i, hi, rfl⟩ := List.mem_map.1 hs
      show So.K (So.ev (c.map fun (a : Nat) => (a : Int)) ((i + 1 : Nat) : Int) + So.ev (d.map fun (a : Nat) => (a : Int)) ((i + 1 : Nat) : Int)) ((smT c d i).nat : Int)
      rw [pvN_ev, pvN_ev, smT, s_nat, ← Nat.add_mod]
      have := So.K_mod (pvN c (i + 1) + pvN d (i + 1))
      exact (this.trans (So.K.of_eq (by push_cast; rfl))).symm
  have h2 := atN_is hg (by rw [smL_length]; omega) 0 h1
  rw [show (0 : Int).toNat = 0 from rfl, h2]
  show nm (So.rd (So.ev (c.map fun (a : Nat) => (a : Int)) ((0 : Nat) : Int) + So.ev (d.map fun (a : Nat) => (a : Int)) ((0 : Nat) : Int))) = _
  rw [pvN_ev, pvN_ev, pvN_zero, pvN_zero, ← So.rd_mod]
  push_cast
  rfl
end Go.Proofs.YtdcpicbkemmakaaDoor
