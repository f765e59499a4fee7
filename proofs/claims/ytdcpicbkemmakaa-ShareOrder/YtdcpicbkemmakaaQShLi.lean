/- Package share, as it landed: what At answers is what the document has. -/
import Derived.Test.YtdcpicbkemmakaaQShLt
import Derived.Test.YtdcpicbkemmakaaQShLg
import Derived.Test.YtdcpicbkemmakaaQShE
import Derived.Test.YtdcpicbkemmakaaQScalarIs
namespace Go.Proofs.Ytdcpicbkemmakaa
open Go.RowKit
set_option linter.unusedSimpArgs false
theorem smN_nm {x : Nat} (h : x < 18446744073709551616) : smN x = nm x := by
  have := Nm.eq_nm (smN_ok h) rfl
  rw [smN_nat] at this
  exact this
theorem nm_lt {a : Nat} (h : a < Cv.ord) : (nm a).nat = a := nm_nat (Nat.lt_trans h ord_lt)
theorem mul_lt (a b : Nat) (ha : a < Cv.ord) (hb : b < Cv.ord) (w : World) : Calls Try.prog 15 #[N (nm a), N (nm b)] w fun e w' => e = .returned (N (nm (a * b % Cv.ord))) ∧ Below w.heap.size w w' := by
  have := sMulC (nm a) (nm b) (nm_ok _) (nm_ok _) w
  rwa [nm_lt ha, nm_lt hb] at this
theorem add_lt (a b : Nat) (ha : a < Cv.ord) (hb : b < Cv.ord) (w : World) : Calls Try.prog 16 #[N (nm a), N (nm b)] w fun e w' => e = .returned (N (nm ((a + b) % Cv.ord))) ∧ Below w.heap.size w w' := by
  have := sAddC (nm a) (nm b) (nm_ok _) (nm_ok _) w
  rwa [nm_lt ha, nm_lt hb] at this
/-- The weight of a share, as a fraction. -/
theorem weight_fun (n b o cp i : Nat) (x : Nat) (hi : i < n) (n20 : n ≤ 20) (hx : x < 256) (X : Nat → Nat) (hX : ∀ i, X i < 256) (ys : Nat → Nm) (w : World)
    (CR : Hid (∀ W, Below w.heap.size w W → ∀ i, i < n → W.rangeAt b (o + i * 5) (shC ⟨(X i : Int), ys i⟩))) :
    Calls Try.prog 14 #[.slice (some ⟨b, o, none⟩) n cp, .int .i64 (i : Int), .int .i64 (x : Int)] w fun e w' => e = .returned (.tuple #[N (nm (So.oN X i x n)), N (nm (So.oN X i (X i) n))]) ∧ Below w.heap.size w w' := by
  have one : smN 1 = nm 1 := smN_nm (by decide)
  refine weight_walk n b o cp i x hi n20 (fun i => (X i : Int)) ys (fun m => nm (So.oN X i x m)) (fun m => nm (So.oN X i (X i) m)) (fun j => nm (So.df x (X j))) (fun j => nm (So.df (X i) (X j))) one.symm one.symm w CR ?_ ?_ ?_ ?_ ?_ ?_
  · show nm (So.oN X i x (i + 1)) = nm (So.oN X i x i)
    rw [So.oN, if_pos rfl]
  · show nm (So.oN X i (X i) (i + 1)) = nm (So.oN X i (X i) i)
    rw [So.oN, if_pos rfl]
  · intro j _ _ W
    exact diff_is x (X j) (by omega) (by have := hX j; omega) W
  · intro j _ _ W
    exact diff_is (X i) (X j) (by have := hX i; omega) (by have := hX j; omega) W
  · intro j _ hj W
    have := mul_lt _ _ (So.oN_lt X i x j) (So.df_lt x (X j)) W
    rw [show So.oN X i x (j + 1) = So.oN X i x j * So.df x (X j) % Cv.ord by rw [So.oN, if_neg hj]]
    exact this
  · intro j _ hj W
    have := mul_lt _ _ (So.oN_lt X i (X i) j) (So.df_lt (X i) (X j)) W
    rw [show So.oN X i (X i) (j + 1) = So.oN X i (X i) j * So.df (X i) (X j) % Cv.ord by rw [So.oN, if_neg hj]]
    exact this
/-- The fraction that At answers. -/
def atF (l : List Shr) (x : Nat) : Nat := So.tN (shX l) (shY l) l.length x l.length * So.iv (So.bN (shX l) l.length l.length) % Cv.ord
theorem atF_is {l : List Shr} (h : goodL l) (h0 : 0 < l.length) (x : Nat) : atF l x = atN l x := by
  have at_ : ∀ i (hi : i < l.length), (shX l i : Int) = l[i].x ∧ shY l i = l[i].y.nat := fun i hi => by
    have hm := h.1 l[i] (List.getElem_mem hi)
    unfold shX shY shN
    rw [getD_at hi]
    have h1 := hm.1
    exact ⟨by omega, Nat.mod_eq_of_lt hm.2⟩
  have e : pts l = (List.range l.length).map fun i => ((shX l i : Int), (shY l i : Int)) := by
    refine List.ext_getElem (by simp [pts]) fun i h1 h2 => ?_
    have hi : i < l.length := by simpa [pts] using h1
    simp only [pts, List.getElem_map, List.getElem_range]
    rw [(at_ i hi).1, (at_ i hi).2]
  obtain ⟨f, hf, he⟩ := So.lag_is (shX l) (shY l) l.length x (fun i j hi hj hij => by
    rw [(at_ i hi).1, (at_ j hj).1]
    have g1 := h.1 l[i] (List.getElem_mem hi)
    have g2 := h.1 l[j] (List.getElem_mem hj)
    unfold shOk at g1 g2
    refine apart_of (fun e => ?_) (by omega) (by omega)
    have h2 := h.2
    unfold List.Nodup at h2
    rw [List.pairwise_map, List.pairwise_iff_getElem] at h2
    rcases Nat.lt_or_ge i j with g | g
    · exact h2 i j hi hj g e
    · exact h2 j i hj hi (by omega) e.symm)
  unfold atF
  rw [← he]
  exact (atN_is h h0 x (by rw [e]; exact hf)).symm
theorem at_good (l : List Shr) (hl : ∀ s ∈ l, s.ok) (x : Nat) (hx : x < 256) (h0 : 0 < l.length) (h20 : l.length ≤ 20) (hg : goodL l) (b o cp : Nat) (w : World)
    (CR : Hid (∀ W, Below w.heap.size w W → ∀ i, i < l.length → W.rangeAt b (o + i * 5) (shC ⟨(shX l i : Int), shN l i⟩)))
    (AS : Hid (∀ W, Below w.heap.size w W → Calls Try.prog 12 #[.slice (some ⟨b, o, none⟩) l.length cp] W fun e w' => e = .returned (.bool true) ∧ Below W.heap.size W w')) :
    Calls Try.prog 6 #[.slice (some ⟨b, o, none⟩) l.length cp, .int .i64 (x : Int)] w fun e w' => e = .returned (.tuple #[N (nm (atN l x)), .int .i64 0]) ∧ Below w.heap.size w w' := by
  rw [← atF_is hg h0 x]
  unfold atF
  have XB : ∀ i, shX l i < 256 := fun i => Nat.mod_lt _ (by decide)
  have nY : ∀ i, i < l.length → (shN l i).ok ∧ (shN l i).nat = shY l i := fun i hi => by
    have hm := hg.1 l[i] (List.getElem_mem hi)
    have hk := hl l[i] (List.getElem_mem hi)
    unfold shY shN
    rw [getD_at hi]
    exact ⟨hk.2, (Nat.mod_eq_of_lt hm.2).symm⟩
  have YO : ∀ i, shY l i < Cv.ord := fun i => Nat.mod_lt _ o_pos
  generalize shX l = X at *
  refine at_walk l.length b o cp x h0 h20 (by omega) (fun i => (X i : Int)) (shN l) (fun j => nm (So.oN X j x l.length)) (fun j => nm (So.oN X j (X j) l.length))
    (fun j => nm (shY l j * So.oN X j x l.length % Cv.ord)) (fun j => nm (shY l j * So.oN X j x l.length % Cv.ord * So.bN X l.length j % Cv.ord)) (fun j => nm (So.tN X (shY l) l.length x j * So.oN X j (X j) l.length % Cv.ord))
    (fun j => nm (So.tN X (shY l) l.length x j)) (fun j => nm (So.bN X l.length j)) (nm (So.iv (So.bN X l.length l.length))) _ (show nm 0 = smN 0 from (smN_nm (by decide)).symm) (show nm 1 = smN 1 from (smN_nm (by decide)).symm) w CR AS ?_ ?_ ?_ ?_ ?_ ?_ ?_ ?_
  · intro j hj W hW
    exact weight_fun l.length b o cp j x hj h20 hx X XB (shN l) W (fun W' hW' => CR.out W' (hW.trans (hW'.mono hW.size)))
  · intro j hj W
    have := sMulC (shN l j) (nm (So.oN X j x l.length)) (nY j hj).1 (nm_ok _) W
    rwa [(nY j hj).2, nm_lt (So.oN_lt _ _ _ _)] at this
  · intro j hj W
    exact mul_lt _ _ (Nat.mod_lt _ o_pos) (So.bN_lt _ _ _) W
  · intro j hj W
    exact mul_lt _ _ (So.tN_lt _ _ _ _ _) (So.oN_lt _ _ _ _) W
  · intro j hj W
    exact add_lt _ _ (Nat.mod_lt _ o_pos) (Nat.mod_lt _ o_pos) W
  · intro j hj W
    exact mul_lt _ _ (So.bN_lt _ _ _) (So.oN_lt _ _ _ _) W
  · intro W
    have := sInvC (nm (So.bN X l.length l.length)) (nm_ok _) W
    rwa [nm_lt (So.bN_lt _ _ _), pow_o] at this
  · intro W
    exact mul_lt _ _ (So.tN_lt _ _ _ _ _) (So.iv_lt _) W
/-- What At answers. -/
theorem atC : AtC := fun l hl x hx v w hv => by
  obtain ⟨a, cp, rfl, hc, hm⟩ := id hv
  unfold atM
  by_cases h20 : 20 < l.length
  · have e : fltN l x = 2 := by unfold fltN; rw [if_pos h20]
    rw [e]
    exact at_large a _ cp h20 x w
  by_cases h0 : l.length = 0
  · have e : fltN l x = 1 := by unfold fltN; rw [if_neg h20, if_pos (.inl h0)]
    rw [e, h0]
    exact at_none a cp x w
  by_cases h1 : x < 0
  · have e : fltN l x = 1 := by unfold fltN; rw [if_neg h20, if_pos (.inr (.inl h1))]
    rw [e]
    exact at_less a _ cp (by omega) h0 x h1 w
  by_cases h2 : 255 < x
  · have e : fltN l x = 1 := by unfold fltN; rw [if_neg h20, if_pos (.inr (.inr h2))]
    rw [e]
    exact at_more a _ cp (by omega) h0 x h2 w
  obtain ⟨b, o, rfl, -⟩ := hm (by omega)
  have at_ : ∀ i, i < l.length → l[i]? = some ⟨(l.getD i shr0).x, shN l i⟩ ∧ (shN l i).ok := fun i hi => by
    have e : l.getD i shr0 = l[i] := by rw [List.getD_eq_getElem?_getD, List.getElem?_eq_getElem hi]; rfl
    unfold shN
    rw [e]
    exact ⟨List.getElem?_eq_getElem hi, (hl l[i] (List.getElem_mem hi)).2⟩
  have CR : Hid (∀ W, Below w.heap.size w W → ∀ i, i < l.length → W.rangeAt b (o + i * 5) (shC ⟨(l.getD i shr0).x, shN l i⟩)) := fun W hW i hi => by
    obtain ⟨a', c', e, -, h⟩ := hv.up (hW.mono (Nat.le_refl _))
    cases e
    obtain ⟨b', o', e, h⟩ := h (by omega)
    cases e
    exact h i _ (at_ i hi).1
  have eq : ∀ i, i < l.length → (badL (fun i => (l.getD i shr0).x) (fun i => decide ((shN l i).nat < Cv.ord)) i ↔ badAt l i) := fun i hi => by
    unfold badL badAt shOk
    have e : (decide ((shN l i).nat < Cv.ord) = false) ↔ ¬ (l.getD i shr0).y.nat < Cv.ord := by
      rw [decide_eq_false_iff_not]
      exact Iff.rfl
    simp only [e]
    constructor
    · rintro (h | h | h | h)
      · exact .inl fun hh => by omega
      · exact .inl fun hh => by omega
      · exact .inl fun hh => h hh.2
      · exact .inr h
    · rintro (h | h)
      · by_cases g1 : (l.getD i shr0).x < 1
        · exact .inl g1
        by_cases g2 : 255 < (l.getD i shr0).x
        · exact .inr (.inl g2)
        exact .inr (.inr (.inl fun g3 => h ⟨⟨by omega, by omega⟩, g3⟩))
      · exact .inr (.inr (.inr h))
  have AS : ∀ r : Bool, ((∃ j, j < l.length ∧ badAt l j) → r = false) → ((∀ j, j < l.length → ¬ badAt l j) → r = true) → Hid (∀ W, Below w.heap.size w W → Calls Try.prog 12 #[.slice (some ⟨b, o, none⟩) l.length cp] W fun e w' => e = .returned (.bool r) ∧ Below W.heap.size W w') := fun r r1 r0 W hW =>
    areShares_walk l.length b o cp (by omega) (fun i => (l.getD i shr0).x) (shN l) (fun i => decide ((shN l i).nat < Cv.ord)) r W (fun W' hW' => CR.out W' (hW.trans (hW'.mono hW.size)))
      (fun ⟨j, hj, hb⟩ => r1 ⟨j, hj, (eq j hj).1 hb⟩) (fun h => r0 fun j hj hb => h j hj ((eq j hj).2 hb)) (fun j hj W' => isBelow_is _ (at_ j hj).2 W')
  by_cases hb : ∃ i, i < l.length ∧ badAt l i
  · have e : fltN l x = 1 := by
      unfold fltN
      rw [if_neg h20, if_neg (by rintro (h | h | h) <;> contradiction), if_pos ((any_bad l).2 hb)]
    rw [e]
    exact at_bad _ _ cp (by omega) h0 x (by omega) w (AS false (fun _ => rfl) (fun h => by obtain ⟨i, hi, h2⟩ := hb; exact absurd h2 (h i hi))).out
  · have hg := (good_iff l).1 hb
    have e : fltN l x = 0 := (flt_zero l x).2 ⟨by omega, by omega, by omega, by omega, hg⟩
    rw [e, if_pos rfl]
    obtain ⟨z, rfl⟩ : ∃ z : Nat, x = (z : Int) := ⟨x.toNat, by omega⟩
    rw [Int.toNat_natCast]
    refine at_good l hl z (by omega) (by omega) (by omega) hg b o cp w (fun W hW i hi => ?_) (AS true (fun ⟨i, hi, h⟩ => absurd ⟨i, hi, h⟩ hb) (fun _ => rfl))
    have ex : (shX l i : Int) = (l.getD i shr0).x := by
      have hm := hg.1 l[i] (List.getElem_mem hi)
      unfold shX
      rw [getD_at hi]
      have := hm.1
      omega
    rw [ex]
    exact CR.out W hW i hi
end Go.Proofs.Ytdcpicbkemmakaa
