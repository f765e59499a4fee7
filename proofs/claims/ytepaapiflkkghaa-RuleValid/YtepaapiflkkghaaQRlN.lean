/- What package rule makes, as it landed, as mathematics. -/
import Derived.Test.YtepaapiflkkghaaQRlM
namespace Go.Proofs.Ytepaapiflkkghaa
set_option linter.unusedSimpArgs false
theorem badM_zero {c : Nat} : ∀ {t : List Ar}, badM c t = 0 → ∀ x ∈ t, belB c x.k.toNat = true ∧ ¬ (10 ≤ x.k ∧ x.k ≤ 12)
  | [], _, x, hx => absurd hx List.not_mem_nil
  | y :: r, h, x, hx => by
    rw [badM] at h
    split at h
    · cases h
    · rename_i hb
      split at h
      · cases h
      · rename_i hn
        rcases List.mem_cons.1 hx with rfl | hx
        · exact ⟨by simpa using hb, hn⟩
        · exact badM_zero h x hx
/-- The attributes of these kinds. -/
def whL (f : Crd) (ks : List Nat) : List Ar := ks.map fun (k : Nat) => ⟨(k : Int), (f k).getD []⟩
theorem whL_next {f : Crd} {ks : List Nat} {j k : Nat} (h : ks[j]? = some k) : whL f (ks.take (j + 1)) = whL f (ks.take j) ++ [⟨(k : Int), (f k).getD []⟩] := by
  have e : ks.take (j + 1) = ks.take j ++ [k] := by rw [List.take_add_one, h]; rfl
  unfold whL
  rw [e, List.map_append]
  rfl
theorem whL_get (f : Crd) (i : Nat) : ∀ {ks : List Nat}, i ∈ ks → getA (whL f ks) (i : Int) = some ((f i).getD [])
  | [], h => absurd h List.not_mem_nil
  | k :: r, h => by
    unfold whL
    rw [List.map_cons, getA]
    by_cases e : (k : Int) = (i : Int)
    · rw [if_pos e]
      obtain rfl : k = i := by omega
      rfl
    · rw [if_neg e]
      rcases List.mem_cons.1 h with rfl | h
      · exact absurd rfl e
      · exact whL_get f i h
theorem take_mem {ks : List Nat} (hp : ks.Pairwise (· < ·)) {i j k : Nat} (hi : i ∈ ks) (hk : ks[j]? = some k) (h : i < k) : i ∈ ks.take j := by
  obtain ⟨m, hm, e⟩ := List.getElem_of_mem hi
  obtain ⟨hj, ek⟩ := List.getElem?_eq_some_iff.1 hk
  have hmj : m < j := by
    rcases Nat.lt_trichotomy m j with hl | rfl | hl
    · exact hl
    · omega
    · have := List.pairwise_iff_getElem.1 hp j m hj hm hl
      omega
  refine List.mem_of_getElem? (i := m) ?_
  rw [List.getElem?_take, if_pos hmj, List.getElem?_eq_getElem hm, e]
/-- What a kind is unasked, where an object's lesser kinds are there. -/
def uslV (l : List Ar) (k c : Nat) (b : Bool) : List Nat :=
  if k = 2 ∨ k = 3 then [] else if k = 6 then flgV (decide (c = 2 ∨ c = 4)) else if k = 7 ∨ k = 9 then flgV true
  else if k = 10 then flgV (b && isA l 8) else if k = 11 then flgV (b && !isA l 9) else if k = 12 then flgV b else flgV false
theorem belB_even {c k : Nat} (h : c = 2 ∨ c = 4) (hk : k ≤ 13) : belB c k = true := by
  unfold belB
  rcases h with rfl | rfl
  · rw [if_neg (by decide), if_pos rfl]
    exact decide_eq_true (by omega)
  · rw [if_neg (by decide), if_neg (by decide), if_neg (by decide), if_pos rfl]
    exact decide_eq_true (by omega)
theorem belB_odd {c k : Nat} (h : c = 1 ∨ c = 3) (hk : 8 ≤ k) (hk2 : k ≤ 13) : belB c k = false := by
  unfold belB
  rcases h with rfl | rfl
  · rw [if_pos rfl]
    exact decide_eq_false (by omega)
  · rw [if_neg (by decide), if_neg (by decide), if_pos rfl]
    exact decide_eq_false (by omega)
def mde0 (t : List Ar) (c : Nat) : Crd := ovF (dftF c 19) (crdF t)
theorem mde0_get {t : List Ar} {c k : Nat} (h1 : 1 ≤ k) (h2 : k ≤ 18) (hb : belB c k = true) : mde0 t c k = some ((getA t (k : Int)).getD (dftV c k)) := by
  have cr : crdF t k = getA t (k : Int) := by unfold crdF; rw [if_pos ⟨h1, h2⟩]
  have dr : dftF c 19 k = some (dftV c k) := by
    unfold dftF dftV
    rw [if_pos ⟨h1, by omega, hb⟩]
  unfold mde0 ovF
  rw [cr, dr]
  cases getA t (k : Int) <;> rfl
theorem mdeF_far {t : List Ar} {b : Bool} {c k : Nat} (hc : clsF (crdF t) = c) (h : ¬ (c % 2 = 0 ∧ (k = 10 ∨ k = 11 ∨ k = 12))) : mdeF t b k = mde0 t c k := by
  unfold mdeF locF
  rw [hc]
  by_cases he : c % 2 = 0
  · rw [if_pos he]
    unfold putF
    rw [if_neg (by omega), if_neg (by omega), if_neg (by omega)]
    rfl
  · rw [if_neg he]
    rfl
theorem mdeF_near {t : List Ar} {b : Bool} {c : Nat} (hc : clsF (crdF t) = c) (h : c % 2 = 0) : mdeF t b 10 = some (flgV (b && oneF (mde0 t c) 8)) ∧ mdeF t b 11 = some (flgV (b && !oneF (mde0 t c) 9)) ∧ mdeF t b 12 = some (flgV b) := by
  unfold mdeF locF
  rw [hc, if_pos h]
  exact ⟨rfl, rfl, rfl⟩
theorem whl_isA {t : List Ar} {b : Bool} {c j k i : Nat} (hc : clsF (crdF t) = c) (h : c = 2 ∨ c = 4) (hk : (kndN c 18)[j]? = some k) (h1 : 1 ≤ i) (h9 : i ≤ 9) (hik : i < k) : isA (whL (mdeF t b) ((kndN c 18).take j)) (i : Int) = oneF (mde0 t c) i := by
  unfold isA oneF
  rw [whL_get _ i (take_mem (kndN_rise c 18) (kndN_mem.2 ⟨h1, by omega, belB_even h (by omega)⟩) hk hik), mdeF_far hc (by omega)]
  rfl
theorem whl_val {t : List Ar} {b : Bool} {c : Nat} (hc : clsF (crdF t) = c) (c1 : 1 ≤ c) (c4 : c ≤ 4) (h1 : getA t 1 ≠ none) (h4 : getA t 4 ≠ none) (hb : badM c t = 0) {j k : Nat} (hk : (kndN c 18)[j]? = some k) :
    (getA t (k : Int)).getD (uslV (whL (mdeF t b) ((kndN c 18).take j)) k c b) = (mdeF t b k).getD [] := by
  obtain ⟨k1, k18, kb⟩ := kndN_mem.1 (List.mem_of_getElem? hk)
  by_cases hs : c % 2 = 0 ∧ (k = 10 ∨ k = 11 ∨ k = 12)
  · have hc2 : c = 2 ∨ c = 4 := by omega
    have hn : getA t (k : Int) = none := by
      cases e : getA t (k : Int) with
      | none => rfl
      | some v =>
        obtain ⟨x, hx, e1, -⟩ := getA_mem e
        exact absurd (by omega) (badM_zero hb x hx).2
    obtain ⟨m10, m11, m12⟩ := mdeF_near (b := b) hc hs.1
    rw [hn, Option.getD_none]
    unfold uslV
    rcases hs.2 with rfl | rfl | rfl
    · rw [if_neg (by decide), if_neg (by decide), if_neg (by decide), if_pos rfl, m10, Option.getD_some]
      have := whl_isA (t := t) (b := b) (i := 8) hc hc2 hk (by decide) (by decide) (by decide)
      rw [show isA (whL (mdeF t b) ((kndN c 18).take j)) 8 = _ from this]
    · rw [if_neg (by decide), if_neg (by decide), if_neg (by decide), if_neg (by decide), if_pos rfl, m11, Option.getD_some]
      have := whl_isA (t := t) (b := b) (i := 9) hc hc2 hk (by decide) (by decide) (by decide)
      rw [show isA (whL (mdeF t b) ((kndN c 18).take j)) 9 = _ from this]
    · rw [if_neg (by decide), if_neg (by decide), if_neg (by decide), if_neg (by decide), if_neg (by decide), if_pos rfl, m12, Option.getD_some]
  · rw [mdeF_far hc hs, mde0_get k1 k18 kb, Option.getD_some]
    cases e : getA t (k : Int) with
    | some v => rfl
    | none =>
      rw [Option.getD_none, Option.getD_none]
      have n1 : k ≠ 1 := fun h => by subst h; exact h1 e
      have n4 : k ≠ 4 := fun h => by subst h; exact h4 e
      unfold uslV dftV
      by_cases k2 : k = 2 ∨ k = 3
      · rw [if_pos k2, if_neg (by omega)]
      · rw [if_neg k2, if_pos (show 4 < k by omega)]
        have n10 : ¬ (k = 10 ∨ k = 11 ∨ k = 12) := fun h => by
          have : belB c k = false := belB_odd (by omega) (by omega) (by omega)
          rw [kb] at this
          cases this
        by_cases k6 : k = 6
        · rw [if_pos k6]
          subst k6
          have hc4 : c = 1 ∨ c = 2 ∨ c = 3 ∨ c = 4 := by omega
          rcases hc4 with h | h | h | h <;> rw [h] <;> rfl
        · rw [if_neg k6]
          have b6 : (k == 6) = false := beq_eq_false_iff_ne.2 k6
          by_cases k7 : k = 7 ∨ k = 9
          · rw [if_pos k7]
            rcases k7 with h | h <;> rw [h] <;> rfl
          · have b7 : (k == 7) = false := beq_eq_false_iff_ne.2 (by omega)
            have b9 : (k == 9) = false := beq_eq_false_iff_ne.2 (by omega)
            rw [if_neg k7, if_neg (by omega), if_neg (by omega), if_neg (by omega), b6, b7, b9]
            rfl
theorem atsF_whl {f : Crd} {c : Nat} (h0 : f 0 = none) : ∀ n, (∀ k, 1 ≤ k → k ≤ n → (f k).isSome = belB c k) → atsF f (n + 1) = whL f (kndN c n)
  | 0, _ => by
    rw [atsF, atsF, h0]
    rfl
  | n + 1, h => by
    rw [atsF, atsF_whl h0 n fun k h1 h2 => h k h1 (by omega), kndN]
    unfold whL
    rw [List.map_append]
    congr 1
    have := h (n + 1) (by omega) (Nat.le_refl _)
    cases e : f (n + 1) with
    | none =>
      rw [e] at this
      rw [if_neg (by rw [← this]; decide)]
      rfl
    | some v =>
      rw [e] at this
      rw [if_pos (show belB c (n + 1) = true from this.symm)]
      simp [e]
theorem mde_whl {t : List Ar} {b : Bool} {c : Nat} (hc : clsF (crdF t) = c) (c1 : 1 ≤ c) (c4 : c ≤ 4) (hb : badM c t = 0) : atsF (mdeF t b) 19 = whL (mdeF t b) (kndN c 18) := by
  have h0 : mdeF t b 0 = none := by
    rw [mdeF_far hc (by omega)]
    unfold mde0 ovF crdF dftF
    rw [if_neg (by omega), if_neg (by omega)]
    rfl
  refine atsF_whl h0 18 fun k k1 k18 => ?_
  by_cases hs : c % 2 = 0 ∧ (k = 10 ∨ k = 11 ∨ k = 12)
  · obtain ⟨m10, m11, m12⟩ := mdeF_near (b := b) hc hs.1
    rw [belB_even (by omega) (by omega)]
    rcases hs.2 with rfl | rfl | rfl
    · rw [m10]; rfl
    · rw [m11]; rfl
    · rw [m12]; rfl
  · rw [mdeF_far hc hs]
    cases kb : belB c k with
    | true =>
      rw [mde0_get k1 k18 kb]
      rfl
    | false =>
      have e : crdF t k = none := by
        unfold crdF
        rw [if_pos ⟨k1, k18⟩]
        cases e : getA t (k : Int) with
        | none => rfl
        | some v =>
          obtain ⟨x, hx, e1, -⟩ := getA_mem e
          have := (badM_zero hb x hx).1
          rw [e1, Int.toNat_natCast, kb] at this
          cases this
      unfold mde0 ovF dftF
      rw [e, if_neg (fun h => by rw [kb] at h; cases h.2.2)]
      rfl
end Go.Proofs.Ytepaapiflkkghaa
