/- What is made holds its template; what is turned has the same kinds. -/
import Derived.Test.YtepaapiflkkghaaQRuUToRuKp
namespace Go.Proofs.Ytepaapiflkkghaa
set_option linter.unusedSimpArgs false
theorem badM_not : ∀ {c : Nat} {t : List Ar}, badM c t = 0 → ∀ x ∈ t, ¬ (10 ≤ x.k ∧ x.k ≤ 12)
  | _, [], _, x, hx => absurd hx List.not_mem_nil
  | c, y :: t, h, x, hx => by
    rw [badM] at h
    split at h
    · cases h
    · split at h
      · cases h
      · rcases List.mem_cons.1 hx with rfl | hx
        · assumption
        · exact badM_not h x hx
/-- What is made holds its template. -/
theorem mad_mat {t : List Ar} {b : Bool} (h : madE t b = 0) : matA (madL t b) t = true := (matA_iff _ _).2 fun x hx => by
  have hz := mad_zero h
  have hg := (fltA_zero t).1 hz.1
  have hx1 := hg.2.1 x hx
  have hn := badM_not hz.2.2.1 x hx
  obtain ⟨k, hk⟩ : ∃ k : Nat, x.k = (k : Int) := ⟨x.k.toNat, by have := hx1.1; omega⟩
  have h1 := hx1.1
  have h2 := hx1.2.1
  have e : crdF t k = some x.v := by
    rw [crd_get t ⟨by omega, by omega⟩, ← hk]
    exact getA_own hg.2.2 x hx
  have em : mdeF t b k = some x.v := by
    have eo (f : Crd) : ovF f (crdF t) k = some x.v := by
      unfold ovF
      rw [e, Option.some_or]
    unfold mdeF locF
    split
    · unfold putF
      rw [if_neg (by omega), if_neg (by omega), if_neg (by omega)]
      exact eo _
    · exact eo _
  unfold madL madF
  rw [if_pos h, hk, atsF_getA (mde_fit h)]
  exact em
/-- Kinds alone. -/
theorem risN_kinds {l m : List Ar} : ∀ n : Nat, (∀ k : Int, 1 ≤ k → k ≤ n → (getA l k).isSome = (getA m k).isSome) → (risN l n).map Ar.k = (risN m n).map Ar.k
  | 0, _ => rfl
  | n + 1, h => by
    rw [risN, risN, List.map_append, List.map_append, risN_kinds n fun k h1 h2 => h k h1 (by omega)]
    congr 1
    have := h ((n : Int) + 1) (by omega) (by omega)
    cases h1 : getA l ((n : Int) + 1) with
    | none =>
      cases h2 : getA m ((n : Int) + 1) with
      | none => rfl
      | some y => rw [h1, h2] at this; cases this
    | some x =>
      cases h2 : getA m ((n : Int) + 1) with
      | none => rw [h1, h2] at this; cases this
      | some y => rfl
theorem val_kds {l : List Ar} (h : valA l = true) {k : Int} (h1 : 1 ≤ k) (h2 : k ≤ 18) : (getA l k).isSome = belB (clsF (crdF l)) k.toNat := by
  have ho := (val_parts h).2.2
  unfold objF at ho
  simp only [Bool.and_eq_true] at ho
  have hk := ho.1.1
  unfold kdsF at hk
  have := List.all_eq_true.1 hk (k.toNat - 1) (List.mem_range.2 (by omega))
  rw [show k.toNat - 1 + 1 = k.toNat by omega, beq_iff_eq, crd_get l ⟨by omega, by omega⟩, show ((k.toNat : Nat) : Int) = k by omega] at this
  exact this
/-- Two objects of one class have the same kinds. -/
theorem val_same {l m : List Ar} (hl : valA l = true) (hm : valA m = true) (h : getA m 1 = getA l 1) : m.map Ar.k = l.map Ar.k := by
  have hc : clsF (crdF m) = clsF (crdF l) := by
    unfold clsF
    rw [crd_get m (k := 1) (by decide), crd_get l (k := 1) (by decide), show ((1 : Nat) : Int) = 1 from rfl, h]
  rw [(val_parts hl).2.1, (val_parts hm).2.1]
  exact risN_kinds 18 fun k h1 h2 => by rw [val_kds hm h1 h2, val_kds hl h1 h2, hc]
theorem trnT_kinds {l : List Ar} (x : Tu) (h : valA l = true) : (trnT l x).map Ar.k = l.map Ar.k := val_same h (trnT_val x h) (keepK l x (k := 1) (by decide))
/-- What is turned is the same, or holds the template. -/
theorem trnT_mat (l : List Ar) (x : Tu) : trnT l x = l ∨ matA (trnT l x) x.l = true := by
  unfold trnT
  split
  · rename_i h
    exact .inr (ovrA_top ((fltA_zero _).1 (trn_zero h).2.1).2)
  · exact .inl rfl
end Go.Proofs.Ytepaapiflkkghaa
