/- A region that draws its order of evaluation, whose operations read and whose callees make new memory and leave the old alone: one walk in the order of the text serves every order; stores and assignments that wait for all of these come behind. Over any program. -/
import Derived.Deep.QuietTactic
import Derived.BigQuiet
import Derived.Below
namespace Go.Proofs.Ytohliojdmmbcdab
open Go.RowKit
theorem below_drewN {B : Nat} {a w : World} {n : Nat} (h : Below B a w) : Below B a (w.drewN n) := ⟨h.os, h.tape, h.output, h.size, h.block⟩
section
variable {P : Program}

/-! ### A region whose last operations (stores, assignments) wait for all others -/
variable {ops ops1 : Array Oper} {md : Region.Mode} {C : World → Prop}

/-- The region's first m operations and all of them stand at one point. -/
structure Along (m n : Nat) (listed1 listed : Array Bool) : Prop where
  size1 : listed1.size = m
  size : listed.size = n
  same : ∀ i, i < m → listed[i]? = listed1[i]?
  rest : ∀ i, m ≤ i → i < n → listed[i]? = some false
theorem Along.set {m n i : Nat} {listed1 listed : Array Bool} (h : Along m n listed1 listed) (hi : i < m) : Along m n (listed1.setIfInBounds i true) (listed.setIfInBounds i true) := by
  refine ⟨by simp [h.size1], by simp [h.size], fun j hj => ?_, fun j hj hn => ?_⟩
  · have e1 := h.same j hj
    rw [Array.getElem?_setIfInBounds, Array.getElem?_setIfInBounds, e1, h.size, h.size1]
    by_cases hij : i = j
    · subst hij
      have hn : i < n := by
        rcases Nat.lt_or_ge i n with h' | h'
        · exact h'
        · rw [Array.getElem?_eq_none (by rw [h.size]; exact h'), Array.getElem?_eq_getElem (by rw [h.size1]; exact hi)] at e1
          cases e1
      simp [hi, hn]
    · simp [hij]
  · rw [Array.getElem?_setIfInBounds, if_neg (by omega)]
    exact h.rest j hj hn

end
end Go.Proofs.Ytohliojdmmbcdab
