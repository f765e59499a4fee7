/- Slices of digits stay when a variable that holds no number is stored into. -/
import Derived.Test.YtkgfeacednomfaaUpMV
import Derived.Test.YtkgfeacednomfaaUpMS
namespace Go.Proofs.Ytkgfeacednomfaa
open Go.RowKit
theorem MP.sl_stays (xs : List Nat) (ty : Nat) : (MP.sl xs).stays ty := by
  intro v w g z x hz hg h
  have h : Sl w v xs := h
  show Sl (w.setCell ⟨g, 0, none⟩ x) v xs
  rcases h with h | ⟨b, o, c, e, hl, hc⟩
  · exact .inl h
  · refine .inr ⟨b, o, c, e, hl, fun j hj => ?_⟩
    have hcj := hc j hj
    have hne : b ≠ g := by
      intro e
      subst e
      simp only [World.cell?, hg] at hcj
      cases ho : o + j with
      | zero =>
        rw [ho] at hcj
        simp at hcj
        exact hz _ _ hcj
      | succ q =>
        rw [ho] at hcj
        simp at hcj
    have hh : (w.setCell ⟨g, 0, none⟩ x).heap[b]? = w.heap[b]? := by simp [World.setCell, Array.getElem?_modify, Ne.symm hne]
    rw [← hcj]
    simp only [World.cell?, hh]
end Go.Proofs.Ytkgfeacednomfaa
