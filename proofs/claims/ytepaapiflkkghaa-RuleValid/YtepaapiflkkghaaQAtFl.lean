/- What is wrong with attributes, one after another. -/
import Derived.Test.YtepaapiflkkghaaQAtMToRuM
namespace Go.Proofs.Ytepaapiflkkghaa
set_option linter.unusedSimpArgs false
theorem fltL_bad {p r : List Ar} {x : Ar} {n : Nat} (h : badA p x = n) (hn : n ≠ 0) : fltL p (x :: r) = n := by
  rw [fltL, if_pos (by rw [h]; exact hn), h]
theorem fltL_next {p r : List Ar} {x : Ar} (h : badA p x = 0) : fltL p (x :: r) = fltL (p ++ [x]) r := by
  rw [fltL, if_neg (by rw [h]; exact fun h => h rfl)]
theorem bad_kind {p : List Ar} {x : Ar} (h : x.k < 1 ∨ 18 < x.k) : badA p x = 13 := by unfold badA; rw [if_pos h]
theorem bad_form {p : List Ar} {x : Ar} (h : ¬ (x.k < 1 ∨ 18 < x.k)) (hf : fitA x.k x.v = false) : badA p x = 4 := by unfold badA; rw [if_neg h, if_pos hf]
theorem bad_twice {p : List Ar} {x y : Ar} (h : ¬ (x.k < 1 ∨ 18 < x.k)) (hf : fitA x.k x.v = true) (hy : y ∈ p) (hk : y.k = x.k) : badA p x = 1 := by
  unfold badA
  rw [if_neg h, if_neg (by rw [hf]; decide), if_pos (List.any_eq_true (p := fun y => y.k == x.k).2 ⟨y, hy, beq_iff_eq.2 hk⟩)]
theorem bad_none {p : List Ar} {x : Ar} (h : ¬ (x.k < 1 ∨ 18 < x.k)) (hf : fitA x.k x.v = true) (hy : ∀ y ∈ p, y.k ≠ x.k) : badA p x = 0 := (badA_zero p x).2 ⟨⟨by omega, by omega, hf⟩, hy⟩
end Go.Proofs.Ytepaapiflkkghaa
