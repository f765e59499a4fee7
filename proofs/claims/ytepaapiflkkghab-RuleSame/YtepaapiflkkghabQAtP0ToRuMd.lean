/- Texts that were joined: AtP0, SGet, RuB, RuO, AtFl, AtF, AtFf, RuV, RuC, AtFt, RuMd. -/
import Derived.Test.YtepaapiflkkghabQUpGToAtU
import Derived.Test.YtepaapiflkkghabQDerWToAtA
import Derived.Test.YtepaapiflkkghabQAtK0
import Derived.Test.YtepaapiflkkghabQBs
import Derived.Test.YtepaapiflkkghabQAtCmToRuM
import Derived.Test.YtepaapiflkkghabQUpToUpA
import Derived.BigQuiet
import Derived.Deep.CutRange
import Derived.Test.YtepaapiflkkghabQAtM
import Derived.Test.YtepaapiflkkghabQYcToAtS
/- CardOf of whatever list; a card's Attrs. -/
namespace Go.Proofs.Ytepaapiflkkghab
open Go.RowKit
attribute [local go_sem] World.cell?_alloc_some cell_alloc2 cell_alloc3 cell_alloc4 frozen?_alloc_cells frozen_out
set_option linter.unusedSimpArgs false
end Go.Proofs.Ytepaapiflkkghab

/- The bytes of a text. -/
namespace Go.Proofs.Ytepaapiflkkghab
end Go.Proofs.Ytepaapiflkkghab

/- The document's questions about a card: Belongs, Class, Sized, One, flag. -/
namespace Go.Proofs.Ytepaapiflkkghab
open Go.RowKit
attribute [local go_sem] World.cell?_alloc_some cell_alloc2 cell_alloc3 cell_alloc4 frozen?_alloc_cells frozen_out
set_option linter.unusedSimpArgs false
end Go.Proofs.Ytepaapiflkkghab

/- Is a card an object, as the document has it. -/
namespace Go.Proofs.Ytepaapiflkkghab
open Go.RowKit
attribute [local go_sem] World.cell?_alloc_some cell_alloc2 cell_alloc3 cell_alloc4 frozen?_alloc_cells frozen_out
attribute [local go_sem] YieldsP execOp
attribute [local simp] MP.eq_p
set_option linter.unusedSimpArgs false
end Go.Proofs.Ytepaapiflkkghab

/- What is wrong with attributes, one after another. -/
namespace Go.Proofs.Ytepaapiflkkghab
set_option linter.unusedSimpArgs false
theorem fltL_bad {p r : List Ar} {x : Ar} {n : Nat} (h : badA p x = n) (hn : n ≠ 0) : fltL p (x :: r) = n := by
  rw [fltL, if_pos (by rw [h]; exact hn), h]
theorem fltL_next {p r : List Ar} {x : Ar} (h : badA p x = 0) : fltL p (x :: r) = fltL (p ++ [x]) r := by
  rw [fltL, if_neg (by rw [h]; exact fun h => h rfl)]
theorem bad_kind {p : List Ar} {x : Ar} (h : x.k < 1 ∨ 18 < x.k) : badA p x = 13 := by unfold badA; rw [if_pos h]
theorem bad_form {p : List Ar} {x : Ar} (h : ¬ (x.k < 1 ∨ 18 < x.k)) (hf : fitA x.k x.v = false) : badA p x = 4 := by unfold badA; rw [if_neg h, if_pos hf]
theorem bad_twice {p : List Ar} {x y : Ar} (h : ¬ (x.k < 1 ∨ 18 < x.k)) (hf : fitA x.k x.v = true) (hy : y ∈ p) (hk : y.k = x.k) : badA p x = 1 := by
  unfold badA
  rw [if_neg h, if_neg (by rw [hf]; decide), if_pos (List.any_eq_true (p := fun y => y.k == x.k).2 ⟨y, hy, beq_iff_eq.2 hk⟩)]
theorem bad_none {p : List Ar} {x : Ar} (h : ¬ (x.k < 1 ∨ 18 < x.k)) (hf : fitA x.k x.v = true) (hy : ∀ y ∈ p, y.k ≠ x.k) : badA p x = 0 := (badA_zero p x).2 ⟨⟨by omega, by omega, hf⟩, hy⟩
end Go.Proofs.Ytepaapiflkkghab

/- What is wrong with attributes, as the document has it. -/
namespace Go.Proofs.Ytepaapiflkkghab
open Go.RowKit
attribute [local go_sem] World.cell?_alloc_some cell_alloc2 cell_alloc3 cell_alloc4 frozen?_alloc_cells frozen_out
set_option linter.unusedSimpArgs false
end Go.Proofs.Ytepaapiflkkghab

/- sealringref.AttrsFault, of whatever list. -/
namespace Go.Proofs.Ytepaapiflkkghab
open Go.RowKit
set_option linter.unusedSimpArgs false
end Go.Proofs.Ytepaapiflkkghab

/- Veiled and Valid of a list, as the document has them. -/
namespace Go.Proofs.Ytepaapiflkkghab
open Go.RowKit
attribute [local go_sem] World.cell?_alloc_some cell_alloc2 cell_alloc3 cell_alloc4 frozen?_alloc_cells frozen_out
set_option linter.unusedSimpArgs false
end Go.Proofs.Ytepaapiflkkghab

/- A card as a result variable. -/
namespace Go.Proofs.Ytepaapiflkkghab
open Go.RowKit
set_option linter.unusedSimpArgs false
end Go.Proofs.Ytepaapiflkkghab

/- sealringref.Fits: all that is asked? -/
namespace Go.Proofs.Ytepaapiflkkghab
open Go.RowKit
attribute [local go_sem] World.cell?_alloc_some cell_alloc2 cell_alloc3 cell_alloc4 frozen?_alloc_cells frozen_out
set_option linter.unusedSimpArgs false
end Go.Proofs.Ytepaapiflkkghab

/- An object made, as the document has it. -/
namespace Go.Proofs.Ytepaapiflkkghab
open Go.RowKit
attribute [local go_sem] World.cell?_alloc_some cell_alloc2 cell_alloc3 cell_alloc4 frozen?_alloc_cells frozen_out
set_option linter.unusedSimpArgs false
end Go.Proofs.Ytepaapiflkkghab
