/- Rows of bytes that a call makes by make: their cells, and a store into one. -/
import Derived.Test.YtohliojdmmbcdabQBs
import Derived.Deep.RegionLaw
namespace Go.Proofs.Ytohliojdmmbcdab
open Go.RowKit
theorem Ob.cell {w : World} {B g n c : Nat} {xs : List Nat} (h : Ob w B (.slice (some ⟨g, 0, none⟩) n c) xs) (hn : n = xs.length) (j : Nat) (hj : j < xs.length) : w.cell? ⟨g, j, none⟩ = some (.int .u8 ((xs.getD j 0 : Nat) : Int)) ∧ w.frozen? ⟨g, j, none⟩ = false := by
  subst hn
  have h2 : w.ownsRow B 5 1 (.slice (some ⟨g, 0, none⟩) xs.length c) xs.length (xs.map b8) := h
  refine ⟨?_, h2.frozenAt j⟩
  rw [h2.cellAt j (by omega)]
  simp [hj, b8]
end Go.Proofs.Ytohliojdmmbcdab
