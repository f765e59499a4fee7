/- Thirty-two bytes of a number, as a list and as a slice. -/
import Derived.Test.YtjcnfffmciahiaaDoorScOf
namespace Go.Proofs.YtjcnfffmciahiaaDoor
open Go.RowKit
set_option linter.unusedSimpArgs false
/-- The bytes of a number, as a list. -/
def S.by (n : Nat) : List Nat := (List.range 32).map fun i => n / 256 ^ i % 256
theorem S.by_length (n : Nat) : (S.by n).length = 32 := by simp [S.by]
theorem S.by_low (n : Nat) : ∀ x ∈ S.by n, x < 256 := fun x hx => by
  obtain ⟨i, _, rfl⟩ := List.mem_map.1 hx
  exact Nat.mod_lt _ (by decide)
theorem S.by_row (n : Nat) : bR n = (S.by n).map b8 := by
  unfold bR S.by
  rw [List.map_map]
  rfl
theorem S.le_by {n : Nat} (hn : n < 2 ^ 256) : S.le (S.by n) = n := by
  have h1 := S.low (S.by_length n) (S.by_low n)
  have h3 := byte_eq (m := S.le (S.by n)) (n := n) 32 fun i hi => by
    rw [S.le_at _ (S.by_low n)]
    simp [S.by, hi]
  rw [show (256 : Nat) ^ 32 = 2 ^ 256 by decide, Nat.mod_eq_of_lt h1, Nat.mod_eq_of_lt hn] at h3
  exact h3
theorem Kn.by32 {w : World} {L : List (Nat × List Value)} (h : Kn w L) (i : Nat) {k n : Nat} (hp : L[i]? = some (k, bR n)) : By w (.slice (some ⟨k, 0, none⟩) 32 32) (S.by n) := by
  have hb := h.all _ (List.mem_of_getElem? hp)
  have := By.of_cells (w := w) (b := k) (o := 0) (c := 32) (xs := S.by n) (by rw [S.by_length]; decide) fun j hj => by
    rw [S.by_length] at hj
    rw [Nat.zero_add]
    refine hb.cell j _ ?_
    show (bR n)[j]? = _
    rw [S.by_row, List.getElem?_map, List.getElem?_eq_getElem (by rw [S.by_length]; exact hj)]
    simp [List.getD_eq_getElem?_getD, S.by_length, hj]
  rw [S.by_length] at this
  exact this
end Go.Proofs.YtjcnfffmciahiaaDoor
