/- The contract of sealringref.mixed: each column of a grid times a row of numbers. -/
import Derived.Test.YtmfbdacalenfdabAAdd
import Derived.Test.YtmfbdacalenfdabUpA
namespace Go.Proofs.Ytmfbdacalenfdab
open Go.RowKit
set_option linter.unusedSimpArgs false
attribute [local go_sem] YieldsP execOp
attribute [local simp] MP.eq_p
namespace A
/-- The places of the columns ahead of k, and in column k of the rows ahead of r, are new ones. -/
def midK (old new : Nat → Nat) (k r : Nat) : List Nat := by_ 16 fun p => if p % 4 < k ∨ (p % 4 = k ∧ p / 4 < r) then new p else old p
theorem midK_length (old new : Nat → Nat) (k r : Nat) : (midK old new k r).length = 16 := by_length _ _
theorem midK_zero (old new : Nat → Nat) : midK old new 0 0 = by_ 16 old := by_congr fun _ _ => if_neg (by omega)
theorem midK_all (old new : Nat → Nat) : midK old new 4 0 = by_ 16 new := by_congr fun _ _ => if_pos (by omega)
theorem midK_next (old new : Nat → Nat) (k : Nat) : midK old new k 4 = midK old new (k + 1) 0 := by_congr fun p hp => by
  by_cases h : p % 4 < k ∨ (p % 4 = k ∧ p / 4 < 4)
  · rw [if_pos h, if_pos (by omega)]
  · rw [if_neg h, if_neg (by omega)]
theorem midK_at (old new : Nat → Nat) {k r p : Nat} (hp : p < 16) (hk : p % 4 = k) (hr : r ≤ p / 4) : (midK old new k r).getD p 0 = old p := by
  unfold midK
  rw [by_get hp, if_neg (by omega)]
theorem midK_set (old new : Nat → Nat) {k r : Nat} (hk : k < 4) (hr : r < 4) : (midK old new k r).set (r * 4 + k) (new (r * 4 + k)) = midK old new k (r + 1) := by
  refine (by_self (l := (midK old new k r).set (r * 4 + k) (new (r * 4 + k))) (by rw [List.length_set, midK_length])).symm.trans (by_congr fun i hi => ?_)
  rw [getD_set _ _ _ _ (by rw [midK_length]; omega)]
  unfold midK
  rw [by_get hi]
  by_cases e : r * 4 + k = i
  · subst e
    rw [if_pos rfl, if_pos (by omega)]
  · rw [if_neg e]
    by_cases e2 : i % 4 < k ∨ (i % 4 = k ∧ i / 4 < r)
    · rw [if_pos e2, if_pos (by omega)]
    · rw [if_neg e2, if_neg (by omega)]
/-- The bytes of column k of a grid. -/
def colG (g : List Nat) (k : Nat) : List Nat := [g.getD k 0, g.getD (4 + k) 0, g.getD (8 + k) 0, g.getD (12 + k) 0]
def mixG (g by' : List Nat) : List Nat := by_ 16 fun p => (G.colL (colG g (p % 4)) by').getD (p / 4) 0
end A
theorem zero4 {w : World} {k : Nat} (h : w.heap[k]? = some (.cells #[Value.int IntKind.u8 0, Value.int IntKind.u8 0, Value.int IntKind.u8 0, Value.int IntKind.u8 0] 24)) : Blk w k ((List.replicate 4 0).map b8) := by
  refine ⟨(Array.getElem?_eq_some_iff.1 h).1, fun j v hv => ?_, fun j => ?_⟩
  · rw [cell_of_row _ _ j _ _ _ h, ← Array.getElem?_toList]; exact hv
  · unfold World.frozen?
    rw [h]
    simp
theorem colL_four {c r : List Nat} (hr : ∀ x ∈ r, x < 256) : G.four (G.colL c r) := by
  refine ⟨by simp [G.colL], fun x hx => ?_⟩
  obtain ⟨i, _, rfl⟩ := List.mem_map.1 hx
  exact G.colN_lt (getD_low hr) i 4
end Go.Proofs.Ytmfbdacalenfdab
