/- The numbers of the polynomial as they are drawn. -/
import Derived.Test.YtdcpicbkemmakabDoorQOwnToShD
import Derived.Test.YtdcpicbkemmakabDoorQPrimeLToAdN
namespace Go.Proofs.YtdcpicbkemmakabDoor
open Go.RowKit
set_option linter.unusedSimpArgs false
/-- The numbers of the polynomial, one by one. -/
def nsF (S : Nat) (seed : List Nat) (j : Nat) : Nat := if j = 0 then S else cfN seed (j - 1)
theorem nsF_zero (S : Nat) (seed : List Nat) : nsF S seed 0 = S := if_pos rfl
theorem nsF_succ (S : Nat) (seed : List Nat) (m : Nat) : nsF S seed (m + 1) = cfN seed m := by
  unfold nsF
  rw [if_neg (Nat.succ_ne_zero m), Nat.add_sub_cancel]
theorem cfs_is (S : Nat) (seed : List Nat) (k : Nat) : cfs S seed k = S :: (List.range (k - 1)).map (cfN seed) := by unfold cfs; with_reducible rfl
theorem range_cons (S : Nat) (G : Nat → Nat) {k : Nat} (hk : 1 ≤ k) : S :: (List.range (k - 1)).map G = (List.range k).map fun j => if j = 0 then S else G (j - 1) := by
  have hk' : k = k - 1 + 1 := by omega
  generalize k - 1 = m at *
  rw [hk', List.range_succ_eq_map, List.map_cons, List.map_map, if_pos rfl]
  congr 1
theorem cfs_range (S : Nat) (seed : List Nat) {k : Nat} (hk : 1 ≤ k) : cfs S seed k = (List.range k).map (nsF S seed) := (cfs_is S seed k).trans (range_cons S (cfN seed) hk)
theorem nsF_lt {S : Nat} (hS : S < Cv.ord) (seed : List Nat) (j : Nat) : nsF S seed j < Cv.ord := by
  unfold nsF
  split
  · exact hS
  · exact cfN_lt seed _
def erF (seed : List Nat) (m : Nat) : Nat := match cfT seed m with
  | some _ => 0
  | none => 6
theorem nm_nought : nm 0 = ⟨0, 0, 0, 0⟩ := by
  unfold nm Nm.of
  simp
theorem any_none (seed : List Nat) (k : Nat) : (List.range (k - 1)).any (fun m => (cfT seed m).isNone) = true ↔ ∃ m, m + 1 < k ∧ erF seed m ≠ 0 := by
  rw [List.any_eq_true]
  constructor
  · rintro ⟨m, hm, h⟩
    have := List.mem_range.1 hm
    refine ⟨m, by omega, ?_⟩
    unfold erF
    cases hc : cfT seed m with
    | some t => rw [hc] at h; cases h
    | none => simp
  · rintro ⟨m, hm, h⟩
    refine ⟨m, List.mem_range.2 (by omega), ?_⟩
    unfold erF at h
    cases hc : cfT seed m with
    | some t => rw [hc] at h; exact absurd rfl h
    | none => rfl
theorem erF_six (seed : List Nat) (m : Nat) (h : erF seed m ≠ 0) : erF seed m = 6 := by
  unfold erF at *
  split
  · rename_i t hc
    rw [hc] at h
    exact absurd rfl h
  · rfl
end Go.Proofs.YtdcpicbkemmakabDoor
