/- A cipher in memory; the contract of sealringref's Cipher.add: a round key put to a block. -/
import Derived.Test.YtmfbdacalenfdabAGrid
import Derived.Test.YtmfbdacalenfdabQSl
namespace Go.Proofs.Ytmfbdacalenfdab
open Go.RowKit
set_option linter.unusedSimpArgs false
attribute [local go_sem] YieldsP execOp
attribute [local simp] MP.eq_p
/-- In block k lies a cipher: its words, and the boxes. -/
def Cph (w : World) (k : Nat) (ws : List (List Nat)) : Prop := ∃ v, Qs w v ws ∧ Blk w k (v :: (G.boxL ++ G.unboxL).map b8)
theorem Cph.up {W w1 : World} {k : Nat} {ws : List (List Nat)} (h : Cph W k ws) (hb : Below W.heap.size W w1) : Cph w1 k ws := by
  obtain ⟨v, h1, h2⟩ := h
  exact ⟨v, h1.up hb (Nat.le_refl _), h2.up hb h2.lt⟩
namespace A
/-- The first n places are new ones. -/
def midL (old new : Nat → Nat) (n : Nat) : List Nat := by_ 16 fun p => if p < n then new p else old p
theorem midL_length (old new : Nat → Nat) (n : Nat) : (midL old new n).length = 16 := by_length _ _
theorem midL_zero (old new : Nat → Nat) : midL old new 0 = by_ 16 old := by_congr fun _ _ => if_neg (Nat.not_lt_zero _)
theorem midL_all (old new : Nat → Nat) : midL old new 16 = by_ 16 new := by_congr fun _ hi => if_pos hi
theorem midL_at (old new : Nat → Nat) {n : Nat} (h : n < 16) : (midL old new n).getD n 0 = old n := by
  unfold midL
  rw [by_get h, if_neg (Nat.lt_irrefl n)]
theorem midL_set (old new : Nat → Nat) {n : Nat} (h : n < 16) : (midL old new n).set n (new n) = midL old new (n + 1) := by
  refine (by_self (l := (midL old new n).set n (new n)) (by rw [List.length_set, midL_length])).symm.trans (by_congr fun i hi => ?_)
  rw [getD_set _ _ _ _ (by rw [midL_length]; exact h)]
  unfold midL
  rw [by_get hi]
  by_cases e : n = i
  · subst e
    rw [if_pos rfl, if_pos (Nat.lt_succ_self n)]
  · rw [if_neg e]
    by_cases e2 : i < n
    · rw [if_pos e2, if_pos (by omega)]
    · rw [if_neg e2, if_neg (by omega)]
end A
theorem map_b8_at (l : List Nat) (j : Nat) (h : j < l.length) : (l.map b8)[j]? = some (b8 (l.getD j 0)) := by simp [List.getD_eq_getElem?_getD, h]
end Go.Proofs.Ytmfbdacalenfdab
