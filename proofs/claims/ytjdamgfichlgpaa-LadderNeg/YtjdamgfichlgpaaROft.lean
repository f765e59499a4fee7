/- The document's points: PtBase, Often. -/
import Derived.Test.YtjdamgfichlgpaaROn
import Derived.LoopN
namespace Go.Proofs.Ytjdamgfichlgpaa
open Go.RowKit
attribute [local go_sem] World.cell?_alloc_some cell_alloc2 cell_alloc3 cell_alloc4 frozen?_alloc_cells frozen_out
set_option linter.unusedSimpArgs false
theorem Ow.kblk {w : World} {B g n c : Nat} {xs : List Nat} (h : Ow w B (.slice (some ⟨g, 0, none⟩) n c) xs) : ∃ cur : List Value, Blk w g cur ∧ ∀ j, j < xs.length → cur[j]? = some (.int .i64 ((xs.getD j 0 : Nat) : Int)) := by
  obtain ⟨_, h' | ⟨g', cap, cur, e, _, hg, _, _, _, ht⟩⟩ := h
  · cases h'.1
  · cases e
    refine ⟨cur.toList, Blk.of (t := 3) (by simpa using hg), fun j hj => ?_⟩
    have h1 : (cur.toList.take (xs.length * 1))[j]? = some (.int .i64 ((xs.getD j 0 : Nat) : Int)) := by
      rw [ht]
      simp [iv, hj, List.getD_eq_getElem?_getD]
    rw [List.getElem?_take] at h1
    split at h1
    · exact h1
    · cases h1
/-- What is known of the two fractions at bit k. -/
structure OfI (m n : Nat) (RES : Cv.Tr) (k : Nat) (a t : Cv.Tr) : Prop where
  la : a.1 < F.p ∧ a.2.1 < F.p ∧ a.2.2 < F.p
  lt : t.1 < F.p ∧ t.2.1 < F.p ∧ t.2.2 < F.p
  e : Cv.often (m - k) (n / 2 ^ k) a t = RES
theorem OfI.on {m n k : Nat} {RES a t : Cv.Tr} (h : OfI m n RES k a t) (hk : k < m) (hb : n / 2 ^ k % 2 = 1) : OfI m n RES (k + 1) (Cv.padd a t) (Cv.padd t t) := by
  refine ⟨padd_lt _ _, padd_lt _ _, ?_⟩
  have e := h.e
  rw [show m - k = m - (k + 1) + 1 by omega, Cv.often, if_pos hb, Nat.div_div_eq_div_mul, ← Nat.pow_succ] at e
  exact e
theorem OfI.off {m n k : Nat} {RES a t : Cv.Tr} (h : OfI m n RES k a t) (hk : k < m) (hb : n / 2 ^ k % 2 = 0) : OfI m n RES (k + 1) a (Cv.padd t t) := by
  refine ⟨h.la, padd_lt _ _, ?_⟩
  have e := h.e
  rw [show m - k = m - (k + 1) + 1 by omega, Cv.often, if_neg (by omega), Nat.div_div_eq_div_mul, ← Nat.pow_succ] at e
  exact e
end Go.Proofs.Ytjdamgfichlgpaa
