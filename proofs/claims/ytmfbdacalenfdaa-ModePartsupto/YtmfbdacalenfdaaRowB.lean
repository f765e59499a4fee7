/- Rows of bytes that fill a block of their own. -/
import Derived.Test.YtmfbdacalenfdaaBs
import Derived.Test.YtmfbdacalenfdaaBK
namespace Go.Proofs.Ytmfbdacalenfdaa
open Go.RowKit
set_option linter.unusedSimpArgs false
/-- Block g is a row of these bytes, none of it frozen. -/
def RowB (w : World) (g : Nat) (t : TypeId) (xs : List Nat) : Prop := w.heap[g]? = some (.cells (xs.map b8).toArray t (0, 0))
theorem RowB.blk {w : World} {g : Nat} {t : TypeId} {xs : List Nat} (h : RowB w g t xs) : Blk w g (xs.map b8) := by
  refine ⟨(Array.getElem?_eq_some_iff.1 h).1, fun j v hv => ?_, fun j => ?_⟩
  · rw [cell_of_row _ _ j _ t _ h]; simpa using hv
  · unfold World.frozen?
    rw [h]
    simp
theorem RowB.lt {w : World} {g : Nat} {t : TypeId} {xs : List Nat} (h : RowB w g t xs) : g < w.heap.size := (Array.getElem?_eq_some_iff.1 h).1
theorem RowB.up {W w1 : World} {g B : Nat} {t : TypeId} {xs : List Nat} (h : RowB W g t xs) (hb : Below B W w1) (hB : g < B) : RowB w1 g t xs := (hb.block g hB).trans h
theorem RowB.ob {w : World} {g B n : Nat} {xs : List Nat} (h : RowB w g 5 xs) (hB : B ≤ g) (hn : xs.length = n) (hz : n ≤ 281474976710656) : Ob w B (.slice (some ⟨g, 0, none⟩) n n) xs := by
  subst hn
  refine ⟨by simp, .inr ⟨g, xs.length, (xs.map b8).toArray, rfl, hB, h, Nat.le_refl _, by unfold maxLen; omega, by simp, ?_⟩⟩
  rw [Nat.mul_one]
  exact List.take_of_length_le (by simp)
theorem Ob.row {w : World} {g B n : Nat} {xs : List Nat} (h : Ob w B (.slice (some ⟨g, 0, none⟩) n n) xs) (hn : xs.length = n) : RowB w g 5 xs := by
  subst hn
  rcases h.2 with ⟨e, _⟩ | ⟨g', cap, cur, e, _, hg, _, _, hs, ht⟩
  · cases e
  · simp only [Value.slice.injEq, Option.some.injEq, Addr.mk.injEq] at e
    obtain ⟨⟨rfl, _⟩, _, rfl⟩ := e
    rw [Nat.mul_one] at hs ht
    have : cur.toList = xs.map b8 := by rw [← ht, List.take_of_length_le (by rw [Array.length_toList, hs]; exact Nat.le_refl _)]
    unfold RowB
    rw [hg, ← this]
theorem RowB.put {w : World} {g o : Nat} {t : TypeId} {a b c b' : List Nat} (h : RowB w g t (a ++ (b ++ c))) (ho : o = a.length) (hl : b'.length = b.length) : RowB (w.setCells g o (b'.map b8)) g t (a ++ (b' ++ c)) := by
  subst ho
  unfold RowB at *
  rw [List.map_append, List.map_append] at *
  have := heap_setCells_at g t (0, 0) (b'.map b8) (a.map b8) (b.map b8) (c.map b8) w h (by simpa using hl.symm)
  rw [List.length_map] at this
  exact this
theorem RowB.apart {w : World} {g k o : Nat} {t : TypeId} {xs : List Nat} {vs : List Value} (h : RowB w g t xs) (hk : g ≠ k) : RowB (w.setCells k o vs) g t xs := (heap_setCells_off k g hk vs o w).trans h
theorem RowB.apart1 {w : World} {g k o : Nat} {t : TypeId} {xs : List Nat} {v : Value} (h : RowB w g t xs) (hk : g ≠ k) : RowB (w.setCell ⟨k, o, none⟩ v) g t xs := h.apart (vs := [v]) hk
theorem RowB.setB {w : World} {g : Nat} {t : TypeId} {xs : List Nat} (h : RowB w g t xs) (j y : Nat) : RowB (w.setCell ⟨g, j, none⟩ (b8 y)) g t (xs.set j y) := by
  unfold RowB at *
  rw [List.map_set]
  exact heap_setCell_at w g j (b8 y) (xs.map b8) t (0, 0) h
theorem RowB.by {w : World} {g n : Nat} {t : TypeId} {xs : List Nat} (h : RowB w g t xs) (hl : xs.length = n) : By w (.slice (some ⟨g, 0, none⟩) n n) xs := by
  subst hl
  refine By.of_cells (Nat.le_refl _) fun j hj => ?_
  rw [Nat.zero_add]
  exact h.blk.cell j _ (by simp [List.getD_eq_getElem?_getD, hj])
/-- A slice from a place on, told as a slice. -/
theorem sliced_at {g q i n c : Nat} (h : i < c) : sliced (some ⟨g, q, none⟩) i n c 1 = .slice (some ⟨g, q + i, none⟩) (n - i) (c - i) := by
  rw [sliced, if_neg (by omega), Nat.mul_one]
  simp [Addr.add_lit]
end Go.Proofs.Ytmfbdacalenfdaa
