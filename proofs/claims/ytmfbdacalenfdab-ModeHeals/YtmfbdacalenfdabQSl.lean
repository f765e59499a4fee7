/- Slices of words of four bytes: what one holds; rows of words that a call made. -/
import Derived.Test.YtmfbdacalenfdabBs
import Derived.Test.YtmfbdacalenfdabFil
import Derived.Test.YtmfbdacalenfdabGArr
import Derived.Test.YtmfbdacalenfdabUpS
import Derived.Great.BuildSlice
namespace Go.Proofs.Ytmfbdacalenfdab
open Go.RowKit
set_option linter.unusedSimpArgs false
theorem iA4 : (Try.prog.info? 24).map (fun i => (i.zero, i.size, i.bytes)) = some (some (aB (List.replicate 4 0)), 4, 4) := by kernel_rfl
def Qok (ds : List (List Nat)) : Prop := ∀ d ∈ ds, d.length = 4
theorem Qok.at {ds : List (List Nat)} (h : Qok ds) (j : Nat) (hj : j < ds.length) : (ds.getD j []).length = 4 := by
  rw [List.getD_eq_getElem?_getD, List.getElem?_eq_getElem hj]
  exact h _ (List.getElem_mem hj)
/-- The slice v holds the words ds. -/
def Qs (w : World) (v : Value) (ds : List (List Nat)) : Prop :=
  ∃ a c, v = .slice a ds.length c ∧ ds.length ≤ c ∧ (0 < ds.length → ∃ b o, a = some ⟨b, o, none⟩ ∧ ∀ j, j < ds.length → w.rangeAt b (o + j * 4) ((ds.getD j []).map b8))
theorem Qs.nil (w : World) : Qs w (.slice none 0 0) [] := ⟨none, 0, rfl, Nat.le_refl _, fun h => absurd h (Nat.lt_irrefl _)⟩
theorem range_upq {W w1 : World} {B b o : Nat} {vs : List Value} (h : W.rangeAt b o vs) (hb : Below B W w1) (hB : W.heap.size ≤ B) : w1.rangeAt b o vs :=
  fun j v hj => (hb.cell (p := ⟨b, o + j, none⟩) (Nat.lt_of_lt_of_le (lt_of_cellB (h j v hj)) hB)).trans (h j v hj)
theorem Qs.up {W w1 : World} {v : Value} {ds : List (List Nat)} {B : Nat} (h : Qs W v ds) (hb : Below B W w1) (hB : W.heap.size ≤ B) : Qs w1 v ds := by
  obtain ⟨a, c, e, hc, h3⟩ := h
  refine ⟨a, c, e, hc, fun hp => ?_⟩
  obtain ⟨b, o, e2, hr⟩ := h3 hp
  exact ⟨b, o, e2, fun j hj => range_upq (hr j hj) hb hB⟩
/-- The slice v is a row of words that the call made. -/
def Oq (w : World) (B : Nat) (v : Value) (ds : List (List Nat)) : Prop := Qok ds ∧ w.ownsRow B 24 4 v ds.length (ds.flatten.map b8)
theorem Oq.nil (w : World) (B : Nat) : Oq w B (.slice none 0 0) [] := ⟨(fun d h => by cases h), World.ownsRow_nil _ _ _ _⟩
theorem Oq.up {W w1 : World} {B : Nat} {v : Value} {xs : List (List Nat)} (h : Oq W B v xs) (hb : Below W.heap.size W w1) : Oq w1 B v xs := by
  refine ⟨h.1, h.2.1, ?_⟩
  rcases h.2.2 with h' | ⟨g, cap, cur, e, hB, hg, rest⟩
  · exact .inl h'
  · exact .inr ⟨g, cap, cur, e, hB, (hb.block g (Array.getElem?_eq_some_iff.1 hg).1).trans hg, rest⟩
theorem flat_q : ∀ {ds : List (List Nat)} (_ : Qok ds) (j r : Nat), r < 4 → (ds.flatten)[j * 4 + r]? = (ds.getD j [])[r]?
  | [], _, j, r, _ => by simp
  | d :: ds, h, 0, r, hr => by
    have hd := h d (by simp)
    rw [List.flatten_cons, Nat.zero_mul, Nat.zero_add, List.getElem?_append_left (by omega)]
    simp
  | d :: ds, h, j + 1, r, hr => by
    have hd := h d (by simp)
    have := flat_q (ds := ds) (fun x hx => h x (by simp [hx])) j r hr
    rw [List.flatten_cons, List.getElem?_append_right (by rw [hd]; omega), hd, show (j + 1) * 4 + r - 4 = j * 4 + r by omega, this]
    simp
theorem Oq.form {w : World} {B : Nat} {v : Value} {ds : List (List Nat)} (h : Oq w B v ds) (hp : 0 < ds.length) : ∃ g c, v = .slice (some ⟨g, 0, none⟩) ds.length c ∧ B ≤ g ∧ ds.length ≤ c ∧ ∀ j, j < ds.length → w.rangeAt g (j * 4) ((ds.getD j []).map b8) := by
  rcases h.2.2 with ⟨e, e2⟩ | ⟨g, cap, cur, e, hB, hg, hn, rest⟩
  · omega
  · refine ⟨g, cap, e, hB, hn, fun j hj r u hu => ?_⟩
    have h2 : w.ownsRow B 24 4 (.slice (some ⟨g, 0, none⟩) ds.length cap) ds.length (ds.flatten.map b8) := by rw [← e]; exact h.2
    have hr : r < 4 := by
      have := (List.getElem?_eq_some_iff.1 hu).1
      rw [List.length_map, h.1.at j hj] at this
      exact this
    rw [h2.cellAt (j * 4 + r) (by omega)]
    rw [List.getElem?_map, flat_q h.1 j r hr, ← List.getElem?_map]
    exact hu
theorem Oq.qs {w : World} {B : Nat} {v : Value} {ds : List (List Nat)} (h : Oq w B v ds) : Qs w v ds := by
  rcases Nat.eq_zero_or_pos ds.length with h0 | h0
  · rcases h.2.2 with ⟨e, e2⟩ | ⟨g, cap, cur, e, _, _, hn, _⟩
    · exact ⟨none, 0, by rw [e, h0], by omega, fun hp => by omega⟩
    · exact ⟨_, cap, e, hn, fun hp => by omega⟩
  · obtain ⟨g, c, e, _, hn, hc⟩ := h.form h0
    exact ⟨_, c, e, hn, fun _ => ⟨g, 0, rfl, fun j hj => by rw [Nat.zero_add]; exact hc j hj⟩⟩
/-- A row of words stays when another row, in a block ahead of it, is appended to. -/
theorem Oq.grown {w w' : World} {B : Nat} {v : Value} {ds : List (List Nat)} {row : Option Nat} (h : Oq w B v ds) (hg : w.grownBy w' row) (hr : ∀ g, row = some g → g < B) : Oq w' B v ds := by
  refine ⟨h.1, h.2.1, ?_⟩
  rcases h.2.2 with h' | ⟨g, cap, cur, e, hB, hgg, rest⟩
  · exact .inl h'
  · exact .inr ⟨g, cap, cur, e, hB, (hg.block g (Array.getElem?_eq_some_iff.1 hgg).1 (fun e => by have := hr g e.symm; omega)).trans hgg, rest⟩
theorem Oq.low {w : World} {B : Nat} {v : Value} {ds : List (List Nat)} (h : Oq w B v ds) : ∀ g, v.ownBlock = some g → g < w.heap.size := fun g hg => (World.ownsRow.lt h.2 g hg).2
theorem rangeAt_alq {w : World} {vs : List Value} {t : TypeId} : (w.alloc (.cells vs.toArray t)).rangeAt w.heap.size 0 vs := fun j v hv => by
  rw [Nat.zero_add, cell_top rfl]
  simpa using hv
def MP.q1 (y : List Nat) : MP := ⟨fun v w => ∃ g, v = .slice (some ⟨g, 0, none⟩) 1 1 ∧ w.rangeAt g 0 (y.map b8), fun ⟨g, e, h⟩ hk => ⟨g, e, range_upq h hk (Nat.le_refl _)⟩⟩
end Go.Proofs.Ytmfbdacalenfdab
