/- What a block of memory holds, whole or in ranges; and what a store of a range does to it. -/
import Derived.Test.YtepaapiflkkghabRows
import Derived.WalkKit
import Derived.WalkSpells
import Derived.WalkLawsBesides
import Derived.LoopN
import Derived.OwnWalk
import Derived.Laws.AppendOwn
import Derived.Laws.Rows
import Derived.Below
import Derived.Deep.MidRow
import Derived.BigQuiet
namespace Go.Proofs.Ytepaapiflkkghab
open Go.RowKit
abbrev b8 (x : Nat) : Value := .int .u8 ((x : Nat) : Int)
/-- Block k holds these cells, and none of it is frozen. -/
structure Blk (w : World) (k : Nat) (vs : List Value) : Prop where
  lt : k < w.heap.size
  cell : ∀ j v, vs[j]? = some v → w.cell? ⟨k, j, none⟩ = some v
  fz : ∀ j, w.frozen? ⟨k, j, none⟩ = false
theorem Blk.up {W w1 : World} {k : Nat} {vs : List Value} {B : Nat} (h : Blk W k vs) (hb : Below B W w1) (hB : k < B) : Blk w1 k vs :=
  ⟨Nat.lt_of_lt_of_le h.lt hb.size, fun j v hv => (hb.cell (p := ⟨k, j, none⟩) hB).trans (h.cell j v hv), fun j => (hb.frozen (p := ⟨k, j, none⟩) hB).trans (h.fz j)⟩
theorem Blk.al {w : World} {vs : List Value} {t : TypeId} {C : Array Value} {k : Nat} (hk : k = w.heap.size) (hC : C.toList = vs) : Blk (w.alloc (.cells C t)) k vs := by
  subst hk hC
  have hb : (w.alloc (.cells C t)).heap[w.heap.size]? = some (.cells C t) := by show (w.heap.push _)[w.heap.size]? = _; simp
  refine ⟨by simp, fun j v hv => ?_, fun j => ?_⟩
  · rw [cell_of_row _ _ j C t _ hb]; simpa using hv
  · unfold World.frozen?
    rw [hb]
    simp
theorem Blk.range {w : World} {k : Nat} {a b c : List Value} (h : Blk w k (a ++ (b ++ c))) {o : Nat} (ho : o = a.length) : w.rangeAt k o b := by
  subst ho
  intro j v hv
  refine h.cell _ _ ?_
  have hj := (List.getElem?_eq_some_iff.1 hv).1
  rw [List.getElem?_append_right (by omega), show a.length + j - a.length = j by omega, List.getElem?_append_left hj, hv]
theorem Blk.all {w : World} {k : Nat} {a : List Value} (h : Blk w k a) : w.rangeAt k 0 a := fun j v hv => by
  rw [Nat.zero_add]; exact h.cell j v hv
theorem Blk.there {w : World} {k : Nat} {vs : List Value} (h : Blk w k vs) {o n : Nat} (hn : o + n ≤ vs.length) : w.there k o n := fun j hj => by
  refine ⟨?_, h.fz _⟩
  rw [h.cell (o + j) vs[o + j] (List.getElem?_eq_getElem (by omega))]
  rfl
theorem size_setCell (w : World) (a : Addr) (v : Value) : (w.setCell a v).heap.size = w.heap.size := by simp [World.setCell]
theorem size_setCells (k : Nat) : ∀ (vs : List Value) (o : Nat) (w : World), (w.setCells k o vs).heap.size = w.heap.size
  | [], _, _ => rfl
  | v :: vs, o, w => (size_setCells k vs (o + 1) _).trans (size_setCell w _ v)
theorem Blk.store {w : World} {k : Nat} {a b c b' : List Value} (h : Blk w k (a ++ (b ++ c))) {o : Nat} (ho : o = a.length) (hl : b'.length = b.length) : Blk (w.setCells k o b') k (a ++ (b' ++ c)) := by
  subst ho
  have ht := h.there (o := a.length) (n := b'.length) (by simp; omega)
  refine ⟨by rw [size_setCells]; exact h.lt, fun j v hv => ?_, fun j => by rw [World.frozen?_setCells]; exact h.fz j⟩
  rcases Nat.lt_or_ge j a.length with h1 | h1
  · rw [World.cell?_setCells_out k b' a.length w ⟨k, j, none⟩ (fun _ _ => Or.inl h1)]
    refine h.cell j v ?_
    rw [List.getElem?_append_left h1] at hv ⊢
    exact hv
  · rw [List.getElem?_append_right h1] at hv
    rcases Nat.lt_or_ge (j - a.length) b'.length with h2 | h2
    · rw [List.getElem?_append_left h2] at hv
      have := World.rangeAt_setCells_same w k a.length b' ht (j - a.length) v hv
      rwa [show a.length + (j - a.length) = j by omega] at this
    · rw [World.cell?_setCells_out k b' a.length w ⟨k, j, none⟩ (fun _ _ => Or.inr (by show a.length + b'.length ≤ j; omega))]
      refine h.cell j v ?_
      rw [List.getElem?_append_right h1, List.getElem?_append_right (by omega), ← hl]
      rw [List.getElem?_append_right h2] at hv
      exact hv
theorem Blk.set {w : World} {k : Nat} {vs : List Value} (h : Blk w k vs) (j : Nat) (v : Value) (hj : j < vs.length) : Blk (w.setCell ⟨k, j, none⟩ v) k (vs.set j v) := by
  have h0 : Blk w k (vs.take j ++ ([vs[j]] ++ vs.drop (j + 1))) := by
    have e : vs.take j ++ ([vs[j]] ++ vs.drop (j + 1)) = vs := by simp
    rw [e]; exact h
  have := h0.store (o := j) (b' := [v]) (by simp; omega) rfl
  rw [List.set_eq_take_append_cons_drop, if_pos hj]
  exact this
theorem Blk.apart {w : World} {k k' o : Nat} {vs b : List Value} (h : Blk w k vs) (hk : k ≠ k') : Blk (w.setCells k' o b) k vs :=
  ⟨by rw [size_setCells]; exact h.lt, fun j v hv => by
    rw [World.cell?_setCells_out k' b o w ⟨k, j, none⟩ (fun e _ => absurd e hk)]; exact h.cell j v hv, fun j => by rw [World.frozen?_setCells]; exact h.fz j⟩
theorem Blk.put {w : World} {k : Nat} {vs us : List Value} (h : Blk w k vs) (hl : us.length = vs.length) : Blk (w.setCells k 0 us) k us := by
  have h1 : Blk w k ([] ++ (vs ++ [])) := by simpa using h
  have h2 := h1.store (o := 0) (b' := us) rfl (by omega)
  rw [List.nil_append, List.append_nil] at h2
  exact h2
end Go.Proofs.Ytepaapiflkkghab
