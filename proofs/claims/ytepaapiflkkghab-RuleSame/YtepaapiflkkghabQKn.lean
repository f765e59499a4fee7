/- What is known of the blocks of memory, told as a list: which cells lie in which block. -/
import Derived.Test.YtepaapiflkkghabQNumToStore
namespace Go.Proofs.Ytepaapiflkkghab
open Go.RowKit
/-- Block k holds these cells, and none of it is frozen. -/
structure KBlk (w : World) (k : Nat) (vs : List Value) : Prop where
  lt : k < w.heap.size
  cell : ∀ j v, vs[j]? = some v → w.cell? ⟨k, j, none⟩ = some v
  fz : ∀ j, w.frozen? ⟨k, j, none⟩ = false
abbrev c4 (x : Nm) : List Value := [.int .u64 x.a, .int .u64 x.b, .int .u64 x.c, .int .u64 x.d]
theorem KBlk.up {W w1 : World} {k : Nat} {vs : List Value} (h : KBlk W k vs) (hb : Below W.heap.size W w1) : KBlk w1 k vs :=
  ⟨Nat.lt_of_lt_of_le h.lt hb.size, fun j v hv => (hb.cell (p := ⟨k, j, none⟩) h.lt).trans (h.cell j v hv), fun j => ((bcell hb).2 k j h.lt).trans (h.fz j)⟩
theorem KBlk.of {w : World} {k : Nat} {vs : List Value} {t : TypeId} (h : w.heap[k]? = some (.cells vs.toArray t)) : KBlk w k vs := by
  refine ⟨?_, fun j v hv => ?_, fun j => (cells_of_block h j).2⟩
  · rcases Nat.lt_or_ge k w.heap.size with h' | h'
    · exact h'
    · rw [Array.getElem?_eq_none h'] at h; cases h
  · rw [(cells_of_block h j).1]; simpa using hv
theorem size_set (w : World) (a : Addr) (v : Value) : (w.setCell a v).heap.size = w.heap.size := by simp [World.setCell]
theorem KBlk.set_ne {w : World} {k k' j : Nat} {vs : List Value} {v : Value} (h : KBlk w k vs) (hk : k' ≠ k) : KBlk (w.setCell ⟨k', j, none⟩ v) k vs :=
  ⟨by rw [size_set]; exact h.lt, fun i u hu => (cell_set_ne hk).trans (h.cell i u hu), fun i => frozen_set.trans (h.fz i)⟩
theorem KBlk.set {w : World} {k : Nat} {vs : List Value} (h : KBlk w k vs) (j : Nat) (v : Value) (hj : j < vs.length) : KBlk (w.setCell ⟨k, j, none⟩ v) k (vs.set j v) := by
  refine ⟨by rw [size_set]; exact h.lt, fun i u hu => ?_, fun i => frozen_set.trans (h.fz i)⟩
  have hc : w.cell? ⟨k, j, none⟩ = some vs[j] := h.cell j _ (List.getElem?_eq_getElem hj)
  by_cases e : j = i
  · subst e
    rw [List.getElem?_set_self hj] at hu
    cases hu
    exact cell_same hc _
  · rw [List.getElem?_set_ne e] at hu
    exact cell_set_at (h.cell i u hu) e
/-- The blocks that are known. -/
structure Kn (w : World) (L : List (Nat × List Value)) : Prop where
  nd : (L.map (·.1)).Nodup
  all : ∀ p ∈ L, KBlk w p.1 p.2
theorem Kn.nil (w : World) : Kn w [] := ⟨List.nodup_nil, fun _ hp => absurd hp List.not_mem_nil⟩
theorem Kn.up {W w1 : World} {L : List (Nat × List Value)} (h : Kn W L) (hb : Below W.heap.size W w1) : Kn w1 L := ⟨h.nd, fun p hp => (h.all p hp).up hb⟩
theorem Kn.fresh {W w1 : World} {L : List (Nat × List Value)} {k : Nat} {vs : List Value} {t : TypeId} (h : Kn W L) (hb : Below W.heap.size W w1) (hk : W.heap.size ≤ k) (hc : w1.heap[k]? = some (.cells vs.toArray t)) : Kn w1 ((k, vs) :: L) := by
  refine ⟨?_, fun p hp => ?_⟩
  · rw [List.map_cons, List.nodup_cons]
    refine ⟨fun hm => ?_, h.nd⟩
    obtain ⟨p, hp, e⟩ := List.mem_map.1 hm
    have := (h.all p hp).lt
    omega
  · rcases List.mem_cons.1 hp with rfl | hp
    · exact KBlk.of hc
    · exact (h.all p hp).up hb
theorem Kn.al {w : World} {L : List (Nat × List Value)} (h : Kn w L) (vs : List Value) (t : TypeId) {k : Nat} (hk : k = w.heap.size) : Kn (w.alloc (.cells vs.toArray t)) ((k, vs) :: L) := by
  subst hk
  exact h.fresh (t := t) ((Below.refl _ _).alloc (Nat.le_refl _) _) (Nat.le_refl _) (by show (w.heap.push _)[w.heap.size]? = _; simp)
theorem Kn.set {w : World} {L : List (Nat × List Value)} {k : Nat} {vs : List Value} (h : Kn w ((k, vs) :: L)) (j : Nat) (v : Value) (hj : j < vs.length) : Kn (w.setCell ⟨k, j, none⟩ v) ((k, vs.set j v) :: L) := by
  refine ⟨h.nd, fun p hp => ?_⟩
  rcases List.mem_cons.1 hp with rfl | hp
  · exact (h.all _ List.mem_cons_self).set j v hj
  · refine (h.all p (List.mem_cons_of_mem _ hp)).set_ne fun e => ?_
    have := (List.nodup_cons.1 h.nd).1
    exact this (List.mem_map.2 ⟨p, hp, e.symm⟩)
theorem erase_perm {α : Type} : ∀ (l : List α) (i : Nat) (x : α), l[i]? = some x → (x :: l.eraseIdx i).Perm l
  | [], _, _, h => by simp at h
  | y :: l, 0, x, h => by simp at h; subst h; exact List.Perm.refl _
  | y :: l, i + 1, x, h => by
    have := erase_perm l i x (by simpa using h)
    exact (List.Perm.swap _ _ _).trans (this.cons y)
theorem Kn.front {w : World} {L : List (Nat × List Value)} (h : Kn w L) (i : Nat) {p : Nat × List Value} (hp : L[i]? = some p) : Kn w (p :: L.eraseIdx i) := by
  have P := erase_perm L i p hp
  exact ⟨(P.map _).nodup_iff.2 h.nd, fun q hq => h.all q (P.mem_iff.1 hq)⟩
theorem Kn.drop {w : World} {L : List (Nat × List Value)} (h : Kn w L) (i : Nat) : Kn w (L.eraseIdx i) :=
  ⟨(List.Sublist.map _ (List.eraseIdx_sublist L i)).nodup h.nd, fun p hp => h.all p ((List.eraseIdx_sublist L i).subset hp)⟩
theorem Kn.two {W w1 : World} {L : List (Nat × List Value)} {k k' : Nat} {vs us : List Value} {t t' : TypeId} (h : Kn W L) (hb : Below W.heap.size W w1) (hk : W.heap.size ≤ k) (hj : W.heap.size ≤ k') (hn : k ≠ k') (hc : w1.heap[k]? = some (.cells vs.toArray t)) (hd : w1.heap[k']? = some (.cells us.toArray t')) : Kn w1 ((k, vs) :: (k', us) :: L) := by
  have h1 := h.fresh hb hj hd
  refine ⟨?_, fun p hp => ?_⟩
  · rw [List.map_cons, List.nodup_cons]
    refine ⟨fun hm => ?_, h1.nd⟩
    rcases List.mem_cons.1 hm with e | hm
    · exact hn e
    · obtain ⟨p, hp, e⟩ := List.mem_map.1 hm
      have := (h.all p hp).lt
      omega
  · rcases List.mem_cons.1 hp with rfl | hp
    · exact KBlk.of hc
    · exact h1.all p hp
theorem Kn.get {w : World} {L : List (Nat × List Value)} (h : Kn w L) (i j : Nat) {k : Nat} {vs : List Value} {v : Value} (hp : L[i]? = some (k, vs)) (hv : vs[j]? = some v) : w.cell? ⟨k, j, none⟩ = some v :=
  (h.all _ (List.mem_of_getElem? hp)).cell j v hv
theorem Kn.fz {w : World} {L : List (Nat × List Value)} (h : Kn w L) (i : Nat) {k : Nat} {vs : List Value} (hp : L[i]? = some (k, vs)) : ∀ j, w.frozen? ⟨k, j, none⟩ = false :=
  (h.all _ (List.mem_of_getElem? hp)).fz
end Go.Proofs.Ytepaapiflkkghab
