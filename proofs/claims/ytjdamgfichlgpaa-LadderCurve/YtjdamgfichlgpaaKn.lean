/- What is known of the blocks of memory, told as a list: which cells lie in which block. -/
import Derived.Test.YtjdamgfichlgpaaStore
namespace Go.Proofs.Ytjdamgfichlgpaa
open Go.RowKit
/-- Block k holds these cells, and none of it is frozen. -/
structure Blk (w : World) (k : Nat) (vs : List Value) : Prop where
  lt : k < w.heap.size
  cell : ∀ j v, vs[j]? = some v → w.cell? ⟨k, j, none⟩ = some v
  fz : ∀ j, w.frozen? ⟨k, j, none⟩ = false
abbrev c4 (x : Nm) : List Value := [.int .u64 x.a, .int .u64 x.b, .int .u64 x.c, .int .u64 x.d]
abbrev c8 (l h : Nm) : List Value := [.int .u64 l.a, .int .u64 l.b, .int .u64 l.c, .int .u64 l.d, .int .u64 h.a, .int .u64 h.b, .int .u64 h.c, .int .u64 h.d]
abbrev zz4 : List Value := [.int .u64 0, .int .u64 0, .int .u64 0, .int .u64 0]
abbrev zz8 : List Value := [.int .u64 0, .int .u64 0, .int .u64 0, .int .u64 0, .int .u64 0, .int .u64 0, .int .u64 0, .int .u64 0]
theorem Blk.up {W w1 : World} {k : Nat} {vs : List Value} (h : Blk W k vs) (hb : Below W.heap.size W w1) : Blk w1 k vs :=
  ⟨Nat.lt_of_lt_of_le h.lt hb.size, fun j v hv => (hb.cell (p := ⟨k, j, none⟩) h.lt).trans (h.cell j v hv), fun j => ((bcell hb).2 k j h.lt).trans (h.fz j)⟩
theorem Blk.of {w : World} {k : Nat} {vs : List Value} {t : TypeId} (h : w.heap[k]? = some (.cells vs.toArray t)) : Blk w k vs := by
  refine ⟨?_, fun j v hv => ?_, fun j => (cells_of_block h j).2⟩
  · rcases Nat.lt_or_ge k w.heap.size with h' | h'
    · exact h'
    · rw [Array.getElem?_eq_none h'] at h; cases h
  · rw [(cells_of_block h j).1]; simpa using hv
theorem size_set (w : World) (a : Addr) (v : Value) : (w.setCell a v).heap.size = w.heap.size := by simp [World.setCell]
theorem Blk.set_ne {w : World} {k k' j : Nat} {vs : List Value} {v : Value} (h : Blk w k vs) (hk : k' ≠ k) : Blk (w.setCell ⟨k', j, none⟩ v) k vs :=
  ⟨by rw [size_set]; exact h.lt, fun i u hu => (cell_set_ne hk).trans (h.cell i u hu), fun i => frozen_set.trans (h.fz i)⟩
theorem Blk.set {w : World} {k : Nat} {vs : List Value} (h : Blk w k vs) (j : Nat) (v : Value) (hj : j < vs.length) : Blk (w.setCell ⟨k, j, none⟩ v) k (vs.set j v) := by
  refine ⟨by rw [size_set]; exact h.lt, fun i u hu => ?_, fun i => frozen_set.trans (h.fz i)⟩
  have hc : w.cell? ⟨k, j, none⟩ = some vs[j] := h.cell j _ (List.getElem?_eq_getElem hj)
  by_cases e : j = i
  · subst e
    rw [List.getElem?_set_self hj] at hu
    cases hu
    exact cell_same hc _
  · rw [List.getElem?_set_ne e] at hu
    exact cell_set_at (h.cell i u hu) e
theorem heap_set_ne {w : World} {k j b : Nat} {v : Value} (h : b ≠ k) : (w.setCell ⟨k, j, none⟩ v).heap[b]? = w.heap[b]? := by
  unfold World.setCell
  simp only []
  rw [Array.getElem?_modify, if_neg (Ne.symm h)]
theorem heap_st4 {w : World} {k : Nat} {a b c d : Value} {t : TypeId} (h : w.heap[k]? = some (.cells #[a, b, c, d] t)) (x : Nm) : (st4 w k x).heap[k]? = some (.cells #[.int .u64 x.a, .int .u64 x.b, .int .u64 x.c, .int .u64 x.d] t) := by
  have := heap_set (j := 3) (heap_set (j := 2) (heap_set (j := 1) (heap_set (j := 0) h (.int .u64 x.a)) (.int .u64 x.b)) (.int .u64 x.c)) (.int .u64 x.d)
  simpa using this
theorem heap_st8 {w : World} {k : Nat} {a b c d e f g i : Value} {t : TypeId} (q : w.heap[k]? = some (.cells #[a, b, c, d, e, f, g, i] t)) (l h : Nm) : (st8 w k l h).heap[k]? = some (.cells #[.int .u64 l.a, .int .u64 l.b, .int .u64 l.c, .int .u64 l.d, .int .u64 h.a, .int .u64 h.b, .int .u64 h.c, .int .u64 h.d] t) := by
  have := heap_set (j := 7) (heap_set (j := 6) (heap_set (j := 5) (heap_set (j := 4) (heap_set (j := 3) (heap_set (j := 2) (heap_set (j := 1) (heap_set (j := 0) q (.int .u64 l.a)) (.int .u64 l.b)) (.int .u64 l.c)) (.int .u64 l.d)) (.int .u64 h.a)) (.int .u64 h.b)) (.int .u64 h.c)) (.int .u64 h.d)
  simpa using this
theorem heap_st4_ne {w : World} {k b : Nat} {x : Nm} (h : b ≠ k) : (st4 w k x).heap[b]? = w.heap[b]? :=
  (heap_set_ne h).trans ((heap_set_ne h).trans ((heap_set_ne h).trans (heap_set_ne h)))
theorem heap_st8_ne {w : World} {k b : Nat} {l x : Nm} (h : b ≠ k) : (st8 w k l x).heap[b]? = w.heap[b]? :=
  (heap_set_ne h).trans ((heap_set_ne h).trans ((heap_set_ne h).trans ((heap_set_ne h).trans (heap_st4_ne h))))
/-- The blocks that are known. -/
structure Kn (w : World) (L : List (Nat × List Value)) : Prop where
  nd : (L.map (·.1)).Nodup
  all : ∀ p ∈ L, Blk w p.1 p.2
theorem Kn.nil (w : World) : Kn w [] := ⟨List.nodup_nil, fun _ hp => absurd hp List.not_mem_nil⟩
theorem Kn.up {W w1 : World} {L : List (Nat × List Value)} (h : Kn W L) (hb : Below W.heap.size W w1) : Kn w1 L := ⟨h.nd, fun p hp => (h.all p hp).up hb⟩
theorem Kn.fresh {W w1 : World} {L : List (Nat × List Value)} {k : Nat} {vs : List Value} {t : TypeId} (h : Kn W L) (hb : Below W.heap.size W w1) (hk : W.heap.size ≤ k) (hc : w1.heap[k]? = some (.cells vs.toArray t)) : Kn w1 ((k, vs) :: L) := by
  refine ⟨?_, fun p hp => ?_⟩
  · rw [List.map_cons, List.nodup_cons]
    refine ⟨fun hm => ?_, h.nd⟩
    obtain ⟨p, hp, e⟩ := List.mem_map.1 hm
    have := (h.all p hp).lt
    omega
  · rcases List.mem_cons.1 hp with rfl | hp
    · exact Blk.of hc
    · exact (h.all p hp).up hb
theorem Kn.fresh_of {W w1 : World} {L : List (Nat × List Value)} {k : Nat} {vs : List Value} (h : Kn W L) (hb : Below W.heap.size W w1) (hk : W.heap.size ≤ k) (hc : Blk w1 k vs) : Kn w1 ((k, vs) :: L) := by
  refine ⟨?_, fun p hp => ?_⟩
  · rw [List.map_cons, List.nodup_cons]
    refine ⟨fun hm => ?_, h.nd⟩
    obtain ⟨p, hp, e⟩ := List.mem_map.1 hm
    have := (h.all p hp).lt
    omega
  · rcases List.mem_cons.1 hp with rfl | hp
    · exact hc
    · exact (h.all p hp).up hb
theorem Kn.al {w : World} {L : List (Nat × List Value)} (h : Kn w L) (vs : List Value) (t : TypeId) {k : Nat} (hk : k = w.heap.size) : Kn (w.alloc (.cells vs.toArray t)) ((k, vs) :: L) := by
  subst hk
  exact h.fresh (t := t) ((Below.refl _ _).alloc (Nat.le_refl _) _) (Nat.le_refl _) (by show (w.heap.push _)[w.heap.size]? = _; simp)
theorem Kn.set {w : World} {L : List (Nat × List Value)} {k : Nat} {vs : List Value} (h : Kn w ((k, vs) :: L)) (j : Nat) (v : Value) (hj : j < vs.length) : Kn (w.setCell ⟨k, j, none⟩ v) ((k, vs.set j v) :: L) := by
  refine ⟨h.nd, fun p hp => ?_⟩
  rcases List.mem_cons.1 hp with rfl | hp
  · exact (h.all _ List.mem_cons_self).set j v hj
  · refine (h.all p (List.mem_cons_of_mem _ hp)).set_ne fun e => ?_
    have := (List.nodup_cons.1 h.nd).1
    exact this (List.mem_map.2 ⟨p, hp, e.symm⟩)
theorem Kn.st4 {w : World} {L : List (Nat × List Value)} {k : Nat} {a b c d : Value} (h : Kn w ((k, [a, b, c, d]) :: L)) (x : Nm) : Kn (st4 w k x) ((k, c4 x) :: L) :=
  (((h.set 0 _ (by simp)).set 1 _ (by simp)).set 2 _ (by simp)).set 3 _ (by simp)
theorem Kn.st8 {w : World} {L : List (Nat × List Value)} {k : Nat} {a b c d e f g i : Value} (q : Kn w ((k, [a, b, c, d, e, f, g, i]) :: L)) (l h : Nm) : Kn (st8 w k l h) ((k, c8 l h) :: L) :=
  (((((((q.set 0 _ (by simp)).set 1 _ (by simp)).set 2 _ (by simp)).set 3 _ (by simp)).set 4 _ (by simp)).set 5 _ (by simp)).set 6 _ (by simp)).set 7 _ (by simp)
theorem erase_perm {α : Type} : ∀ (l : List α) (i : Nat) (x : α), l[i]? = some x → (x :: l.eraseIdx i).Perm l
  | [], _, _, h => by simp at h
  | y :: l, 0, x, h => by simp at h; subst h; exact List.Perm.refl _
  | y :: l, i + 1, x, h => by
    have := erase_perm l i x (by simpa using h)
    exact (List.Perm.swap _ _ _).trans (this.cons y)
theorem Kn.front {w : World} {L : List (Nat × List Value)} (h : Kn w L) (i : Nat) {p : Nat × List Value} (hp : L[i]? = some p) : Kn w (p :: L.eraseIdx i) := by
  have P := erase_perm L i p hp
  exact ⟨(P.map _).nodup_iff.2 h.nd, fun q hq => h.all q (P.mem_iff.1 hq)⟩
theorem Kn.drop {w : World} {L : List (Nat × List Value)} (h : Kn w L) (i : Nat) : Kn w (L.eraseIdx i) :=
  ⟨(List.Sublist.map _ (List.eraseIdx_sublist L i)).nodup h.nd, fun p hp => h.all p ((List.eraseIdx_sublist L i).subset hp)⟩
theorem Kn.two {W w1 : World} {L : List (Nat × List Value)} {k k' : Nat} {vs us : List Value} {t t' : TypeId} (h : Kn W L) (hb : Below W.heap.size W w1) (hk : W.heap.size ≤ k) (hj : W.heap.size ≤ k') (hn : k ≠ k') (hc : w1.heap[k]? = some (.cells vs.toArray t)) (hd : w1.heap[k']? = some (.cells us.toArray t')) : Kn w1 ((k, vs) :: (k', us) :: L) := by
  have h1 := h.fresh hb hj hd
  refine ⟨?_, fun p hp => ?_⟩
  · rw [List.map_cons, List.nodup_cons]
    refine ⟨fun hm => ?_, h1.nd⟩
    rcases List.mem_cons.1 hm with e | hm
    · exact hn e
    · obtain ⟨p, hp, e⟩ := List.mem_map.1 hm
      have := (h.all p hp).lt
      omega
  · rcases List.mem_cons.1 hp with rfl | hp
    · exact Blk.of hc
    · exact h1.all p hp
theorem Kn.get {w : World} {L : List (Nat × List Value)} (h : Kn w L) (i j : Nat) {k : Nat} {vs : List Value} {v : Value} (hp : L[i]? = some (k, vs)) (hv : vs[j]? = some v) : w.cell? ⟨k, j, none⟩ = some v :=
  (h.all _ (List.mem_of_getElem? hp)).cell j v hv
theorem Kn.fz {w : World} {L : List (Nat × List Value)} (h : Kn w L) (i : Nat) {k : Nat} {vs : List Value} (hp : L[i]? = some (k, vs)) : ∀ j, w.frozen? ⟨k, j, none⟩ = false :=
  (h.all _ (List.mem_of_getElem? hp)).fz
abbrev kal4 (w : World) (x : Nm) : World := w.alloc (.cells #[.int .u64 x.a, .int .u64 x.b, .int .u64 x.c, .int .u64 x.d] 24)
abbrev kal8 (w : World) (l h : Nm) : World := w.alloc (.cells #[.int .u64 l.a, .int .u64 l.b, .int .u64 l.c, .int .u64 l.d, .int .u64 h.a, .int .u64 h.b, .int .u64 h.c, .int .u64 h.d] 44)
abbrev kz4 (w : World) : World := w.alloc (.cells #[.int .u64 0, .int .u64 0, .int .u64 0, .int .u64 0] 24)
abbrev kz8 (w : World) : World := w.alloc (.cells #[.int .u64 0, .int .u64 0, .int .u64 0, .int .u64 0, .int .u64 0, .int .u64 0, .int .u64 0, .int .u64 0] 44)
end Go.Proofs.Ytjdamgfichlgpaa
