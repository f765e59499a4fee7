/- Texts that were joined: Num, Store, Kn. -/
import Derived.WalkKit
/- The plain mathematics of numbers of four and of eight words, with no program in sight: what the walks of this seat carry. -/
namespace Go.Proofs.Ytepaapiflkkghaa
open Go.RowKit

/-- 2^64. -/
def B : Int := 18446744073709551616
/-- A word. -/
def Word (x : Int) : Prop := 0 ≤ x ∧ x < 18446744073709551616
/-- Four words, the least first. -/
structure Nm where
  a : Int
  b : Int
  c : Int
  d : Int
/-- The value that Go passes. -/
abbrev N (x : Nm) : Value := .agg #[.int .u64 x.a, .int .u64 x.b, .int .u64 x.c, .int .u64 x.d]
/-- Each of the four is a word. -/
structure Nm.ok (x : Nm) : Prop where
  a : Word x.a
  b : Word x.b
  c : Word x.c
  d : Word x.d
/-- 2^256. -/
def M : Int := 115792089237316195423570985008687907853269984665640564039457584007913129639936

/-- The four words of a number. -/
def Nm.of (n : Int) : Nm := ⟨n % 18446744073709551616, n / 18446744073709551616 % 18446744073709551616, n / 340282366920938463463374607431768211456 % 18446744073709551616, n / 6277101735386680763835789423207666416102355444464034512896 % 18446744073709551616⟩
/-- What an operation leaves alone: all blocks that were there. -/
theorem bcell {W w1 : World} (hb : Below W.heap.size W w1) : (∀ b o, b < W.heap.size → w1.cell? ⟨b, o, none⟩ = W.cell? ⟨b, o, none⟩) ∧ (∀ b o, b < W.heap.size → w1.frozen? ⟨b, o, none⟩ = W.frozen? ⟨b, o, none⟩) :=
  ⟨fun b o h => hb.cell (p := ⟨b, o, none⟩) h, fun b o h => hb.frozen (p := ⟨b, o, none⟩) h⟩

/-- The number x lies in block k. -/
structure Lies (w : World) (k : Nat) (x : Nm) : Prop where
  a : w.cell? ⟨k, 0, none⟩ = some (.int .u64 x.a)
  b : w.cell? ⟨k, 1, none⟩ = some (.int .u64 x.b)
  c : w.cell? ⟨k, 2, none⟩ = some (.int .u64 x.c)
  d : w.cell? ⟨k, 3, none⟩ = some (.int .u64 x.d)
theorem Lies.below {W w1 : World} {k : Nat} {x : Nm} (h : Lies W k x) (hb : Below W.heap.size W w1) (hk : k < W.heap.size) : Lies w1 k x :=
  ⟨(hb.cell (p := ⟨k, 0, none⟩) hk).trans h.a, (hb.cell (p := ⟨k, 1, none⟩) hk).trans h.b, (hb.cell (p := ⟨k, 2, none⟩) hk).trans h.c, (hb.cell (p := ⟨k, 3, none⟩) hk).trans h.d⟩

theorem lt_of_cell {w : World} {k o : Nat} {v : Value} (h : w.cell? ⟨k, o, none⟩ = some v) : k < w.heap.size := by
  rcases Nat.lt_or_ge k w.heap.size with h' | h'
  · exact h'
  · simp [World.cell?, Array.getElem?_eq_none h'] at h
theorem Lies.up {W w1 : World} {k : Nat} {x : Nm} (h : Lies W k x) (hb : Below W.heap.size W w1) : Lies w1 k x := h.below hb (lt_of_cell h.a)
/-- The number of eight words l, h lies in block k. -/
structure Lies8 (w : World) (k : Nat) (l h : Nm) : Prop where
  a : w.cell? ⟨k, 0, none⟩ = some (.int .u64 l.a)
  b : w.cell? ⟨k, 1, none⟩ = some (.int .u64 l.b)
  c : w.cell? ⟨k, 2, none⟩ = some (.int .u64 l.c)
  d : w.cell? ⟨k, 3, none⟩ = some (.int .u64 l.d)
  e : w.cell? ⟨k, 4, none⟩ = some (.int .u64 h.a)
  f : w.cell? ⟨k, 5, none⟩ = some (.int .u64 h.b)
  g : w.cell? ⟨k, 6, none⟩ = some (.int .u64 h.c)
  i : w.cell? ⟨k, 7, none⟩ = some (.int .u64 h.d)
theorem Lies8.up {W w1 : World} {k : Nat} {l h : Nm} (q : Lies8 W k l h) (hb : Below W.heap.size W w1) : Lies8 w1 k l h := by
  have hk := lt_of_cell q.a
  exact ⟨(hb.cell (p := ⟨k, 0, none⟩) hk).trans q.a, (hb.cell (p := ⟨k, 1, none⟩) hk).trans q.b, (hb.cell (p := ⟨k, 2, none⟩) hk).trans q.c, (hb.cell (p := ⟨k, 3, none⟩) hk).trans q.d,
    (hb.cell (p := ⟨k, 4, none⟩) hk).trans q.e, (hb.cell (p := ⟨k, 5, none⟩) hk).trans q.f, (hb.cell (p := ⟨k, 6, none⟩) hk).trans q.g, (hb.cell (p := ⟨k, 7, none⟩) hk).trans q.i⟩

end Go.Proofs.Ytepaapiflkkghaa

/- What a variable that has been made holds, and what it holds once a number has been stored into it; nothing else turns. -/
namespace Go.Proofs.Ytepaapiflkkghaa
open Go.RowKit

theorem cells_of_block {w : World} {k : Nat} {c : Array Value} {t : TypeId} (h : w.heap[k]? = some (.cells c t)) (j : Nat) : w.cell? ⟨k, j, none⟩ = c[j]? ∧ w.frozen? ⟨k, j, none⟩ = false := by
  simp [World.cell?, World.frozen?, h]
theorem cell_set_ne {w : World} {k k' j j' : Nat} {v : Value} (h : k ≠ k') : (w.setCell ⟨k, j, none⟩ v).cell? ⟨k', j', none⟩ = w.cell? ⟨k', j', none⟩ := by
  simp only [World.cell?, World.setCell]
  rw [Array.getElem?_modify, if_neg h]
theorem Lies.set_ne {w : World} {k b j : Nat} {x : Nm} {v : Value} (h : Lies w b x) (hk : k ≠ b) : Lies (w.setCell ⟨k, j, none⟩ v) b x :=
  ⟨(cell_set_ne hk).trans h.a, (cell_set_ne hk).trans h.b, (cell_set_ne hk).trans h.c, (cell_set_ne hk).trans h.d⟩
theorem Lies8.set_ne {w : World} {k b j : Nat} {l x : Nm} {v : Value} (h : Lies8 w b l x) (hk : k ≠ b) : Lies8 (w.setCell ⟨k, j, none⟩ v) b l x :=
  ⟨(cell_set_ne hk).trans h.a, (cell_set_ne hk).trans h.b, (cell_set_ne hk).trans h.c, (cell_set_ne hk).trans h.d, (cell_set_ne hk).trans h.e, (cell_set_ne hk).trans h.f, (cell_set_ne hk).trans h.g, (cell_set_ne hk).trans h.i⟩
/-- The cells of a block of four, as the walk asks for them. -/
structure Cells4 (w : World) (k : Nat) (a b c d : Value) : Prop where
  a : w.cell? ⟨k, 0, none⟩ = some a
  b : w.cell? ⟨k, 1, none⟩ = some b
  c : w.cell? ⟨k, 2, none⟩ = some c
  d : w.cell? ⟨k, 3, none⟩ = some d
  fz : ∀ j, w.frozen? ⟨k, j, none⟩ = false
structure Cells8 (w : World) (k : Nat) (a b c d e f g i : Value) : Prop where
  a : w.cell? ⟨k, 0, none⟩ = some a
  b : w.cell? ⟨k, 1, none⟩ = some b
  c : w.cell? ⟨k, 2, none⟩ = some c
  d : w.cell? ⟨k, 3, none⟩ = some d
  e : w.cell? ⟨k, 4, none⟩ = some e
  f : w.cell? ⟨k, 5, none⟩ = some f
  g : w.cell? ⟨k, 6, none⟩ = some g
  i : w.cell? ⟨k, 7, none⟩ = some i
  fz : ∀ j, w.frozen? ⟨k, j, none⟩ = false
theorem frozen_out (w : World) (b j : Nat) (h : w.heap.size ≤ b) : w.frozen? ⟨b, j, none⟩ = false := by simp [World.frozen?, Array.getElem?_eq_none h]
theorem frozen_set {w : World} {a b : Addr} {v : Value} : (w.setCell a v).frozen? b = w.frozen? b := World.frozen?_setCell _ _ _ _
theorem Cells8.up {W w1 : World} {k : Nat} {a b c d e f g i : Value} (q : Cells8 W k a b c d e f g i) (hb : Below W.heap.size W w1) : Cells8 w1 k a b c d e f g i := by
  have hk := lt_of_cell q.a
  exact ⟨(hb.cell (p := ⟨k, 0, none⟩) hk).trans q.a, (hb.cell (p := ⟨k, 1, none⟩) hk).trans q.b, (hb.cell (p := ⟨k, 2, none⟩) hk).trans q.c, (hb.cell (p := ⟨k, 3, none⟩) hk).trans q.d,
    (hb.cell (p := ⟨k, 4, none⟩) hk).trans q.e, (hb.cell (p := ⟨k, 5, none⟩) hk).trans q.f, (hb.cell (p := ⟨k, 6, none⟩) hk).trans q.g, (hb.cell (p := ⟨k, 7, none⟩) hk).trans q.i, fun j => (hb.frozen (p := ⟨k, j, none⟩) hk).trans (q.fz j)⟩
theorem Cells8.set_ne {w : World} {k b j : Nat} {v a b' c d e f g i : Value} (q : Cells8 w b a b' c d e f g i) (hk : k ≠ b) : Cells8 (w.setCell ⟨k, j, none⟩ v) b a b' c d e f g i :=
  ⟨(cell_set_ne hk).trans q.a, (cell_set_ne hk).trans q.b, (cell_set_ne hk).trans q.c, (cell_set_ne hk).trans q.d, (cell_set_ne hk).trans q.e, (cell_set_ne hk).trans q.f, (cell_set_ne hk).trans q.g, (cell_set_ne hk).trans q.i, fun j => frozen_set.trans (q.fz j)⟩
theorem Cells4.up {W w1 : World} {k : Nat} {a b c d : Value} (q : Cells4 W k a b c d) (hb : Below W.heap.size W w1) : Cells4 w1 k a b c d := by
  have hk := lt_of_cell q.a
  exact ⟨(hb.cell (p := ⟨k, 0, none⟩) hk).trans q.a, (hb.cell (p := ⟨k, 1, none⟩) hk).trans q.b, (hb.cell (p := ⟨k, 2, none⟩) hk).trans q.c, (hb.cell (p := ⟨k, 3, none⟩) hk).trans q.d, fun j => (hb.frozen (p := ⟨k, j, none⟩) hk).trans (q.fz j)⟩
theorem Cells4.set_ne {w : World} {k b j : Nat} {v a b' c d : Value} (q : Cells4 w b a b' c d) (hk : k ≠ b) : Cells4 (w.setCell ⟨k, j, none⟩ v) b a b' c d :=
  ⟨(cell_set_ne hk).trans q.a, (cell_set_ne hk).trans q.b, (cell_set_ne hk).trans q.c, (cell_set_ne hk).trans q.d, fun j => frozen_set.trans (q.fz j)⟩
theorem cell_set_at {w : World} {k j j' : Nat} {v u : Value} (h : w.cell? ⟨k, j, none⟩ = some u) (hj : j' ≠ j) : (w.setCell ⟨k, j', none⟩ v).cell? ⟨k, j, none⟩ = some u := by
  rw [World.cell?_setCell_other (a := ⟨k, j', none⟩) (b := ⟨k, j, none⟩) _ _ (by intro h; cases h; exact hj rfl)]
  exact h
theorem cell_same {w : World} {a : Addr} {u : Value} (h : w.cell? a = some u) (v : Value) : (w.setCell a v).cell? a = some v := World.cell?_setCell_same _ _ _ h
theorem Cells4.lies {w : World} {k : Nat} {x : Nm} (q : Cells4 w k (.int .u64 x.a) (.int .u64 x.b) (.int .u64 x.c) (.int .u64 x.d)) : Lies w k x := ⟨q.a, q.b, q.c, q.d⟩
theorem Lies.alloc {w : World} {k : Nat} {x : Nm} (h : Lies w k x) (o : Obj) : Lies (w.alloc o) k x := h.up ((Below.refl _ _).alloc (Nat.le_refl _) _)
theorem Lies8.alloc {w : World} {k : Nat} {l h : Nm} (q : Lies8 w k l h) (o : Obj) : Lies8 (w.alloc o) k l h := q.up ((Below.refl _ _).alloc (Nat.le_refl _) _)
theorem Lies.new (w : World) (x : Nm) (t : TypeId) : Lies (w.alloc (.cells #[.int .u64 x.a, .int .u64 x.b, .int .u64 x.c, .int .u64 x.d] t)) w.heap.size x := by constructor <;> simp
theorem Cells8.lies {w : World} {k : Nat} {l h : Nm} (q : Cells8 w k (.int .u64 l.a) (.int .u64 l.b) (.int .u64 l.c) (.int .u64 l.d) (.int .u64 h.a) (.int .u64 h.b) (.int .u64 h.c) (.int .u64 h.d)) : Lies8 w k l h := ⟨q.a, q.b, q.c, q.d, q.e, q.f, q.g, q.i⟩
end Go.Proofs.Ytepaapiflkkghaa

/- What is known of the blocks of memory, told as a list: which cells lie in which block. -/
namespace Go.Proofs.Ytepaapiflkkghaa
open Go.RowKit
/-- Block k holds these cells, and none of it is frozen. -/
structure KBlk (w : World) (k : Nat) (vs : List Value) : Prop where
  lt : k < w.heap.size
  cell : ∀ j v, vs[j]? = some v → w.cell? ⟨k, j, none⟩ = some v
  fz : ∀ j, w.frozen? ⟨k, j, none⟩ = false
abbrev c4 (x : Nm) : List Value := [.int .u64 x.a, .int .u64 x.b, .int .u64 x.c, .int .u64 x.d]
abbrev c8 (l h : Nm) : List Value := [.int .u64 l.a, .int .u64 l.b, .int .u64 l.c, .int .u64 l.d, .int .u64 h.a, .int .u64 h.b, .int .u64 h.c, .int .u64 h.d]
theorem KBlk.up {W w1 : World} {k : Nat} {vs : List Value} (h : KBlk W k vs) (hb : Below W.heap.size W w1) : KBlk w1 k vs :=
  ⟨Nat.lt_of_lt_of_le h.lt hb.size, fun j v hv => (hb.cell (p := ⟨k, j, none⟩) h.lt).trans (h.cell j v hv), fun j => ((bcell hb).2 k j h.lt).trans (h.fz j)⟩
theorem KBlk.of {w : World} {k : Nat} {vs : List Value} {t : TypeId} (h : w.heap[k]? = some (.cells vs.toArray t)) : KBlk w k vs := by
  refine ⟨?_, fun j v hv => ?_, fun j => (cells_of_block h j).2⟩
  · rcases Nat.lt_or_ge k w.heap.size with h' | h'
    · exact h'
    · rw [Array.getElem?_eq_none h'] at h; cases h
  · rw [(cells_of_block h j).1]; simpa using hv
theorem size_set (w : World) (a : Addr) (v : Value) : (w.setCell a v).heap.size = w.heap.size := by simp [World.setCell]
theorem KBlk.set_ne {w : World} {k k' j : Nat} {vs : List Value} {v : Value} (h : KBlk w k vs) (hk : k' ≠ k) : KBlk (w.setCell ⟨k', j, none⟩ v) k vs :=
  ⟨by rw [size_set]; exact h.lt, fun i u hu => (cell_set_ne hk).trans (h.cell i u hu), fun i => frozen_set.trans (h.fz i)⟩
theorem KBlk.set {w : World} {k : Nat} {vs : List Value} (h : KBlk w k vs) (j : Nat) (v : Value) (hj : j < vs.length) : KBlk (w.setCell ⟨k, j, none⟩ v) k (vs.set j v) := by
  refine ⟨by rw [size_set]; exact h.lt, fun i u hu => ?_, fun i => frozen_set.trans (h.fz i)⟩
  have hc : w.cell? ⟨k, j, none⟩ = some vs[j] := h.cell j _ (List.getElem?_eq_getElem hj)
  by_cases e : j = i
  · subst e
    rw [List.getElem?_set_self hj] at hu
    cases hu
    exact cell_same hc _
  · rw [List.getElem?_set_ne e] at hu
    exact cell_set_at (h.cell i u hu) e
/-- The blocks that are known. -/
structure Kn (w : World) (L : List (Nat × List Value)) : Prop where
  nd : (L.map (·.1)).Nodup
  all : ∀ p ∈ L, KBlk w p.1 p.2
theorem Kn.nil (w : World) : Kn w [] := ⟨List.nodup_nil, fun _ hp => absurd hp List.not_mem_nil⟩
theorem Kn.up {W w1 : World} {L : List (Nat × List Value)} (h : Kn W L) (hb : Below W.heap.size W w1) : Kn w1 L := ⟨h.nd, fun p hp => (h.all p hp).up hb⟩
theorem Kn.fresh {W w1 : World} {L : List (Nat × List Value)} {k : Nat} {vs : List Value} {t : TypeId} (h : Kn W L) (hb : Below W.heap.size W w1) (hk : W.heap.size ≤ k) (hc : w1.heap[k]? = some (.cells vs.toArray t)) : Kn w1 ((k, vs) :: L) := by
  refine ⟨?_, fun p hp => ?_⟩
  · rw [List.map_cons, List.nodup_cons]
    refine ⟨fun hm => ?_, h.nd⟩
    obtain ⟨p, hp, e⟩ := List.mem_map.1 hm
    have := (h.all p hp).lt
    omega
  · rcases List.mem_cons.1 hp with rfl | hp
    · exact KBlk.of hc
    · exact (h.all p hp).up hb
theorem Kn.al {w : World} {L : List (Nat × List Value)} (h : Kn w L) (vs : List Value) (t : TypeId) {k : Nat} (hk : k = w.heap.size) : Kn (w.alloc (.cells vs.toArray t)) ((k, vs) :: L) := by
  subst hk
  exact h.fresh (t := t) ((Below.refl _ _).alloc (Nat.le_refl _) _) (Nat.le_refl _) (by show (w.heap.push _)[w.heap.size]? = _; simp)
theorem Kn.set {w : World} {L : List (Nat × List Value)} {k : Nat} {vs : List Value} (h : Kn w ((k, vs) :: L)) (j : Nat) (v : Value) (hj : j < vs.length) : Kn (w.setCell ⟨k, j, none⟩ v) ((k, vs.set j v) :: L) := by
  refine ⟨h.nd, fun p hp => ?_⟩
  rcases List.mem_cons.1 hp with rfl | hp
  · exact (h.all _ List.mem_cons_self).set j v hj
  · refine (h.all p (List.mem_cons_of_mem _ hp)).set_ne fun e => ?_
    have := (List.nodup_cons.1 h.nd).1
    exact this (List.mem_map.2 ⟨p, hp, e.symm⟩)
theorem erase_perm {α : Type} : ∀ (l : List α) (i : Nat) (x : α), l[i]? = some x → (x :: l.eraseIdx i).Perm l
  | [], _, _, h => by simp at h
  | y :: l, 0, x, h => by simp at h; subst h; exact List.Perm.refl _
  | y :: l, i + 1, x, h => by
    have := erase_perm l i x (by simpa using h)
    exact (List.Perm.swap _ _ _).trans (this.cons y)
theorem Kn.front {w : World} {L : List (Nat × List Value)} (h : Kn w L) (i : Nat) {p : Nat × List Value} (hp : L[i]? = some p) : Kn w (p :: L.eraseIdx i) := by
  have P := erase_perm L i p hp
  exact ⟨(P.map _).nodup_iff.2 h.nd, fun q hq => h.all q (P.mem_iff.1 hq)⟩
theorem Kn.drop {w : World} {L : List (Nat × List Value)} (h : Kn w L) (i : Nat) : Kn w (L.eraseIdx i) :=
  ⟨(List.Sublist.map _ (List.eraseIdx_sublist L i)).nodup h.nd, fun p hp => h.all p ((List.eraseIdx_sublist L i).subset hp)⟩
theorem Kn.two {W w1 : World} {L : List (Nat × List Value)} {k k' : Nat} {vs us : List Value} {t t' : TypeId} (h : Kn W L) (hb : Below W.heap.size W w1) (hk : W.heap.size ≤ k) (hj : W.heap.size ≤ k') (hn : k ≠ k') (hc : w1.heap[k]? = some (.cells vs.toArray t)) (hd : w1.heap[k']? = some (.cells us.toArray t')) : Kn w1 ((k, vs) :: (k', us) :: L) := by
  have h1 := h.fresh hb hj hd
  refine ⟨?_, fun p hp => ?_⟩
  · rw [List.map_cons, List.nodup_cons]
    refine ⟨fun hm => ?_, h1.nd⟩
    rcases List.mem_cons.1 hm with e | hm
    · exact hn e
    · obtain ⟨p, hp, e⟩ := List.mem_map.1 hm
      have := (h.all p hp).lt
      omega
  · rcases List.mem_cons.1 hp with rfl | hp
    · exact KBlk.of hc
    · exact h1.all p hp
theorem Kn.get {w : World} {L : List (Nat × List Value)} (h : Kn w L) (i j : Nat) {k : Nat} {vs : List Value} {v : Value} (hp : L[i]? = some (k, vs)) (hv : vs[j]? = some v) : w.cell? ⟨k, j, none⟩ = some v :=
  (h.all _ (List.mem_of_getElem? hp)).cell j v hv
theorem Kn.fz {w : World} {L : List (Nat × List Value)} (h : Kn w L) (i : Nat) {k : Nat} {vs : List Value} (hp : L[i]? = some (k, vs)) : ∀ j, w.frozen? ⟨k, j, none⟩ = false :=
  (h.all _ (List.mem_of_getElem? hp)).fz
end Go.Proofs.Ytepaapiflkkghaa
