/- Texts that were joined: Store, Dig, DigO. -/
import Derived.Test.YtjcnfffmciahiaaDoorNum
import Derived.Test.YtjcnfffmciahiaaDoorRows
import Derived.Test.YtjcnfffmciahiaaDoorDMath
import Derived.WalkKit
import Derived.WalkSpells
import Derived.WalkLawsBesides
import Derived.LoopN
import Derived.OwnWalk
import Derived.Laws.AppendOwn
import Derived.Laws.OwnMore
import Derived.Below
/- What a variable that has been made holds, and what it holds once a number has been stored into it; nothing else turns. -/
namespace Go.Proofs.YtjcnfffmciahiaaDoor
open Go.RowKit

theorem cells_of_block {w : World} {k : Nat} {c : Array Value} {t : TypeId} (h : w.heap[k]? = some (.cells c t)) (j : Nat) : w.cell? ⟨k, j, none⟩ = c[j]? ∧ w.frozen? ⟨k, j, none⟩ = false := by
  simp [World.cell?, World.frozen?, h]
/-- A number of four words stored into block k. -/
abbrev st4 (w : World) (k : Nat) (x : Nm) : World := (((w.setCell ⟨k, 0, none⟩ (.int .u64 x.a)).setCell ⟨k, 1, none⟩ (.int .u64 x.b)).setCell ⟨k, 2, none⟩ (.int .u64 x.c)).setCell ⟨k, 3, none⟩ (.int .u64 x.d)
abbrev st8 (w : World) (k : Nat) (l h : Nm) : World := ((((st4 w k l).setCell ⟨k, 4, none⟩ (.int .u64 h.a)).setCell ⟨k, 5, none⟩ (.int .u64 h.b)).setCell ⟨k, 6, none⟩ (.int .u64 h.c)).setCell ⟨k, 7, none⟩ (.int .u64 h.d)
theorem cell_set_ne {w : World} {k k' j j' : Nat} {v : Value} (h : k ≠ k') : (w.setCell ⟨k, j, none⟩ v).cell? ⟨k', j', none⟩ = w.cell? ⟨k', j', none⟩ := by
  simp only [World.cell?, World.setCell]
  rw [Array.getElem?_modify, if_neg h]
theorem Lies.set_ne {w : World} {k b j : Nat} {x : Nm} {v : Value} (h : Lies w b x) (hk : k ≠ b) : Lies (w.setCell ⟨k, j, none⟩ v) b x :=
  ⟨(cell_set_ne hk).trans h.a, (cell_set_ne hk).trans h.b, (cell_set_ne hk).trans h.c, (cell_set_ne hk).trans h.d⟩
theorem Lies8.set_ne {w : World} {k b j : Nat} {l x : Nm} {v : Value} (h : Lies8 w b l x) (hk : k ≠ b) : Lies8 (w.setCell ⟨k, j, none⟩ v) b l x :=
  ⟨(cell_set_ne hk).trans h.a, (cell_set_ne hk).trans h.b, (cell_set_ne hk).trans h.c, (cell_set_ne hk).trans h.d, (cell_set_ne hk).trans h.e, (cell_set_ne hk).trans h.f, (cell_set_ne hk).trans h.g, (cell_set_ne hk).trans h.i⟩
theorem Lies.st4_ne {w : World} {k b : Nat} {x y : Nm} (h : Lies w b x) (hk : k ≠ b) : Lies (st4 w k y) b x := (((h.set_ne hk).set_ne hk).set_ne hk).set_ne hk
theorem Lies8.st4_ne {w : World} {k b : Nat} {l x y : Nm} (h : Lies8 w b l x) (hk : k ≠ b) : Lies8 (st4 w k y) b l x := (((h.set_ne hk).set_ne hk).set_ne hk).set_ne hk
theorem Lies.st8_ne {w : World} {k b : Nat} {x y z : Nm} (h : Lies w b x) (hk : k ≠ b) : Lies (st8 w k y z) b x := ((((h.st4_ne hk).set_ne hk).set_ne hk).set_ne hk).set_ne hk
theorem Lies8.st8_ne {w : World} {k b : Nat} {l x y z : Nm} (h : Lies8 w b l x) (hk : k ≠ b) : Lies8 (st8 w k y z) b l x := ((((h.st4_ne hk).set_ne hk).set_ne hk).set_ne hk).set_ne hk
theorem heap_set {w : World} {k j : Nat} {c : Array Value} {t : TypeId} (h : w.heap[k]? = some (.cells c t)) (v : Value) : (w.setCell ⟨k, j, none⟩ v).heap[k]? = some (.cells (c.setIfInBounds j v) t) := by
  simp [World.setCell, Array.getElem?_modify, h]
theorem Lies.st4_self {w : World} {k : Nat} {a b c d : Value} {t : TypeId} (h : w.heap[k]? = some (.cells #[a, b, c, d] t)) (x : Nm) : Lies (st4 w k x) k x := by
  have h4 := heap_set (j := 3) (heap_set (j := 2) (heap_set (j := 1) (heap_set (j := 0) h (.int .u64 x.a)) (.int .u64 x.b)) (.int .u64 x.c)) (.int .u64 x.d)
  exact ⟨by rw [(cells_of_block h4 0).1]; simp, by rw [(cells_of_block h4 1).1]; simp, by rw [(cells_of_block h4 2).1]; simp, by rw [(cells_of_block h4 3).1]; simp⟩
theorem Lies8.st8_self {w : World} {k : Nat} {a b c d e f g i : Value} {t : TypeId} (q : w.heap[k]? = some (.cells #[a, b, c, d, e, f, g, i] t)) (l h : Nm) : Lies8 (st8 w k l h) k l h := by
  have h4 := heap_set (j := 3) (heap_set (j := 2) (heap_set (j := 1) (heap_set (j := 0) q (.int .u64 l.a)) (.int .u64 l.b)) (.int .u64 l.c)) (.int .u64 l.d)
  have h8 := heap_set (j := 7) (heap_set (j := 6) (heap_set (j := 5) (heap_set (j := 4) h4 (.int .u64 h.a)) (.int .u64 h.b)) (.int .u64 h.c)) (.int .u64 h.d)
  exact ⟨by rw [(cells_of_block h8 0).1]; simp, by rw [(cells_of_block h8 1).1]; simp, by rw [(cells_of_block h8 2).1]; simp, by rw [(cells_of_block h8 3).1]; simp, by rw [(cells_of_block h8 4).1]; simp, by rw [(cells_of_block h8 5).1]; simp, by rw [(cells_of_block h8 6).1]; simp, by rw [(cells_of_block h8 7).1]; simp⟩
theorem size_st4 (w : World) (k : Nat) (x : Nm) : (st4 w k x).heap.size = w.heap.size := by simp [World.setCell]
theorem size_st8 (w : World) (k : Nat) (l h : Nm) : (st8 w k l h).heap.size = w.heap.size := by simp [World.setCell]
theorem below_st4 {B k : Nat} {a w : World} {x : Nm} (h : Below B a w) (hk : B ≤ k) : Below B a (st4 w k x) := (((h.setCell hk _).setCell hk _).setCell hk _).setCell hk _
theorem below_st8 {B k : Nat} {a w : World} {l x : Nm} (h : Below B a w) (hk : B ≤ k) : Below B a (st8 w k l x) := ((((below_st4 h hk).setCell hk _).setCell hk _).setCell hk _).setCell hk _
/-- The cells of a block of four, as the walk asks for them. -/
structure Cells4 (w : World) (k : Nat) (a b c d : Value) : Prop where
  a : w.cell? ⟨k, 0, none⟩ = some a
  b : w.cell? ⟨k, 1, none⟩ = some b
  c : w.cell? ⟨k, 2, none⟩ = some c
  d : w.cell? ⟨k, 3, none⟩ = some d
  fz : ∀ j, w.frozen? ⟨k, j, none⟩ = false
theorem cells4 {w : World} {k : Nat} {a b c d : Value} {t : TypeId} (h : w.heap[k]? = some (.cells #[a, b, c, d] t)) : Cells4 w k a b c d :=
  ⟨(cells_of_block h 0).1, (cells_of_block h 1).1, (cells_of_block h 2).1, (cells_of_block h 3).1, fun j => (cells_of_block h j).2⟩
structure Cells8 (w : World) (k : Nat) (a b c d e f g i : Value) : Prop where
  a : w.cell? ⟨k, 0, none⟩ = some a
  b : w.cell? ⟨k, 1, none⟩ = some b
  c : w.cell? ⟨k, 2, none⟩ = some c
  d : w.cell? ⟨k, 3, none⟩ = some d
  e : w.cell? ⟨k, 4, none⟩ = some e
  f : w.cell? ⟨k, 5, none⟩ = some f
  g : w.cell? ⟨k, 6, none⟩ = some g
  i : w.cell? ⟨k, 7, none⟩ = some i
  fz : ∀ j, w.frozen? ⟨k, j, none⟩ = false
theorem cells8 {w : World} {k : Nat} {a b c d e f g i : Value} {t : TypeId} (h : w.heap[k]? = some (.cells #[a, b, c, d, e, f, g, i] t)) : Cells8 w k a b c d e f g i :=
  ⟨(cells_of_block h 0).1, (cells_of_block h 1).1, (cells_of_block h 2).1, (cells_of_block h 3).1, (cells_of_block h 4).1, (cells_of_block h 5).1, (cells_of_block h 6).1, (cells_of_block h 7).1, fun j => (cells_of_block h j).2⟩
theorem frozen_out (w : World) (b j : Nat) (h : w.heap.size ≤ b) : w.frozen? ⟨b, j, none⟩ = false := by simp [World.frozen?, Array.getElem?_eq_none h]
theorem frozen_set {w : World} {a b : Addr} {v : Value} : (w.setCell a v).frozen? b = w.frozen? b := World.frozen?_setCell _ _ _ _
theorem Cells8.up {W w1 : World} {k : Nat} {a b c d e f g i : Value} (q : Cells8 W k a b c d e f g i) (hb : Below W.heap.size W w1) : Cells8 w1 k a b c d e f g i := by
  have hk := lt_of_cell q.a
  exact ⟨(hb.cell (p := ⟨k, 0, none⟩) hk).trans q.a, (hb.cell (p := ⟨k, 1, none⟩) hk).trans q.b, (hb.cell (p := ⟨k, 2, none⟩) hk).trans q.c, (hb.cell (p := ⟨k, 3, none⟩) hk).trans q.d,
    (hb.cell (p := ⟨k, 4, none⟩) hk).trans q.e, (hb.cell (p := ⟨k, 5, none⟩) hk).trans q.f, (hb.cell (p := ⟨k, 6, none⟩) hk).trans q.g, (hb.cell (p := ⟨k, 7, none⟩) hk).trans q.i, fun j => (hb.frozen (p := ⟨k, j, none⟩) hk).trans (q.fz j)⟩
theorem Cells8.set_ne {w : World} {k b j : Nat} {v a b' c d e f g i : Value} (q : Cells8 w b a b' c d e f g i) (hk : k ≠ b) : Cells8 (w.setCell ⟨k, j, none⟩ v) b a b' c d e f g i :=
  ⟨(cell_set_ne hk).trans q.a, (cell_set_ne hk).trans q.b, (cell_set_ne hk).trans q.c, (cell_set_ne hk).trans q.d, (cell_set_ne hk).trans q.e, (cell_set_ne hk).trans q.f, (cell_set_ne hk).trans q.g, (cell_set_ne hk).trans q.i, fun j => frozen_set.trans (q.fz j)⟩
theorem Cells8.st4_ne {w : World} {k b : Nat} {x : Nm} {a b' c d e f g i : Value} (q : Cells8 w b a b' c d e f g i) (hk : k ≠ b) : Cells8 (st4 w k x) b a b' c d e f g i := (((q.set_ne hk).set_ne hk).set_ne hk).set_ne hk
theorem Cells4.up {W w1 : World} {k : Nat} {a b c d : Value} (q : Cells4 W k a b c d) (hb : Below W.heap.size W w1) : Cells4 w1 k a b c d := by
  have hk := lt_of_cell q.a
  exact ⟨(hb.cell (p := ⟨k, 0, none⟩) hk).trans q.a, (hb.cell (p := ⟨k, 1, none⟩) hk).trans q.b, (hb.cell (p := ⟨k, 2, none⟩) hk).trans q.c, (hb.cell (p := ⟨k, 3, none⟩) hk).trans q.d, fun j => (hb.frozen (p := ⟨k, j, none⟩) hk).trans (q.fz j)⟩
theorem Cells4.set_ne {w : World} {k b j : Nat} {v a b' c d : Value} (q : Cells4 w b a b' c d) (hk : k ≠ b) : Cells4 (w.setCell ⟨k, j, none⟩ v) b a b' c d :=
  ⟨(cell_set_ne hk).trans q.a, (cell_set_ne hk).trans q.b, (cell_set_ne hk).trans q.c, (cell_set_ne hk).trans q.d, fun j => frozen_set.trans (q.fz j)⟩
theorem Cells4.st4_ne {w : World} {k b : Nat} {x : Nm} {a b' c d : Value} (q : Cells4 w b a b' c d) (hk : k ≠ b) : Cells4 (st4 w k x) b a b' c d := (((q.set_ne hk).set_ne hk).set_ne hk).set_ne hk
theorem cell_set_at {w : World} {k j j' : Nat} {v u : Value} (h : w.cell? ⟨k, j, none⟩ = some u) (hj : j' ≠ j) : (w.setCell ⟨k, j', none⟩ v).cell? ⟨k, j, none⟩ = some u := by
  rw [World.cell?_setCell_other (a := ⟨k, j', none⟩) (b := ⟨k, j, none⟩) _ _ (by intro h; cases h; exact hj rfl)]
  exact h
theorem cell_same {w : World} {a : Addr} {u : Value} (h : w.cell? a = some u) (v : Value) : (w.setCell a v).cell? a = some v := World.cell?_setCell_same _ _ _ h
theorem Cells4.st4_self {w : World} {k : Nat} {x : Nm} {a b c d : Value} (q : Cells4 w k a b c d) : Cells4 (st4 w k x) k (.int .u64 x.a) (.int .u64 x.b) (.int .u64 x.c) (.int .u64 x.d) := by
  refine ⟨?_, ?_, ?_, ?_, fun j => frozen_set.trans (frozen_set.trans (frozen_set.trans (frozen_set.trans (q.fz j))))⟩
  · exact cell_set_at (cell_set_at (cell_set_at (cell_same q.a _) (by decide)) (by decide)) (by decide)
  · exact cell_set_at (cell_set_at (cell_same (cell_set_at (j' := 0) q.b (by decide)) _) (by decide)) (by decide)
  · exact cell_set_at (cell_same (cell_set_at (j' := 1) (cell_set_at (j' := 0) q.c (by decide)) (by decide)) _) (by decide)
  · exact cell_same (cell_set_at (j' := 2) (cell_set_at (j' := 1) (cell_set_at (j' := 0) q.d (by decide)) (by decide)) (by decide)) _
theorem Cells4.lies {w : World} {k : Nat} {x : Nm} (q : Cells4 w k (.int .u64 x.a) (.int .u64 x.b) (.int .u64 x.c) (.int .u64 x.d)) : Lies w k x := ⟨q.a, q.b, q.c, q.d⟩
theorem Cells8.st8_self {w : World} {k : Nat} {l h : Nm} {a b c d e f g i : Value} (q : Cells8 w k a b c d e f g i) : Lies8 (st8 w k l h) k l h := by
  refine ⟨?_, ?_, ?_, ?_, ?_, ?_, ?_, ?_⟩
  · exact cell_set_at (j' := 7) (cell_set_at (j' := 6) (cell_set_at (j' := 5) (cell_set_at (j' := 4) (cell_set_at (j' := 3) (cell_set_at (j' := 2) (cell_set_at (j' := 1) (cell_same (q.a) _) (by decide)) (by decide)) (by decide)) (by decide)) (by decide)) (by decide)) (by decide)
  · exact cell_set_at (j' := 7) (cell_set_at (j' := 6) (cell_set_at (j' := 5) (cell_set_at (j' := 4) (cell_set_at (j' := 3) (cell_set_at (j' := 2) (cell_same (cell_set_at (j' := 0) (q.b) (by decide)) _) (by decide)) (by decide)) (by decide)) (by decide)) (by decide)) (by decide)
  · exact cell_set_at (j' := 7) (cell_set_at (j' := 6) (cell_set_at (j' := 5) (cell_set_at (j' := 4) (cell_set_at (j' := 3) (cell_same (cell_set_at (j' := 1) (cell_set_at (j' := 0) (q.c) (by decide)) (by decide)) _) (by decide)) (by decide)) (by decide)) (by decide)) (by decide)
  · exact cell_set_at (j' := 7) (cell_set_at (j' := 6) (cell_set_at (j' := 5) (cell_set_at (j' := 4) (cell_same (cell_set_at (j' := 2) (cell_set_at (j' := 1) (cell_set_at (j' := 0) (q.d) (by decide)) (by decide)) (by decide)) _) (by decide)) (by decide)) (by decide)) (by decide)
  · exact cell_set_at (j' := 7) (cell_set_at (j' := 6) (cell_set_at (j' := 5) (cell_same (cell_set_at (j' := 3) (cell_set_at (j' := 2) (cell_set_at (j' := 1) (cell_set_at (j' := 0) (q.e) (by decide)) (by decide)) (by decide)) (by decide)) _) (by decide)) (by decide)) (by decide)
  · exact cell_set_at (j' := 7) (cell_set_at (j' := 6) (cell_same (cell_set_at (j' := 4) (cell_set_at (j' := 3) (cell_set_at (j' := 2) (cell_set_at (j' := 1) (cell_set_at (j' := 0) (q.f) (by decide)) (by decide)) (by decide)) (by decide)) (by decide)) _) (by decide)) (by decide)
  · exact cell_set_at (j' := 7) (cell_same (cell_set_at (j' := 5) (cell_set_at (j' := 4) (cell_set_at (j' := 3) (cell_set_at (j' := 2) (cell_set_at (j' := 1) (cell_set_at (j' := 0) (q.g) (by decide)) (by decide)) (by decide)) (by decide)) (by decide)) (by decide)) _) (by decide)
  · exact cell_same (cell_set_at (j' := 6) (cell_set_at (j' := 5) (cell_set_at (j' := 4) (cell_set_at (j' := 3) (cell_set_at (j' := 2) (cell_set_at (j' := 1) (cell_set_at (j' := 0) (q.i) (by decide)) (by decide)) (by decide)) (by decide)) (by decide)) (by decide)) (by decide)) _
theorem Lies.alloc {w : World} {k : Nat} {x : Nm} (h : Lies w k x) (o : Obj) : Lies (w.alloc o) k x := h.up ((Below.refl _ _).alloc (Nat.le_refl _) _)
theorem Lies8.alloc {w : World} {k : Nat} {l h : Nm} (q : Lies8 w k l h) (o : Obj) : Lies8 (w.alloc o) k l h := q.up ((Below.refl _ _).alloc (Nat.le_refl _) _)
theorem Lies.new (w : World) (x : Nm) (t : TypeId) : Lies (w.alloc (.cells #[.int .u64 x.a, .int .u64 x.b, .int .u64 x.c, .int .u64 x.d] t)) w.heap.size x := by constructor <;> simp
theorem Cells8.st8_ne {w : World} {k b : Nat} {x y : Nm} {a b' c d e f g i : Value} (q : Cells8 w b a b' c d e f g i) (hk : k ≠ b) : Cells8 (st8 w k x y) b a b' c d e f g i := ((((q.st4_ne hk).set_ne hk).set_ne hk).set_ne hk).set_ne hk
theorem Cells8.lies {w : World} {k : Nat} {l h : Nm} (q : Cells8 w k (.int .u64 l.a) (.int .u64 l.b) (.int .u64 l.c) (.int .u64 l.d) (.int .u64 h.a) (.int .u64 h.b) (.int .u64 h.c) (.int .u64 h.d)) : Lies8 w k l h := ⟨q.a, q.b, q.c, q.d, q.e, q.f, q.g, q.i⟩
end Go.Proofs.YtjcnfffmciahiaaDoor

/- Slices of digits by the row of their elements; the contracts of sealringref.digit and trim. -/
namespace Go.Proofs.YtjcnfffmciahiaaDoor
open Go.RowKit
/-- The slice v holds the numbers xs: they lie one behind the other in a block. -/
def Sl (w : World) (v : Value) (xs : List Nat) : Prop :=
  (v = .slice none 0 0 ∧ xs = []) ∨ ∃ b o c, v = .slice (some ⟨b, o, none⟩) xs.length c ∧ xs.length ≤ c ∧ ∀ j, j < xs.length → w.cell? ⟨b, o + j, none⟩ = some (.int .i64 ((xs.getD j 0 : Nat) : Int))
theorem Sl.up {W w1 : World} {v : Value} {xs : List Nat} (h : Sl W v xs) (hb : Below W.heap.size W w1) : Sl w1 v xs := by
  rcases h with h | ⟨b, o, c, e, hl, hc⟩
  · exact .inl h
  · exact .inr ⟨b, o, c, e, hl, fun j hj => (hb.cell (p := ⟨b, o + j, none⟩) (lt_of_cell (hc j hj))).trans (hc j hj)⟩
theorem Sl.parts {w : World} {v : Value} {xs : List Nat} (h : Sl w v xs) : ∃ a c, v = .slice a xs.length c := by
  rcases h with ⟨rfl, rfl⟩ | ⟨b, o, c, rfl, _⟩
  · exact ⟨none, 0, rfl⟩
  · exact ⟨_, c, rfl⟩
set_option maxHeartbeats 400000 in
theorem digit_in (b o c : Nat) (n : Nat) (v : Int) (i : Nat) (hi : i < n) (w : World) (hc : w.cell? ⟨b, o + i, none⟩ = some (.int .i64 v)) :
    Calls Tryd.prog 29 #[.slice (some ⟨b, o, none⟩) n c, .int .i64 i] w fun e w' => e = .returned (.int .i64 v) ∧ Below w.heap.size w w' := by
  have h1 : ¬ ((i : Int) < 0) := by omega
  have h2 : ¬ ((i : Int) ≥ n) := by omega
  go_enter Tryd.func29, Tryd.ntmps29
  go_wp2_with fail
  go_ret
  exact ⟨rfl, Below.refl _ _⟩
set_option maxHeartbeats 400000 in
theorem digit_out (a : Option Addr) (n c : Nat) (i : Nat) (hi : n ≤ i) (w : World) :
    Calls Tryd.prog 29 #[.slice a n c, .int .i64 i] w fun e w' => e = .returned (.int .i64 0) ∧ Below w.heap.size w w' := by
  have h1 : ¬ ((i : Int) < 0) := by omega
  have h2 : (i : Int) ≥ n := by omega
  go_enter Tryd.func29, Tryd.ntmps29
  go_wp2_with fail
  go_ret
  exact ⟨rfl, Below.refl _ _⟩
/-- sealringref.digit: the digit there, or 0. -/
theorem digit_fun (v : Value) (xs : List Nat) (i : Nat) (w : World) (h : Sl w v xs) :
    Calls Tryd.prog 29 #[v, .int .i64 i] w fun e w' => e = .returned (.int .i64 ((xs.getD i 0 : Nat) : Int)) ∧ Below w.heap.size w w' := by
  rcases h with ⟨rfl, rfl⟩ | ⟨b, o, c, rfl, _, hc⟩
  · exact digit_out none 0 0 i (Nat.zero_le _) w
  · rcases Nat.lt_or_ge i xs.length with h | h
    · exact digit_in b o c _ _ i h w (hc i h)
    · have e : xs.getD i 0 = 0 := by simp [h]
      rw [e]
      exact digit_out _ _ c i h w
/-- How many are left when the noughts at the end are struck. -/
def Trims (xs : List Nat) (k : Nat) : Prop := k ≤ xs.length ∧ (∀ j, k ≤ j → xs.getD j 0 = 0) ∧ (k = 0 ∨ xs.getD (k - 1) 0 ≠ 0)
theorem Trims.eq {xs : List Nat} {k : Nat} (h : Trims xs k) (hd : P.Dg xs) : xs.take k = P.dg (P.dv xs) := by
  rw [← P.dv_take h.2.1]
  refine P.eq_dg _ (hd.take k) ?_
  rcases h.2.2 with e | e
  · exact .inl (by rw [e, List.take_zero])
  · by_cases hk : k = 0
    · exact .inl (by rw [hk, List.take_zero])
    · refine .inr ?_
      rw [List.length_take, Nat.min_eq_left h.1]
      rw [List.getD_eq_getElem?_getD, List.getElem?_take, if_pos (by omega), ← List.getD_eq_getElem?_getD]
      exact e
/-- A slice's length. -/
def lenDg : Value → Nat
  | .slice _ n _ => n
  | _ => 0
set_option maxHeartbeats 1000000 in
theorem trim_some (b o c : Nat) (xs : List Nat) (hcap : xs.length ≤ c) (hs : xs.length < 4611686018427387904) (w : World) (hc : ∀ j, j < xs.length → w.cell? ⟨b, o + j, none⟩ = some (.int .i64 ((xs.getD j 0 : Nat) : Int))) :
    Calls Tryd.prog 30 #[.slice (some ⟨b, o, none⟩) xs.length c] w fun e w' => (∃ k, Trims xs k ∧ e = .returned (.slice (some ⟨b, o, none⟩) k c)) ∧ Below w.heap.size w w' := by
  have HC : Hid _ := hc
  clear hc
  go_enter Tryd.func30, Tryd.ntmps30
  go_wp2_with fail
  go_loopw [0] (fun l w' => w' = w ∧ ∃ k : Nat, k ≤ xs.length ∧ l = .slice (some ⟨b, o, none⟩) k c ∧ Hid (∀ j, k ≤ j → xs.getD j 0 = 0)) (fun l _ => lenDg l)
  case atStart => exact ⟨rfl, xs.length, Nat.le_refl _, rfl, (fun j hj => by simp [hj] : ∀ j, xs.length ≤ j → xs.getD j 0 = 0)⟩
  case round =>
    obtain ⟨rfl, k, hk, rfl, hz⟩ := hrel
    by_cases h0 : k = 0
    · subst h0
      go_wp2_with fail
      go_ret
      exact ⟨⟨0, ⟨Nat.zero_le _, hz.out, .inl rfl⟩, rfl⟩, Below.refl _ _⟩
    · obtain ⟨k, rfl⟩ : ∃ j, k = j + 1 := ⟨k - 1, by omega⟩
      have hcell := HC.out k (by omega)
      have h1 : ((k + 1 : Nat) : Int) > 0 := by omega
      have h2 : ((k + 1 : Nat) : Int) - 1 = k := by omega
      have h3 : (k : Int) < 4611686018427387904 := by omega
      have h4 : k ≤ c := by omega
      by_cases hv : xs.getD k 0 = 0
      · rw [hv] at hcell
        have HV : Hid _ := hv
        clear hv
        go_wp2_with fail
        refine ⟨⟨trivial, k, by omega, rfl, (fun j hj => ?_ : ∀ j, k ≤ j → xs.getD j 0 = 0)⟩, by simp [lenDg]⟩
        by_cases e : j = k
        · rw [e]; exact HV.out
        · exact hz.out j (by omega)
      · have T : Hid (Trims xs (k + 1)) := ⟨hk, hz.out, .inr hv⟩
        generalize xs.getD k 0 = v at *
        have hv' : ¬ (v : Int) = 0 := by omega
        have hb : ((v : Int) == 0) = false := beq_eq_false_iff_ne.2 hv'
        go_wp2_with fail
        go_ret
        exact ⟨⟨k + 1, T.out, rfl⟩, Below.refl _ _⟩
set_option maxHeartbeats 400000 in
theorem trim_none (w : World) :
    Calls Tryd.prog 30 #[.slice none 0 0] w fun e w' => e = .returned (.slice none 0 0) ∧ Below w.heap.size w w' := by
  go_enter Tryd.func30, Tryd.ntmps30
  go_wp2_with fail
  refine wp_loop_rounds 1 ?_
  rw [rounds_succ]
  go_wp2_with fail
  go_ret
  exact ⟨rfl, Below.refl _ _⟩
/-- The slice lies in a block from B on (or is nil). -/
def blkGe (B : Nat) : Value → Prop
  | .slice (some a) _ _ => B ≤ a.block
  | _ => True
theorem blkGe.mono {A B : Nat} {v : Value} (h : blkGe B v) (hab : A ≤ B) : blkGe A v := by
  cases v with
  | slice a _ _ =>
    cases a with
    | none => exact trivial
    | some a => exact Nat.le_trans hab h
  | _ => exact trivial
theorem Sl.set_ne {w : World} {v : Value} {xs : List Nat} {g j : Nat} {y : Value} (h : Sl w v xs) (hg : blkGe (g + 1) v) : Sl (w.setCell ⟨g, j, none⟩ y) v xs := by
  rcases h with h | ⟨b, o, c, rfl, hl, hc⟩
  · exact .inl h
  · have hb : g + 1 ≤ b := hg
    refine .inr ⟨b, o, c, rfl, hl, fun i hi => ?_⟩
    rw [cell_set_ne (by omega)]
    exact hc i hi
/-- sealringref.trim: the number's own digits. -/
theorem trim_fun2 (v : Value) (xs : List Nat) (hd : P.Dg xs) (hs : xs.length < 4611686018427387904) (w : World) (h : Sl w v xs) :
    Calls Tryd.prog 30 #[v] w fun e w' => (∃ v', e = .returned v' ∧ Sl w' v' (P.dg (P.dv xs)) ∧ ∀ B, blkGe B v → blkGe B v') ∧ Below w.heap.size w w' := by
  rcases h with ⟨rfl, rfl⟩ | ⟨b, o, c, rfl, hcap, hc⟩
  · refine (trim_none w).mono ?_
    rintro e w' ⟨rfl, hb⟩
    exact ⟨⟨_, rfl, .inl ⟨rfl, by rw [P.dv, P.dg_zero]⟩, fun _ h => h⟩, hb⟩
  · refine (trim_some b o c xs hcap hs w hc).mono ?_
    rintro e w' ⟨⟨k, hk, rfl⟩, hb⟩
    refine ⟨⟨_, rfl, .inr ⟨b, o, c, ?_, ?_, fun j hj => ?_⟩, fun _ h => h⟩, hb⟩
    · rw [← hk.eq hd, List.length_take, Nat.min_eq_left hk.1]
    · rw [← hk.eq hd, List.length_take, Nat.min_eq_left hk.1]; exact Nat.le_trans hk.1 hcap
    · rw [← hk.eq hd] at hj ⊢
      rw [List.length_take, Nat.min_eq_left hk.1] at hj
      have hj2 : j < xs.length := Nat.lt_of_lt_of_le hj hk.1
      rw [List.getD_eq_getElem?_getD, List.getElem?_take, if_pos hj, ← List.getD_eq_getElem?_getD]
      exact (hb.cell (p := ⟨b, o + j, none⟩) (lt_of_cell (hc j hj2))).trans (hc j hj2)
theorem trim_fun (v : Value) (xs : List Nat) (hd : P.Dg xs) (hs : xs.length < 4611686018427387904) (w : World) (h : Sl w v xs) :
    Calls Tryd.prog 30 #[v] w fun e w' => (∃ v', e = .returned v' ∧ Sl w' v' (P.dg (P.dv xs))) ∧ Below w.heap.size w w' :=
  (trim_fun2 v xs hd hs w h).mono fun _ _ ⟨⟨v', he, hsl, _⟩, hb⟩ => ⟨⟨v', he, hsl⟩, hb⟩
end Go.Proofs.YtjcnfffmciahiaaDoor

/- Slices of digits that a call itself makes: owned rows, and what append does to one. -/
namespace Go.Proofs.YtjcnfffmciahiaaDoor
open Go.RowKit
theorem Tryd.uInts : Tryd.prog.underlying 28 = some (.slice 3) := by kernel_rfl
theorem Tryd.iInt : (Tryd.prog.info? 3).map (fun i => (i.zero, i.size, i.bytes)) = some (some (.int .i64 0), 1, 8) := by kernel_rfl
abbrev iv (x : Nat) : Value := .int .i64 ((x : Nat) : Int)
/-- The slice v is a row that the call made (its block from B on), and holds xs. -/
def Ow (w : World) (B : Nat) (v : Value) (xs : List Nat) : Prop := w.ownsRow B 3 1 v xs.length (xs.map iv)
theorem Ow.nil (w : World) (B : Nat) : Ow w B (.slice none 0 0) [] := World.ownsRow_nil _ _ _ _
theorem Ow.up {W w1 : World} {B : Nat} {v : Value} {xs : List Nat} (h : Ow W B v xs) (hb : Below W.heap.size W w1) : Ow w1 B v xs := by
  refine ⟨h.1, ?_⟩
  rcases h.2 with h' | ⟨g, cap, cur, e, hB, hg, rest⟩
  · exact .inl h'
  · exact .inr ⟨g, cap, cur, e, hB, (hb.block g (Array.getElem?_eq_some_iff.1 hg).1).trans hg, rest⟩
theorem Ow.sl {w : World} {B : Nat} {v : Value} {xs : List Nat} (h : Ow w B v xs) : Sl w v xs := by
  rcases h.2 with ⟨e, e2⟩ | ⟨g, cap, cur, e, hB, hg, hn, rest⟩
  · exact .inl ⟨e, List.length_eq_zero_iff.1 e2⟩
  · refine .inr ⟨g, 0, cap, e, hn, fun j hj => ?_⟩
    have h2 : w.ownsRow B 3 1 (.slice (some ⟨g, 0, none⟩) xs.length cap) xs.length (xs.map iv) := by rw [← e]; exact h
    rw [Nat.zero_add, h2.cellAt j (by omega)]
    simp [hj, iv]
theorem Ow.ge {w : World} {B : Nat} {v : Value} {xs : List Nat} (h : Ow w B v xs) : blkGe B v := by
  rcases h.2 with ⟨e, _⟩ | ⟨g, cap, cur, e, hB, _⟩
  · rw [e]; exact trivial
  · rw [e]; exact hB
theorem Ow.size {w : World} {B g n c : Nat} {xs : List Nat} (h : Ow w B (.slice (some ⟨g, 0, none⟩) n c) xs) : g < w.heap.size := (h.lt g rfl).2
theorem wp_app {ops : Array Oper} {rest : List Oper} {o : Oper} {a : Act} {Q : Exit → Act → World → Prop} {w : World} (hgd : o.guard = none) (s x : Operand)
    (ho : o.op = .call { callee := .builtin .append, args := #[s, x], argTypes := #[28, 28] })
    (B : Nat) (v : Value) (xs : List Nat) (y : Nat) (z : Int) (W0 : World) (hs : a.eval s = v) (hown : Ow W0 B v xs) (hup : Below W0.heap.size W0 w) (ad : Addr) (hx : a.eval x = .slice (some ad) 1 1) (hc : w.cell? ad = some (.int .i64 z)) (hz : z = ((y : Nat) : Int))
    (hl : xs.length < 1099511627776) (hB : B ≤ W0.heap.size) (h : ∀ v' w', Ow w' B v' (xs ++ [y]) → Below B W0 w' → wpList Tryd.prog ops Q rest (a.put o.dst v') w') : wpList Tryd.prog ops Q (o :: rest) a w := by
  obtain ⟨i0, hi, hz0, hz1, hz2⟩ := info_parts Tryd.iInt
  subst hz
  have hs0 := hup.size
  refine wpList_append_own w hgd s x 28 ho B 3 i0 (.int .i64 0) 1 8 Tryd.uInts hi hz0 hz1 hz2 rfl (by decide) v xs.length (xs.map iv) hs (hown.up hup) ad 1 1 [iv y] hx rfl ?_ ?_ ?_ ?_ ?_ ?_
  · intro j u hj
    match j, hj with
    | 0, hj => simp at hj; subst hj; simpa [Addr.add] using hc
  · intro u hu; simp at hu; subst hu; rfl
  · unfold maxLen; omega
  · omega
  · omega
  · intro v' w' hown' hg _
    refine h v' w' ?_ ?_
    · unfold Ow
      rw [List.map_append, List.length_append]
      exact hown'
    · refine Below.grown (hup.mono hB) hg (by omega) fun k hk => ?_
      exact ((hown.up hup).lt k hk).1
end Go.Proofs.YtjcnfffmciahiaaDoor
