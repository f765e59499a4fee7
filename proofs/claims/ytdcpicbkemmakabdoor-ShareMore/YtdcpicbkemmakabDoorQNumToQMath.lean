/- Texts that were joined: Num, DMath, Store, Dig, DigO, DTimes, DMinus, Ord, DParts, DRest, DBits, DPow, DPlus, DNumP, QMath. -/
import Derived.WalkKit
import Derived.Test.YtdcpicbkemmakabDoorRows
import Derived.WalkSpells
import Derived.WalkLawsBesides
import Derived.LoopN
import Derived.OwnWalk
import Derived.Laws.AppendOwn
import Derived.Laws.OwnMore
import Derived.Below
import Derived.Test.YtdcpicbkemmakabDoorQUpA
import Derived.Laws.MakeOwn
import Derived.Laws.AppendOwnNone
import Derived.Laws.Bits64
import Derived.Laws.Bits64b
/- The plain mathematics of numbers of four and of eight words, with no program in sight: what the walks of this seat carry. -/
namespace Go.Proofs.YtdcpicbkemmakabDoor
open Go.RowKit

/-- 2^64. -/
def B : Int := 18446744073709551616
/-- A word. -/
def Word (x : Int) : Prop := 0 ≤ x ∧ x < 18446744073709551616
/-- Four words, the least first. -/
structure Nm where
  a : Int
  b : Int
  c : Int
  d : Int
/-- The value that Go passes. -/
abbrev N (x : Nm) : Value := .agg #[.int .u64 x.a, .int .u64 x.b, .int .u64 x.c, .int .u64 x.d]
/-- Each of the four is a word. -/
structure Nm.ok (x : Nm) : Prop where
  a : Word x.a
  b : Word x.b
  c : Word x.c
  d : Word x.d
/-- What it stands for. -/
def Nm.val (x : Nm) : Int := x.a + 18446744073709551616 * (x.b + 18446744073709551616 * (x.c + 18446744073709551616 * x.d))
/-- 2^256. -/
def M : Int := 115792089237316195423570985008687907853269984665640564039457584007913129639936

theorem Nm.val_nonneg {x : Nm} (h : x.ok) : 0 ≤ x.val := by
  obtain ⟨⟨_, _⟩, ⟨_, _⟩, ⟨_, _⟩, ⟨_, _⟩⟩ := h; unfold Nm.val; omega
theorem Nm.val_lt {x : Nm} (h : x.ok) : x.val < M := by
  obtain ⟨⟨_, _⟩, ⟨_, _⟩, ⟨_, _⟩, ⟨_, _⟩⟩ := h; unfold Nm.val M; omega
/-- There is one row of words of a number. -/
theorem Nm.ext_val {x y : Nm} (hx : x.ok) (hy : y.ok) (h : x.val = y.val) : x = y := by
  obtain ⟨⟨_, _⟩, ⟨_, _⟩, ⟨_, _⟩, ⟨_, _⟩⟩ := hx
  obtain ⟨⟨_, _⟩, ⟨_, _⟩, ⟨_, _⟩, ⟨_, _⟩⟩ := hy
  obtain ⟨xa, xb, xc, xd⟩ := x
  obtain ⟨ya, yb, yc, yd⟩ := y
  simp only [Nm.val] at *
  simp only [Nm.mk.injEq]
  omega

/-- The four words of a number. -/
def Nm.of (n : Int) : Nm := ⟨n % 18446744073709551616, n / 18446744073709551616 % 18446744073709551616, n / 340282366920938463463374607431768211456 % 18446744073709551616, n / 6277101735386680763835789423207666416102355444464034512896 % 18446744073709551616⟩
theorem Nm.of_ok (n : Int) : (Nm.of n).ok := by
  refine ⟨⟨?_, ?_⟩, ⟨?_, ?_⟩, ⟨?_, ?_⟩, ⟨?_, ?_⟩⟩ <;> simp only [Nm.of] <;> omega
theorem Nm.of_val {n : Int} (h0 : 0 ≤ n) (h1 : n < M) : (Nm.of n).val = n := by
  unfold M at h1
  simp only [Nm.of, Nm.val]
  omega
theorem Nm.eq_of {x : Nm} {n : Int} (hx : x.ok) (h : x.val = n) : x = Nm.of n := by
  have h0 := Nm.val_nonneg hx
  have h1 := Nm.val_lt hx
  exact Nm.ext_val hx (Nm.of_ok n) (by rw [Nm.of_val (by omega) (by omega), h])
/-- What an operation leaves alone: all blocks that were there. -/
theorem bcell {W w1 : World} (hb : Below W.heap.size W w1) : (∀ b o, b < W.heap.size → w1.cell? ⟨b, o, none⟩ = W.cell? ⟨b, o, none⟩) ∧ (∀ b o, b < W.heap.size → w1.frozen? ⟨b, o, none⟩ = W.frozen? ⟨b, o, none⟩) :=
  ⟨fun b o h => hb.cell (p := ⟨b, o, none⟩) h, fun b o h => hb.frozen (p := ⟨b, o, none⟩) h⟩

/-- The number x lies in block k. -/
structure Lies (w : World) (k : Nat) (x : Nm) : Prop where
  a : w.cell? ⟨k, 0, none⟩ = some (.int .u64 x.a)
  b : w.cell? ⟨k, 1, none⟩ = some (.int .u64 x.b)
  c : w.cell? ⟨k, 2, none⟩ = some (.int .u64 x.c)
  d : w.cell? ⟨k, 3, none⟩ = some (.int .u64 x.d)
theorem Lies.below {W w1 : World} {k : Nat} {x : Nm} (h : Lies W k x) (hb : Below W.heap.size W w1) (hk : k < W.heap.size) : Lies w1 k x :=
  ⟨(hb.cell (p := ⟨k, 0, none⟩) hk).trans h.a, (hb.cell (p := ⟨k, 1, none⟩) hk).trans h.b, (hb.cell (p := ⟨k, 2, none⟩) hk).trans h.c, (hb.cell (p := ⟨k, 3, none⟩) hk).trans h.d⟩

theorem lt_of_cell {w : World} {k o : Nat} {v : Value} (h : w.cell? ⟨k, o, none⟩ = some v) : k < w.heap.size := by
  rcases Nat.lt_or_ge k w.heap.size with h' | h'
  · exact h'
  · simp [World.cell?, Array.getElem?_eq_none h'] at h
theorem Lies.up {W w1 : World} {k : Nat} {x : Nm} (h : Lies W k x) (hb : Below W.heap.size W w1) : Lies w1 k x := h.below hb (lt_of_cell h.a)
/-- A number of eight words, its lower half first. -/
abbrev Wv (l h : Nm) : Value := .agg #[.int .u64 l.a, .int .u64 l.b, .int .u64 l.c, .int .u64 l.d, .int .u64 h.a, .int .u64 h.b, .int .u64 h.c, .int .u64 h.d]
/-- The number of eight words l, h lies in block k. -/
structure Lies8 (w : World) (k : Nat) (l h : Nm) : Prop where
  a : w.cell? ⟨k, 0, none⟩ = some (.int .u64 l.a)
  b : w.cell? ⟨k, 1, none⟩ = some (.int .u64 l.b)
  c : w.cell? ⟨k, 2, none⟩ = some (.int .u64 l.c)
  d : w.cell? ⟨k, 3, none⟩ = some (.int .u64 l.d)
  e : w.cell? ⟨k, 4, none⟩ = some (.int .u64 h.a)
  f : w.cell? ⟨k, 5, none⟩ = some (.int .u64 h.b)
  g : w.cell? ⟨k, 6, none⟩ = some (.int .u64 h.c)
  i : w.cell? ⟨k, 7, none⟩ = some (.int .u64 h.d)
theorem Lies8.up {W w1 : World} {k : Nat} {l h : Nm} (q : Lies8 W k l h) (hb : Below W.heap.size W w1) : Lies8 w1 k l h := by
  have hk := lt_of_cell q.a
  exact ⟨(hb.cell (p := ⟨k, 0, none⟩) hk).trans q.a, (hb.cell (p := ⟨k, 1, none⟩) hk).trans q.b, (hb.cell (p := ⟨k, 2, none⟩) hk).trans q.c, (hb.cell (p := ⟨k, 3, none⟩) hk).trans q.d,
    (hb.cell (p := ⟨k, 4, none⟩) hk).trans q.e, (hb.cell (p := ⟨k, 5, none⟩) hk).trans q.f, (hb.cell (p := ⟨k, 6, none⟩) hk).trans q.g, (hb.cell (p := ⟨k, 7, none⟩) hk).trans q.i⟩

/-! ### Sums, word by word -/
theorem add_val {x y : Nm} (hx : x.ok) (hy : y.ok) {s0 s1 s2 s3 c1 c2 c3 c4 : Int}
    (e0 : s0 = (x.a + y.a + 0) % 18446744073709551616) (k1 : c1 = (x.a + y.a + 0) / 18446744073709551616)
    (e1 : s1 = (x.b + y.b + c1) % 18446744073709551616) (k2 : c2 = (x.b + y.b + c1) / 18446744073709551616)
    (e2 : s2 = (x.c + y.c + c2) % 18446744073709551616) (k3 : c3 = (x.c + y.c + c2) / 18446744073709551616)
    (e3 : s3 = (x.d + y.d + c3) % 18446744073709551616) (k4 : c4 = (x.d + y.d + c3) / 18446744073709551616) :
    (⟨s0, s1, s2, s3⟩ : Nm).ok ∧ (⟨s0, s1, s2, s3⟩ : Nm).val + M * c4 = x.val + y.val ∧ 0 ≤ c4 ∧ c4 ≤ 1 := by
  obtain ⟨⟨_, _⟩, ⟨_, _⟩, ⟨_, _⟩, ⟨_, _⟩⟩ := hx
  obtain ⟨⟨_, _⟩, ⟨_, _⟩, ⟨_, _⟩, ⟨_, _⟩⟩ := hy
  refine ⟨⟨⟨?_, ?_⟩, ⟨?_, ?_⟩, ⟨?_, ?_⟩, ⟨?_, ?_⟩⟩, ?_, ?_, ?_⟩ <;> (try simp only [Nm.val, M]) <;> omega
theorem sub_val {x y : Nm} (hx : x.ok) (hy : y.ok) {s0 s1 s2 s3 c1 c2 c3 c4 : Int}
    (e0 : s0 = (x.a - y.a - 0) % 18446744073709551616) (k1 : c1 = - ((x.a - y.a - 0) / 18446744073709551616))
    (e1 : s1 = (x.b - y.b - c1) % 18446744073709551616) (k2 : c2 = - ((x.b - y.b - c1) / 18446744073709551616))
    (e2 : s2 = (x.c - y.c - c2) % 18446744073709551616) (k3 : c3 = - ((x.c - y.c - c2) / 18446744073709551616))
    (e3 : s3 = (x.d - y.d - c3) % 18446744073709551616) (k4 : c4 = - ((x.d - y.d - c3) / 18446744073709551616)) :
    (⟨s0, s1, s2, s3⟩ : Nm).ok ∧ (⟨s0, s1, s2, s3⟩ : Nm).val - M * c4 = x.val - y.val ∧ 0 ≤ c4 ∧ c4 ≤ 1 := by
  obtain ⟨⟨_, _⟩, ⟨_, _⟩, ⟨_, _⟩, ⟨_, _⟩⟩ := hx
  obtain ⟨⟨_, _⟩, ⟨_, _⟩, ⟨_, _⟩, ⟨_, _⟩⟩ := hy
  refine ⟨⟨⟨?_, ?_⟩, ⟨?_, ?_⟩, ⟨?_, ?_⟩, ⟨?_, ?_⟩⟩, ?_, ?_, ?_⟩ <;> (try simp only [Nm.val, M]) <;> omega
end Go.Proofs.YtdcpicbkemmakabDoor

/- Rows of digits of 16 bits, and the numbers that they are. -/
namespace Go.Proofs.YtdcpicbkemmakabDoor.P
/-- The number of a row of digits, the least first. -/
def dv : List Nat → Nat
  | [] => 0
  | x :: xs => x + 65536 * dv xs
/-- All are digits. -/
def Dg (xs : List Nat) : Prop := ∀ x ∈ xs, x < 65536
/-- A number's digits, none of them 0 at the end. -/
def dg (n : Nat) : List Nat := if n = 0 then [] else n % 65536 :: dg (n / 65536) termination_by n decreasing_by omega
theorem dg_zero : dg 0 = [] := by rw [dg]; simp
theorem dg_pos {n : Nat} (h : n ≠ 0) : dg n = n % 65536 :: dg (n / 65536) := by rw [dg, if_neg h]
theorem Dg.tail {x : Nat} {xs : List Nat} (h : Dg (x :: xs)) : Dg xs := fun y hy => h y (List.mem_cons_of_mem _ hy)
theorem Dg.head {x : Nat} {xs : List Nat} (h : Dg (x :: xs)) : x < 65536 := h x List.mem_cons_self
/-- What has no 0 at the end is its number's digits. -/
theorem eq_dg : ∀ xs, Dg xs → (xs = [] ∨ xs.getD (xs.length - 1) 0 ≠ 0) → xs = dg (dv xs)
  | [], _, _ => by rw [dv, dg_zero]
  | [x], h, hl => by
    have hx : x ≠ 0 := by simpa using hl
    have := h.head
    rw [dv, dv, Nat.mul_zero, Nat.add_zero, dg_pos hx, Nat.mod_eq_of_lt this, show x / 65536 = 0 by omega, dg_zero]
  | x :: y :: xs, h, hl => by
    have ih := eq_dg (y :: xs) h.tail (.inr (by simpa using hl))
    have hx := h.head
    have hp : dv (y :: xs) ≠ 0 := by
      intro e
      rw [e, dg_zero] at ih
      cases ih
    rw [dv, dg_pos (by omega), show (x + 65536 * dv (y :: xs)) % 65536 = x by omega, show (x + 65536 * dv (y :: xs)) / 65536 = dv (y :: xs) by omega, ← ih]
/-- What is struck at the end is nothing. -/
theorem dv_take {xs : List Nat} {k : Nat} (h : ∀ j, k ≤ j → xs.getD j 0 = 0) : dv (xs.take k) = dv xs := by
  induction xs generalizing k with
  | nil => simp
  | cons x xs ih =>
    cases k with
    | zero =>
      have e := ih (k := 0) (fun j _ => by have := h (j + 1) (by omega); simpa using this)
      have h0 := h 0 (by omega)
      simp at h0 e
      rw [h0]
      simp only [dv] at e ⊢
      simp [dv, ← e]
    | succ k =>
      rw [List.take_succ_cons, dv, dv, ih (fun j hj => by have := h (j + 1) (by omega); simpa using this)]
theorem Dg.take {xs : List Nat} (h : Dg xs) (k : Nat) : Dg (xs.take k) := fun x hx => h x (List.mem_of_mem_take hx)
theorem Dg.append {xs ys : List Nat} (h : Dg xs) (h' : Dg ys) : Dg (xs ++ ys) := fun x hx => (List.mem_append.1 hx).elim (h x) (h' x)
theorem Dg.one {x : Nat} (h : x < 65536) : Dg [x] := fun y hy => by rw [List.mem_singleton.1 hy]; exact h
/-- The digit at a place. -/
theorem dig {xs : List Nat} (h : Dg xs) (i : Nat) : xs.getD i 0 = dv xs / 65536 ^ i % 65536 := by
  induction xs generalizing i with
  | nil => simp [dv]
  | cons x xs ih =>
    have hx := h.head
    cases i with
    | zero => rw [dv]; simp; omega
    | succ i =>
      rw [List.getD_cons_succ, ih h.tail, dv, Nat.pow_succ, Nat.mul_comm (65536 ^ i), ← Nat.div_div_eq_div_mul, show (x + 65536 * dv xs) / 65536 = dv xs by omega]
theorem Dg.set {xs : List Nat} (h : Dg xs) {i v : Nat} (hv : v < 65536) : Dg (xs.set i v) := fun x hx => by
  rcases List.mem_or_eq_of_mem_set hx with h1 | h1
  · exact h x h1
  · rw [h1]; exact hv
end Go.Proofs.YtdcpicbkemmakabDoor.P

/- What a variable that has been made holds, and what it holds once a number has been stored into it; nothing else turns. -/
namespace Go.Proofs.YtdcpicbkemmakabDoor
open Go.RowKit

theorem cells_of_block {w : World} {k : Nat} {c : Array Value} {t : TypeId} (h : w.heap[k]? = some (.cells c t)) (j : Nat) : w.cell? ⟨k, j, none⟩ = c[j]? ∧ w.frozen? ⟨k, j, none⟩ = false := by
  simp [World.cell?, World.frozen?, h]
/-- A number of four words stored into block k. -/
abbrev st4 (w : World) (k : Nat) (x : Nm) : World := (((w.setCell ⟨k, 0, none⟩ (.int .u64 x.a)).setCell ⟨k, 1, none⟩ (.int .u64 x.b)).setCell ⟨k, 2, none⟩ (.int .u64 x.c)).setCell ⟨k, 3, none⟩ (.int .u64 x.d)
theorem cell_set_ne {w : World} {k k' j j' : Nat} {v : Value} (h : k ≠ k') : (w.setCell ⟨k, j, none⟩ v).cell? ⟨k', j', none⟩ = w.cell? ⟨k', j', none⟩ := by
  simp only [World.cell?, World.setCell]
  rw [Array.getElem?_modify, if_neg h]
theorem Lies.set_ne {w : World} {k b j : Nat} {x : Nm} {v : Value} (h : Lies w b x) (hk : k ≠ b) : Lies (w.setCell ⟨k, j, none⟩ v) b x :=
  ⟨(cell_set_ne hk).trans h.a, (cell_set_ne hk).trans h.b, (cell_set_ne hk).trans h.c, (cell_set_ne hk).trans h.d⟩
theorem Lies8.set_ne {w : World} {k b j : Nat} {l x : Nm} {v : Value} (h : Lies8 w b l x) (hk : k ≠ b) : Lies8 (w.setCell ⟨k, j, none⟩ v) b l x :=
  ⟨(cell_set_ne hk).trans h.a, (cell_set_ne hk).trans h.b, (cell_set_ne hk).trans h.c, (cell_set_ne hk).trans h.d, (cell_set_ne hk).trans h.e, (cell_set_ne hk).trans h.f, (cell_set_ne hk).trans h.g, (cell_set_ne hk).trans h.i⟩
theorem heap_set {w : World} {k j : Nat} {c : Array Value} {t : TypeId} (h : w.heap[k]? = some (.cells c t)) (v : Value) : (w.setCell ⟨k, j, none⟩ v).heap[k]? = some (.cells (c.setIfInBounds j v) t) := by
  simp [World.setCell, Array.getElem?_modify, h]
theorem Lies.st4_self {w : World} {k : Nat} {a b c d : Value} {t : TypeId} (h : w.heap[k]? = some (.cells #[a, b, c, d] t)) (x : Nm) : Lies (st4 w k x) k x := by
  have h4 := heap_set (j := 3) (heap_set (j := 2) (heap_set (j := 1) (heap_set (j := 0) h (.int .u64 x.a)) (.int .u64 x.b)) (.int .u64 x.c)) (.int .u64 x.d)
  exact ⟨by rw [(cells_of_block h4 0).1]; simp, by rw [(cells_of_block h4 1).1]; simp, by rw [(cells_of_block h4 2).1]; simp, by rw [(cells_of_block h4 3).1]; simp⟩
theorem below_st4 {B k : Nat} {a w : World} {x : Nm} (h : Below B a w) (hk : B ≤ k) : Below B a (st4 w k x) := (((h.setCell hk _).setCell hk _).setCell hk _).setCell hk _
/-- The cells of a block of four, as the walk asks for them. -/
structure Cells4 (w : World) (k : Nat) (a b c d : Value) : Prop where
  a : w.cell? ⟨k, 0, none⟩ = some a
  b : w.cell? ⟨k, 1, none⟩ = some b
  c : w.cell? ⟨k, 2, none⟩ = some c
  d : w.cell? ⟨k, 3, none⟩ = some d
  fz : ∀ j, w.frozen? ⟨k, j, none⟩ = false
structure Cells8 (w : World) (k : Nat) (a b c d e f g i : Value) : Prop where
  a : w.cell? ⟨k, 0, none⟩ = some a
  b : w.cell? ⟨k, 1, none⟩ = some b
  c : w.cell? ⟨k, 2, none⟩ = some c
  d : w.cell? ⟨k, 3, none⟩ = some d
  e : w.cell? ⟨k, 4, none⟩ = some e
  f : w.cell? ⟨k, 5, none⟩ = some f
  g : w.cell? ⟨k, 6, none⟩ = some g
  i : w.cell? ⟨k, 7, none⟩ = some i
  fz : ∀ j, w.frozen? ⟨k, j, none⟩ = false
theorem frozen_out (w : World) (b j : Nat) (h : w.heap.size ≤ b) : w.frozen? ⟨b, j, none⟩ = false := by simp [World.frozen?, Array.getElem?_eq_none h]
theorem frozen_set {w : World} {a b : Addr} {v : Value} : (w.setCell a v).frozen? b = w.frozen? b := World.frozen?_setCell _ _ _ _
theorem Cells8.up {W w1 : World} {k : Nat} {a b c d e f g i : Value} (q : Cells8 W k a b c d e f g i) (hb : Below W.heap.size W w1) : Cells8 w1 k a b c d e f g i := by
  have hk := lt_of_cell q.a
  exact ⟨(hb.cell (p := ⟨k, 0, none⟩) hk).trans q.a, (hb.cell (p := ⟨k, 1, none⟩) hk).trans q.b, (hb.cell (p := ⟨k, 2, none⟩) hk).trans q.c, (hb.cell (p := ⟨k, 3, none⟩) hk).trans q.d,
    (hb.cell (p := ⟨k, 4, none⟩) hk).trans q.e, (hb.cell (p := ⟨k, 5, none⟩) hk).trans q.f, (hb.cell (p := ⟨k, 6, none⟩) hk).trans q.g, (hb.cell (p := ⟨k, 7, none⟩) hk).trans q.i, fun j => (hb.frozen (p := ⟨k, j, none⟩) hk).trans (q.fz j)⟩
theorem Cells8.set_ne {w : World} {k b j : Nat} {v a b' c d e f g i : Value} (q : Cells8 w b a b' c d e f g i) (hk : k ≠ b) : Cells8 (w.setCell ⟨k, j, none⟩ v) b a b' c d e f g i :=
  ⟨(cell_set_ne hk).trans q.a, (cell_set_ne hk).trans q.b, (cell_set_ne hk).trans q.c, (cell_set_ne hk).trans q.d, (cell_set_ne hk).trans q.e, (cell_set_ne hk).trans q.f, (cell_set_ne hk).trans q.g, (cell_set_ne hk).trans q.i, fun j => frozen_set.trans (q.fz j)⟩
theorem Cells4.up {W w1 : World} {k : Nat} {a b c d : Value} (q : Cells4 W k a b c d) (hb : Below W.heap.size W w1) : Cells4 w1 k a b c d := by
  have hk := lt_of_cell q.a
  exact ⟨(hb.cell (p := ⟨k, 0, none⟩) hk).trans q.a, (hb.cell (p := ⟨k, 1, none⟩) hk).trans q.b, (hb.cell (p := ⟨k, 2, none⟩) hk).trans q.c, (hb.cell (p := ⟨k, 3, none⟩) hk).trans q.d, fun j => (hb.frozen (p := ⟨k, j, none⟩) hk).trans (q.fz j)⟩
theorem Cells4.set_ne {w : World} {k b j : Nat} {v a b' c d : Value} (q : Cells4 w b a b' c d) (hk : k ≠ b) : Cells4 (w.setCell ⟨k, j, none⟩ v) b a b' c d :=
  ⟨(cell_set_ne hk).trans q.a, (cell_set_ne hk).trans q.b, (cell_set_ne hk).trans q.c, (cell_set_ne hk).trans q.d, fun j => frozen_set.trans (q.fz j)⟩
theorem cell_set_at {w : World} {k j j' : Nat} {v u : Value} (h : w.cell? ⟨k, j, none⟩ = some u) (hj : j' ≠ j) : (w.setCell ⟨k, j', none⟩ v).cell? ⟨k, j, none⟩ = some u := by
  rw [World.cell?_setCell_other (a := ⟨k, j', none⟩) (b := ⟨k, j, none⟩) _ _ (by intro h; cases h; exact hj rfl)]
  exact h
theorem cell_same {w : World} {a : Addr} {u : Value} (h : w.cell? a = some u) (v : Value) : (w.setCell a v).cell? a = some v := World.cell?_setCell_same _ _ _ h
theorem Cells4.st4_self {w : World} {k : Nat} {x : Nm} {a b c d : Value} (q : Cells4 w k a b c d) : Cells4 (st4 w k x) k (.int .u64 x.a) (.int .u64 x.b) (.int .u64 x.c) (.int .u64 x.d) := by
  refine ⟨?_, ?_, ?_, ?_, fun j => frozen_set.trans (frozen_set.trans (frozen_set.trans (frozen_set.trans (q.fz j))))⟩
  · exact cell_set_at (cell_set_at (cell_set_at (cell_same q.a _) (by decide)) (by decide)) (by decide)
  · exact cell_set_at (cell_set_at (cell_same (cell_set_at (j' := 0) q.b (by decide)) _) (by decide)) (by decide)
  · exact cell_set_at (cell_same (cell_set_at (j' := 1) (cell_set_at (j' := 0) q.c (by decide)) (by decide)) _) (by decide)
  · exact cell_same (cell_set_at (j' := 2) (cell_set_at (j' := 1) (cell_set_at (j' := 0) q.d (by decide)) (by decide)) (by decide)) _
theorem Cells4.lies {w : World} {k : Nat} {x : Nm} (q : Cells4 w k (.int .u64 x.a) (.int .u64 x.b) (.int .u64 x.c) (.int .u64 x.d)) : Lies w k x := ⟨q.a, q.b, q.c, q.d⟩
theorem Lies.alloc {w : World} {k : Nat} {x : Nm} (h : Lies w k x) (o : Obj) : Lies (w.alloc o) k x := h.up ((Below.refl _ _).alloc (Nat.le_refl _) _)
theorem Lies8.alloc {w : World} {k : Nat} {l h : Nm} (q : Lies8 w k l h) (o : Obj) : Lies8 (w.alloc o) k l h := q.up ((Below.refl _ _).alloc (Nat.le_refl _) _)
theorem Lies.new (w : World) (x : Nm) (t : TypeId) : Lies (w.alloc (.cells #[.int .u64 x.a, .int .u64 x.b, .int .u64 x.c, .int .u64 x.d] t)) w.heap.size x := by constructor <;> simp
theorem Cells8.lies {w : World} {k : Nat} {l h : Nm} (q : Cells8 w k (.int .u64 l.a) (.int .u64 l.b) (.int .u64 l.c) (.int .u64 l.d) (.int .u64 h.a) (.int .u64 h.b) (.int .u64 h.c) (.int .u64 h.d)) : Lies8 w k l h := ⟨q.a, q.b, q.c, q.d, q.e, q.f, q.g, q.i⟩
end Go.Proofs.YtdcpicbkemmakabDoor

/- Slices of digits by the row of their elements; the contracts of sealringref.digit and trim. -/
namespace Go.Proofs.YtdcpicbkemmakabDoor
open Go.RowKit
/-- The slice v holds the numbers xs: they lie one behind the other in a block. -/
def Sl (w : World) (v : Value) (xs : List Nat) : Prop :=
  (v = .slice none 0 0 ∧ xs = []) ∨ ∃ b o c, v = .slice (some ⟨b, o, none⟩) xs.length c ∧ xs.length ≤ c ∧ ∀ j, j < xs.length → w.cell? ⟨b, o + j, none⟩ = some (.int .i64 ((xs.getD j 0 : Nat) : Int))
theorem Sl.up {W w1 : World} {v : Value} {xs : List Nat} (h : Sl W v xs) (hb : Below W.heap.size W w1) : Sl w1 v xs := by
  rcases h with h | ⟨b, o, c, e, hl, hc⟩
  · exact .inl h
  · exact .inr ⟨b, o, c, e, hl, fun j hj => (hb.cell (p := ⟨b, o + j, none⟩) (lt_of_cell (hc j hj))).trans (hc j hj)⟩
theorem Sl.parts {w : World} {v : Value} {xs : List Nat} (h : Sl w v xs) : ∃ a c, v = .slice a xs.length c := by
  rcases h with ⟨rfl, rfl⟩ | ⟨b, o, c, rfl, _⟩
  · exact ⟨none, 0, rfl⟩
  · exact ⟨_, c, rfl⟩
/-- How many are left when the noughts at the end are struck. -/
def Trims (xs : List Nat) (k : Nat) : Prop := k ≤ xs.length ∧ (∀ j, k ≤ j → xs.getD j 0 = 0) ∧ (k = 0 ∨ xs.getD (k - 1) 0 ≠ 0)
theorem Trims.eq {xs : List Nat} {k : Nat} (h : Trims xs k) (hd : P.Dg xs) : xs.take k = P.dg (P.dv xs) := by
  rw [← P.dv_take h.2.1]
  refine P.eq_dg _ (hd.take k) ?_
  rcases h.2.2 with e | e
  · exact .inl (by rw [e, List.take_zero])
  · by_cases hk : k = 0
    · exact .inl (by rw [hk, List.take_zero])
    · refine .inr ?_
      rw [List.length_take, Nat.min_eq_left h.1]
      rw [List.getD_eq_getElem?_getD, List.getElem?_take, if_pos (by omega), ← List.getD_eq_getElem?_getD]
      exact e
/-- The slice lies in a block from B on (or is nil). -/
def blkGe (B : Nat) : Value → Prop
  | .slice (some a) _ _ => B ≤ a.block
  | _ => True
theorem blkGe.mono {A B : Nat} {v : Value} (h : blkGe B v) (hab : A ≤ B) : blkGe A v := by
  cases v with
  | slice a _ _ =>
    cases a with
    | none => exact trivial
    | some a => exact Nat.le_trans hab h
  | _ => exact trivial
theorem Sl.set_ne {w : World} {v : Value} {xs : List Nat} {g j : Nat} {y : Value} (h : Sl w v xs) (hg : blkGe (g + 1) v) : Sl (w.setCell ⟨g, j, none⟩ y) v xs := by
  rcases h with h | ⟨b, o, c, rfl, hl, hc⟩
  · exact .inl h
  · have hb : g + 1 ≤ b := hg
    refine .inr ⟨b, o, c, rfl, hl, fun i hi => ?_⟩
    rw [cell_set_ne (by omega)]
    exact hc i hi
/-- What is known of the slice's block (if it is not nil). -/
def blkP (Pb : Nat → Prop) : Value → Prop
  | .slice (some a) _ _ => Pb a.block
  | _ => True
end Go.Proofs.YtdcpicbkemmakabDoor

/- Slices of digits that a call itself makes: owned rows, and what append does to one. -/
namespace Go.Proofs.YtdcpicbkemmakabDoor
open Go.RowKit
abbrev iv (x : Nat) : Value := .int .i64 ((x : Nat) : Int)
/-- The slice v is a row that the call made (its block from B on), and holds xs. -/
def Ow (w : World) (B : Nat) (v : Value) (xs : List Nat) : Prop := w.ownsRow B 3 1 v xs.length (xs.map iv)
theorem Ow.nil (w : World) (B : Nat) : Ow w B (.slice none 0 0) [] := World.ownsRow_nil _ _ _ _
theorem Ow.up {W w1 : World} {B : Nat} {v : Value} {xs : List Nat} (h : Ow W B v xs) (hb : Below W.heap.size W w1) : Ow w1 B v xs := by
  refine ⟨h.1, ?_⟩
  rcases h.2 with h' | ⟨g, cap, cur, e, hB, hg, rest⟩
  · exact .inl h'
  · exact .inr ⟨g, cap, cur, e, hB, (hb.block g (Array.getElem?_eq_some_iff.1 hg).1).trans hg, rest⟩
theorem Ow.sl {w : World} {B : Nat} {v : Value} {xs : List Nat} (h : Ow w B v xs) : Sl w v xs := by
  rcases h.2 with ⟨e, e2⟩ | ⟨g, cap, cur, e, hB, hg, hn, rest⟩
  · exact .inl ⟨e, List.length_eq_zero_iff.1 e2⟩
  · refine .inr ⟨g, 0, cap, e, hn, fun j hj => ?_⟩
    have h2 : w.ownsRow B 3 1 (.slice (some ⟨g, 0, none⟩) xs.length cap) xs.length (xs.map iv) := by rw [← e]; exact h
    rw [Nat.zero_add, h2.cellAt j (by omega)]
    simp [hj, iv]
theorem Ow.ge {w : World} {B : Nat} {v : Value} {xs : List Nat} (h : Ow w B v xs) : blkGe B v := by
  rcases h.2 with ⟨e, _⟩ | ⟨g, cap, cur, e, hB, _⟩
  · rw [e]; exact trivial
  · rw [e]; exact hB
theorem Ow.size {w : World} {B g n c : Nat} {xs : List Nat} (h : Ow w B (.slice (some ⟨g, 0, none⟩) n c) xs) : g < w.heap.size := (h.lt g rfl).2
end Go.Proofs.YtdcpicbkemmakabDoor

/- The contract of sealringref.Times: the product. -/
namespace Go.Proofs.YtdcpicbkemmakabDoor
open Go.RowKit
theorem Ow.cell {w : World} {B g n c : Nat} {xs : List Nat} (h : Ow w B (.slice (some ⟨g, 0, none⟩) n c) xs) (hn : n = xs.length) (j : Nat) (hj : j < xs.length) : w.cell? ⟨g, j, none⟩ = some (.int .i64 ((xs.getD j 0 : Nat) : Int)) ∧ w.frozen? ⟨g, j, none⟩ = false := by
  subst hn
  have h2 : w.ownsRow B 3 1 (.slice (some ⟨g, 0, none⟩) xs.length c) xs.length (xs.map iv) := h
  refine ⟨?_, h2.frozenAt j⟩
  rw [h2.cellAt j (by omega)]
  simp [hj, iv]
theorem Ow.set {w : World} {B g n c : Nat} {xs : List Nat} (h : Ow w B (.slice (some ⟨g, 0, none⟩) n c) xs) (hn : n = xs.length) (hg : B ≤ g) (j y : Nat) (z : Int) (hz : z = ((y : Nat) : Int)) : Ow (w.setCell ⟨g, j, none⟩ (.int .i64 z)) B (.slice (some ⟨g, 0, none⟩) n c) (xs.set j y) ∧ Below B w (w.setCell ⟨g, j, none⟩ (.int .i64 z)) := by
  subst hn hz
  have h2 : w.ownsRow B 3 1 (.slice (some ⟨g, 0, none⟩) xs.length c) xs.length (xs.map iv) := h
  refine ⟨?_, (Below.refl _ _).setCell hg _⟩
  have := (h2.stored j (iv y)).1
  unfold Ow
  rw [List.length_set, List.map_set]
  exact this
theorem Sl.some {w : World} {a : Option Addr} {n c : Nat} {xs : List Nat} (h : Sl w (.slice a n c) xs) (hl : 0 < xs.length) : ∃ b o, a = .some ⟨b, o, none⟩ ∧ ∀ j, j < xs.length → w.cell? ⟨b, o + j, none⟩ = .some (.int .i64 ((xs.getD j 0 : Nat) : Int)) := by
  rcases h with ⟨_, rfl⟩ | ⟨b, o, c', e, _, hc⟩
  · simp at hl
  · simp only [Value.slice.injEq] at e
    exact ⟨b, o, e.1, hc⟩
end Go.Proofs.YtdcpicbkemmakabDoor

/- The contract of sealringref.Minus: the difference, where the second is not greater. -/
namespace Go.Proofs.YtdcpicbkemmakabDoor
open Go.RowKit
end Go.Proofs.YtdcpicbkemmakabDoor

/- The contract of sealringref.Order: which of two rows of digits is greater, from the last place down. -/
namespace Go.Proofs.YtdcpicbkemmakabDoor
open Go.RowKit
/-- Which of two numbers is greater. -/
def cmpN (X Y : Nat) : Int := if X < Y then -1 else if Y < X then 1 else 0
end Go.Proofs.YtdcpicbkemmakabDoor

/- The contract of sealringref.Parts: how often, and what is left. -/
namespace Go.Proofs.YtdcpicbkemmakabDoor
open Go.RowKit
theorem Ow.one (w : World) (B y : Nat) (z : Int) (hz : z = ((y : Nat) : Int)) (hB : B ≤ w.heap.size) : Ow (w.alloc (.cells #[.int .i64 z] 3)) B (.slice (some ⟨w.heap.size, 0, none⟩) 1 1) [y] := by
  subst hz
  refine ⟨rfl, .inr ⟨w.heap.size, 1, #[iv y], rfl, hB, heap_alloc_new w _, by simp, by unfold maxLen; decide, by simp, by simp⟩⟩
theorem Sl.one (w : World) (y : Nat) (z : Int) (hz : z = ((y : Nat) : Int)) : Sl (w.alloc (.cells #[.int .i64 z] 3)) (.slice (.some ⟨w.heap.size, 0, none⟩) 1 1) [y] := (Ow.one w 0 y z hz (Nat.zero_le _)).sl
end Go.Proofs.YtdcpicbkemmakabDoor

/- The contract of sealringref.Rest. -/
namespace Go.Proofs.YtdcpicbkemmakabDoor
open Go.RowKit
end Go.Proofs.YtdcpicbkemmakabDoor

/- The contracts of sealringref.TwoTo (at 256) and Bits. -/
namespace Go.Proofs.YtdcpicbkemmakabDoor
open Go.RowKit
end Go.Proofs.YtdcpicbkemmakabDoor

/- The contract of sealringref.Power. -/
namespace Go.Proofs.YtdcpicbkemmakabDoor
open Go.RowKit
set_option linter.unusedSimpArgs false
end Go.Proofs.YtdcpicbkemmakabDoor

/- The contract of sealringref.Plus: the sum. -/
namespace Go.Proofs.YtdcpicbkemmakabDoor
open Go.RowKit
end Go.Proofs.YtdcpicbkemmakabDoor

/- The contracts of sealringref's numbers, told by numbers; TwoTo at whatever place. -/
namespace Go.Proofs.YtdcpicbkemmakabDoor
open Go.RowKit
set_option linter.unusedSimpArgs false
end Go.Proofs.YtdcpicbkemmakabDoor

/- The plain mathematics of numbers of eight words and of a division by bits, with no program in sight. -/
namespace Go.Proofs.YtdcpicbkemmakabDoor
open Go.RowKit

/-- What a number of eight words stands for. -/
def V (l h : Nm) : Nat := (l.val + M * h.val).toNat
/-- The number of eight words of n: its halves. -/
def WL (n : Nat) : Nm := Nm.of ((n : Int) % M)
def WH (n : Nat) : Nm := Nm.of ((n : Int) / M)
/-- The words of n. -/
def word (n j : Nat) : Nat := n / 2 ^ (64 * j) % 2 ^ 64
theorem pow_twice (k n : Nat) (h : k = n + n) : (2 : Nat) ^ k = 2 ^ n * 2 ^ n := by rw [h, Nat.pow_add]
theorem M_cast : M = ((2 ^ 256 : Nat) : Int) := rfl
end Go.Proofs.YtdcpicbkemmakabDoor
