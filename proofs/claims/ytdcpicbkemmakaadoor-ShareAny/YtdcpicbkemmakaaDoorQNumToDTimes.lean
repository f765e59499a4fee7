/- Texts that were joined: Num, DMath, Store, Dig, DigO, DTimes. -/
import Derived.WalkKit
import Derived.Test.YtdcpicbkemmakaaDoorRows
import Derived.WalkSpells
import Derived.WalkLawsBesides
import Derived.LoopN
import Derived.OwnWalk
import Derived.Laws.AppendOwn
import Derived.Laws.OwnMore
import Derived.Below
import Derived.Test.YtdcpicbkemmakaaDoorQUpAToUp3
import Derived.Laws.MakeOwn
/- The plain mathematics of numbers of four and of eight words, with no program in sight: what the walks of this seat carry. -/
namespace Go.Proofs.YtdcpicbkemmakaaDoor
open Go.RowKit

/-- 2^64. -/
def B : Int := 18446744073709551616
/-- A word. -/
def Word (x : Int) : Prop := 0 ≤ x ∧ x < 18446744073709551616
/-- Four words, the least first. -/
structure Nm where
  a : Int
  b : Int
  c : Int
  d : Int
/-- The value that Go passes. -/
abbrev N (x : Nm) : Value := .agg #[.int .u64 x.a, .int .u64 x.b, .int .u64 x.c, .int .u64 x.d]
/-- Each of the four is a word. -/
structure Nm.ok (x : Nm) : Prop where
  a : Word x.a
  b : Word x.b
  c : Word x.c
  d : Word x.d
/-- What it stands for. -/
def Nm.val (x : Nm) : Int := x.a + 18446744073709551616 * (x.b + 18446744073709551616 * (x.c + 18446744073709551616 * x.d))
/-- 2^256. -/
def M : Int := 115792089237316195423570985008687907853269984665640564039457584007913129639936

theorem Nm.val_nonneg {x : Nm} (h : x.ok) : 0 ≤ x.val := by
  obtain ⟨⟨_, _⟩, ⟨_, _⟩, ⟨_, _⟩, ⟨_, _⟩⟩ := h; unfold Nm.val; omega
theorem Nm.val_lt {x : Nm} (h : x.ok) : x.val < M := by
  obtain ⟨⟨_, _⟩, ⟨_, _⟩, ⟨_, _⟩, ⟨_, _⟩⟩ := h; unfold Nm.val M; omega
/-- There is one row of words of a number. -/
theorem Nm.ext_val {x y : Nm} (hx : x.ok) (hy : y.ok) (h : x.val = y.val) : x = y := by
  obtain ⟨⟨_, _⟩, ⟨_, _⟩, ⟨_, _⟩, ⟨_, _⟩⟩ := hx
  obtain ⟨⟨_, _⟩, ⟨_, _⟩, ⟨_, _⟩, ⟨_, _⟩⟩ := hy
  obtain ⟨xa, xb, xc, xd⟩ := x
  obtain ⟨ya, yb, yc, yd⟩ := y
  simp only [Nm.val] at *
  simp only [Nm.mk.injEq]
  omega

/-- The four words of a number. -/
def Nm.of (n : Int) : Nm := ⟨n % 18446744073709551616, n / 18446744073709551616 % 18446744073709551616, n / 340282366920938463463374607431768211456 % 18446744073709551616, n / 6277101735386680763835789423207666416102355444464034512896 % 18446744073709551616⟩
theorem Nm.of_ok (n : Int) : (Nm.of n).ok := by
  refine ⟨⟨?_, ?_⟩, ⟨?_, ?_⟩, ⟨?_, ?_⟩, ⟨?_, ?_⟩⟩ <;> simp only [Nm.of] <;> omega
theorem Nm.of_val {n : Int} (h0 : 0 ≤ n) (h1 : n < M) : (Nm.of n).val = n := by
  unfold M at h1
  simp only [Nm.of, Nm.val]
  omega
theorem Nm.eq_of {x : Nm} {n : Int} (hx : x.ok) (h : x.val = n) : x = Nm.of n := by
  have h0 := Nm.val_nonneg hx
  have h1 := Nm.val_lt hx
  exact Nm.ext_val hx (Nm.of_ok n) (by rw [Nm.of_val (by omega) (by omega), h])
/-- What an operation leaves alone: all blocks that were there. -/
theorem bcell {W w1 : World} (hb : Below W.heap.size W w1) : (∀ b o, b < W.heap.size → w1.cell? ⟨b, o, none⟩ = W.cell? ⟨b, o, none⟩) ∧ (∀ b o, b < W.heap.size → w1.frozen? ⟨b, o, none⟩ = W.frozen? ⟨b, o, none⟩) :=
  ⟨fun b o h => hb.cell (p := ⟨b, o, none⟩) h, fun b o h => hb.frozen (p := ⟨b, o, none⟩) h⟩

/-- The number x lies in block k. -/
structure Lies (w : World) (k : Nat) (x : Nm) : Prop where
  a : w.cell? ⟨k, 0, none⟩ = some (.int .u64 x.a)
  b : w.cell? ⟨k, 1, none⟩ = some (.int .u64 x.b)
  c : w.cell? ⟨k, 2, none⟩ = some (.int .u64 x.c)
  d : w.cell? ⟨k, 3, none⟩ = some (.int .u64 x.d)
theorem Lies.below {W w1 : World} {k : Nat} {x : Nm} (h : Lies W k x) (hb : Below W.heap.size W w1) (hk : k < W.heap.size) : Lies w1 k x :=
  ⟨(hb.cell (p := ⟨k, 0, none⟩) hk).trans h.a, (hb.cell (p := ⟨k, 1, none⟩) hk).trans h.b, (hb.cell (p := ⟨k, 2, none⟩) hk).trans h.c, (hb.cell (p := ⟨k, 3, none⟩) hk).trans h.d⟩

theorem lt_of_cell {w : World} {k o : Nat} {v : Value} (h : w.cell? ⟨k, o, none⟩ = some v) : k < w.heap.size := by
  rcases Nat.lt_or_ge k w.heap.size with h' | h'
  · exact h'
  · simp [World.cell?, Array.getElem?_eq_none h'] at h
theorem Lies.up {W w1 : World} {k : Nat} {x : Nm} (h : Lies W k x) (hb : Below W.heap.size W w1) : Lies w1 k x := h.below hb (lt_of_cell h.a)
/-- A number of eight words, its lower half first. -/
abbrev Wv (l h : Nm) : Value := .agg #[.int .u64 l.a, .int .u64 l.b, .int .u64 l.c, .int .u64 l.d, .int .u64 h.a, .int .u64 h.b, .int .u64 h.c, .int .u64 h.d]
/-- The number of eight words l, h lies in block k. -/
structure Lies8 (w : World) (k : Nat) (l h : Nm) : Prop where
  a : w.cell? ⟨k, 0, none⟩ = some (.int .u64 l.a)
  b : w.cell? ⟨k, 1, none⟩ = some (.int .u64 l.b)
  c : w.cell? ⟨k, 2, none⟩ = some (.int .u64 l.c)
  d : w.cell? ⟨k, 3, none⟩ = some (.int .u64 l.d)
  e : w.cell? ⟨k, 4, none⟩ = some (.int .u64 h.a)
  f : w.cell? ⟨k, 5, none⟩ = some (.int .u64 h.b)
  g : w.cell? ⟨k, 6, none⟩ = some (.int .u64 h.c)
  i : w.cell? ⟨k, 7, none⟩ = some (.int .u64 h.d)
theorem Lies8.up {W w1 : World} {k : Nat} {l h : Nm} (q : Lies8 W k l h) (hb : Below W.heap.size W w1) : Lies8 w1 k l h := by
  have hk := lt_of_cell q.a
  exact ⟨(hb.cell (p := ⟨k, 0, none⟩) hk).trans q.a, (hb.cell (p := ⟨k, 1, none⟩) hk).trans q.b, (hb.cell (p := ⟨k, 2, none⟩) hk).trans q.c, (hb.cell (p := ⟨k, 3, none⟩) hk).trans q.d,
    (hb.cell (p := ⟨k, 4, none⟩) hk).trans q.e, (hb.cell (p := ⟨k, 5, none⟩) hk).trans q.f, (hb.cell (p := ⟨k, 6, none⟩) hk).trans q.g, (hb.cell (p := ⟨k, 7, none⟩) hk).trans q.i⟩

/-! ### Sums, word by word -/
theorem add_val {x y : Nm} (hx : x.ok) (hy : y.ok) {s0 s1 s2 s3 c1 c2 c3 c4 : Int}
    (e0 : s0 = (x.a + y.a + 0) % 18446744073709551616) (k1 : c1 = (x.a + y.a + 0) / 18446744073709551616)
    (e1 : s1 = (x.b + y.b + c1) % 18446744073709551616) (k2 : c2 = (x.b + y.b + c1) / 18446744073709551616)
    (e2 : s2 = (x.c + y.c + c2) % 18446744073709551616) (k3 : c3 = (x.c + y.c + c2) / 18446744073709551616)
    (e3 : s3 = (x.d + y.d + c3) % 18446744073709551616) (k4 : c4 = (x.d + y.d + c3) / 18446744073709551616) :
    (⟨s0, s1, s2, s3⟩ : Nm).ok ∧ (⟨s0, s1, s2, s3⟩ : Nm).val + M * c4 = x.val + y.val ∧ 0 ≤ c4 ∧ c4 ≤ 1 := by
  obtain ⟨⟨_, _⟩, ⟨_, _⟩, ⟨_, _⟩, ⟨_, _⟩⟩ := hx
  obtain ⟨⟨_, _⟩, ⟨_, _⟩, ⟨_, _⟩, ⟨_, _⟩⟩ := hy
  refine ⟨⟨⟨?_, ?_⟩, ⟨?_, ?_⟩, ⟨?_, ?_⟩, ⟨?_, ?_⟩⟩, ?_, ?_, ?_⟩ <;> (try simp only [Nm.val, M]) <;> omega
theorem sub_val {x y : Nm} (hx : x.ok) (hy : y.ok) {s0 s1 s2 s3 c1 c2 c3 c4 : Int}
    (e0 : s0 = (x.a - y.a - 0) % 18446744073709551616) (k1 : c1 = - ((x.a - y.a - 0) / 18446744073709551616))
    (e1 : s1 = (x.b - y.b - c1) % 18446744073709551616) (k2 : c2 = - ((x.b - y.b - c1) / 18446744073709551616))
    (e2 : s2 = (x.c - y.c - c2) % 18446744073709551616) (k3 : c3 = - ((x.c - y.c - c2) / 18446744073709551616))
    (e3 : s3 = (x.d - y.d - c3) % 18446744073709551616) (k4 : c4 = - ((x.d - y.d - c3) / 18446744073709551616)) :
    (⟨s0, s1, s2, s3⟩ : Nm).ok ∧ (⟨s0, s1, s2, s3⟩ : Nm).val - M * c4 = x.val - y.val ∧ 0 ≤ c4 ∧ c4 ≤ 1 := by
  obtain ⟨⟨_, _⟩, ⟨_, _⟩, ⟨_, _⟩, ⟨_, _⟩⟩ := hx
  obtain ⟨⟨_, _⟩, ⟨_, _⟩, ⟨_, _⟩, ⟨_, _⟩⟩ := hy
  refine ⟨⟨⟨?_, ?_⟩, ⟨?_, ?_⟩, ⟨?_, ?_⟩, ⟨?_, ?_⟩⟩, ?_, ?_, ?_⟩ <;> (try simp only [Nm.val, M]) <;> omega
end Go.Proofs.YtdcpicbkemmakaaDoor

/- Rows of digits of 16 bits, and the numbers that they are. -/
namespace Go.Proofs.YtdcpicbkemmakaaDoor.P
/-- The number of a row of digits, the least first. -/
def dv : List Nat → Nat
  | [] => 0
  | x :: xs => x + 65536 * dv xs
/-- All are digits. -/
def Dg (xs : List Nat) : Prop := ∀ x ∈ xs, x < 65536
/-- A number's digits, none of them 0 at the end. -/
def dg (n : Nat) : List Nat := if n = 0 then [] else n % 65536 :: dg (n / 65536) termination_by n decreasing_by omega
theorem dg_zero : dg 0 = [] := by rw [dg]; simp
theorem dg_pos {n : Nat} (h : n ≠ 0) : dg n = n % 65536 :: dg (n / 65536) := by rw [dg, if_neg h]
theorem dg_Dg (n : Nat) : Dg (dg n) := by
  induction n using Nat.strongRecOn with
  | _ n ih =>
    by_cases h : n = 0
    · subst h; rw [dg_zero]; intro x hx; cases hx
    · rw [dg_pos h]
      intro x hx
      rcases List.mem_cons.1 hx with rfl | hx
      · exact Nat.mod_lt _ (by decide)
      · exact ih _ (by omega) x hx
theorem dv_dg (n : Nat) : dv (dg n) = n := by
  induction n using Nat.strongRecOn with
  | _ n ih =>
    by_cases h : n = 0
    · subst h; rw [dg_zero]; rfl
    · rw [dg_pos h, dv, ih _ (by omega)]; omega
theorem Dg.tail {x : Nat} {xs : List Nat} (h : Dg (x :: xs)) : Dg xs := fun y hy => h y (List.mem_cons_of_mem _ hy)
theorem Dg.head {x : Nat} {xs : List Nat} (h : Dg (x :: xs)) : x < 65536 := h x List.mem_cons_self
theorem dv_lt : ∀ xs, Dg xs → dv xs < 65536 ^ xs.length
  | [], _ => by simp [dv]
  | x :: xs, h => by
    have := dv_lt xs h.tail
    have := h.head
    rw [dv, List.length_cons, Nat.pow_succ]
    omega
theorem dg_len {n : Nat} : ∀ L, n < 65536 ^ L → (dg n).length ≤ L := by
  intro L
  induction L generalizing n with
  | zero => intro h; have : n = 0 := by simpa using h
            subst this; rw [dg_zero]; simp
  | succ L ih =>
    intro h
    by_cases hz : n = 0
    · subst hz; rw [dg_zero]; simp
    · rw [dg_pos hz, List.length_cons]
      have := ih (n := n / 65536) (by rw [Nat.pow_succ] at h; omega)
      omega
/-- What has no 0 at the end is its number's digits. -/
theorem eq_dg : ∀ xs, Dg xs → (xs = [] ∨ xs.getD (xs.length - 1) 0 ≠ 0) → xs = dg (dv xs)
  | [], _, _ => by rw [dv, dg_zero]
  | [x], h, hl => by
    have hx : x ≠ 0 := by simpa using hl
    have := h.head
    rw [dv, dv, Nat.mul_zero, Nat.add_zero, dg_pos hx, Nat.mod_eq_of_lt this, show x / 65536 = 0 by omega, dg_zero]
  | x :: y :: xs, h, hl => by
    have ih := eq_dg (y :: xs) h.tail (.inr (by simpa using hl))
    have hx := h.head
    have hp : dv (y :: xs) ≠ 0 := by
      intro e
      rw [e, dg_zero] at ih
      cases ih
    rw [dv, dg_pos (by omega), show (x + 65536 * dv (y :: xs)) % 65536 = x by omega, show (x + 65536 * dv (y :: xs)) / 65536 = dv (y :: xs) by omega, ← ih]
theorem dv_append (xs ys : List Nat) : dv (xs ++ ys) = dv xs + 65536 ^ xs.length * dv ys := by
  induction xs with
  | nil => simp [dv]
  | cons x xs ih => rw [List.cons_append, dv, dv, ih, List.length_cons, Nat.pow_succ]; grind
theorem dv_zeros (k : Nat) : dv (List.replicate k 0) = 0 := by
  induction k with
  | zero => rfl
  | succ k ih => rw [List.replicate_succ, dv, ih]
/-- What is struck at the end is nothing. -/
theorem dv_take {xs : List Nat} {k : Nat} (h : ∀ j, k ≤ j → xs.getD j 0 = 0) : dv (xs.take k) = dv xs := by
  induction xs generalizing k with
  | nil => simp
  | cons x xs ih =>
    cases k with
    | zero =>
      have e := ih (k := 0) (fun j _ => by have := h (j + 1) (by omega); simpa using this)
      have h0 := h 0 (by omega)
      simp at h0 e
      rw [h0]
      simp only [dv] at e ⊢
      simp [dv, ← e]
    | succ k =>
      rw [List.take_succ_cons, dv, dv, ih (fun j hj => by have := h (j + 1) (by omega); simpa using this)]
theorem Dg.take {xs : List Nat} (h : Dg xs) (k : Nat) : Dg (xs.take k) := fun x hx => h x (List.mem_of_mem_take hx)
theorem Dg.append {xs ys : List Nat} (h : Dg xs) (h' : Dg ys) : Dg (xs ++ ys) := fun x hx => (List.mem_append.1 hx).elim (h x) (h' x)
theorem Dg.one {x : Nat} (h : x < 65536) : Dg [x] := fun y hy => by rw [List.mem_singleton.1 hy]; exact h
/-- The digit at a place. -/
theorem dig {xs : List Nat} (h : Dg xs) (i : Nat) : xs.getD i 0 = dv xs / 65536 ^ i % 65536 := by
  induction xs generalizing i with
  | nil => simp [dv]
  | cons x xs ih =>
    have hx := h.head
    cases i with
    | zero => rw [dv]; simp; omega
    | succ i =>
      rw [List.getD_cons_succ, ih h.tail, dv, Nat.pow_succ, Nat.mul_comm (65536 ^ i), ← Nat.div_div_eq_div_mul, show (x + 65536 * dv xs) / 65536 = dv xs by omega]
theorem dig_lt {xs : List Nat} (h : Dg xs) (i : Nat) : xs.getD i 0 < 65536 := by rw [dig h]; exact Nat.mod_lt _ (by decide)
theorem mod_pow_succ' (n i : Nat) : n % 65536 ^ (i + 1) = n % 65536 ^ i + 65536 ^ i * (n / 65536 ^ i % 65536) := by
  rw [Nat.pow_succ, Nat.mod_mul]
/-- Behind the last digit there is nothing. -/
theorem mod_len {xs : List Nat} (h : Dg xs) {i : Nat} (hi : xs.length ≤ i) : dv xs % 65536 ^ i = dv xs :=
  Nat.mod_eq_of_lt (Nat.lt_of_lt_of_le (dv_lt xs h) (Nat.pow_le_pow_right (by decide) hi))
theorem dv_set {xs : List Nat} {i v : Nat} (hi : i < xs.length) : dv (xs.set i v) + 65536 ^ i * xs.getD i 0 = dv xs + 65536 ^ i * v := by
  induction xs generalizing i with
  | nil => simp at hi
  | cons x xs ih =>
    cases i with
    | zero => simp [dv]; omega
    | succ i =>
      have := ih (i := i) (by simpa using hi)
      rw [List.set_cons_succ, dv, dv, List.getD_cons_succ, Nat.pow_succ]
      grind
theorem Dg.set {xs : List Nat} (h : Dg xs) {i v : Nat} (hv : v < 65536) : Dg (xs.set i v) := fun x hx => by
  rcases List.mem_or_eq_of_mem_set hx with h1 | h1
  · exact h x h1
  · rw [h1]; exact hv
end Go.Proofs.YtdcpicbkemmakaaDoor.P

/- What a variable that has been made holds, and what it holds once a number has been stored into it; nothing else turns. -/
namespace Go.Proofs.YtdcpicbkemmakaaDoor
open Go.RowKit

theorem cells_of_block {w : World} {k : Nat} {c : Array Value} {t : TypeId} (h : w.heap[k]? = some (.cells c t)) (j : Nat) : w.cell? ⟨k, j, none⟩ = c[j]? ∧ w.frozen? ⟨k, j, none⟩ = false := by
  simp [World.cell?, World.frozen?, h]
/-- A number of four words stored into block k. -/
abbrev st4 (w : World) (k : Nat) (x : Nm) : World := (((w.setCell ⟨k, 0, none⟩ (.int .u64 x.a)).setCell ⟨k, 1, none⟩ (.int .u64 x.b)).setCell ⟨k, 2, none⟩ (.int .u64 x.c)).setCell ⟨k, 3, none⟩ (.int .u64 x.d)
theorem cell_set_ne {w : World} {k k' j j' : Nat} {v : Value} (h : k ≠ k') : (w.setCell ⟨k, j, none⟩ v).cell? ⟨k', j', none⟩ = w.cell? ⟨k', j', none⟩ := by
  simp only [World.cell?, World.setCell]
  rw [Array.getElem?_modify, if_neg h]
theorem Lies.set_ne {w : World} {k b j : Nat} {x : Nm} {v : Value} (h : Lies w b x) (hk : k ≠ b) : Lies (w.setCell ⟨k, j, none⟩ v) b x :=
  ⟨(cell_set_ne hk).trans h.a, (cell_set_ne hk).trans h.b, (cell_set_ne hk).trans h.c, (cell_set_ne hk).trans h.d⟩
theorem Lies8.set_ne {w : World} {k b j : Nat} {l x : Nm} {v : Value} (h : Lies8 w b l x) (hk : k ≠ b) : Lies8 (w.setCell ⟨k, j, none⟩ v) b l x :=
  ⟨(cell_set_ne hk).trans h.a, (cell_set_ne hk).trans h.b, (cell_set_ne hk).trans h.c, (cell_set_ne hk).trans h.d, (cell_set_ne hk).trans h.e, (cell_set_ne hk).trans h.f, (cell_set_ne hk).trans h.g, (cell_set_ne hk).trans h.i⟩
theorem heap_set {w : World} {k j : Nat} {c : Array Value} {t : TypeId} (h : w.heap[k]? = some (.cells c t)) (v : Value) : (w.setCell ⟨k, j, none⟩ v).heap[k]? = some (.cells (c.setIfInBounds j v) t) := by
  simp [World.setCell, Array.getElem?_modify, h]
theorem Lies.st4_self {w : World} {k : Nat} {a b c d : Value} {t : TypeId} (h : w.heap[k]? = some (.cells #[a, b, c, d] t)) (x : Nm) : Lies (st4 w k x) k x := by
  have h4 := heap_set (j := 3) (heap_set (j := 2) (heap_set (j := 1) (heap_set (j := 0) h (.int .u64 x.a)) (.int .u64 x.b)) (.int .u64 x.c)) (.int .u64 x.d)
  exact ⟨by rw [(cells_of_block h4 0).1]; simp, by rw [(cells_of_block h4 1).1]; simp, by rw [(cells_of_block h4 2).1]; simp, by rw [(cells_of_block h4 3).1]; simp⟩
theorem below_st4 {B k : Nat} {a w : World} {x : Nm} (h : Below B a w) (hk : B ≤ k) : Below B a (st4 w k x) := (((h.setCell hk _).setCell hk _).setCell hk _).setCell hk _
/-- The cells of a block of four, as the walk asks for them. -/
structure Cells4 (w : World) (k : Nat) (a b c d : Value) : Prop where
  a : w.cell? ⟨k, 0, none⟩ = some a
  b : w.cell? ⟨k, 1, none⟩ = some b
  c : w.cell? ⟨k, 2, none⟩ = some c
  d : w.cell? ⟨k, 3, none⟩ = some d
  fz : ∀ j, w.frozen? ⟨k, j, none⟩ = false
structure Cells8 (w : World) (k : Nat) (a b c d e f g i : Value) : Prop where
  a : w.cell? ⟨k, 0, none⟩ = some a
  b : w.cell? ⟨k, 1, none⟩ = some b
  c : w.cell? ⟨k, 2, none⟩ = some c
  d : w.cell? ⟨k, 3, none⟩ = some d
  e : w.cell? ⟨k, 4, none⟩ = some e
  f : w.cell? ⟨k, 5, none⟩ = some f
  g : w.cell? ⟨k, 6, none⟩ = some g
  i : w.cell? ⟨k, 7, none⟩ = some i
  fz : ∀ j, w.frozen? ⟨k, j, none⟩ = false
theorem frozen_out (w : World) (b j : Nat) (h : w.heap.size ≤ b) : w.frozen? ⟨b, j, none⟩ = false := by simp [World.frozen?, Array.getElem?_eq_none h]
theorem frozen_set {w : World} {a b : Addr} {v : Value} : (w.setCell a v).frozen? b = w.frozen? b := World.frozen?_setCell _ _ _ _
theorem Cells8.up {W w1 : World} {k : Nat} {a b c d e f g i : Value} (q : Cells8 W k a b c d e f g i) (hb : Below W.heap.size W w1) : Cells8 w1 k a b c d e f g i := by
  have hk := lt_of_cell q.a
  exact ⟨(hb.cell (p := ⟨k, 0, none⟩) hk).trans q.a, (hb.cell (p := ⟨k, 1, none⟩) hk).trans q.b, (hb.cell (p := ⟨k, 2, none⟩) hk).trans q.c, (hb.cell (p := ⟨k, 3, none⟩) hk).trans q.d,
    (hb.cell (p := ⟨k, 4, none⟩) hk).trans q.e, (hb.cell (p := ⟨k, 5, none⟩) hk).trans q.f, (hb.cell (p := ⟨k, 6, none⟩) hk).trans q.g, (hb.cell (p := ⟨k, 7, none⟩) hk).trans q.i, fun j => (hb.frozen (p := ⟨k, j, none⟩) hk).trans (q.fz j)⟩
theorem Cells8.set_ne {w : World} {k b j : Nat} {v a b' c d e f g i : Value} (q : Cells8 w b a b' c d e f g i) (hk : k ≠ b) : Cells8 (w.setCell ⟨k, j, none⟩ v) b a b' c d e f g i :=
  ⟨(cell_set_ne hk).trans q.a, (cell_set_ne hk).trans q.b, (cell_set_ne hk).trans q.c, (cell_set_ne hk).trans q.d, (cell_set_ne hk).trans q.e, (cell_set_ne hk).trans q.f, (cell_set_ne hk).trans q.g, (cell_set_ne hk).trans q.i, fun j => frozen_set.trans (q.fz j)⟩
theorem Cells4.up {W w1 : World} {k : Nat} {a b c d : Value} (q : Cells4 W k a b c d) (hb : Below W.heap.size W w1) : Cells4 w1 k a b c d := by
  have hk := lt_of_cell q.a
  exact ⟨(hb.cell (p := ⟨k, 0, none⟩) hk).trans q.a, (hb.cell (p := ⟨k, 1, none⟩) hk).trans q.b, (hb.cell (p := ⟨k, 2, none⟩) hk).trans q.c, (hb.cell (p := ⟨k, 3, none⟩) hk).trans q.d, fun j => (hb.frozen (p := ⟨k, j, none⟩) hk).trans (q.fz j)⟩
theorem Cells4.set_ne {w : World} {k b j : Nat} {v a b' c d : Value} (q : Cells4 w b a b' c d) (hk : k ≠ b) : Cells4 (w.setCell ⟨k, j, none⟩ v) b a b' c d :=
  ⟨(cell_set_ne hk).trans q.a, (cell_set_ne hk).trans q.b, (cell_set_ne hk).trans q.c, (cell_set_ne hk).trans q.d, fun j => frozen_set.trans (q.fz j)⟩
theorem cell_set_at {w : World} {k j j' : Nat} {v u : Value} (h : w.cell? ⟨k, j, none⟩ = some u) (hj : j' ≠ j) : (w.setCell ⟨k, j', none⟩ v).cell? ⟨k, j, none⟩ = some u := by
  rw [World.cell?_setCell_other (a := ⟨k, j', none⟩) (b := ⟨k, j, none⟩) _ _ (by intro h; cases h; exact hj rfl)]
  exact h
theorem cell_same {w : World} {a : Addr} {u : Value} (h : w.cell? a = some u) (v : Value) : (w.setCell a v).cell? a = some v := World.cell?_setCell_same _ _ _ h
theorem Cells4.st4_self {w : World} {k : Nat} {x : Nm} {a b c d : Value} (q : Cells4 w k a b c d) : Cells4 (st4 w k x) k (.int .u64 x.a) (.int .u64 x.b) (.int .u64 x.c) (.int .u64 x.d) := by
  refine ⟨?_, ?_, ?_, ?_, fun j => frozen_set.trans (frozen_set.trans (frozen_set.trans (frozen_set.trans (q.fz j))))⟩
  · exact cell_set_at (cell_set_at (cell_set_at (cell_same q.a _) (by decide)) (by decide)) (by decide)
  · exact cell_set_at (cell_set_at (cell_same (cell_set_at (j' := 0) q.b (by decide)) _) (by decide)) (by decide)
  · exact cell_set_at (cell_same (cell_set_at (j' := 1) (cell_set_at (j' := 0) q.c (by decide)) (by decide)) _) (by decide)
  · exact cell_same (cell_set_at (j' := 2) (cell_set_at (j' := 1) (cell_set_at (j' := 0) q.d (by decide)) (by decide)) (by decide)) _
theorem Cells4.lies {w : World} {k : Nat} {x : Nm} (q : Cells4 w k (.int .u64 x.a) (.int .u64 x.b) (.int .u64 x.c) (.int .u64 x.d)) : Lies w k x := ⟨q.a, q.b, q.c, q.d⟩
theorem Lies.alloc {w : World} {k : Nat} {x : Nm} (h : Lies w k x) (o : Obj) : Lies (w.alloc o) k x := h.up ((Below.refl _ _).alloc (Nat.le_refl _) _)
theorem Lies8.alloc {w : World} {k : Nat} {l h : Nm} (q : Lies8 w k l h) (o : Obj) : Lies8 (w.alloc o) k l h := q.up ((Below.refl _ _).alloc (Nat.le_refl _) _)
theorem Lies.new (w : World) (x : Nm) (t : TypeId) : Lies (w.alloc (.cells #[.int .u64 x.a, .int .u64 x.b, .int .u64 x.c, .int .u64 x.d] t)) w.heap.size x := by constructor <;> simp
theorem Cells8.lies {w : World} {k : Nat} {l h : Nm} (q : Cells8 w k (.int .u64 l.a) (.int .u64 l.b) (.int .u64 l.c) (.int .u64 l.d) (.int .u64 h.a) (.int .u64 h.b) (.int .u64 h.c) (.int .u64 h.d)) : Lies8 w k l h := ⟨q.a, q.b, q.c, q.d, q.e, q.f, q.g, q.i⟩
end Go.Proofs.YtdcpicbkemmakaaDoor

/- Slices of digits by the row of their elements; the contracts of sealringref.digit and trim. -/
namespace Go.Proofs.YtdcpicbkemmakaaDoor
open Go.RowKit
/-- The slice v holds the numbers xs: they lie one behind the other in a block. -/
def Sl (w : World) (v : Value) (xs : List Nat) : Prop :=
  (v = .slice none 0 0 ∧ xs = []) ∨ ∃ b o c, v = .slice (some ⟨b, o, none⟩) xs.length c ∧ xs.length ≤ c ∧ ∀ j, j < xs.length → w.cell? ⟨b, o + j, none⟩ = some (.int .i64 ((xs.getD j 0 : Nat) : Int))
theorem Sl.up {W w1 : World} {v : Value} {xs : List Nat} (h : Sl W v xs) (hb : Below W.heap.size W w1) : Sl w1 v xs := by
  rcases h with h | ⟨b, o, c, e, hl, hc⟩
  · exact .inl h
  · exact .inr ⟨b, o, c, e, hl, fun j hj => (hb.cell (p := ⟨b, o + j, none⟩) (lt_of_cell (hc j hj))).trans (hc j hj)⟩
theorem Sl.parts {w : World} {v : Value} {xs : List Nat} (h : Sl w v xs) : ∃ a c, v = .slice a xs.length c := by
  rcases h with ⟨rfl, rfl⟩ | ⟨b, o, c, rfl, _⟩
  · exact ⟨none, 0, rfl⟩
  · exact ⟨_, c, rfl⟩
set_option maxHeartbeats 400000 in
theorem digit_in (b o c : Nat) (n : Nat) (v : Int) (i : Nat) (hi : i < n) (w : World) (hc : w.cell? ⟨b, o + i, none⟩ = some (.int .i64 v)) :
    Calls Tryd.prog 50 #[.slice (some ⟨b, o, none⟩) n c, .int .i64 i] w fun e w' => e = .returned (.int .i64 v) ∧ Below w.heap.size w w' := by
  have h1 : ¬ ((i : Int) < 0) := by omega
  have h2 : ¬ ((i : Int) ≥ n) := by omega
  go_enter Tryd.func50, Tryd.ntmps50
  go_wp2_with fail
  go_ret
  exact ⟨rfl, Below.refl _ _⟩
set_option maxHeartbeats 400000 in
theorem digit_out (a : Option Addr) (n c : Nat) (i : Nat) (hi : n ≤ i) (w : World) :
    Calls Tryd.prog 50 #[.slice a n c, .int .i64 i] w fun e w' => e = .returned (.int .i64 0) ∧ Below w.heap.size w w' := by
  have h1 : ¬ ((i : Int) < 0) := by omega
  have h2 : (i : Int) ≥ n := by omega
  go_enter Tryd.func50, Tryd.ntmps50
  go_wp2_with fail
  go_ret
  exact ⟨rfl, Below.refl _ _⟩
/-- sealringref.digit: the digit there, or 0. -/
theorem digit_fun (v : Value) (xs : List Nat) (i : Nat) (w : World) (h : Sl w v xs) :
    Calls Tryd.prog 50 #[v, .int .i64 i] w fun e w' => e = .returned (.int .i64 ((xs.getD i 0 : Nat) : Int)) ∧ Below w.heap.size w w' := by
  rcases h with ⟨rfl, rfl⟩ | ⟨b, o, c, rfl, _, hc⟩
  · exact digit_out none 0 0 i (Nat.zero_le _) w
  · rcases Nat.lt_or_ge i xs.length with h | h
    · exact digit_in b o c _ _ i h w (hc i h)
    · have e : xs.getD i 0 = 0 := by simp [h]
      rw [e]
      exact digit_out _ _ c i h w
/-- How many are left when the noughts at the end are struck. -/
def Trims (xs : List Nat) (k : Nat) : Prop := k ≤ xs.length ∧ (∀ j, k ≤ j → xs.getD j 0 = 0) ∧ (k = 0 ∨ xs.getD (k - 1) 0 ≠ 0)
theorem Trims.eq {xs : List Nat} {k : Nat} (h : Trims xs k) (hd : P.Dg xs) : xs.take k = P.dg (P.dv xs) := by
  rw [← P.dv_take h.2.1]
  refine P.eq_dg _ (hd.take k) ?_
  rcases h.2.2 with e | e
  · exact .inl (by rw [e, List.take_zero])
  · by_cases hk : k = 0
    · exact .inl (by rw [hk, List.take_zero])
    · refine .inr ?_
      rw [List.length_take, Nat.min_eq_left h.1]
      rw [List.getD_eq_getElem?_getD, List.getElem?_take, if_pos (by omega), ← List.getD_eq_getElem?_getD]
      exact e
/-- A slice's length. -/
def lenDg : Value → Nat
  | .slice _ n _ => n
  | _ => 0
set_option maxHeartbeats 1000000 in
theorem trim_some (b o c : Nat) (xs : List Nat) (hcap : xs.length ≤ c) (hs : xs.length < 4611686018427387904) (w : World) (hc : ∀ j, j < xs.length → w.cell? ⟨b, o + j, none⟩ = some (.int .i64 ((xs.getD j 0 : Nat) : Int))) :
    Calls Tryd.prog 55 #[.slice (some ⟨b, o, none⟩) xs.length c] w fun e w' => (∃ k, Trims xs k ∧ e = .returned (.slice (some ⟨b, o, none⟩) k c)) ∧ Below w.heap.size w w' := by
  have HC : Hid _ := hc
  clear hc
  go_enter Tryd.func55, Tryd.ntmps55
  go_wp2_with fail
  go_loopw [0] (fun l w' => w' = w ∧ ∃ k : Nat, k ≤ xs.length ∧ l = .slice (some ⟨b, o, none⟩) k c ∧ Hid (∀ j, k ≤ j → xs.getD j 0 = 0)) (fun l _ => lenDg l)
  case atStart => exact ⟨rfl, xs.length, Nat.le_refl _, rfl, (fun j hj => by simp [hj] : ∀ j, xs.length ≤ j → xs.getD j 0 = 0)⟩
  case round =>
    obtain ⟨rfl, k, hk, rfl, hz⟩ := hrel
    by_cases h0 : k = 0
    · subst h0
      go_wp2_with fail
      go_ret
      exact ⟨⟨0, ⟨Nat.zero_le _, hz.out, .inl rfl⟩, rfl⟩, Below.refl _ _⟩
    · obtain ⟨k, rfl⟩ : ∃ j, k = j + 1 := ⟨k - 1, by omega⟩
      have hcell := HC.out k (by omega)
      have h1 : ((k + 1 : Nat) : Int) > 0 := by omega
      have h2 : ((k + 1 : Nat) : Int) - 1 = k := by omega
      have h3 : (k : Int) < 4611686018427387904 := by omega
      have h4 : k ≤ c := by omega
      by_cases hv : xs.getD k 0 = 0
      · rw [hv] at hcell
        have HV : Hid _ := hv
        clear hv
        go_wp2_with fail
        refine ⟨⟨trivial, k, by omega, rfl, (fun j hj => ?_ : ∀ j, k ≤ j → xs.getD j 0 = 0)⟩, by simp [lenDg]⟩
        by_cases e : j = k
        · rw [e]; exact HV.out
        · exact hz.out j (by omega)
      · have T : Hid (Trims xs (k + 1)) := ⟨hk, hz.out, .inr hv⟩
        generalize xs.getD k 0 = v at *
        have hv' : ¬ (v : Int) = 0 := by omega
        have hb : ((v : Int) == 0) = false := beq_eq_false_iff_ne.2 hv'
        go_wp2_with fail
        go_ret
        exact ⟨⟨k + 1, T.out, rfl⟩, Below.refl _ _⟩
set_option maxHeartbeats 400000 in
theorem trim_none (w : World) :
    Calls Tryd.prog 55 #[.slice none 0 0] w fun e w' => e = .returned (.slice none 0 0) ∧ Below w.heap.size w w' := by
  go_enter Tryd.func55, Tryd.ntmps55
  go_wp2_with fail
  refine wp_loop_rounds 1 ?_
  rw [rounds_succ]
  go_wp2_with fail
  go_ret
  exact ⟨rfl, Below.refl _ _⟩
/-- The slice lies in a block from B on (or is nil). -/
def blkGe (B : Nat) : Value → Prop
  | .slice (some a) _ _ => B ≤ a.block
  | _ => True
theorem blkGe.mono {A B : Nat} {v : Value} (h : blkGe B v) (hab : A ≤ B) : blkGe A v := by
  cases v with
  | slice a _ _ =>
    cases a with
    | none => exact trivial
    | some a => exact Nat.le_trans hab h
  | _ => exact trivial
theorem Sl.set_ne {w : World} {v : Value} {xs : List Nat} {g j : Nat} {y : Value} (h : Sl w v xs) (hg : blkGe (g + 1) v) : Sl (w.setCell ⟨g, j, none⟩ y) v xs := by
  rcases h with h | ⟨b, o, c, rfl, hl, hc⟩
  · exact .inl h
  · have hb : g + 1 ≤ b := hg
    refine .inr ⟨b, o, c, rfl, hl, fun i hi => ?_⟩
    rw [cell_set_ne (by omega)]
    exact hc i hi
/-- sealringref.trim: the number's own digits. -/
theorem trim_fun2 (v : Value) (xs : List Nat) (hd : P.Dg xs) (hs : xs.length < 4611686018427387904) (w : World) (h : Sl w v xs) :
    Calls Tryd.prog 55 #[v] w fun e w' => (∃ v', e = .returned v' ∧ Sl w' v' (P.dg (P.dv xs)) ∧ ∀ B, blkGe B v → blkGe B v') ∧ Below w.heap.size w w' := by
  rcases h with ⟨rfl, rfl⟩ | ⟨b, o, c, rfl, hcap, hc⟩
  · refine (trim_none w).mono ?_
    rintro e w' ⟨rfl, hb⟩
    exact ⟨⟨_, rfl, .inl ⟨rfl, by rw [P.dv, P.dg_zero]⟩, fun _ h => h⟩, hb⟩
  · refine (trim_some b o c xs hcap hs w hc).mono ?_
    rintro e w' ⟨⟨k, hk, rfl⟩, hb⟩
    refine ⟨⟨_, rfl, .inr ⟨b, o, c, ?_, ?_, fun j hj => ?_⟩, fun _ h => h⟩, hb⟩
    · rw [← hk.eq hd, List.length_take, Nat.min_eq_left hk.1]
    · rw [← hk.eq hd, List.length_take, Nat.min_eq_left hk.1]; exact Nat.le_trans hk.1 hcap
    · rw [← hk.eq hd] at hj ⊢
      rw [List.length_take, Nat.min_eq_left hk.1] at hj
      have hj2 : j < xs.length := Nat.lt_of_lt_of_le hj hk.1
      rw [List.getD_eq_getElem?_getD, List.getElem?_take, if_pos hj, ← List.getD_eq_getElem?_getD]
      exact (hb.cell (p := ⟨b, o + j, none⟩) (lt_of_cell (hc j hj2))).trans (hc j hj2)
/-- What is known of the slice's block (if it is not nil). -/
def blkP (Pb : Nat → Prop) : Value → Prop
  | .slice (some a) _ _ => Pb a.block
  | _ => True
theorem trim_fun3 (v : Value) (xs : List Nat) (hd : P.Dg xs) (hs : xs.length < 4611686018427387904) (w : World) (h : Sl w v xs) :
    Calls Tryd.prog 55 #[v] w fun e w' => (∃ v', e = .returned v' ∧ Sl w' v' (P.dg (P.dv xs)) ∧ ∀ Pb, blkP Pb v → blkP Pb v') ∧ Below w.heap.size w w' := by
  rcases h with ⟨rfl, rfl⟩ | ⟨b, o, c, rfl, hcap, hc⟩
  · refine (trim_none w).mono ?_
    rintro e w' ⟨rfl, hb⟩
    exact ⟨⟨_, rfl, .inl ⟨rfl, by rw [P.dv, P.dg_zero]⟩, fun _ h => h⟩, hb⟩
  · refine (trim_some b o c xs hcap hs w hc).mono ?_
    rintro e w' ⟨⟨k, hk, rfl⟩, hb⟩
    refine ⟨⟨_, rfl, .inr ⟨b, o, c, ?_, ?_, fun j hj => ?_⟩, fun _ h => h⟩, hb⟩
    · rw [← hk.eq hd, List.length_take, Nat.min_eq_left hk.1]
    · rw [← hk.eq hd, List.length_take, Nat.min_eq_left hk.1]; exact Nat.le_trans hk.1 hcap
    · rw [← hk.eq hd] at hj ⊢
      rw [List.length_take, Nat.min_eq_left hk.1] at hj
      have hj2 : j < xs.length := Nat.lt_of_lt_of_le hj hk.1
      rw [List.getD_eq_getElem?_getD, List.getElem?_take, if_pos hj, ← List.getD_eq_getElem?_getD]
      exact (hb.cell (p := ⟨b, o + j, none⟩) (lt_of_cell (hc j hj2))).trans (hc j hj2)
theorem trim_fun (v : Value) (xs : List Nat) (hd : P.Dg xs) (hs : xs.length < 4611686018427387904) (w : World) (h : Sl w v xs) :
    Calls Tryd.prog 55 #[v] w fun e w' => (∃ v', e = .returned v' ∧ Sl w' v' (P.dg (P.dv xs))) ∧ Below w.heap.size w w' :=
  (trim_fun2 v xs hd hs w h).mono fun _ _ ⟨⟨v', he, hsl, _⟩, hb⟩ => ⟨⟨v', he, hsl⟩, hb⟩
end Go.Proofs.YtdcpicbkemmakaaDoor

/- Slices of digits that a call itself makes: owned rows, and what append does to one. -/
namespace Go.Proofs.YtdcpicbkemmakaaDoor
open Go.RowKit
theorem Tryd.uInts : Tryd.prog.underlying 33 = some (.slice 3) := by kernel_rfl
theorem Tryd.iInt : (Tryd.prog.info? 3).map (fun i => (i.zero, i.size, i.bytes)) = some (some (.int .i64 0), 1, 8) := by kernel_rfl
abbrev iv (x : Nat) : Value := .int .i64 ((x : Nat) : Int)
/-- The slice v is a row that the call made (its block from B on), and holds xs. -/
def Ow (w : World) (B : Nat) (v : Value) (xs : List Nat) : Prop := w.ownsRow B 3 1 v xs.length (xs.map iv)
theorem Ow.nil (w : World) (B : Nat) : Ow w B (.slice none 0 0) [] := World.ownsRow_nil _ _ _ _
theorem Ow.up {W w1 : World} {B : Nat} {v : Value} {xs : List Nat} (h : Ow W B v xs) (hb : Below W.heap.size W w1) : Ow w1 B v xs := by
  refine ⟨h.1, ?_⟩
  rcases h.2 with h' | ⟨g, cap, cur, e, hB, hg, rest⟩
  · exact .inl h'
  · exact .inr ⟨g, cap, cur, e, hB, (hb.block g (Array.getElem?_eq_some_iff.1 hg).1).trans hg, rest⟩
theorem Ow.sl {w : World} {B : Nat} {v : Value} {xs : List Nat} (h : Ow w B v xs) : Sl w v xs := by
  rcases h.2 with ⟨e, e2⟩ | ⟨g, cap, cur, e, hB, hg, hn, rest⟩
  · exact .inl ⟨e, List.length_eq_zero_iff.1 e2⟩
  · refine .inr ⟨g, 0, cap, e, hn, fun j hj => ?_⟩
    have h2 : w.ownsRow B 3 1 (.slice (some ⟨g, 0, none⟩) xs.length cap) xs.length (xs.map iv) := by rw [← e]; exact h
    rw [Nat.zero_add, h2.cellAt j (by omega)]
    simp [hj, iv]
theorem Ow.ge {w : World} {B : Nat} {v : Value} {xs : List Nat} (h : Ow w B v xs) : blkGe B v := by
  rcases h.2 with ⟨e, _⟩ | ⟨g, cap, cur, e, hB, _⟩
  · rw [e]; exact trivial
  · rw [e]; exact hB
theorem Ow.size {w : World} {B g n c : Nat} {xs : List Nat} (h : Ow w B (.slice (some ⟨g, 0, none⟩) n c) xs) : g < w.heap.size := (h.lt g rfl).2
theorem wp_app {ops : Array Oper} {rest : List Oper} {o : Oper} {a : Act} {Q : Exit → Act → World → Prop} {w : World} (hgd : o.guard = none) (s x : Operand)
    (ho : o.op = .call { callee := .builtin .append, args := #[s, x], argTypes := #[33, 33] })
    (B : Nat) (v : Value) (xs : List Nat) (y : Nat) (z : Int) (W0 : World) (hs : a.eval s = v) (hown : Ow W0 B v xs) (hup : Below W0.heap.size W0 w) (ad : Addr) (hx : a.eval x = .slice (some ad) 1 1) (hc : w.cell? ad = some (.int .i64 z)) (hz : z = ((y : Nat) : Int))
    (hl : xs.length < 1099511627776) (hB : B ≤ W0.heap.size) (h : ∀ v' w', Ow w' B v' (xs ++ [y]) → Below B W0 w' → wpList Tryd.prog ops Q rest (a.put o.dst v') w') : wpList Tryd.prog ops Q (o :: rest) a w := by
  obtain ⟨i0, hi, hz0, hz1, hz2⟩ := info_parts Tryd.iInt
  subst hz
  have hs0 := hup.size
  refine wpList_append_own w hgd s x 33 ho B 3 i0 (.int .i64 0) 1 8 Tryd.uInts hi hz0 hz1 hz2 rfl (by decide) v xs.length (xs.map iv) hs (hown.up hup) ad 1 1 [iv y] hx rfl ?_ ?_ ?_ ?_ ?_ ?_
  · intro j u hj
    match j, hj with
    | 0, hj => simp at hj; subst hj; simpa [Addr.add] using hc
  · intro u hu; simp at hu; subst hu; rfl
  · unfold maxLen; omega
  · omega
  · omega
  · intro v' w' hown' hg _
    refine h v' w' ?_ ?_
    · unfold Ow
      rw [List.map_append, List.length_append]
      exact hown'
    · refine Below.grown (hup.mono hB) hg (by omega) fun k hk => ?_
      exact ((hown.up hup).lt k hk).1
end Go.Proofs.YtdcpicbkemmakaaDoor

/- The contract of sealringref.Times: the product. -/
namespace Go.Proofs.YtdcpicbkemmakaaDoor
open Go.RowKit
theorem made_zeros (n : Nat) : (madeCells (Value.int .i64 0).cells (n * 1)).toList = (List.replicate n 0).map iv := by
  refine List.ext_getElem (by simp [madeCells]) fun i h1 h2 => ?_
  simp [madeCells, Value.cells, Nat.mod_one]
theorem wp_mk {ops : Array Oper} {rest : List Oper} {o : Oper} {a : Act} {Q : Exit → Act → World → Prop} {w : World} (hg : o.guard = none) (l c : Operand) (hop : o.op = Op.makeSlice 33 l c)
    (B n : Nat) (L C : Int) (hl : a.eval l = .int .i64 L) (hc : a.eval c = .int .i64 C) (hL : L = (n : Int)) (hC : C = (n : Int)) (hn : n < 1099511627776) (hB : B ≤ w.heap.size)
    (h : ∀ w', Ow w' B (.slice (some ⟨w.heap.size, 0, none⟩) n n) (List.replicate n 0) → Below B w w' → wpList Tryd.prog ops Q rest (a.put o.dst (.slice (some ⟨w.heap.size, 0, none⟩) n n)) w') : wpList Tryd.prog ops Q (o :: rest) a w := by
  obtain ⟨i0, hi, hz0, hz1, hz2⟩ := info_parts Tryd.iInt
  refine wpList_make_full w hg l c 33 hop B 3 i0 (.int .i64 0) 1 Tryd.uInts hi hz0 hz1 .i64 .i64 L C n hl hc hL hC (by rw [hz2]; omega) (by unfold maxLen; omega) hB ?_
  intro w' r1 r2
  refine h w' ?_ (Below.grown (Below.refl _ _) r2 hB (fun k hk => by cases hk))
  unfold Ow
  rw [← made_zeros, List.length_replicate]
  exact r1
theorem Ow.cell {w : World} {B g n c : Nat} {xs : List Nat} (h : Ow w B (.slice (some ⟨g, 0, none⟩) n c) xs) (hn : n = xs.length) (j : Nat) (hj : j < xs.length) : w.cell? ⟨g, j, none⟩ = some (.int .i64 ((xs.getD j 0 : Nat) : Int)) ∧ w.frozen? ⟨g, j, none⟩ = false := by
  subst hn
  have h2 : w.ownsRow B 3 1 (.slice (some ⟨g, 0, none⟩) xs.length c) xs.length (xs.map iv) := h
  refine ⟨?_, h2.frozenAt j⟩
  rw [h2.cellAt j (by omega)]
  simp [hj, iv]
theorem Ow.set {w : World} {B g n c : Nat} {xs : List Nat} (h : Ow w B (.slice (some ⟨g, 0, none⟩) n c) xs) (hn : n = xs.length) (hg : B ≤ g) (j y : Nat) (z : Int) (hz : z = ((y : Nat) : Int)) : Ow (w.setCell ⟨g, j, none⟩ (.int .i64 z)) B (.slice (some ⟨g, 0, none⟩) n c) (xs.set j y) ∧ Below B w (w.setCell ⟨g, j, none⟩ (.int .i64 z)) := by
  subst hn hz
  have h2 : w.ownsRow B 3 1 (.slice (some ⟨g, 0, none⟩) xs.length c) xs.length (xs.map iv) := h
  refine ⟨?_, (Below.refl _ _).setCell hg _⟩
  have := (h2.stored j (iv y)).1
  unfold Ow
  rw [List.length_set, List.map_set]
  exact this
theorem Sl.some {w : World} {a : Option Addr} {n c : Nat} {xs : List Nat} (h : Sl w (.slice a n c) xs) (hl : 0 < xs.length) : ∃ b o, a = .some ⟨b, o, none⟩ ∧ ∀ j, j < xs.length → w.cell? ⟨b, o + j, none⟩ = .some (.int .i64 ((xs.getD j 0 : Nat) : Int)) := by
  rcases h with ⟨_, rfl⟩ | ⟨b, o, c', e, _, hc⟩
  · simp at hl
  · simp only [Value.slice.injEq] at e
    exact ⟨b, o, e.1, hc⟩
theorem mul_step {X Y D O k q cy o x y : Nat} (h : D + 65536 ^ (k + q) * cy = X % 65536 ^ k * Y + 65536 ^ k * x * (Y % 65536 ^ q)) (hy : y = Y / 65536 ^ q % 65536) (hO : O + 65536 ^ (k + q) * o = D + 65536 ^ (k + q) * ((cy + (o + x * y)) % 65536)) :
    O + 65536 ^ (k + (q + 1)) * ((cy + (o + x * y)) / 65536) = X % 65536 ^ k * Y + 65536 ^ k * x * (Y % 65536 ^ (q + 1)) := by
  rw [P.mod_pow_succ' Y, ← hy, ← Nat.add_assoc, Nat.pow_succ, Nat.mul_add]
  have t := Nat.div_add_mod (cy + (o + x * y)) 65536
  rw [show 65536 ^ k * x * (65536 ^ q * y) = 65536 ^ (k + q) * (x * y) by rw [Nat.pow_add]; grind]
  generalize 65536 ^ (k + q) = B at *
  generalize 65536 ^ k * x * (Y % 65536 ^ q) = R at *
  generalize X % 65536 ^ k * Y = S at *
  generalize x * y = p at *
  generalize (cy + (o + p)) / 65536 = u at *
  generalize (cy + (o + p)) % 65536 = v at *
  have e : B * 65536 * u + B * v = B * cy + B * o + B * p := by rw [Nat.mul_assoc, ← Nat.mul_add, t]; grind
  omega
theorem prod_bound {x y : Nat} (hx : x < 65536) (hy : y < 65536) : x * y ≤ 4294836225 := Nat.mul_le_mul (Nat.le_of_lt_succ hx) (Nat.le_of_lt_succ hy)
set_option maxHeartbeats 4000000 in
theorem dtimes_fun (u v : Value) (xs ys : List Nat) (hx : P.Dg xs) (hy : P.Dg ys) (lx : xs.length < 1073741824) (ly : ys.length < 1073741824) (w : World) (su : Sl w u xs) (sv : Sl w v ys) :
    Calls Tryd.prog 33 #[u, v] w fun e w' => (∃ v', e = .returned v' ∧ Sl w' v' (P.dg (P.dv xs * P.dv ys))) ∧ Below w.heap.size w w' := by
  obtain ⟨ax, cx, rfl⟩ := su.parts
  obtain ⟨ay, cy', rfl⟩ := sv.parts
  have SU : Hid (Sl w (.slice ax xs.length cx) xs) := su
  have SV : Hid (Sl w (.slice ay ys.length cy') ys) := sv
  clear su sv
  obtain ⟨n, hn⟩ : ∃ n, n = xs.length := ⟨_, rfl⟩
  obtain ⟨m, hm⟩ : ∃ m, m = ys.length := ⟨_, rfl⟩
  have HN : Hid _ := hn
  have HM : Hid _ := hm
  rw [← hn] at SU lx ⊢
  rw [← hm] at SV ly ⊢
  clear hn hm
  have n1 : (n : Int) < 1073741824 := by omega
  have m1 : (m : Int) < 1073741824 := by omega
  go_enter Tryd.func33, Tryd.ntmps33
  go_wp2_with (at_make; refine wp_mk rfl _ _ rfl w.heap.size (n + m) _ _ rfl rfl (by omega) (by omega) (by omega) (Nat.le_refl _) ?_)
  intro w1 o1 hb1
  have s1 : Hid (Ow w1 w.heap.size (.slice (some ⟨w.heap.size, 0, none⟩) (n + m) (n + m)) (List.replicate (n + m) 0)) := o1
  have b1 : Hid (Below w.heap.size w w1) := hb1
  clear o1 hb1
  go_wp2_with fail
  go_loopw [17] (fun i wr => ∃ (k : Nat) (os : List Nat), k ≤ n ∧ i = .int .i64 k ∧ os.length = n + m ∧ P.Dg os ∧ Hid (∀ j, k + m ≤ j → os.getD j 0 = 0) ∧ Hid (P.dv os = P.dv xs % 65536 ^ k * P.dv ys) ∧
      Hid (Ow wr w.heap.size (.slice (some ⟨w.heap.size, 0, none⟩) (n + m) (n + m)) os) ∧ Hid (Below w.heap.size w wr)) (fun i _ => n - (intOf i).toNat)
  case atStart =>
    refine ⟨0, List.replicate (n + m) 0, by omega, rfl, by simp, fun x hx => ?_, ?_, ?_, s1, b1⟩
    · rw [List.eq_of_mem_replicate hx]; decide
    · exact (fun j _ => by simp [List.getD_eq_getElem?_getD, List.getElem?_replicate]; split <;> rfl : ∀ j, 0 + m ≤ j → (List.replicate (n + m) 0).getD j 0 = 0)
    · exact (by rw [P.dv_zeros, Nat.pow_zero, Nat.mod_one, Nat.zero_mul] : P.dv (List.replicate (n + m) 0) = P.dv xs % 65536 ^ 0 * P.dv ys)
  case round =>
    clear s1 b1
    obtain ⟨k, os, hk, rfl, hlen, hdg, HZ, HV, ho, hb⟩ := hrel
    by_cases h1 : k < n
    · have i1 : (k : Int) < (n : Int) := by omega
      have i0 : (0 : Int) ≤ (k : Int) := by omega
      go_wp2_with fail
      go_loopw [7, 22] (fun c i wr' => ∃ (q cy : Nat) (os' : List Nat), q ≤ m ∧ i = .int .i64 q ∧ c = .int .i64 ((cy : Nat) : Int) ∧ cy < 65536 ∧ os'.length = n + m ∧ P.Dg os' ∧ Hid (∀ j, k + m ≤ j → os'.getD j 0 = 0) ∧
          Hid (P.dv os' + 65536 ^ (k + q) * cy = P.dv xs % 65536 ^ k * P.dv ys + 65536 ^ k * xs.getD k 0 * (P.dv ys % 65536 ^ q)) ∧
          Hid (Ow wr' w.heap.size (.slice (some ⟨w.heap.size, 0, none⟩) (n + m) (n + m)) os') ∧ Hid (Below w.heap.size w wr')) (fun _ i _ => m - (intOf i).toNat)
      case atStart => exact ⟨0, 0, os, by omega, rfl, rfl, by omega, hlen, hdg, HZ, (by rw [HV.out, Nat.pow_zero, Nat.mod_one, Nat.mul_zero, Nat.mul_zero] : P.dv os + 65536 ^ (k + 0) * 0 = P.dv xs % 65536 ^ k * P.dv ys + 65536 ^ k * xs.getD k 0 * (P.dv ys % 65536 ^ 0)), ho, hb⟩
      case round =>
        clear ho hb HV hdg hlen HZ
        obtain ⟨q, cy, os, hq, rfl, rfl, hcy, hlen, hdg, HZ, HV, ho, hb⟩ := hrel
        by_cases h2 : q < m
        · have j1 : (q : Int) < (m : Int) := by omega
          have j0 : (0 : Int) ≤ (q : Int) := by omega
          obtain ⟨bx, ox, hax, hcx⟩ := Sl.some (xs := xs) SU.out (by rw [← HN.out]; omega)
          obtain ⟨by', oy, hay, hcy'⟩ := Sl.some (xs := ys) SV.out (by rw [← HM.out]; omega)
          subst hax hay
          have c1 : wr.cell? ⟨bx, ox + k, none⟩ = _ := (hb.out.cell (p := ⟨bx, ox + k, none⟩) (lt_of_cell (hcx k (by rw [← HN.out]; exact h1)))).trans (hcx k (by rw [← HN.out]; exact h1))
          have c2 : wr.cell? ⟨by', oy + q, none⟩ = _ := (hb.out.cell (p := ⟨by', oy + q, none⟩) (lt_of_cell (hcy' q (by rw [← HM.out]; exact h2)))).trans (hcy' q (by rw [← HM.out]; exact h2))
          obtain ⟨c3, c4⟩ := Ow.cell ho.out hlen.symm (k + q) (by omega)
          have xl := P.dig_lt hx k
          have yl := P.dig_lt hy q
          have ol := P.dig_lt hdg (k + q)
          have dy := P.dig hy q
          have DS : Hid _ := fun (z : Nat) => P.dv_set (xs := os) (i := k + q) (v := z) (by omega)
          have ST : Hid _ := fun O h => mul_step (O := O) (o := os.getD (k + q) 0) HV.out dy h
          clear hcx hcy' dy
          generalize xs.getD k 0 = x at *
          generalize ys.getD q 0 = y at *
          generalize os.getD (k + q) 0 = z at *
          have pl := prod_bound xl yl
          have p1 : ((x * y : Nat) : Int) ≤ 4294836225 := by omega
          have p0 : (0 : Int) ≤ ((x * y : Nat) : Int) := by omega
          rw [Int.natCast_mul] at p0 p1
          have x0 : (0 : Int) ≤ (x : Int) := by omega
          have x1 : (x : Int) ≤ 65535 := by omega
          have y0 : (0 : Int) ≤ (y : Int) := by omega
          have y1 : (y : Int) ≤ 65535 := by omega
          have z0 : (0 : Int) ≤ (z : Int) := by omega
          have z1 : (z : Int) ≤ 65535 := by omega
          have k0 : (0 : Int) ≤ (cy : Int) := by omega
          have k1 : (cy : Int) ≤ 65535 := by omega
          go_wp2_with fail
          have kq : ((k : Int) + (q : Int)).toNat = k + q := by omega
          have kq1 : (k : Int) + (q : Int) < (n : Int) + (m : Int) := by omega
          refine wp_region_up (by kernel_rfl) (by kernel_rfl) (fun U hU f hf hcl => ?_)
          have C1 : ∀ n', (f n').cell? ⟨bx, ox + k, none⟩ = some (.int .i64 (x : Int)) := fun n' => ((hf n').out.cell (p := ⟨bx, ox + k, none⟩) (lt_of_cell c1)).trans c1
          have C2 : ∀ n', (f n').cell? ⟨by', oy + q, none⟩ = some (.int .i64 (y : Int)) := fun n' => ((hf n').out.cell (p := ⟨by', oy + q, none⟩) (lt_of_cell c2)).trans c2
          have C3 : ∀ n', (f n').cell? ⟨w.heap.size, k + q, none⟩ = some (.int .i64 (z : Int)) := fun n' => ((hf n').out.cell (p := ⟨w.heap.size, k + q, none⟩) (lt_of_cell c3)).trans c3
          clear c1 c2 c3 c4
          repeat (go_big_quiet_step (fail))
          refine wpQuiet_nil ?_
          intro nx
          have hb1 := (hf nx).out
          clear hf hcl C1 C2 C3
          generalize f nx = w2 at hb1 ⊢
          have o2 : Hid (Ow w2 w.heap.size (.slice (some ⟨w.heap.size, 0, none⟩) (n + m) (n + m)) os) := Ow.up ho.out hb1
          have b2 : Hid (Below w.heap.size w w2) := hb.out.trans (hb1.mono hb.out.size)
          clear hb1 hb ho
          obtain ⟨d3, d4⟩ := Ow.cell o2.out hlen.symm (k + q) (by omega)
          have TE : Hid (((cy : Int) + ((z : Int) + (x : Int) * (y : Int))) = ((cy + (z + x * y) : Nat) : Int)) := (by rw [Int.natCast_add, Int.natCast_add, Int.natCast_mul] : ((cy : Int) + ((z : Int) + (x : Int) * (y : Int))) = ((cy + (z + x * y) : Nat) : Int))
          have SS : Hid _ := fun (tz : Int) (h : tz = (((cy + (z + x * y)) % 65536 : Nat) : Int)) => Ow.set o2.out hlen.symm (Nat.le_refl _) (k + q) ((cy + (z + x * y)) % 65536) tz h
          have KD : Hid (((cy + (z + x * y)) % 65536 : Nat) < 65536 ∧ (cy + (z + x * y)) / 65536 < 65536) := (⟨Nat.mod_lt _ (by decide), by omega⟩ : ((cy + (z + x * y)) % 65536 : Nat) < 65536 ∧ (cy + (z + x * y)) / 65536 < 65536)
          go_wp2_with fail
          go_roundw
          case rel =>
            have te := TE.out
            obtain ⟨S1, S2⟩ := SS.out ((↑cy + (↑z + ↑x * ↑y)) % 65536) (by rw [te]; omega)
            refine ⟨q + 1, (cy + (z + x * y)) / 65536, os.set (k + q) ((cy + (z + x * y)) % 65536), by omega, by go_num, congrArg (Value.int .i64) (by rw [te]; omega), KD.out.2, by rw [List.length_set]; exact hlen, hdg.set KD.out.1, ?_, ?_, S1, b2.out.trans S2⟩
            · exact (fun j hj => by rw [List.getD_eq_getElem?_getD, List.getElem?_set_ne (by omega), ← List.getD_eq_getElem?_getD]; exact HZ.out j hj : ∀ j, k + m ≤ j → (os.set (k + q) ((cy + (z + x * y)) % 65536)).getD j 0 = 0)
            · exact ST.out _ (DS.out _)
          case measure => simp [intOf]; omega
        · have j1 : ¬ (q : Int) < (m : Int) := by omega
          have q1 : q = m := by omega
          subst q1
          obtain ⟨c3, c4⟩ := Ow.cell ho.out hlen.symm (k + q) (by omega)
          rw [HZ.out (k + q) (Nat.le_refl _)] at c3
          have kq : ((k : Int) + (q : Int)).toNat = k + q := by omega
          have kq1 : (k : Int) + (q : Int) < (n : Int) + (q : Int) := by omega
          have kq0 : (0 : Int) ≤ (k : Int) + (q : Int) := by omega
          have k0 : (0 : Int) ≤ (cy : Int) := by omega
          have k1 : (cy : Int) ≤ 65535 := by omega
          have S : Hid _ := Ow.set ho.out hlen.symm (Nat.le_refl _) (k + q) cy (cy : Int) rfl
          have VV : Hid (P.dv (os.set (k + q) cy) = P.dv xs % 65536 ^ (k + 1) * P.dv ys) := by
            have h := HV.out
            have h2 := P.dv_set (xs := os) (i := k + q) (v := cy) (by omega)
            rw [HZ.out (k + q) (Nat.le_refl _), Nat.mul_zero, Nat.add_zero] at h2
            show P.dv (os.set (k + q) cy) = P.dv xs % 65536 ^ (k + 1) * P.dv ys
            rw [h2, h, P.mod_pow_succ' (P.dv xs), ← P.dig hx k, Nat.add_mul, P.mod_len hy (by rw [← HM.out]; exact Nat.le_refl _)]
          go_wp2_with fail
          go_roundw
          case rel =>
            refine ⟨k + 1, os.set (k + q) cy, by omega, by go_num, by rw [List.length_set]; exact hlen, hdg.set hcy, ?_, VV, S.out.1, hb.out.trans S.out.2⟩
            exact (fun j hj => by rw [List.getD_eq_getElem?_getD, List.getElem?_set_ne (by omega), ← List.getD_eq_getElem?_getD]; exact HZ.out j (by omega) : ∀ j, k + 1 + q ≤ j → (os.set (k + q) cy).getD j 0 = 0)
          case measure => simp [intOf]; omega
    · have i1 : ¬ (k : Int) < (n : Int) := by omega
      have V : Hid (P.dv os = P.dv xs * P.dv ys) := by
        have h := HV.out
        rw [P.mod_len hx (by have := HN.out; omega)] at h
        exact h
      go_wp2_with fail
      refine (trim_fun _ os hdg (by omega) _ (Ow.sl ho.out)).mono ?_
      rintro e w1 ⟨⟨v', rfl, hs⟩, hb1⟩
      have b1 : Hid (Below w.heap.size w w1) := hb.out.trans (hb1.mono hb.out.size)
      have HS : Hid _ := hs
      clear hs hb1 hb ho
      go_wp2_with fail
      go_ret
      exact ⟨⟨v', rfl, by rw [← V.out]; exact HS.out⟩, b1.out⟩
end Go.Proofs.YtdcpicbkemmakaaDoor
