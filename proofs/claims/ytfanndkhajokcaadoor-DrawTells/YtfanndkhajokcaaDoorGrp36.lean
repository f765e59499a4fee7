import Derived.Test.YtfanndkhajokcaaDoorNum
import Derived.Laws.Bits64b
import Derived.Test.YtfanndkhajokcaaDoorShl
import Derived.Deep.RegionHeld
/- Shifts of numbers of four words, as plain mathematics. -/
namespace Go.Proofs.YtfanndkhajokcaaDoor
open Go.RowKit

theorem pq {s : Nat} (h : s < 64) : 2 ^ s * 2 ^ (64 - s) = 18446744073709551616 := by
  rw [← Nat.pow_add, show s + (64 - s) = 64 by omega]
theorem nat_split (v P Q : Nat) : v * P = v % Q * P + P * Q * (v / Q) := by
  have h := Nat.mod_add_div v Q
  have e : (v % Q + Q * (v / Q)) * P = v % Q * P + P * Q * (v / Q) := by
    rw [Nat.add_mul, Nat.mul_comm (Q * (v / Q)) P, Nat.mul_assoc]
  rw [← e, h]
theorem word_nat {v : Int} (h : Word v) : ∃ n : Nat, v = n ∧ n < 18446744073709551616 := by
  obtain ⟨n, rfl⟩ := Int.eq_ofNat_of_zero_le h.1
  exact ⟨n, rfl, by have := h.2; omega⟩
/-- v * 2^s in two words. -/
theorem shl_split {v : Int} {s : Nat} (hv : Word v) (hs : s < 64) : IntKind.u64.wrap (v * 2 ^ s) + 18446744073709551616 * (v / 2 ^ (64 - s)) = v * 2 ^ s ∧ Word (IntKind.u64.wrap (v * 2 ^ s)) := by
  obtain ⟨n, rfl, hn⟩ := word_nat hv
  rw [IntKind.wrap_u64]
  have h := nat_split n (2 ^ s) (2 ^ (64 - s))
  rw [pq hs] at h
  have hlt : n % 2 ^ (64 - s) * 2 ^ s < 18446744073709551616 := by
    have := Nat.mul_lt_mul_of_pos_right (Nat.mod_lt n (Nat.two_pow_pos (64 - s))) (Nat.two_pow_pos s)
    rw [Nat.mul_comm (2 ^ (64 - s)), pq hs] at this
    exact this
  have c1 : (n : Int) * 2 ^ s = ((n * 2 ^ s : Nat) : Int) := by simp
  have c2 : (n : Int) / 2 ^ (64 - s) = ((n / 2 ^ (64 - s) : Nat) : Int) := by simp
  rw [c1, c2]
  exact ⟨by omega, by omega, by omega⟩
/-- Its words don't meet those of its neighbour. -/
theorem shl_or {v u : Int} {s : Nat} (hv : Word v) (hu : Word u) (hs : s < 64) : bits .or .u64 (IntKind.u64.wrap (v * 2 ^ s)) (u / 2 ^ (64 - s)) = IntKind.u64.wrap (v * 2 ^ s) + u / 2 ^ (64 - s) ∧ Word (IntKind.u64.wrap (v * 2 ^ s) + u / 2 ^ (64 - s)) := by
  obtain ⟨n, rfl, hn⟩ := word_nat hv
  obtain ⟨k, rfl, hk⟩ := word_nat hu
  have hp1 := Nat.two_pow_pos s
  have hp2 := Nat.two_pow_pos (64 - s)
  have h := nat_split n (2 ^ s) (2 ^ (64 - s))
  rw [pq hs] at h
  have hm : n % 2 ^ (64 - s) ≤ 2 ^ (64 - s) - 1 := by have := Nat.mod_lt n (Nat.two_pow_pos (64 - s)); omega
  have hlt : n % 2 ^ (64 - s) * 2 ^ s + 2 ^ s ≤ 18446744073709551616 := by
    have h1 : (n % 2 ^ (64 - s) + 1) * 2 ^ s ≤ 2 ^ (64 - s) * 2 ^ s := Nat.mul_le_mul_right _ (by have := Nat.two_pow_pos (64 - s); omega)
    rw [Nat.add_mul, Nat.one_mul, Nat.mul_comm (2 ^ (64 - s)), pq hs] at h1
    exact h1
  have hd : k / 2 ^ (64 - s) < 2 ^ s := Nat.div_lt_of_lt_mul (by rw [Nat.mul_comm, pq hs]; exact hk)
  have e1 : IntKind.u64.wrap ((n : Int) * 2 ^ s) = ((n % 2 ^ (64 - s) * 2 ^ s : Nat) : Int) := by
    rw [IntKind.wrap_u64]
    have c1 : (n : Int) * 2 ^ s = ((n * 2 ^ s : Nat) : Int) := by simp
    rw [c1]
    have := Nat.two_pow_pos s
    omega
  have e2 : (k : Int) / 2 ^ (64 - s) = ((k / 2 ^ (64 - s) : Nat) : Int) := by simp
  rw [e1, e2, bits_or_u64_nat _ _ (by omega) (by omega)]
  have e3 : n % 2 ^ (64 - s) * 2 ^ s ||| k / 2 ^ (64 - s) = n % 2 ^ (64 - s) * 2 ^ s + k / 2 ^ (64 - s) := by
    have := Nat.shiftLeft_add_eq_or_of_lt hd (n % 2 ^ (64 - s))
    rw [Nat.shiftLeft_eq] at this
    exact this.symm
  rw [e3]
  exact ⟨by simp, by omega, by omega⟩
/-- v by s to the right, its neighbour u's lowest bits above. -/
theorem shr_or {v u : Int} {s : Nat} (hv : Word v) (hu : Word u) (hs : s < 64) : bits .or .u64 (v / 2 ^ s) (IntKind.u64.wrap (u * 2 ^ (64 - s))) = v / 2 ^ s + u % 2 ^ s * 2 ^ (64 - s) ∧ Word (v / 2 ^ s + u % 2 ^ s * 2 ^ (64 - s)) := by
  obtain ⟨n, rfl, hn⟩ := word_nat hv
  obtain ⟨k, rfl, hk⟩ := word_nat hu
  have hp1 := Nat.two_pow_pos s
  have hp2 := Nat.two_pow_pos (64 - s)
  have h := nat_split k (2 ^ (64 - s)) (2 ^ s)
  rw [Nat.mul_comm (2 ^ (64 - s)) (2 ^ s), pq hs] at h
  have hlt : k % 2 ^ s * 2 ^ (64 - s) + 2 ^ (64 - s) ≤ 18446744073709551616 := by
    have h1 : (k % 2 ^ s + 1) * 2 ^ (64 - s) ≤ 2 ^ s * 2 ^ (64 - s) := Nat.mul_le_mul_right _ (Nat.mod_lt k (Nat.two_pow_pos s))
    rw [Nat.add_mul, Nat.one_mul, pq hs] at h1
    exact h1
  have hd : n / 2 ^ s < 2 ^ (64 - s) := Nat.div_lt_of_lt_mul (by rw [pq hs]; exact hn)
  have e1 : IntKind.u64.wrap ((k : Int) * 2 ^ (64 - s)) = ((k % 2 ^ s * 2 ^ (64 - s) : Nat) : Int) := by
    rw [IntKind.wrap_u64]
    have c1 : (k : Int) * 2 ^ (64 - s) = ((k * 2 ^ (64 - s) : Nat) : Int) := by simp
    rw [c1]
    have := Nat.two_pow_pos (64 - s)
    omega
  have e2 : (n : Int) / 2 ^ s = ((n / 2 ^ s : Nat) : Int) := by simp
  have e4 : (k : Int) % 2 ^ s * 2 ^ (64 - s) = ((k % 2 ^ s * 2 ^ (64 - s) : Nat) : Int) := by simp
  rw [e1, e2, e4, bits_or_u64_nat _ _ (by omega) (by omega)]
  have e3 : n / 2 ^ s ||| k % 2 ^ s * 2 ^ (64 - s) = n / 2 ^ s + k % 2 ^ s * 2 ^ (64 - s) := by
    have := Nat.shiftLeft_add_eq_or_of_lt hd (k % 2 ^ s)
    rw [Nat.shiftLeft_eq] at this
    rw [Nat.or_comm, ← this, Nat.add_comm]
  rw [e3]
  exact ⟨by simp, by omega, by omega⟩

theorem pqI {s : Nat} (h : s < 64) : (2 : Int) ^ s * 2 ^ (64 - s) = 18446744073709551616 := by
  have := pq h
  have c : ((2 ^ s * 2 ^ (64 - s) : Nat) : Int) = (2 : Int) ^ s * 2 ^ (64 - s) := by simp
  rw [← c, this]; rfl
theorem shr_val (y : Nm) {s : Nat} (hs : s < 64) : (⟨y.a / 2 ^ s + y.b % 2 ^ s * 2 ^ (64 - s), y.b / 2 ^ s + y.c % 2 ^ s * 2 ^ (64 - s), y.c / 2 ^ s + y.d % 2 ^ s * 2 ^ (64 - s), y.d / 2 ^ s⟩ : Nm).val = y.val / 2 ^ s := by
  have hP : (0 : Int) < 2 ^ s := Int.pow_pos (by decide)
  have hPQ := pqI hs
  generalize (2 : Int) ^ s = P at *
  generalize (2 : Int) ^ (64 - s) = Q at *
  have e0 := Int.mul_ediv_add_emod y.a P
  have e1 := Int.mul_ediv_add_emod y.b P
  have e2 := Int.mul_ediv_add_emod y.c P
  have e3 := Int.mul_ediv_add_emod y.d P
  have m0 := Int.emod_nonneg y.a (Int.ne_of_gt hP)
  have m0' := Int.emod_lt_of_pos y.a hP
  have q : ∀ m : Int, P * (m * Q) = 18446744073709551616 * m := fun m => by rw [Int.mul_left_comm, hPQ, Int.mul_comm]
  have key : y.val = y.a % P + P * (⟨y.a / P + y.b % P * Q, y.b / P + y.c % P * Q, y.c / P + y.d % P * Q, y.d / P⟩ : Nm).val := by
    simp only [Nm.val, Int.mul_add, Int.mul_left_comm P]
    have r1 := q (y.b % P); have r2 := q (y.c % P); have r3 := q (y.d % P)
    simp only [Int.mul_left_comm P] at r1 r2 r3
    omega
  rw [key, Int.add_mul_ediv_left _ _ (Int.ne_of_gt hP), Int.ediv_eq_zero_of_lt m0 m0', Int.zero_add]
theorem shl_val {y : Nm} (hy : y.ok) {s : Nat} (hs : s < 64) : ∃ t, (⟨IntKind.u64.wrap (y.a * 2 ^ s), IntKind.u64.wrap (y.b * 2 ^ s) + y.a / 2 ^ (64 - s), IntKind.u64.wrap (y.c * 2 ^ s) + y.b / 2 ^ (64 - s), IntKind.u64.wrap (y.d * 2 ^ s) + y.c / 2 ^ (64 - s)⟩ : Nm).val + M * t = y.val * 2 ^ s := by
  have h0 := (shl_split hy.a hs).1
  have h1 := (shl_split hy.b hs).1
  have h2 := (shl_split hy.c hs).1
  have h3 := (shl_split hy.d hs).1
  refine ⟨y.d / 2 ^ (64 - s), ?_⟩
  generalize (2 : Int) ^ s = P at *
  generalize (2 : Int) ^ (64 - s) = Q at *
  simp only [Nm.val, M, Int.add_mul, Int.mul_assoc]
  omega
theorem of_mod {r : Nm} (hr : r.ok) {z t : Int} (e : r.val + M * t = z) : r = Nm.of (z % M) := by
  have h0 := Nm.val_nonneg hr; have h1 := Nm.val_lt hr
  refine Nm.eq_of hr ?_
  rw [← e, Int.add_mul_emod_self_left, Int.emod_eq_of_lt h0 h1]
theorem shl_of {x y r : Nm} {s n q : Nat} {t t' : Int} (hr : r.ok) (h1 : r.val + M * t = y.val * 2 ^ s) (h2 : y.val + M * t' = x.val * 2 ^ (64 * q)) (hn : n = 64 * q + s) : r = Nm.of (x.val * 2 ^ n % M) := by
  refine of_mod hr (t := t + t' * 2 ^ s) ?_
  rw [hn, Int.pow_add, ← Int.mul_assoc, ← h2, Int.add_mul, ← h1, Int.mul_add, Int.mul_assoc, Int.add_assoc]
theorem shr_of {x y r : Nm} {s n q : Nat} (hr : r.ok) (h1 : r.val = y.val / 2 ^ s) (h2 : y.val = x.val / 2 ^ (64 * q)) (hn : n = 64 * q + s) : r = Nm.of (x.val / 2 ^ n) := by
  refine Nm.eq_of hr ?_
  have hp : (0 : Int) < 2 ^ (64 * q) := Int.pow_pos (by decide)
  rw [h1, h2, hn, Int.pow_add, Int.ediv_ediv, if_neg (by omega), Int.sub_zero]
end Go.Proofs.YtfanndkhajokcaaDoor

/- What a variable that has been made holds, and what it holds once a number has been stored into it; nothing else turns. -/
namespace Go.Proofs.YtfanndkhajokcaaDoor
open Go.RowKit

theorem cells_of_block {w : World} {k : Nat} {c : Array Value} {t : TypeId} (h : w.heap[k]? = some (.cells c t)) (j : Nat) : w.cell? ⟨k, j, none⟩ = c[j]? ∧ w.frozen? ⟨k, j, none⟩ = false := by
  simp [World.cell?, World.frozen?, h]
/-- A number of four words stored into block k. -/
abbrev st4 (w : World) (k : Nat) (x : Nm) : World := (((w.setCell ⟨k, 0, none⟩ (.int .u64 x.a)).setCell ⟨k, 1, none⟩ (.int .u64 x.b)).setCell ⟨k, 2, none⟩ (.int .u64 x.c)).setCell ⟨k, 3, none⟩ (.int .u64 x.d)
abbrev st8 (w : World) (k : Nat) (l h : Nm) : World := ((((st4 w k l).setCell ⟨k, 4, none⟩ (.int .u64 h.a)).setCell ⟨k, 5, none⟩ (.int .u64 h.b)).setCell ⟨k, 6, none⟩ (.int .u64 h.c)).setCell ⟨k, 7, none⟩ (.int .u64 h.d)
theorem cell_set_ne {w : World} {k k' j j' : Nat} {v : Value} (h : k ≠ k') : (w.setCell ⟨k, j, none⟩ v).cell? ⟨k', j', none⟩ = w.cell? ⟨k', j', none⟩ := by
  simp only [World.cell?, World.setCell]
  rw [Array.getElem?_modify, if_neg h]
theorem Lies.set_ne {w : World} {k b j : Nat} {x : Nm} {v : Value} (h : Lies w b x) (hk : k ≠ b) : Lies (w.setCell ⟨k, j, none⟩ v) b x :=
  ⟨(cell_set_ne hk).trans h.a, (cell_set_ne hk).trans h.b, (cell_set_ne hk).trans h.c, (cell_set_ne hk).trans h.d⟩
theorem Lies8.set_ne {w : World} {k b j : Nat} {l x : Nm} {v : Value} (h : Lies8 w b l x) (hk : k ≠ b) : Lies8 (w.setCell ⟨k, j, none⟩ v) b l x :=
  ⟨(cell_set_ne hk).trans h.a, (cell_set_ne hk).trans h.b, (cell_set_ne hk).trans h.c, (cell_set_ne hk).trans h.d, (cell_set_ne hk).trans h.e, (cell_set_ne hk).trans h.f, (cell_set_ne hk).trans h.g, (cell_set_ne hk).trans h.i⟩
theorem Lies.st4_ne {w : World} {k b : Nat} {x y : Nm} (h : Lies w b x) (hk : k ≠ b) : Lies (st4 w k y) b x := (((h.set_ne hk).set_ne hk).set_ne hk).set_ne hk
theorem Lies8.st4_ne {w : World} {k b : Nat} {l x y : Nm} (h : Lies8 w b l x) (hk : k ≠ b) : Lies8 (st4 w k y) b l x := (((h.set_ne hk).set_ne hk).set_ne hk).set_ne hk
theorem Lies.st8_ne {w : World} {k b : Nat} {x y z : Nm} (h : Lies w b x) (hk : k ≠ b) : Lies (st8 w k y z) b x := ((((h.st4_ne hk).set_ne hk).set_ne hk).set_ne hk).set_ne hk
theorem Lies8.st8_ne {w : World} {k b : Nat} {l x y z : Nm} (h : Lies8 w b l x) (hk : k ≠ b) : Lies8 (st8 w k y z) b l x := ((((h.st4_ne hk).set_ne hk).set_ne hk).set_ne hk).set_ne hk
theorem heap_set {w : World} {k j : Nat} {c : Array Value} {t : TypeId} (h : w.heap[k]? = some (.cells c t)) (v : Value) : (w.setCell ⟨k, j, none⟩ v).heap[k]? = some (.cells (c.setIfInBounds j v) t) := by
  simp [World.setCell, Array.getElem?_modify, h]
theorem Lies.st4_self {w : World} {k : Nat} {a b c d : Value} {t : TypeId} (h : w.heap[k]? = some (.cells #[a, b, c, d] t)) (x : Nm) : Lies (st4 w k x) k x := by
  have h4 := heap_set (j := 3) (heap_set (j := 2) (heap_set (j := 1) (heap_set (j := 0) h (.int .u64 x.a)) (.int .u64 x.b)) (.int .u64 x.c)) (.int .u64 x.d)
  exact ⟨by rw [(cells_of_block h4 0).1]; simp, by rw [(cells_of_block h4 1).1]; simp, by rw [(cells_of_block h4 2).1]; simp, by rw [(cells_of_block h4 3).1]; simp⟩
theorem Lies8.st8_self {w : World} {k : Nat} {a b c d e f g i : Value} {t : TypeId} (q : w.heap[k]? = some (.cells #[a, b, c, d, e, f, g, i] t)) (l h : Nm) : Lies8 (st8 w k l h) k l h := by
  have h4 := heap_set (j := 3) (heap_set (j := 2) (heap_set (j := 1) (heap_set (j := 0) q (.int .u64 l.a)) (.int .u64 l.b)) (.int .u64 l.c)) (.int .u64 l.d)
  have h8 := heap_set (j := 7) (heap_set (j := 6) (heap_set (j := 5) (heap_set (j := 4) h4 (.int .u64 h.a)) (.int .u64 h.b)) (.int .u64 h.c)) (.int .u64 h.d)
  exact ⟨by rw [(cells_of_block h8 0).1]; simp, by rw [(cells_of_block h8 1).1]; simp, by rw [(cells_of_block h8 2).1]; simp, by rw [(cells_of_block h8 3).1]; simp, by rw [(cells_of_block h8 4).1]; simp, by rw [(cells_of_block h8 5).1]; simp, by rw [(cells_of_block h8 6).1]; simp, by rw [(cells_of_block h8 7).1]; simp⟩
theorem size_st4 (w : World) (k : Nat) (x : Nm) : (st4 w k x).heap.size = w.heap.size := by simp [World.setCell]
theorem size_st8 (w : World) (k : Nat) (l h : Nm) : (st8 w k l h).heap.size = w.heap.size := by simp [World.setCell]
theorem below_st4 {B k : Nat} {a w : World} {x : Nm} (h : Below B a w) (hk : B ≤ k) : Below B a (st4 w k x) := (((h.setCell hk _).setCell hk _).setCell hk _).setCell hk _
theorem below_st8 {B k : Nat} {a w : World} {l x : Nm} (h : Below B a w) (hk : B ≤ k) : Below B a (st8 w k l x) := ((((below_st4 h hk).setCell hk _).setCell hk _).setCell hk _).setCell hk _
/-- The cells of a block of four, as the walk asks for them. -/
structure Cells4 (w : World) (k : Nat) (a b c d : Value) : Prop where
  a : w.cell? ⟨k, 0, none⟩ = some a
  b : w.cell? ⟨k, 1, none⟩ = some b
  c : w.cell? ⟨k, 2, none⟩ = some c
  d : w.cell? ⟨k, 3, none⟩ = some d
  fz : ∀ j, w.frozen? ⟨k, j, none⟩ = false
theorem cells4 {w : World} {k : Nat} {a b c d : Value} {t : TypeId} (h : w.heap[k]? = some (.cells #[a, b, c, d] t)) : Cells4 w k a b c d :=
  ⟨(cells_of_block h 0).1, (cells_of_block h 1).1, (cells_of_block h 2).1, (cells_of_block h 3).1, fun j => (cells_of_block h j).2⟩
structure Cells8 (w : World) (k : Nat) (a b c d e f g i : Value) : Prop where
  a : w.cell? ⟨k, 0, none⟩ = some a
  b : w.cell? ⟨k, 1, none⟩ = some b
  c : w.cell? ⟨k, 2, none⟩ = some c
  d : w.cell? ⟨k, 3, none⟩ = some d
  e : w.cell? ⟨k, 4, none⟩ = some e
  f : w.cell? ⟨k, 5, none⟩ = some f
  g : w.cell? ⟨k, 6, none⟩ = some g
  i : w.cell? ⟨k, 7, none⟩ = some i
  fz : ∀ j, w.frozen? ⟨k, j, none⟩ = false
theorem cells8 {w : World} {k : Nat} {a b c d e f g i : Value} {t : TypeId} (h : w.heap[k]? = some (.cells #[a, b, c, d, e, f, g, i] t)) : Cells8 w k a b c d e f g i :=
  ⟨(cells_of_block h 0).1, (cells_of_block h 1).1, (cells_of_block h 2).1, (cells_of_block h 3).1, (cells_of_block h 4).1, (cells_of_block h 5).1, (cells_of_block h 6).1, (cells_of_block h 7).1, fun j => (cells_of_block h j).2⟩
theorem frozen_out (w : World) (b j : Nat) (h : w.heap.size ≤ b) : w.frozen? ⟨b, j, none⟩ = false := by simp [World.frozen?, Array.getElem?_eq_none h]
theorem frozen_set {w : World} {a b : Addr} {v : Value} : (w.setCell a v).frozen? b = w.frozen? b := World.frozen?_setCell _ _ _ _
theorem Cells8.up {W w1 : World} {k : Nat} {a b c d e f g i : Value} (q : Cells8 W k a b c d e f g i) (hb : Below W.heap.size W w1) : Cells8 w1 k a b c d e f g i := by
  have hk := lt_of_cell q.a
  exact ⟨(hb.cell (p := ⟨k, 0, none⟩) hk).trans q.a, (hb.cell (p := ⟨k, 1, none⟩) hk).trans q.b, (hb.cell (p := ⟨k, 2, none⟩) hk).trans q.c, (hb.cell (p := ⟨k, 3, none⟩) hk).trans q.d,
    (hb.cell (p := ⟨k, 4, none⟩) hk).trans q.e, (hb.cell (p := ⟨k, 5, none⟩) hk).trans q.f, (hb.cell (p := ⟨k, 6, none⟩) hk).trans q.g, (hb.cell (p := ⟨k, 7, none⟩) hk).trans q.i, fun j => (hb.frozen (p := ⟨k, j, none⟩) hk).trans (q.fz j)⟩
theorem Cells8.set_ne {w : World} {k b j : Nat} {v a b' c d e f g i : Value} (q : Cells8 w b a b' c d e f g i) (hk : k ≠ b) : Cells8 (w.setCell ⟨k, j, none⟩ v) b a b' c d e f g i :=
  ⟨(cell_set_ne hk).trans q.a, (cell_set_ne hk).trans q.b, (cell_set_ne hk).trans q.c, (cell_set_ne hk).trans q.d, (cell_set_ne hk).trans q.e, (cell_set_ne hk).trans q.f, (cell_set_ne hk).trans q.g, (cell_set_ne hk).trans q.i, fun j => frozen_set.trans (q.fz j)⟩
theorem Cells8.st4_ne {w : World} {k b : Nat} {x : Nm} {a b' c d e f g i : Value} (q : Cells8 w b a b' c d e f g i) (hk : k ≠ b) : Cells8 (st4 w k x) b a b' c d e f g i := (((q.set_ne hk).set_ne hk).set_ne hk).set_ne hk
theorem Cells4.up {W w1 : World} {k : Nat} {a b c d : Value} (q : Cells4 W k a b c d) (hb : Below W.heap.size W w1) : Cells4 w1 k a b c d := by
  have hk := lt_of_cell q.a
  exact ⟨(hb.cell (p := ⟨k, 0, none⟩) hk).trans q.a, (hb.cell (p := ⟨k, 1, none⟩) hk).trans q.b, (hb.cell (p := ⟨k, 2, none⟩) hk).trans q.c, (hb.cell (p := ⟨k, 3, none⟩) hk).trans q.d, fun j => (hb.frozen (p := ⟨k, j, none⟩) hk).trans (q.fz j)⟩
theorem Cells4.set_ne {w : World} {k b j : Nat} {v a b' c d : Value} (q : Cells4 w b a b' c d) (hk : k ≠ b) : Cells4 (w.setCell ⟨k, j, none⟩ v) b a b' c d :=
  ⟨(cell_set_ne hk).trans q.a, (cell_set_ne hk).trans q.b, (cell_set_ne hk).trans q.c, (cell_set_ne hk).trans q.d, fun j => frozen_set.trans (q.fz j)⟩
theorem Cells4.st4_ne {w : World} {k b : Nat} {x : Nm} {a b' c d : Value} (q : Cells4 w b a b' c d) (hk : k ≠ b) : Cells4 (st4 w k x) b a b' c d := (((q.set_ne hk).set_ne hk).set_ne hk).set_ne hk
theorem cell_set_at {w : World} {k j j' : Nat} {v u : Value} (h : w.cell? ⟨k, j, none⟩ = some u) (hj : j' ≠ j) : (w.setCell ⟨k, j', none⟩ v).cell? ⟨k, j, none⟩ = some u := by
  rw [World.cell?_setCell_other (a := ⟨k, j', none⟩) (b := ⟨k, j, none⟩) _ _ (by intro h; cases h; exact hj rfl)]
  exact h
theorem cell_same {w : World} {a : Addr} {u : Value} (h : w.cell? a = some u) (v : Value) : (w.setCell a v).cell? a = some v := World.cell?_setCell_same _ _ _ h
theorem Cells4.st4_self {w : World} {k : Nat} {x : Nm} {a b c d : Value} (q : Cells4 w k a b c d) : Cells4 (st4 w k x) k (.int .u64 x.a) (.int .u64 x.b) (.int .u64 x.c) (.int .u64 x.d) := by
  refine ⟨?_, ?_, ?_, ?_, fun j => frozen_set.trans (frozen_set.trans (frozen_set.trans (frozen_set.trans (q.fz j))))⟩
  · exact cell_set_at (cell_set_at (cell_set_at (cell_same q.a _) (by decide)) (by decide)) (by decide)
  · exact cell_set_at (cell_set_at (cell_same (cell_set_at (j' := 0) q.b (by decide)) _) (by decide)) (by decide)
  · exact cell_set_at (cell_same (cell_set_at (j' := 1) (cell_set_at (j' := 0) q.c (by decide)) (by decide)) _) (by decide)
  · exact cell_same (cell_set_at (j' := 2) (cell_set_at (j' := 1) (cell_set_at (j' := 0) q.d (by decide)) (by decide)) (by decide)) _
theorem Cells4.lies {w : World} {k : Nat} {x : Nm} (q : Cells4 w k (.int .u64 x.a) (.int .u64 x.b) (.int .u64 x.c) (.int .u64 x.d)) : Lies w k x := ⟨q.a, q.b, q.c, q.d⟩
theorem Cells8.st8_self {w : World} {k : Nat} {l h : Nm} {a b c d e f g i : Value} (q : Cells8 w k a b c d e f g i) : Lies8 (st8 w k l h) k l h := by
  refine ⟨?_, ?_, ?_, ?_, ?_, ?_, ?_, ?_⟩
  · exact cell_set_at (j' := 7) (cell_set_at (j' := 6) (cell_set_at (j' := 5) (cell_set_at (j' := 4) (cell_set_at (j' := 3) (cell_set_at (j' := 2) (cell_set_at (j' := 1) (cell_same (q.a) _) (by decide)) (by decide)) (by decide)) (by decide)) (by decide)) (by decide)) (by decide)
  · exact cell_set_at (j' := 7) (cell_set_at (j' := 6) (cell_set_at (j' := 5) (cell_set_at (j' := 4) (cell_set_at (j' := 3) (cell_set_at (j' := 2) (cell_same (cell_set_at (j' := 0) (q.b) (by decide)) _) (by decide)) (by decide)) (by decide)) (by decide)) (by decide)) (by decide)
  · exact cell_set_at (j' := 7) (cell_set_at (j' := 6) (cell_set_at (j' := 5) (cell_set_at (j' := 4) (cell_set_at (j' := 3) (cell_same (cell_set_at (j' := 1) (cell_set_at (j' := 0) (q.c) (by decide)) (by decide)) _) (by decide)) (by decide)) (by decide)) (by decide)) (by decide)
  · exact cell_set_at (j' := 7) (cell_set_at (j' := 6) (cell_set_at (j' := 5) (cell_set_at (j' := 4) (cell_same (cell_set_at (j' := 2) (cell_set_at (j' := 1) (cell_set_at (j' := 0) (q.d) (by decide)) (by decide)) (by decide)) _) (by decide)) (by decide)) (by decide)) (by decide)
  · exact cell_set_at (j' := 7) (cell_set_at (j' := 6) (cell_set_at (j' := 5) (cell_same (cell_set_at (j' := 3) (cell_set_at (j' := 2) (cell_set_at (j' := 1) (cell_set_at (j' := 0) (q.e) (by decide)) (by decide)) (by decide)) (by decide)) _) (by decide)) (by decide)) (by decide)
  · exact cell_set_at (j' := 7) (cell_set_at (j' := 6) (cell_same (cell_set_at (j' := 4) (cell_set_at (j' := 3) (cell_set_at (j' := 2) (cell_set_at (j' := 1) (cell_set_at (j' := 0) (q.f) (by decide)) (by decide)) (by decide)) (by decide)) (by decide)) _) (by decide)) (by decide)
  · exact cell_set_at (j' := 7) (cell_same (cell_set_at (j' := 5) (cell_set_at (j' := 4) (cell_set_at (j' := 3) (cell_set_at (j' := 2) (cell_set_at (j' := 1) (cell_set_at (j' := 0) (q.g) (by decide)) (by decide)) (by decide)) (by decide)) (by decide)) (by decide)) _) (by decide)
  · exact cell_same (cell_set_at (j' := 6) (cell_set_at (j' := 5) (cell_set_at (j' := 4) (cell_set_at (j' := 3) (cell_set_at (j' := 2) (cell_set_at (j' := 1) (cell_set_at (j' := 0) (q.i) (by decide)) (by decide)) (by decide)) (by decide)) (by decide)) (by decide)) (by decide)) _
theorem Lies.alloc {w : World} {k : Nat} {x : Nm} (h : Lies w k x) (o : Obj) : Lies (w.alloc o) k x := h.up ((Below.refl _ _).alloc (Nat.le_refl _) _)
theorem Lies8.alloc {w : World} {k : Nat} {l h : Nm} (q : Lies8 w k l h) (o : Obj) : Lies8 (w.alloc o) k l h := q.up ((Below.refl _ _).alloc (Nat.le_refl _) _)
theorem Lies.new (w : World) (x : Nm) (t : TypeId) : Lies (w.alloc (.cells #[.int .u64 x.a, .int .u64 x.b, .int .u64 x.c, .int .u64 x.d] t)) w.heap.size x := by constructor <;> simp
theorem Cells8.st8_ne {w : World} {k b : Nat} {x y : Nm} {a b' c d e f g i : Value} (q : Cells8 w b a b' c d e f g i) (hk : k ≠ b) : Cells8 (st8 w k x y) b a b' c d e f g i := ((((q.st4_ne hk).set_ne hk).set_ne hk).set_ne hk).set_ne hk
theorem Cells8.lies {w : World} {k : Nat} {l h : Nm} (q : Cells8 w k (.int .u64 l.a) (.int .u64 l.b) (.int .u64 l.c) (.int .u64 l.d) (.int .u64 h.a) (.int .u64 h.b) (.int .u64 h.c) (.int .u64 h.d)) : Lies8 w k l h := ⟨q.a, q.b, q.c, q.d, q.e, q.f, q.g, q.i⟩
end Go.Proofs.YtfanndkhajokcaaDoor

/- The contracts of limb.shiftLeft, limb.shiftRight and limb.Shift, by what they are worth. -/
namespace Go.Proofs.YtfanndkhajokcaaDoor
open Go.RowKit
attribute [local go_sem] World.cell?_alloc_some

theorem ret_n {x y : Nm} (h : x = y) : Ending.returned (N x) = .returned (N y) := by rw [h]
theorem zw : Word 0 := ⟨by decide, by decide⟩
theorem wrap0 (s : Nat) : IntKind.u64.wrap (0 * 2 ^ s) = 0 := by rw [Int.zero_mul, IntKind.wrap_u64]; rfl

theorem shl_fun (x : Nm) (hx : x.ok) (n : Nat) (hn : n < 256) (w : World) :
    Calls Tryd.prog 39 #[N x, .int .i64 n] w fun e w' => e = .returned (N (Nm.of (x.val * 2 ^ n % M))) ∧ Below w.heap.size w w' := by
  have hs : n % 64 < 64 := by omega
  have hq : n / 64 = 0 ∨ n / 64 = 1 ∨ n / 64 = 2 ∨ n / 64 = 3 := by omega
  rcases hq with h | h | h | h
  · refine (shl_walk0 x n (n % 64) h rfl hs w).mono ?_
    rintro e w' ⟨rfl, hb⟩
    refine ⟨ret_n ?_, hb⟩
    rw [(shl_or hx.b hx.a hs).1, (shl_or hx.c hx.b hs).1, (shl_or hx.d hx.c hs).1]
    obtain ⟨t, ht⟩ := shl_val (y := ⟨x.a, x.b, x.c, x.d⟩) ⟨hx.a, hx.b, hx.c, hx.d⟩ hs
    refine shl_of (q := 0) (t := t) (t' := 0) ⟨(shl_split hx.a hs).2, (shl_or hx.b hx.a hs).2, (shl_or hx.c hx.b hs).2, (shl_or hx.d hx.c hs).2⟩ ht ?_ (by omega)
    simp only [Nm.val, M]
    have : (2 : Int) ^ (64 * 0) = 1 := rfl
    omega
  · refine (shl_walk1 x n (n % 64) h rfl hs w).mono ?_
    rintro e w' ⟨rfl, hb⟩
    refine ⟨ret_n ?_, hb⟩
    rw [(shl_or hx.b hx.a hs).1, (shl_or hx.c hx.b hs).1]
    obtain ⟨t, ht⟩ := shl_val (y := ⟨0, x.a, x.b, x.c⟩) ⟨zw, hx.a, hx.b, hx.c⟩ hs
    simp only [wrap0, Int.zero_ediv, Int.add_zero] at ht
    refine shl_of (q := 1) (t := t) (t' := 1 * x.d) ⟨zw, (shl_split hx.a hs).2, (shl_or hx.b hx.a hs).2, (shl_or hx.c hx.b hs).2⟩ ht ?_ (by omega)
    simp only [Nm.val, M]
    have : (2 : Int) ^ (64 * 1) = 18446744073709551616 := rfl
    omega
  · refine (shl_walk2 x n (n % 64) h rfl hs w).mono ?_
    rintro e w' ⟨rfl, hb⟩
    refine ⟨ret_n ?_, hb⟩
    rw [(shl_or hx.b hx.a hs).1]
    obtain ⟨t, ht⟩ := shl_val (y := ⟨0, 0, x.a, x.b⟩) ⟨zw, zw, hx.a, hx.b⟩ hs
    simp only [wrap0, Int.zero_ediv, Int.add_zero] at ht
    refine shl_of (q := 2) (t := t) (t' := 1 * x.c + 18446744073709551616 * x.d) ⟨zw, zw, (shl_split hx.a hs).2, (shl_or hx.b hx.a hs).2⟩ ht ?_ (by omega)
    simp only [Nm.val, M]
    have : (2 : Int) ^ (64 * 2) = 340282366920938463463374607431768211456 := rfl
    omega
  · refine (shl_walk3 x n (n % 64) h rfl hs w).mono ?_
    rintro e w' ⟨rfl, hb⟩
    refine ⟨ret_n ?_, hb⟩
    obtain ⟨t, ht⟩ := shl_val (y := ⟨0, 0, 0, x.a⟩) ⟨zw, zw, zw, hx.a⟩ hs
    simp only [wrap0, Int.zero_ediv, Int.add_zero] at ht
    refine shl_of (q := 3) (t := t) (t' := 1 * x.b + 18446744073709551616 * x.c + 340282366920938463463374607431768211456 * x.d) ⟨zw, zw, zw, (shl_split hx.a hs).2⟩ ht ?_ (by omega)
    simp only [Nm.val, M]
    have : (2 : Int) ^ (64 * 3) = 6277101735386680763835789423207666416102355444464034512896 := rfl
    omega
theorem shr_fun (x : Nm) (hx : x.ok) (n : Nat) (hn : n < 256) (w : World) :
    Calls Tryd.prog 38 #[N x, .int .i64 n] w fun e w' => e = .returned (N (Nm.of (x.val / 2 ^ n))) ∧ Below w.heap.size w w' := by
  have hs : n % 64 < 64 := by omega
  have hq : n / 64 = 0 ∨ n / 64 = 1 ∨ n / 64 = 2 ∨ n / 64 = 3 := by omega
  have hd := shr_or hx.d zw hs
  simp only [Int.zero_emod, Int.zero_mul, Int.add_zero] at hd
  rcases hq with h | h | h | h
  · refine (shr_walk0 x n (n % 64) h rfl hs w).mono ?_
    rintro e w' ⟨rfl, hb⟩
    refine ⟨ret_n ?_, hb⟩
    rw [(shr_or hx.a hx.b hs).1, (shr_or hx.b hx.c hs).1, (shr_or hx.c hx.d hs).1]
    have ht := shr_val ⟨x.a, x.b, x.c, x.d⟩ hs
    refine shr_of (q := 0) ⟨(shr_or hx.a hx.b hs).2, (shr_or hx.b hx.c hs).2, (shr_or hx.c hx.d hs).2, hd.2⟩ ht ?_ (by omega)
    obtain ⟨⟨_, _⟩, ⟨_, _⟩, ⟨_, _⟩, ⟨_, _⟩⟩ := hx
    simp only [Nm.val]
    have : (2 : Int) ^ (64 * 0) = 1 := rfl
    rw [this]
    omega
  · refine (shr_walk1 x n (n % 64) h rfl hs w).mono ?_
    rintro e w' ⟨rfl, hb⟩
    refine ⟨ret_n ?_, hb⟩
    rw [(shr_or hx.b hx.c hs).1, (shr_or hx.c hx.d hs).1]
    have ht := shr_val ⟨x.b, x.c, x.d, 0⟩ hs
    simp only [Int.zero_ediv, Int.zero_emod, Int.zero_mul, Int.add_zero] at ht
    refine shr_of (q := 1) ⟨(shr_or hx.b hx.c hs).2, (shr_or hx.c hx.d hs).2, hd.2, zw⟩ ht ?_ (by omega)
    obtain ⟨⟨_, _⟩, ⟨_, _⟩, ⟨_, _⟩, ⟨_, _⟩⟩ := hx
    simp only [Nm.val]
    have : (2 : Int) ^ (64 * 1) = 18446744073709551616 := rfl
    rw [this]
    omega
  · refine (shr_walk2 x n (n % 64) h rfl hs w).mono ?_
    rintro e w' ⟨rfl, hb⟩
    refine ⟨ret_n ?_, hb⟩
    rw [(shr_or hx.c hx.d hs).1]
    have ht := shr_val ⟨x.c, x.d, 0, 0⟩ hs
    simp only [Int.zero_ediv, Int.zero_emod, Int.zero_mul, Int.add_zero] at ht
    refine shr_of (q := 2) ⟨(shr_or hx.c hx.d hs).2, hd.2, zw, zw⟩ ht ?_ (by omega)
    obtain ⟨⟨_, _⟩, ⟨_, _⟩, ⟨_, _⟩, ⟨_, _⟩⟩ := hx
    simp only [Nm.val]
    have : (2 : Int) ^ (64 * 2) = 340282366920938463463374607431768211456 := rfl
    rw [this]
    omega
  · refine (shr_walk3 x n (n % 64) h rfl hs w).mono ?_
    rintro e w' ⟨rfl, hb⟩
    refine ⟨ret_n ?_, hb⟩
    have ht := shr_val ⟨x.d, 0, 0, 0⟩ hs
    simp only [Int.zero_ediv, Int.zero_emod, Int.zero_mul, Int.add_zero] at ht
    refine shr_of (q := 3) ⟨hd.2, zw, zw, zw⟩ ht ?_ (by omega)
    obtain ⟨⟨_, _⟩, ⟨_, _⟩, ⟨_, _⟩, ⟨_, _⟩⟩ := hx
    simp only [Nm.val]
    have : (2 : Int) ^ (64 * 3) = 6277101735386680763835789423207666416102355444464034512896 := rfl
    rw [this]
    omega
end Go.Proofs.YtfanndkhajokcaaDoor

/- The contract of limb.Shift, for the distances that a number of 256 bits has. -/
namespace Go.Proofs.YtfanndkhajokcaaDoor
open Go.RowKit
attribute [local go_sem] World.cell?_alloc_some

set_option maxHeartbeats 400000 in
theorem shift_pos (x : Nm) (hx : x.ok) (n : Nat) (hn : n < 256) (w : World) :
    Calls Tryd.prog 19 #[N x, .int .i64 n] w fun e w' => e = .returned (N (Nm.of (x.val * 2 ^ n % M))) ∧ Below w.heap.size w w' := by
  have hs := shl_fun x hx n hn
  generalize Nm.of (x.val * 2 ^ n % M) = r at *
  have h1 : ¬ ((n : Int) ≤ -256) := by omega
  have h2 : ¬ ((n : Int) ≥ 256) := by omega
  have h3 : ¬ ((n : Int) < 0) := by omega
  go_enter Tryd.func19, Tryd.ntmps19
  go_wp2_with fail
  refine (hs _).mono ?_
  rintro e w1 ⟨rfl, hb1⟩
  have b1 : Hid (Below w.heap.size w w1) := by
    refine Below.trans ?_ (hb1.mono (by first | omega | (simp <;> omega)))
    repeat (first | exact Below.refl _ _ | refine Below.alloc ?_ (by first | omega | (simp <;> omega)) _)
  obtain ⟨c0, c1, c2, c3, cz⟩ := Cells4.up (W := _) (k := w.heap.size + 1) (a := .int .u64 0) (b := .int .u64 0) (c := .int .u64 0) (d := .int .u64 0) (by constructor <;> simp [go_sem]) hb1
  clear hb1
  go_wp2_with fail
  refine bodyPost_ret (v := N r) ?_ rfl ⟨rfl, below_st4 (x := r) b1.out (by omega)⟩
  obtain ⟨r0, r1, r2, r3, rz⟩ := Cells4.st4_self (x := r) ⟨c0, c1, c2, c3, cz⟩
  show (results Tryd.f19 _).run Tryd.prog (st4 w1 (w.heap.size + 1) r) = .ok _ (st4 w1 (w.heap.size + 1) r)
  generalize st4 w1 (w.heap.size + 1) r = W5 at *
  simp [results, Tryd.results19, go_sem, r0, r1, r2, r3]

set_option maxHeartbeats 400000 in
theorem shift_neg (x : Nm) (hx : x.ok) (n : Nat) (h0 : 0 < n) (hn : n < 256) (w : World) :
    Calls Tryd.prog 19 #[N x, .int .i64 (-(n : Int))] w fun e w' => e = .returned (N (Nm.of (x.val / 2 ^ n))) ∧ Below w.heap.size w w' := by
  have hs := shr_fun x hx n hn
  generalize Nm.of (x.val / 2 ^ n) = r at *
  have h1 : ¬ (-(n : Int) ≤ -256) := by omega
  have h2 : ¬ (-(n : Int) ≥ 256) := by omega
  have h3 : -(n : Int) < 0 := by omega
  go_enter Tryd.func19, Tryd.ntmps19
  go_wp2_with fail
  refine (hs _).mono ?_
  rintro e w1 ⟨rfl, hb1⟩
  have b1 : Hid (Below w.heap.size w w1) := by
    refine Below.trans ?_ (hb1.mono (by first | omega | (simp <;> omega)))
    repeat (first | exact Below.refl _ _ | refine Below.alloc ?_ (by first | omega | (simp <;> omega)) _)
  obtain ⟨c0, c1, c2, c3, cz⟩ := Cells4.up (W := _) (k := w.heap.size + 1) (a := .int .u64 0) (b := .int .u64 0) (c := .int .u64 0) (d := .int .u64 0) (by constructor <;> simp [go_sem]) hb1
  clear hb1
  go_wp2_with fail
  refine bodyPost_ret (v := N r) ?_ rfl ⟨rfl, below_st4 (x := r) b1.out (by omega)⟩
  obtain ⟨r0, r1, r2, r3, rz⟩ := Cells4.st4_self (x := r) ⟨c0, c1, c2, c3, cz⟩
  show (results Tryd.f19 _).run Tryd.prog (st4 w1 (w.heap.size + 1) r) = .ok _ (st4 w1 (w.heap.size + 1) r)
  generalize st4 w1 (w.heap.size + 1) r = W5 at *
  simp [results, Tryd.results19, go_sem, r0, r1, r2, r3]
end Go.Proofs.YtfanndkhajokcaaDoor
