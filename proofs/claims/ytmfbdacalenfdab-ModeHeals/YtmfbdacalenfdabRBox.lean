/- The contracts of sealringref.Box and Unbox: the bytes put for all bytes. -/
import Derived.Test.YtmfbdacalenfdabGrp17
import Derived.Test.YtmfbdacalenfdabGArr
namespace Go.Proofs.Ytmfbdacalenfdab
open Go.RowKit
set_option linter.unusedSimpArgs false
namespace G
/-- Powers of 3, and their inverses. -/
theorem three_inv : ∀ k < 255, mul (pow 3 k) (pow 3 ((255 - k) % 255)) = 1 := by
  intro k hk
  rw [← pow_add (by decide)]
  by_cases h0 : k = 0
  · subst h0; decide +kernel
  · rw [show (255 - k) % 255 = 255 - k by omega, show k + (255 - k) = 255 by omega]
    exact pow255 3 (by decide) (by decide)
theorem inv_three {k : Nat} (hk : k < 255) : pow 3 ((255 - k) % 255) = inv (pow 3 k) := inv_only (pow_lt256 k) (pow_lt256 _) (three_inv k hk)
/-- How many of the bits are set that are taken for bit i: the first t of five. -/
def bitN (b i : Nat) : Nat → Nat
  | 0 => 99 / 2 ^ i % 2
  | t + 1 => bitN b i t + b / 2 ^ ((i + [0, 4, 5, 6, 7].getD t 0) % 8) % 2
/-- The first i bits of the byte put for b's inverse. -/
def boxN (b : Nat) : Nat → Nat
  | 0 => 0
  | i + 1 => boxN b i + bitN b i 5 % 2 * 2 ^ i
theorem box_aff : ∀ b < 256, boxN b 8 = aff b := by decide +kernel
theorem bitN_le (b i : Nat) : ∀ t, bitN b i t ≤ t + 1
  | 0 => by rw [bitN]; omega
  | t + 1 => by have := bitN_le b i t; rw [bitN]; omega
theorem boxN_lt (b : Nat) : ∀ i, boxN b i < 2 ^ i
  | 0 => by rw [boxN]; decide
  | i + 1 => by
    have ih := boxN_lt b i
    have h2 : bitN b i 5 % 2 * 2 ^ i ≤ 1 * 2 ^ i := Nat.mul_le_mul_right _ (by omega)
    rw [boxN, Nat.pow_succ]
    omega
def boxL : List Nat := (List.range 256).map sub
def unboxL : List Nat := (List.range 256).map unsub
end G
/-- So many bytes that are 0, as cells. -/
def zB (n : Nat) : List Value := (List.replicate n 0).map b8
theorem zB_length (n : Nat) : (zB n).length = n := by simp [zB]
theorem zero_of {t : TypeId} {v : Value} (h : (Try.prog.info? t).map (·.zero) = some (some v)) (w : World) : (zeroValue t).run Try.prog w = .ok v w := by
  cases hq : Try.prog.info? t with
  | none => simp [hq] at h
  | some d =>
    have hz : d.zero = some v := by simpa [hq] using h
    simp [zeroValue, typeInfo, hq, hz]
theorem al4 (w : World) (C0 C1 C2 C3 : Array Value) (t0 t1 t2 t3 : TypeId) : Blk ((((w.alloc (.cells C0 t0)).alloc (.cells C1 t1)).alloc (.cells C2 t2)).alloc (.cells C3 t3)) w.heap.size C0.toList ∧ Blk ((((w.alloc (.cells C0 t0)).alloc (.cells C1 t1)).alloc (.cells C2 t2)).alloc (.cells C3 t3)) (w.heap.size + 1) C1.toList ∧ Blk ((((w.alloc (.cells C0 t0)).alloc (.cells C1 t1)).alloc (.cells C2 t2)).alloc (.cells C3 t3)) (w.heap.size + 1 + 1) C2.toList ∧ Blk ((((w.alloc (.cells C0 t0)).alloc (.cells C1 t1)).alloc (.cells C2 t2)).alloc (.cells C3 t3)) (w.heap.size + 1 + 1 + 1) C3.toList ∧ Below w.heap.size w ((((w.alloc (.cells C0 t0)).alloc (.cells C1 t1)).alloc (.cells C2 t2)).alloc (.cells C3 t3)) := by
  obtain ⟨a0, a1, a2, a3⟩ := al3 w C0 C1 C2 t0 t1 t2
  obtain ⟨b0, b1⟩ := al1 (((w.alloc (.cells C0 t0)).alloc (.cells C1 t1)).alloc (.cells C2 t2)) C3 t3
  rw [show (((w.alloc (.cells C0 t0)).alloc (.cells C1 t1)).alloc (.cells C2 t2)).heap.size = w.heap.size + 1 + 1 + 1 by simp] at b0 b1
  exact ⟨a0.up b1 (by omega), a1.up b1 (by omega), a2.up b1 (by omega), b0, a3.trans (b1.mono (by omega))⟩
/-- The four rows that Box makes. -/
structure BX (w wr : World) (l1 l2 l3 : List Nat) : Prop where
  r0 : Blk wr w.heap.size (zB 256)
  r1 : Blk wr (w.heap.size + 1) (l1.map b8)
  r2 : Blk wr (w.heap.size + 1 + 1) (l2.map b8)
  r3 : Blk wr (w.heap.size + 1 + 1 + 1) (l3.map b8)
  be : Below w.heap.size w wr
theorem BX.up {w wr w1 : World} {l1 l2 l3 : List Nat} (h : BX w wr l1 l2 l3) (hb : Below wr.heap.size wr w1) : BX w w1 l1 l2 l3 :=
  ⟨h.r0.up hb h.r0.lt, h.r1.up hb h.r1.lt, h.r2.up hb h.r2.lt, h.r3.up hb h.r3.lt, h.be.trans (hb.mono h.be.size)⟩
theorem Blk.setB {w : World} {k : Nat} {l : List Nat} (h : Blk w k (l.map b8)) (j y : Nat) (hj : j < l.length) : Blk (w.setCell ⟨k, j, none⟩ (b8 y)) k ((l.set j y).map b8) := by
  rw [List.map_set]
  exact h.set j _ (by rw [List.length_map]; exact hj)
theorem BX.set1 {w wr : World} {l1 l2 l3 : List Nat} (h : BX w wr l1 l2 l3) (j y : Nat) (hj : j < l1.length) : BX w (wr.setCell ⟨w.heap.size + 1, j, none⟩ (b8 y)) (l1.set j y) l2 l3 :=
  ⟨h.r0.apart1 (by omega), h.r1.setB j y hj, h.r2.apart1 (by omega), h.r3.apart1 (by omega), h.be.setCell (p := ⟨w.heap.size + 1, j, none⟩) (Nat.le_succ _) _⟩
theorem BX.set2 {w wr : World} {l1 l2 l3 : List Nat} (h : BX w wr l1 l2 l3) (j y : Nat) (hj : j < l2.length) : BX w (wr.setCell ⟨w.heap.size + 1 + 1, j, none⟩ (b8 y)) l1 (l2.set j y) l3 :=
  ⟨h.r0.apart1 (by omega), h.r1.apart1 (by omega), h.r2.setB j y hj, h.r3.apart1 (by omega), h.be.setCell (p := ⟨w.heap.size + 1 + 1, j, none⟩) (by show w.heap.size ≤ w.heap.size + 1 + 1; omega) _⟩
theorem BX.set3 {w wr : World} {l1 l2 l3 : List Nat} (h : BX w wr l1 l2 l3) (j y : Nat) (hj : j < l3.length) : BX w (wr.setCell ⟨w.heap.size + 1 + 1 + 1, j, none⟩ (b8 y)) l1 l2 (l3.set j y) :=
  ⟨h.r0.apart1 (by omega), h.r1.apart1 (by omega), h.r2.apart1 (by omega), h.r3.setB j y hj, h.be.setCell (p := ⟨w.heap.size + 1 + 1 + 1, j, none⟩) (by show w.heap.size ≤ w.heap.size + 1 + 1 + 1; omega) _⟩
theorem Blk.byte {w : World} {k : Nat} {l : List Nat} (h : Blk w k (l.map b8)) (j : Nat) (hj : j < l.length) : w.cell? ⟨k, j, none⟩ = some (b8 (l.getD j 0)) :=
  h.cell j _ (by simp [List.getD_eq_getElem?_getD, hj])
/-- The first j of so many, and then 0. -/
def upL (f : Nat → Nat) (n j : Nat) : List Nat := (List.range j).map f ++ List.replicate (n - j) 0
theorem upL_length (f : Nat → Nat) (n j : Nat) (h : j ≤ n) : (upL f n j).length = n := by simp [upL]; omega
theorem upL_set (f : Nat → Nat) (n j : Nat) (h : j < n) : (upL f n j).set j (f j) = upL f n (j + 1) := by
  unfold upL
  rw [List.set_append_right _ _ (by simp), List.length_map, List.length_range, Nat.sub_self, show n - j = n - (j + 1) + 1 by omega, List.replicate_succ, List.set_cons_zero, List.range_succ, List.map_append, List.append_assoc]
  rfl
theorem upL_all (f : Nat → Nat) (n : Nat) : upL f n n = (List.range n).map f := by simp [upL]
theorem upL_zero (f : Nat → Nat) (n : Nat) : upL f n 0 = List.replicate n 0 := by simp [upL]
theorem range_getD (f : Nat → Nat) (n i : Nat) (h : i < n) : ((List.range n).map f).getD i 0 = f i := by simp [List.getD_eq_getElem?_getD, h]
theorem getD_set (l : List Nat) (i j y : Nat) (hi : i < l.length) : (l.set i y).getD j 0 = if i = j then y else l.getD j 0 := by
  simp only [List.getD_eq_getElem?_getD, List.getElem?_set]
  split
  · simp [hi]
  · rfl
theorem list_of (l : List Nat) (n : Nat) (f : Nat → Nat) (hl : l.length = n) (h : ∀ i, i < n → l.getD i 0 = f i) : l = (List.range n).map f := by
  apply List.ext_getElem?
  intro i
  rcases Nat.lt_or_ge i n with hi | hi
  · have := h i hi
    rw [List.getD_eq_getElem?_getD, List.getElem?_eq_getElem (by omega)] at this
    rw [List.getElem?_eq_getElem (by omega)]
    simp [hi]
    simpa using this
  · rw [List.getElem?_eq_none (by omega), List.getElem?_eq_none (by simp; omega)]
theorem box_step (B B' c n : Nat) (hn : n < 8) (hB : B < 2 ^ n) (hB' : B' = B + c % 2 * 2 ^ n) : ∃ r p : Nat, (c : Int).tmod 2 = (r : Int) ∧ (c : Int) % 2 = (r : Int) ∧ (r : Int) * 2 ^ n = (p : Int) ∧ wrap64 (p : Int) = (p : Int) ∧ IntKind.i64.wrap ((B : Int) + (p : Int)) = (B' : Int) := by
  refine ⟨c % 2, c % 2 * 2 ^ n, ?_, ?_, by simp, ?_, ?_⟩
  · rw [Int.tmod_eq_emod_of_nonneg (by omega)]; omega
  · omega
  all_goals
    have h7 : 2 ^ n ≤ 2 ^ 7 := Nat.pow_le_pow_right (by decide) (by omega)
    have h1 : c % 2 * 2 ^ n ≤ 1 * 2 ^ n := Nat.mul_le_mul_right _ (by omega)
    generalize 2 ^ n = q at *
    generalize c % 2 * q = p at *
  · unfold wrap64; omega
  · rw [IntKind.wrap_i64]; omega
theorem bit_step (b n kv N N' : Nat) (hn : n < 8) (hk : kv < 8) (hN : N ≤ 6) (hN' : N' = N + b / 2 ^ ((n + kv) % 8) % 2) : ∃ m q x : Nat, m < 8 ∧ IntKind.i64.wrap ((n : Int) + (kv : Int)) = (n : Int) + (kv : Int) ∧ ((n : Int) + (kv : Int)).tmod 8 = (m : Int) ∧ ((n : Int) + (kv : Int)) % 8 = (m : Int) ∧ (b : Int) / 2 ^ m = (q : Int) ∧ bits .and .i64 (q : Int) 1 = (x : Int) ∧ IntKind.i64.wrap ((N : Int) + (x : Int)) = (N' : Int) := by
  refine ⟨(n + kv) % 8, b / 2 ^ ((n + kv) % 8), b / 2 ^ ((n + kv) % 8) % 2, by omega, by rw [IntKind.wrap_i64]; omega, by rw [Int.tmod_eq_emod_of_nonneg (by omega)]; omega, by omega, by simp, g64_and1 _, ?_⟩
  generalize b / 2 ^ ((n + kv) % 8) = q at *
  rw [IntKind.wrap_i64]
  omega
theorem box_get {a : Nat} (h : a < 256) : G.boxL.getD a 0 = G.sub a := range_getD G.sub 256 a h
theorem unbox_get {a : Nat} (h : a < 256) : G.unboxL.getD a 0 = G.unsub a := range_getD G.unsub 256 a h
end Go.Proofs.Ytmfbdacalenfdab
