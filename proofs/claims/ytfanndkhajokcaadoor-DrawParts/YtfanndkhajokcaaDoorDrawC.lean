/- What is asked of a source of bytes, whatever it keeps: the contracts of package draw as one premise. -/
import Derived.Test.YtfanndkhajokcaaDoorRDraw
import Derived.Test.YtfanndkhajokcaaDoorHLaw
namespace Go.Proofs.YtfanndkhajokcaaDoor
open Go.RowKit
set_option linter.unusedSimpArgs false
/-- Nothing but block k, and what is new, is another. -/
abbrev Fr (w : World) (k : Nat) (w' : World) : Prop := w.grownBy w' (some k)
theorem Fr.refl (w : World) (k : Nat) : Fr w k w := ⟨rfl, rfl, rfl, Nat.le_refl _, fun _ _ _ => rfl⟩
theorem Fr.then {w a b : World} {k : Nat} (h : Fr w k a) (hb : Below a.heap.size a b) : Fr w k b :=
  ⟨hb.os.trans h.os, hb.tape.trans h.tape, hb.output.trans h.output, Nat.le_trans h.size hb.size, fun j hj hk => (hb.block j (Nat.lt_of_lt_of_le hj h.size)).trans (h.block j hj hk)⟩
theorem Fr.below {w a : World} {k B : Nat} (h : Fr w k a) (hB : B ≤ w.heap.size) (hk : B ≤ k) : Below B w a := Below.grown (Below.refl _ _) h hB (fun j hj => by cases hj; exact hk)
abbrev ptr (k : Nat) : Value := .pointer (some ⟨k, 0, none⟩)
/-- Src w k F seed p: in block k lies a source of this seed, at place p; it looks at the blocks F alone. -/
structure SrcC (Src : World → Nat → (Nat → Prop) → List Nat → Nat → Prop) : Prop where
  stay : ∀ {W w1 : World} {k p : Nat} {F : Nat → Prop} {seed : List Nat}, Src W k F seed p → (∀ g, F g → w1.heap[g]? = W.heap[g]?) → Src w1 k F seed p
  lt : ∀ {W : World} {k p : Nat} {F : Nat → Prop} {seed : List Nat}, Src W k F seed p → ∀ g, F g → g < W.heap.size
  self : ∀ {W : World} {k p : Nat} {F : Nat → Prop} {seed : List Nat}, Src W k F seed p → F k
  small : ∀ {W : World} {k p : Nat} {F : Nat → Prop} {seed : List Nat}, Src W k F seed p → p < 18446744073709551616
  new : ∀ (seed : List Nat) (_ : ∀ x ∈ seed, x < 256) (_ : seed.length ≤ 500000000000000) (v : Value) (w : World) (_ : By w v seed) (_ : KTab w), Calls Tryd.prog 8 #[v] w fun e w' => (∃ k F, e = .returned (ptr k) ∧ w.heap.size ≤ k ∧ (∀ g, F g → w.heap.size ≤ g) ∧ Src w' k F seed 0) ∧ Below w.heap.size w w'
  place : ∀ {seed : List Nat} {F : Nat → Prop} {k p : Nat} (w : World) (_ : Src w k F seed p), Calls Tryd.prog 11 #[ptr k] w fun e w' => e = .returned (.int .u64 (p : Int)) ∧ Below w.heap.size w w'
  bytes : ∀ {seed : List Nat} {F : Nat → Prop} {k p : Nat} (n : Nat) (_ : n ≤ 4096) (w : World) (_ : Src w k F seed p) (_ : KTab w) (_ : 0 < k), Calls Tryd.prog 13 #[ptr k, .int .i64 (n : Int)] w fun e w' => (∃ v', e = .returned (.tuple #[v', .int .i64 0]) ∧ Ob w' w.heap.size v' (drawS seed p n)) ∧ Src w' k F seed ((p + n) % 18446744073709551616) ∧ Fr w k w'
  bytesNeg : ∀ {seed : List Nat} {F : Nat → Prop} {k p : Nat} (n : Int) (_ : n < 0) (w : World) (_ : Src w k F seed p), Calls Tryd.prog 13 #[ptr k, .int .i64 n] w fun e w' => (∃ v', e = .returned (.tuple #[v', .int .i64 1]) ∧ By w' v' []) ∧ Below w.heap.size w w'
  bytesLarge : ∀ {seed : List Nat} {F : Nat → Prop} {k p : Nat} (n : Int) (_ : 4096 < n) (w : World) (_ : Src w k F seed p), Calls Tryd.prog 13 #[ptr k, .int .i64 n] w fun e w' => (∃ v', e = .returned (.tuple #[v', .int .i64 2]) ∧ By w' v' []) ∧ Below w.heap.size w w'
  skip : ∀ {seed : List Nat} {F : Nat → Prop} {k p : Nat} (n : Nat) (_ : n ≤ 4096) (w : World) (_ : Src w k F seed p) (_ : 0 < k), Calls Tryd.prog 12 #[ptr k, .int .i64 (n : Int)] w fun e w' => e = .returned (.int .i64 0) ∧ Src w' k F seed ((p + n) % 18446744073709551616) ∧ Fr w k w'
  skipNeg : ∀ {seed : List Nat} {F : Nat → Prop} {k p : Nat} (n : Int) (_ : n < 0) (w : World) (_ : Src w k F seed p), Calls Tryd.prog 12 #[ptr k, .int .i64 n] w fun e w' => e = .returned (.int .i64 1) ∧ Below w.heap.size w w'
  skipLarge : ∀ {seed : List Nat} {F : Nat → Prop} {k p : Nat} (n : Int) (_ : 4096 < n) (w : World) (_ : Src w k F seed p), Calls Tryd.prog 12 #[ptr k, .int .i64 n] w fun e w' => e = .returned (.int .i64 2) ∧ Below w.heap.size w w'
theorem SrcC.up {Src : World → Nat → (Nat → Prop) → List Nat → Nat → Prop} (C : SrcC Src) {W w1 : World} {k p : Nat} {F : Nat → Prop} {seed : List Nat} (h : Src W k F seed p) (hb : Below W.heap.size W w1) : Src w1 k F seed p :=
  C.stay h fun g hg => hb.block g (C.lt h g hg)
/-- A source stays where something else is written. -/
theorem SrcC.kept {Src : World → Nat → (Nat → Prop) → List Nat → Nat → Prop} (C : SrcC Src) {W w1 : World} {k p : Nat} {F : Nat → Prop} {seed : List Nat} {row : Option Nat} (h : Src W k F seed p) (hg : W.grownBy w1 row) (hr : ∀ j, row = some j → ¬ F j) : Src w1 k F seed p :=
  C.stay h fun g hF => hg.block g (C.lt h g hF) (fun e => hr g e.symm hF)
theorem drawS_block (seed : List Nat) (k : Nat) (h : k < 1000000) : drawS seed (32 * k) 32 = blkS seed k := by
  apply List.ext_getElem?
  intro i
  rcases Nat.lt_or_ge i 32 with hi | hi
  · have e1 : (32 * k + i) % 18446744073709551616 = 32 * k + i := Nat.mod_eq_of_lt (by omega)
    have e2 : (32 * k + i) / 32 = k := by omega
    have e3 : (32 * k + i) % 32 = i := by omega
    have hl : i < (blkS seed k).length := by rw [blkS_length]; exact hi
    simp [drawS, hi, e1, byteS, e2, e3, List.getD_eq_getElem?_getD, hl, Nat.mod_eq_of_lt hi]
  · rw [List.getElem?_eq_none (by rw [drawS_length]; exact hi), List.getElem?_eq_none (by rw [blkS_length]; exact hi)]
theorem be8_small (k : Nat) (h : k < 256) : be8 k = [0, 0, 0, 0, 0, 0, 0, k] := by
  have e : ∀ j, 8 ≤ j → k / 2 ^ j % 256 = 0 := fun j hj => by
    rw [Nat.div_eq_of_lt (Nat.lt_of_lt_of_le h (Nat.pow_le_pow_right (n := 2) (by decide) hj))]
  unfold be8
  rw [show List.range 8 = [0, 1, 2, 3, 4, 5, 6, 7] from rfl]
  simp only [List.map_cons, List.map_nil]
  rw [e _ (by decide), e _ (by decide), e _ (by decide), e _ (by decide), e _ (by decide), e _ (by decide), e _ (by decide)]
  congr 7
  simp
  omega
end Go.Proofs.YtfanndkhajokcaaDoor
