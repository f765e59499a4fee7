/- Texts that were joined: COwn, SgC. -/
import Derived.Test.YtfknkfninjjgbabDoorQCvIdToSgM
import Derived.Test.YtfknkfninjjgbabDoorQHLaidToSDig
import Derived.Test.YtfknkfninjjgbabDoorQKnF
import Derived.Test.YtfknkfninjjgbabDoorQEqPToCrvB
import Derived.Test.YtfknkfninjjgbabDoorQCvPk
/- The point that is its own Neg, beside Zero; no multiple of the base packs to 0. Mathematics alone. -/
namespace Go.Proofs.YtfknkfninjjgbabDoor.Cv
open Go.Proofs.YtfknkfninjjgbabDoor
/-- The point that is its own Neg, beside Zero. -/
def own : Pt := (0, F.sub 0 1)
end Go.Proofs.YtfknkfninjjgbabDoor.Cv

/- Pairs of keys and signatures as rows; what package sign must keep. -/
namespace Go.Proofs.YtfknkfninjjgbabDoor
open Go.RowKit
set_option linter.unusedSimpArgs false
/-- A pair: its secret number, its mask, its public one. -/
def prR (x : Nm) (m a : Nat) : List Value := c4 x ++ (bR m ++ bR a)
abbrev prV (x : Nm) (m a : Nat) : Value := .agg (prR x m a).toArray
def pairZ : List Value := zz4 ++ List.replicate 64 (.int .u8 0)
theorem prR_length (x : Nm) (m a : Nat) : (prR x m a).length = 68 := by rw [prR, List.length_append, List.length_append, bR_length, bR_length]; rfl
theorem pairZ_length : pairZ.length = 68 := rfl
theorem prR_one (x : Nm) (m a : Nat) : ∀ v ∈ prR x m a, v.oneCell' = true := fun v hv => by
  unfold prR at hv
  rcases List.mem_append.1 hv with h | h
  · exact c4_one x v h
  · rcases List.mem_append.1 h with h | h
    · exact bR_one m v h
    · exact bR_one a v h
theorem info_pair : (Tryd.prog.info? 28).map (·.size) = some 68 := by kernel_rfl
theorem info_prR (x : Nm) (m a : Nat) : (Tryd.prog.info? 28).map (·.size) = some (prR x m a).length := by rw [prR_length]; exact info_pair
theorem zero_pair (w : World) : (zeroValue 28).run Tryd.prog w = .ok (.agg pairZ.toArray) w := I.zero_of (by kernel_rfl) w
theorem Kn.png0 {w : World} {L : List (Nat × List Value)} (h : Kn w L) (i : Nat) {k : Nat} {x : Nm} {m a : Nat} (hp : L[i]? = some (k, prR x m a)) : w.rangeAt k 0 (c4 x) := (range_app (h.rng i hp)).1
theorem Kn.png1 {w : World} {L : List (Nat × List Value)} (h : Kn w L) (i : Nat) {k : Nat} {x : Nm} {m a : Nat} (hp : L[i]? = some (k, prR x m a)) : w.rangeAt k 4 (bR m) := by
  have := (range_app (range_app (h.rng i hp)).2).1
  exact this
theorem Kn.png2 {w : World} {L : List (Nat × List Value)} (h : Kn w L) (i : Nat) {k : Nat} {x : Nm} {m a : Nat} (hp : L[i]? = some (k, prR x m a)) : w.rangeAt k 36 (bR a) := by
  have := (range_app (range_app (h.rng i hp)).2).2
  rw [bR_length] at this
  exact this
/-- The numbers and points of keys and signatures. -/
def dgN (l : Nat) (p : List Nat) : Nat := S.le (S.dig l p) % Cv.ord
def nzN (x : Nat) : Nat := if x = 0 then 1 else x
def secN (n : Nat) : Nat := nzN (dgN 1 (S.by n))
def mskN (n : Nat) : Nat := S.le (sumS (2 :: S.by n))
def pubN (n : Nat) : Nat := Cv.pk (Cv.times (secN n) Cv.base)
def chN (R A : Nat) (p : List Nat) : Nat := dgN 4 (S.by R ++ (S.by A ++ p))
def vrN (A : Nat) (p sig : List Nat) : Nat := if sig.length = 64 then Sg.ver chN A p (S.le (sig.take 32)) (S.le (sig.drop 32)) else 1
abbrev lowP (p : List Nat) : Prop := (∀ x ∈ p, x < 256) ∧ p.length ≤ 140737488351232
def SgNewC : Prop := ∀ n, n < 2 ^ 256 → ∀ w, KTab w → Calls Tryd.prog 6 #[bV n] w fun e w' => e = .returned (prV (nm (secN n)) (mskN n) (pubN n)) ∧ Below w.heap.size w w'
def SgVerC : Prop := ∀ A, A < 2 ^ 256 → ∀ p q, lowP p → lowP q → ∀ v u w, By w v p → By w u q → KTab w → Calls Tryd.prog 12 #[bV A, v, u] w fun e w' => e = .returned (.int .i64 (vrN A p q : Nat)) ∧ Below w.heap.size w w'
theorem pub_lt (n : Nat) : pubN n < 2 ^ 256 := Cv.pk_lt (Cv.times_on Cv.base_on _)
theorem sec_pos (n : Nat) : secN n ≠ 0 := by
  unfold secN nzN
  split <;> omega
theorem sec_lt (n : Nat) : secN n < Cv.ord := by
  unfold secN nzN
  split
  · decide
  · exact Nat.mod_lt _ ord_pos
end Go.Proofs.YtfknkfninjjgbabDoor
