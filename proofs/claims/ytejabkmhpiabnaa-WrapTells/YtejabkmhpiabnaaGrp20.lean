/- Texts that were joined: Dig, DigO, DTimes, DMinus, Ord, DParts, DRest, DBits, DPow, DPlus, DNumP, DDigP. -/
import Derived.Test.YtejabkmhpiabnaaRows
import Derived.Test.YtejabkmhpiabnaaNum
import Derived.Test.YtejabkmhpiabnaaDMath
import Derived.Test.YtejabkmhpiabnaaStore
import Derived.WalkKit
import Derived.WalkSpells
import Derived.WalkLawsBesides
import Derived.LoopN
import Derived.OwnWalk
import Derived.Laws.AppendOwn
import Derived.Laws.OwnMore
import Derived.Below
import Derived.Test.YtejabkmhpiabnaaUpA
import Derived.Laws.MakeOwn
import Derived.Laws.AppendOwnNone
import Derived.Laws.Bits64
import Derived.Laws.Bits64b
import Derived.Deep.RegionHeld
/- Slices of digits by the row of their elements; the contracts of sealringref.digit and trim. -/
namespace Go.Proofs.Ytejabkmhpiabnaa
open Go.RowKit
/-- The slice v holds the numbers xs: they lie one behind the other in a block. -/
def Sl (w : World) (v : Value) (xs : List Nat) : Prop :=
  (v = .slice none 0 0 ∧ xs = []) ∨ ∃ b o c, v = .slice (some ⟨b, o, none⟩) xs.length c ∧ xs.length ≤ c ∧ ∀ j, j < xs.length → w.cell? ⟨b, o + j, none⟩ = some (.int .i64 ((xs.getD j 0 : Nat) : Int))
theorem Sl.up {W w1 : World} {v : Value} {xs : List Nat} (h : Sl W v xs) (hb : Below W.heap.size W w1) : Sl w1 v xs := by
  rcases h with h | ⟨b, o, c, e, hl, hc⟩
  · exact .inl h
  · exact .inr ⟨b, o, c, e, hl, fun j hj => (hb.cell (p := ⟨b, o + j, none⟩) (lt_of_cell (hc j hj))).trans (hc j hj)⟩
theorem Sl.parts {w : World} {v : Value} {xs : List Nat} (h : Sl w v xs) : ∃ a c, v = .slice a xs.length c := by
  rcases h with ⟨rfl, rfl⟩ | ⟨b, o, c, rfl, _⟩
  · exact ⟨none, 0, rfl⟩
  · exact ⟨_, c, rfl⟩
/-- How many are left when the noughts at the end are struck. -/
def Trims (xs : List Nat) (k : Nat) : Prop := k ≤ xs.length ∧ (∀ j, k ≤ j → xs.getD j 0 = 0) ∧ (k = 0 ∨ xs.getD (k - 1) 0 ≠ 0)
theorem Trims.eq {xs : List Nat} {k : Nat} (h : Trims xs k) (hd : P.Dg xs) : xs.take k = P.dg (P.dv xs) := by
  rw [← P.dv_take h.2.1]
  refine P.eq_dg _ (hd.take k) ?_
  rcases h.2.2 with e | e
  · exact .inl (by rw [e, List.take_zero])
  · by_cases hk : k = 0
    · exact .inl (by rw [hk, List.take_zero])
    · refine .inr ?_
      rw [List.length_take, Nat.min_eq_left h.1]
      rw [List.getD_eq_getElem?_getD, List.getElem?_take, if_pos (by omega), ← List.getD_eq_getElem?_getD]
      exact e
/-- A slice's length. -/
def lenV : Value → Nat
  | .slice _ n _ => n
  | _ => 0
/-- The slice lies in a block from B on (or is nil). -/
def blkGe (B : Nat) : Value → Prop
  | .slice (some a) _ _ => B ≤ a.block
  | _ => True
theorem blkGe.mono {A B : Nat} {v : Value} (h : blkGe B v) (hab : A ≤ B) : blkGe A v := by
  cases v with
  | slice a _ _ =>
    cases a with
    | none => exact trivial
    | some a => exact Nat.le_trans hab h
  | _ => exact trivial
theorem Sl.set_ne {w : World} {v : Value} {xs : List Nat} {g j : Nat} {y : Value} (h : Sl w v xs) (hg : blkGe (g + 1) v) : Sl (w.setCell ⟨g, j, none⟩ y) v xs := by
  rcases h with h | ⟨b, o, c, rfl, hl, hc⟩
  · exact .inl h
  · have hb : g + 1 ≤ b := hg
    refine .inr ⟨b, o, c, rfl, hl, fun i hi => ?_⟩
    rw [cell_set_ne (by omega)]
    exact hc i hi
end Go.Proofs.Ytejabkmhpiabnaa

/- Slices of digits that a call itself makes: owned rows, and what append does to one. -/
namespace Go.Proofs.Ytejabkmhpiabnaa
open Go.RowKit
theorem Try.iInt : (Try.prog.info? 3).map (fun i => (i.zero, i.size, i.bytes)) = some (some (.int .i64 0), 1, 8) := by kernel_rfl
abbrev iv (x : Nat) : Value := .int .i64 ((x : Nat) : Int)
/-- The slice v is a row that the call made (its block from B on), and holds xs. -/
def Ow (w : World) (B : Nat) (v : Value) (xs : List Nat) : Prop := w.ownsRow B 3 1 v xs.length (xs.map iv)
theorem Ow.nil (w : World) (B : Nat) : Ow w B (.slice none 0 0) [] := World.ownsRow_nil _ _ _ _
theorem Ow.up {W w1 : World} {B : Nat} {v : Value} {xs : List Nat} (h : Ow W B v xs) (hb : Below W.heap.size W w1) : Ow w1 B v xs := by
  refine ⟨h.1, ?_⟩
  rcases h.2 with h' | ⟨g, cap, cur, e, hB, hg, rest⟩
  · exact .inl h'
  · exact .inr ⟨g, cap, cur, e, hB, (hb.block g (Array.getElem?_eq_some_iff.1 hg).1).trans hg, rest⟩
theorem Ow.sl {w : World} {B : Nat} {v : Value} {xs : List Nat} (h : Ow w B v xs) : Sl w v xs := by
  rcases h.2 with ⟨e, e2⟩ | ⟨g, cap, cur, e, hB, hg, hn, rest⟩
  · exact .inl ⟨e, List.length_eq_zero_iff.1 e2⟩
  · refine .inr ⟨g, 0, cap, e, hn, fun j hj => ?_⟩
    have h2 : w.ownsRow B 3 1 (.slice (some ⟨g, 0, none⟩) xs.length cap) xs.length (xs.map iv) := by rw [← e]; exact h
    rw [Nat.zero_add, h2.cellAt j (by omega)]
    simp [hj, iv]
theorem Ow.ge {w : World} {B : Nat} {v : Value} {xs : List Nat} (h : Ow w B v xs) : blkGe B v := by
  rcases h.2 with ⟨e, _⟩ | ⟨g, cap, cur, e, hB, _⟩
  · rw [e]; exact trivial
  · rw [e]; exact hB
theorem Ow.size {w : World} {B g n c : Nat} {xs : List Nat} (h : Ow w B (.slice (some ⟨g, 0, none⟩) n c) xs) : g < w.heap.size := (h.lt g rfl).2
end Go.Proofs.Ytejabkmhpiabnaa

/- The contract of sealringref.Times: the product. -/
namespace Go.Proofs.Ytejabkmhpiabnaa
open Go.RowKit
theorem made_zeros (n : Nat) : (madeCells (Value.int .i64 0).cells (n * 1)).toList = (List.replicate n 0).map iv := by
  refine List.ext_getElem (by simp [madeCells]) fun i h1 h2 => ?_
  simp [madeCells, Value.cells, Nat.mod_one]
theorem Ow.cell {w : World} {B g n c : Nat} {xs : List Nat} (h : Ow w B (.slice (some ⟨g, 0, none⟩) n c) xs) (hn : n = xs.length) (j : Nat) (hj : j < xs.length) : w.cell? ⟨g, j, none⟩ = some (.int .i64 ((xs.getD j 0 : Nat) : Int)) ∧ w.frozen? ⟨g, j, none⟩ = false := by
  subst hn
  have h2 : w.ownsRow B 3 1 (.slice (some ⟨g, 0, none⟩) xs.length c) xs.length (xs.map iv) := h
  refine ⟨?_, h2.frozenAt j⟩
  rw [h2.cellAt j (by omega)]
  simp [hj, iv]
theorem Ow.set {w : World} {B g n c : Nat} {xs : List Nat} (h : Ow w B (.slice (some ⟨g, 0, none⟩) n c) xs) (hn : n = xs.length) (hg : B ≤ g) (j y : Nat) (z : Int) (hz : z = ((y : Nat) : Int)) : Ow (w.setCell ⟨g, j, none⟩ (.int .i64 z)) B (.slice (some ⟨g, 0, none⟩) n c) (xs.set j y) ∧ Below B w (w.setCell ⟨g, j, none⟩ (.int .i64 z)) := by
  subst hn hz
  have h2 : w.ownsRow B 3 1 (.slice (some ⟨g, 0, none⟩) xs.length c) xs.length (xs.map iv) := h
  refine ⟨?_, (Below.refl _ _).setCell hg _⟩
  have := (h2.stored j (iv y)).1
  unfold Ow
  rw [List.length_set, List.map_set]
  exact this
theorem Sl.some {w : World} {a : Option Addr} {n c : Nat} {xs : List Nat} (h : Sl w (.slice a n c) xs) (hl : 0 < xs.length) : ∃ b o, a = .some ⟨b, o, none⟩ ∧ ∀ j, j < xs.length → w.cell? ⟨b, o + j, none⟩ = .some (.int .i64 ((xs.getD j 0 : Nat) : Int)) := by
  rcases h with ⟨_, rfl⟩ | ⟨b, o, c', e, _, hc⟩
  · simp at hl
  · simp only [Value.slice.injEq] at e
    exact ⟨b, o, e.1, hc⟩
theorem mul_step {X Y D O k q cy o x y : Nat} (h : D + 65536 ^ (k + q) * cy = X % 65536 ^ k * Y + 65536 ^ k * x * (Y % 65536 ^ q)) (hy : y = Y / 65536 ^ q % 65536) (hO : O + 65536 ^ (k + q) * o = D + 65536 ^ (k + q) * ((cy + (o + x * y)) % 65536)) :
    O + 65536 ^ (k + (q + 1)) * ((cy + (o + x * y)) / 65536) = X % 65536 ^ k * Y + 65536 ^ k * x * (Y % 65536 ^ (q + 1)) := by
  rw [P.mod_pow_succ' Y, ← hy, ← Nat.add_assoc, Nat.pow_succ, Nat.mul_add]
  have t := Nat.div_add_mod (cy + (o + x * y)) 65536
  rw [show 65536 ^ k * x * (65536 ^ q * y) = 65536 ^ (k + q) * (x * y) by rw [Nat.pow_add]; grind]
  generalize 65536 ^ (k + q) = B at *
  generalize 65536 ^ k * x * (Y % 65536 ^ q) = R at *
  generalize X % 65536 ^ k * Y = S at *
  generalize x * y = p at *
  generalize (cy + (o + p)) / 65536 = u at *
  generalize (cy + (o + p)) % 65536 = v at *
  have e : B * 65536 * u + B * v = B * cy + B * o + B * p := by rw [Nat.mul_assoc, ← Nat.mul_add, t]; grind
  omega
theorem prod_bound {x y : Nat} (hx : x < 65536) (hy : y < 65536) : x * y ≤ 4294836225 := Nat.mul_le_mul (Nat.le_of_lt_succ hx) (Nat.le_of_lt_succ hy)
end Go.Proofs.Ytejabkmhpiabnaa

/- The contract of sealringref.Minus: the difference, where the second is not greater. -/
namespace Go.Proofs.Ytejabkmhpiabnaa
open Go.RowKit
theorem diff_step {X Y o k c x y d q : Nat} (h : o + Y % 65536 ^ k = X % 65536 ^ k + 65536 ^ k * c) (hx : x = X / 65536 ^ k % 65536) (hy : y = Y / 65536 ^ k % 65536) (hd : d + y + c = x + 65536 * q) :
    o + 65536 ^ k * d + Y % 65536 ^ (k + 1) = X % 65536 ^ (k + 1) + 65536 ^ (k + 1) * q := by
  rw [P.mod_pow_succ' X, P.mod_pow_succ' Y, ← hx, ← hy, Nat.pow_succ]
  generalize 65536 ^ k = B at *
  generalize X % B = u at *
  generalize Y % B = v at *
  have e : B * d + B * y + B * c = B * x + B * 65536 * q := by rw [Nat.mul_assoc, ← Nat.mul_add, ← Nat.mul_add, ← Nat.mul_add, hd]
  omega
end Go.Proofs.Ytejabkmhpiabnaa

/- The contract of sealringref.Order: which of two rows of digits is greater, from the last place down. -/
namespace Go.Proofs.Ytejabkmhpiabnaa
open Go.RowKit
/-- Which of two numbers is greater. -/
def cmpN (X Y : Nat) : Int := if X < Y then -1 else if Y < X then 1 else 0
theorem cmpN_step (X Y k : Nat) : cmpN (X % 65536 ^ (k + 1)) (Y % 65536 ^ (k + 1)) = if X / 65536 ^ k % 65536 < Y / 65536 ^ k % 65536 then -1 else if Y / 65536 ^ k % 65536 < X / 65536 ^ k % 65536 then 1 else cmpN (X % 65536 ^ k) (Y % 65536 ^ k) := by
  rw [P.mod_pow_succ' X, P.mod_pow_succ' Y]
  have l1 : X % 65536 ^ k < 65536 ^ k := Nat.mod_lt _ (Nat.pow_pos (by decide))
  have l2 : Y % 65536 ^ k < 65536 ^ k := Nat.mod_lt _ (Nat.pow_pos (by decide))
  generalize X / 65536 ^ k % 65536 = x
  generalize Y / 65536 ^ k % 65536 = y
  generalize X % 65536 ^ k = u at *
  generalize Y % 65536 ^ k = v at *
  generalize 65536 ^ k = B at *
  unfold cmpN
  rcases Nat.lt_trichotomy x y with h | h | h
  · have : u + B * x < v + B * y := by
      have h1 : B * (x + 1) ≤ B * y := Nat.mul_le_mul_left B h
      rw [Nat.mul_add, Nat.mul_one] at h1
      omega
    rw [if_pos this, if_pos h]
  · subst h
    rw [if_neg (Nat.lt_irrefl x)]
    simp only [Nat.lt_irrefl, if_false, Nat.add_lt_add_iff_right]
  · have : v + B * y < u + B * x := by
      have h1 : B * (y + 1) ≤ B * x := Nat.mul_le_mul_left B h
      rw [Nat.mul_add, Nat.mul_one] at h1
      omega
    rw [if_neg (by omega), if_pos this, if_neg (by omega), if_pos h]
theorem ret_o {k : IntKind} {a b : Int} (h : b = a) : Ending.returned (.int k a) = .returned (.int k b) := by rw [h]
end Go.Proofs.Ytejabkmhpiabnaa

/- The contract of sealringref.Parts: how often, and what is left. -/
namespace Go.Proofs.Ytejabkmhpiabnaa
open Go.RowKit
theorem Ow.one (w : World) (B y : Nat) (z : Int) (hz : z = ((y : Nat) : Int)) (hB : B ≤ w.heap.size) : Ow (w.alloc (.cells #[.int .i64 z] 3)) B (.slice (some ⟨w.heap.size, 0, none⟩) 1 1) [y] := by
  subst hz
  refine ⟨rfl, .inr ⟨w.heap.size, 1, #[iv y], rfl, hB, heap_alloc_new w _, by simp, by unfold maxLen; decide, by simp, by simp⟩⟩
theorem Sl.one (w : World) (y : Nat) (z : Int) (hz : z = ((y : Nat) : Int)) : Sl (w.alloc (.cells #[.int .i64 z] 3)) (.slice (.some ⟨w.heap.size, 0, none⟩) 1 1) [y] := (Ow.one w 0 y z hz (Nat.zero_le _)).sl
theorem quot_step {X M R x k lo : Nat} (hM : 0 < M) (hR : R = X / 65536 ^ (k + 1) % M) (hx : x = X / 65536 ^ k % 65536) (hlo : lo = (x + 65536 * R) / M) :
    X / 65536 ^ k / M = X / 65536 ^ (k + 1) / M * 65536 + lo ∧ X / 65536 ^ k % M = (x + 65536 * R) - M * lo := by
  have e : X / 65536 ^ k = (x + 65536 * R) + M * (X / 65536 ^ (k + 1) / M * 65536) := by
    have h1 : X / 65536 ^ (k + 1) = X / 65536 ^ k / 65536 := by rw [Nat.pow_succ, Nat.div_div_eq_div_mul]
    have h2 := Nat.div_add_mod (X / 65536 ^ (k + 1)) M
    rw [← hR] at h2
    generalize X / 65536 ^ (k + 1) / M = Q at *
    rw [h1] at h2
    generalize X / 65536 ^ k = Z at *
    have h3 : M * (Q * 65536) = 65536 * (M * Q) := by rw [Nat.mul_comm Q, ← Nat.mul_assoc, Nat.mul_comm M, Nat.mul_assoc]
    rw [h3]
    omega
  rw [e]
  constructor
  · rw [Nat.add_mul_div_left _ _ hM, ← hlo, Nat.add_comm]
  · rw [Nat.add_mul_mod_self_left, hlo]
    have := Nat.div_add_mod (x + 65536 * R) M
    omega
theorem dg_len_le {n : Nat} {xs : List Nat} (hx : P.Dg xs) (h : n < P.dv xs) : (P.dg n).length ≤ xs.length := P.dg_len _ (Nat.lt_trans h (P.dv_lt xs hx))
end Go.Proofs.Ytejabkmhpiabnaa

/- The contract of sealringref.Rest. -/
namespace Go.Proofs.Ytejabkmhpiabnaa
open Go.RowKit
end Go.Proofs.Ytejabkmhpiabnaa

/- The contracts of sealringref.TwoTo (at 256) and Bits. -/
namespace Go.Proofs.Ytejabkmhpiabnaa
open Go.RowKit
theorem dg_two256 : (List.replicate 17 0).set 16 1 = P.dg (2 ^ 256) := by
  have h : P.dv ((List.replicate 17 0).set 16 1) = 2 ^ 256 := by decide
  rw [← h]
  refine P.eq_dg _ (fun x hx => ?_) (.inr (by decide))
  have : x = 0 ∨ x = 1 := by simpa using hx
  omega
theorem i64_and1 (n : Int) : bits .and .i64 n 1 = n % 2 := by
  have h1 : (BitVec.ofInt 64 1).toNat = 2 ^ 1 - 1 := by decide
  have key : (BitVec.ofInt 64 n &&& BitVec.ofInt 64 1).toNat = (n % ((2 ^ 64 : Nat) : Int)).toNat % 2 ^ 1 := by
    rw [BitVec.toNat_and, BitVec.toNat_ofInt, h1, Nat.and_two_pow_sub_one_eq_mod]
  show IntKind.i64.wrap ((BitVec.ofInt 64 n &&& BitVec.ofInt 64 1).toNat : Nat) = n % 2
  rw [key, IntKind.wrap_i64]
  omega
/-- The bit at a place. -/
theorem bit_dig (X i : Nat) : X / 65536 ^ (i / 16) % 65536 / 2 ^ (i % 16) % 2 = X / 2 ^ i % 2 := by
  have e : (2 : Nat) ^ i = 65536 ^ (i / 16) * 2 ^ (i % 16) := by
    rw [show (65536 : Nat) = 2 ^ 16 from rfl, ← Nat.pow_mul, ← Nat.pow_add, Nat.div_add_mod]
  have e2 : (65536 : Nat) = 2 ^ (i % 16) * 2 ^ (16 - i % 16) := by
    rw [← Nat.pow_add, show i % 16 + (16 - i % 16) = 16 by omega]
  rw [e, ← Nat.div_div_eq_div_mul]
  generalize X / 65536 ^ (i / 16) = Z
  rw [e2, Nat.mod_mul_right_div_self]
  have e3 : (2 : Nat) ^ (16 - i % 16) = 2 * 2 ^ (15 - i % 16) := by rw [show 16 - i % 16 = 15 - i % 16 + 1 by omega, Nat.pow_succ, Nat.mul_comm]
  rw [e3, Nat.mod_mul_right_mod]
end Go.Proofs.Ytejabkmhpiabnaa

/- The contract of sealringref.Power. -/
namespace Go.Proofs.Ytejabkmhpiabnaa
open Go.RowKit
set_option linter.unusedSimpArgs false
theorem dshort {n : Nat} (h : n < 65536 ^ 64) : (P.dg n).length < 1048576 := Nat.lt_of_le_of_lt (P.dg_len 64 h) (by decide)
theorem dg_one : P.dg 1 = [1] := by rw [P.dg_pos (by decide), show 1 / 65536 = 0 from rfl, P.dg_zero]
theorem mod_two_succ (Y k : Nat) : Y % 2 ^ (k + 1) = Y % 2 ^ k + 2 ^ k * (Y / 2 ^ k % 2) := by
  rw [Nat.pow_succ, Nat.mod_mul]
theorem pow_on (X Y M k : Nat) (h : Y / 2 ^ k % 2 = 1) : X ^ (Y % 2 ^ k) % M * (X ^ 2 ^ k % M) % M = X ^ (Y % 2 ^ (k + 1)) % M := by
  rw [mod_two_succ, h, Nat.mul_one, Nat.pow_add, ← Nat.mul_mod]
theorem pow_off (Y k : Nat) (h : Y / 2 ^ k % 2 = 0) : Y % 2 ^ (k + 1) = Y % 2 ^ k := by
  rw [mod_two_succ, h, Nat.mul_zero, Nat.add_zero]
theorem pow_sq (X M k : Nat) : X ^ 2 ^ k % M * (X ^ 2 ^ k % M) % M = X ^ 2 ^ (k + 1) % M := by
  rw [← Nat.mul_mod, ← Nat.pow_add, Nat.pow_succ, Nat.mul_two]
theorem prod_short {a b : Nat} (ha : a < 2 ^ 256) (hb : b < 2 ^ 256) : a * b < 65536 ^ 64 :=
  Nat.lt_of_lt_of_le (Nat.mul_lt_mul'' ha hb) (by decide)
end Go.Proofs.Ytejabkmhpiabnaa

/- The contract of sealringref.Plus: the sum. -/
namespace Go.Proofs.Ytejabkmhpiabnaa
open Go.RowKit
theorem sum_step {X Y o k cy x y : Nat} (h : o + 65536 ^ k * cy = X % 65536 ^ k + Y % 65536 ^ k) (hx : x = X / 65536 ^ k % 65536) (hy : y = Y / 65536 ^ k % 65536) :
    o + 65536 ^ k * ((cy + (x + y)) % 65536) + 65536 ^ (k + 1) * ((cy + (x + y)) / 65536) = X % 65536 ^ (k + 1) + Y % 65536 ^ (k + 1) := by
  rw [P.mod_pow_succ' X, P.mod_pow_succ' Y, ← hx, ← hy, Nat.pow_succ]
  have := Nat.div_add_mod (cy + (x + y)) 65536
  generalize (cy + (x + y)) / 65536 = q at *
  generalize (cy + (x + y)) % 65536 = r at *
  generalize 65536 ^ k = B at *
  generalize X % B = u at *
  generalize Y % B = v at *
  have e : B * 65536 * q + B * r = B * cy + B * x + B * y := by rw [Nat.mul_assoc, ← Nat.mul_add, this]; grind
  omega
end Go.Proofs.Ytejabkmhpiabnaa

/- The contracts of sealringref's numbers, told by numbers; TwoTo at whatever place. -/
namespace Go.Proofs.Ytejabkmhpiabnaa
open Go.RowKit
set_option linter.unusedSimpArgs false
theorem dg_twoTo (n : Nat) : (List.replicate (n / 16 + 1) 0).set (n / 16) (2 ^ (n % 16)) = P.dg (2 ^ n) := by
  have e : (List.replicate (n / 16 + 1) 0).set (n / 16) (2 ^ (n % 16)) = List.replicate (n / 16) 0 ++ [2 ^ (n % 16)] := by
    rw [List.replicate_succ', List.set_append_right _ _ (by simp)]
    simp
  have lt : 2 ^ (n % 16) < 65536 := Nat.pow_lt_pow_right (a := 2) (n := 16) (by decide) (Nat.mod_lt _ (by decide))
  have hv : P.dv (List.replicate (n / 16) 0 ++ [2 ^ (n % 16)]) = 2 ^ n := by
    rw [P.dv_append, P.dv_zeros, Nat.zero_add, List.length_replicate]
    show 65536 ^ (n / 16) * (2 ^ (n % 16) + 65536 * 0) = _
    rw [Nat.mul_zero, Nat.add_zero, show (65536 : Nat) = 2 ^ 16 from rfl, ← Nat.pow_mul, ← Nat.pow_add, Nat.div_add_mod]
  rw [e, ← hv]
  refine P.eq_dg _ (fun x hx => ?_) (.inr ?_)
  · rcases List.mem_append.1 hx with h | h
    · rw [(List.mem_replicate.1 h).2]; decide
    · rw [List.mem_singleton.1 h]; exact lt
  · have : 0 < 2 ^ (n % 16) := Nat.two_pow_pos _
    simp [List.getD_eq_getElem?_getD]
end Go.Proofs.Ytejabkmhpiabnaa

/- The contract of sealringref.Digits: a row of words' digits. -/
namespace Go.Proofs.Ytejabkmhpiabnaa
open Go.RowKit
attribute [local go_sem] World.cell?_alloc_some
/-- The number of a row of words. -/
def wv : List Nat → Nat
  | [] => 0
  | x :: xs => x + 18446744073709551616 * wv xs
theorem wv_take_succ (ws : List Nat) (j : Nat) (hj : j < ws.length) : wv (ws.take (j + 1)) = wv (ws.take j) + 65536 ^ (4 * j) * ws.getD j 0 := by
  induction ws generalizing j with
  | nil => simp at hj
  | cons x xs ih =>
    cases j with
    | zero => simp [wv]
    | succ j =>
      rw [List.take_succ_cons, wv, ih j (by simpa using hj), List.take_succ_cons, wv, List.getD_cons_succ, show 4 * (j + 1) = 4 * j + 4 by omega, Nat.pow_add]
      generalize 65536 ^ (4 * j) = B
      grind
end Go.Proofs.Ytejabkmhpiabnaa
