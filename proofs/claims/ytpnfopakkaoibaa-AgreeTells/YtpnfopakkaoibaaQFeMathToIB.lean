/- Texts that were joined: FeMath, IB. -/
import Derived.Test.YtpnfopakkaoibaaQPrimeToFMath
import Derived.Test.YtpnfopakkaoibaaRows
import Derived.WalkKit
import Derived.WalkSpells
import Derived.WalkLawsBesides
import Derived.LoopN
import Derived.OwnWalk
import Derived.Laws.AppendOwn
import Derived.Laws.Rows
import Derived.Below
import Derived.Deep.MidRow
import Derived.BigQuiet
/- Numbers modulo 2^255 - 19 as sixteen digits, as functions of their places: carries, borrows. Mathematics alone. -/
namespace Go.Proofs.Ytpnfopakkaoibaa.I
/-- The number of the first n digits. -/
def sm (f : Nat → Nat) : Nat → Nat
  | 0 => 0
  | n + 1 => sm f n + f n * 65536 ^ n
theorem sm_congr {f g : Nat → Nat} : ∀ n, (∀ i, i < n → f i = g i) → sm f n = sm g n
  | 0, _ => rfl
  | n + 1, h => by
    unfold sm
    rw [sm_congr n fun i hi => h i (by omega), h n (by omega)]
theorem sm_lt {f : Nat → Nat} : ∀ n, (∀ i, i < n → f i < 65536) → sm f n < 65536 ^ n
  | 0, _ => by show 0 < 1; decide
  | n + 1, h => by
    have h1 := sm_lt n fun i hi => h i (by omega)
    have h2 := Nat.mul_le_mul_right (65536 ^ n) (show f n + 1 ≤ 65536 from h n (by omega))
    unfold sm
    rw [Nat.pow_succ]
    rw [Nat.add_mul, Nat.one_mul] at h2
    omega
/-- The digits of a number. -/
def fd (n i : Nat) : Nat := n / 65536 ^ i % 65536
theorem fd_lt (n i : Nat) : fd n i < 65536 := Nat.mod_lt _ (by decide)
theorem sm_fd (N : Nat) : ∀ n, sm (fd N) n = N % 65536 ^ n
  | 0 => by rw [Nat.pow_zero, Nat.mod_one]; rfl
  | n + 1 => by
    unfold sm
    rw [sm_fd N n, fd, Nat.pow_succ, Nat.mod_mul, Nat.mul_comm (65536 ^ n)]
theorem fd_sm {f : Nat → Nat} : ∀ n, (∀ i, i < n → f i < 65536) → ∀ i, i < n → fd (sm f n) i = f i
  | 0, _, i, hi => absurd hi (by omega)
  | n + 1, h, i, hi => by
    have h1 := sm_lt n fun i hi => h i (by omega)
    unfold sm fd
    rcases Nat.lt_or_ge i n with hl | hl
    · obtain ⟨k, rfl⟩ : ∃ k, n = i + 1 + k := ⟨n - i - 1, by omega⟩
      have ih := fd_sm (i + 1 + k) (fun i hi => h i (by omega)) i (by omega)
      unfold fd at ih
      rw [show f (i + 1 + k) * 65536 ^ (i + 1 + k) = 65536 ^ i * (65536 * (f (i + 1 + k) * 65536 ^ k)) by rw [Nat.pow_add, Nat.pow_succ]; simp only [Nat.mul_assoc, Nat.mul_left_comm, Nat.mul_comm], Nat.add_mul_div_left _ _ (Nat.pow_pos (by decide)), Nat.add_mul_mod_self_left]
      exact ih
    · obtain rfl : i = n := by omega
      rw [Nat.add_mul_div_right _ _ (Nat.pow_pos (by decide)), Nat.div_eq_of_lt h1, Nat.zero_add, Nat.mod_eq_of_lt (h i (by omega))]
/-- What is carried behind j digits, and the digits that stay. -/
def car (f : Nat → Nat) (c : Nat) : Nat → Nat
  | 0 => c
  | j + 1 => (car f c j + f j) / 65536
def dig (f : Nat → Nat) (c j : Nat) : Nat := (car f c j + f j) % 65536
theorem car_sum (f : Nat → Nat) (c : Nat) : ∀ n, sm (dig f c) n + car f c n * 65536 ^ n = sm f n + c
  | 0 => by unfold sm car; omega
  | n + 1 => by
    have ih := car_sum f c n
    unfold sm car
    rw [Nat.pow_succ]
    have e := Nat.div_add_mod (car f c n + f n) 65536
    have e2 : dig f c n * 65536 ^ n + (car f c n + f n) / 65536 * (65536 ^ n * 65536) = (car f c n + f n) * 65536 ^ n := by
      unfold dig
      rw [← Nat.mul_assoc, Nat.mul_right_comm, ← Nat.add_mul]
      congr 1
      omega
    rw [Nat.add_mul] at e2
    omega
theorem car_le {f : Nat → Nat} {c : Nat} (hc : c < 2 ^ 51) (hf : ∀ i, i < 16 → f i < 2 ^ 50) : ∀ j, j ≤ 16 → car f c j < 2 ^ 51
  | 0, _ => hc
  | j + 1, h => by
    have h1 := car_le hc hf j (by omega)
    have h2 := hf j (by omega)
    unfold car
    omega
/-- One round of least. -/
def rnd (f : Nat → Nat) : Nat → Nat := fun i => if i < 16 then dig f (38 * f 16) i else car f (38 * f 16) 16
theorem rnd_lt {f : Nat → Nat} {i : Nat} (h : i < 16) : rnd f i < 65536 := by
  unfold rnd
  rw [if_pos h]
  exact Nat.mod_lt _ (by decide)
theorem rnd_top {f : Nat → Nat} : rnd f 16 = car f (38 * f 16) 16 := rfl
/-- All small enough. -/
def Sm (f : Nat → Nat) : Prop := ∀ i, i < 17 → f i < 2 ^ 45
theorem rnd_Sm {f : Nat → Nat} (h : Sm f) : Sm (rnd f) ∧ rnd f 16 < 2 ^ 36 := by
  have h15 := car_le (f := f) (c := 38 * f 16) (by have := h 16 (by decide); omega) (fun i hi => by have := h i (by omega); omega) 15 (by decide)
  have h16 : rnd f 16 < 2 ^ 36 := by
    rw [rnd_top]
    show (car f (38 * f 16) 15 + f 15) / 65536 < _
    have := h 15 (by decide)
    omega
  refine ⟨fun i hi => ?_, h16⟩
  rcases Nat.lt_or_ge i 16 with hl | hl
  · have := rnd_lt (f := f) hl; omega
  · obtain rfl : i = 16 := by omega
    omega
theorem rnd_sum (f : Nat → Nat) : sm (rnd f) 16 + rnd f 16 * 65536 ^ 16 = sm f 16 + 38 * f 16 := by
  have h := car_sum f (38 * f 16) 16
  rw [rnd_top, sm_congr (f := rnd f) (g := dig f (38 * f 16)) 16 fun i hi => by unfold rnd; rw [if_pos hi]]
  exact h
theorem p38 (x : Nat) : (x * 65536 ^ 16) % F.p = (38 * x) % F.p := by
  have e : x * 65536 ^ 16 = 38 * x + F.p * (2 * x) := by
    rw [show (65536 : Nat) ^ 16 = 38 + F.p * 2 by decide, Nat.mul_add, Nat.mul_comm x 38, Nat.mul_left_comm, Nat.mul_comm x 2]
  rw [e, Nat.add_mul_mod_self_left]
theorem rnd_mod (f : Nat → Nat) : sm (rnd f) 17 % F.p = sm f 17 % F.p := by
  show (sm (rnd f) 16 + rnd f 16 * 65536 ^ 16) % F.p = (sm f 16 + f 16 * 65536 ^ 16) % F.p
  rw [rnd_sum, Nat.add_mod, ← p38, ← Nat.add_mod]
theorem rnd_three {f : Nat → Nat} (h : Sm f) : rnd (rnd (rnd f)) 16 = 0 ∧ sm (rnd (rnd (rnd f))) 16 % F.p = sm f 17 % F.p := by
  have a1 := rnd_Sm h
  have l1 := sm_lt (f := rnd f) 16 fun i hi => rnd_lt hi
  have l2 := sm_lt (f := rnd (rnd f)) 16 fun i hi => rnd_lt hi
  have l3 := sm_lt (f := rnd (rnd (rnd f))) 16 fun i hi => rnd_lt hi
  have s2 := rnd_sum (rnd f)
  have s3 := rnd_sum (rnd (rnd f))
  have m3 : sm (rnd (rnd (rnd f))) 17 % F.p = sm f 17 % F.p := by rw [rnd_mod, rnd_mod, rnd_mod]
  have e3 : sm (rnd (rnd (rnd f))) 17 = sm (rnd (rnd (rnd f))) 16 + rnd (rnd (rnd f)) 16 * 65536 ^ 16 := rfl
  have t1 := a1.2
  rw [show (65536 : Nat) ^ 16 = 115792089237316195423570985008687907853269984665640564039457584007913129639936 by decide] at *
  generalize rnd (rnd (rnd f)) 16 = x3 at *
  generalize rnd (rnd f) 16 = x2 at *
  generalize rnd f 16 = x1 at *
  generalize sm (rnd (rnd (rnd f))) 16 = y3 at *
  generalize sm (rnd (rnd f)) 16 = y2 at *
  generalize sm (rnd f) 16 = y1 at *
  have h0 : x3 = 0 := by omega
  refine ⟨h0, ?_⟩
  rw [← m3, e3, h0, Nat.zero_mul, Nat.add_zero]
/-- The modulus' digits. -/
def mo (i : Nat) : Nat := if i = 0 then 65517 else if i = 15 then 32767 else 65535
theorem mo_sum : sm mo 16 = F.p := by decide
theorem mo_lt (i : Nat) : mo i < 65536 := by unfold mo; split <;> (try split) <;> decide
/-- What is borrowed behind j digits, and the digits that stay. -/
def bor (f : Nat → Nat) : Nat → Nat
  | 0 => 0
  | j + 1 => if f j < mo j + bor f j then 1 else 0
theorem bor_le (f : Nat → Nat) : ∀ j, bor f j ≤ 1
  | 0 => by show 0 ≤ 1; decide
  | j + 1 => by unfold bor; split <;> decide
def sd (f : Nat → Nat) (j : Nat) : Nat := f j + 65536 * bor f (j + 1) - mo j - bor f j
theorem sd_eq {f : Nat → Nat} {j : Nat} : sd f j + mo j + bor f j = f j + 65536 * bor f (j + 1) := by
  have h1 := bor_le f j
  have h2 := mo_lt j
  unfold sd
  rw [show bor f (j + 1) = if f j < mo j + bor f j then 1 else 0 from rfl]
  split <;> omega
theorem sd_lt {f : Nat → Nat} {j : Nat} (h : f j < 65536) : sd f j < 65536 := by
  have h1 := bor_le f j
  unfold sd
  rw [show bor f (j + 1) = if f j < mo j + bor f j then 1 else 0 from rfl]
  split <;> omega
theorem bor_sum (f : Nat → Nat) : ∀ n, sm (sd f) n + sm mo n = sm f n + bor f n * 65536 ^ n
  | 0 => by unfold sm bor; rfl
  | n + 1 => by
    have ih := bor_sum f n
    unfold sm
    have e := sd_eq (f := f) (j := n)
    have e2 : (sd f n + mo n + bor f n) * 65536 ^ n = (f n + 65536 * bor f (n + 1)) * 65536 ^ n := by rw [e]
    rw [Nat.add_mul, Nat.add_mul, Nat.add_mul] at e2
    rw [Nat.pow_succ, show bor f (n + 1) * (65536 ^ n * 65536) = 65536 * bor f (n + 1) * 65536 ^ n by rw [Nat.mul_comm (65536 ^ n), ← Nat.mul_assoc, Nat.mul_comm (bor f (n + 1))]]
    omega
theorem bor_one {f : Nat → Nat} (hf : ∀ i, i < 16 → f i < 65536) (h : bor f 16 = 1) : sm f 16 < F.p := by
  have e := bor_sum f 16
  have l := sm_lt (f := sd f) 16 fun i hi => sd_lt (hf i hi)
  rw [mo_sum, h] at e
  omega
theorem bor_zero {f : Nat → Nat} (h : ¬ bor f 16 = 1) : sm (sd f) 16 + F.p = sm f 16 := by
  have e := bor_sum f 16
  have := bor_le f 16
  rw [mo_sum, show bor f 16 = 0 by omega, Nat.zero_mul, Nat.add_zero] at e
  exact e
theorem sm_top {x : Nat} (h : x < F.p) : sm (fd x) 16 = x := by rw [sm_fd, Nat.mod_eq_of_lt (Nat.lt_trans h (by decide))]
/-- Sums and differences, digit by digit. -/
def pl (a b : Nat → Nat) : Nat → Nat := fun i => if i < 16 then a i + b i else 0
theorem sm_add (a b : Nat → Nat) : ∀ n, sm (fun i => a i + b i) n = sm a n + sm b n
  | 0 => rfl
  | n + 1 => by
    unfold sm
    rw [sm_add a b n, Nat.add_mul]
    omega
theorem pl_sum (a b : Nat → Nat) : sm (pl a b) 17 = sm a 16 + sm b 16 := by
  show sm (pl a b) 16 + pl a b 16 * _ = _
  rw [sm_congr (f := pl a b) (g := fun i => a i + b i) 16 fun i hi => by unfold pl; rw [if_pos hi], sm_add, show pl a b 16 = 0 from rfl]
  omega
theorem pl_Sm {a b : Nat → Nat} (ha : ∀ i, i < 16 → a i < 65536) (hb : ∀ i, i < 16 → b i < 65536) : Sm (pl a b) := fun i _ => by
  unfold pl
  split
  · have := ha i (by assumption); have := hb i (by assumption); omega
  · decide
def mi (a b : Nat → Nat) : Nat → Nat := fun i => if i < 16 then a i + 4 * mo i - b i else 0
theorem mi_at {a b : Nat → Nat} (hb : ∀ i, i < 16 → b i < 65536) {i : Nat} (h : i < 16) : mi a b i + b i = a i + 4 * mo i := by
  unfold mi
  rw [if_pos h]
  have h1 := hb i h
  have h2 : 16384 ≤ mo i := by unfold mo; split <;> (try split) <;> decide
  omega
theorem sm_mul (c : Nat) (a : Nat → Nat) : ∀ n, sm (fun i => c * a i) n = c * sm a n
  | 0 => rfl
  | n + 1 => by
    unfold sm
    rw [sm_mul c a n, Nat.mul_add, Nat.mul_assoc]
theorem mi_sum {a b : Nat → Nat} (hb : ∀ i, i < 16 → b i < 65536) : sm (mi a b) 17 + sm b 16 = sm a 16 + 4 * F.p := by
  show sm (mi a b) 16 + mi a b 16 * _ + _ = _
  rw [show mi a b 16 = 0 from rfl, Nat.zero_mul, Nat.add_zero, ← sm_add, sm_congr (g := fun i => a i + 4 * mo i) 16 fun i hi => mi_at hb hi, sm_add, sm_mul, mo_sum]
theorem mi_Sm {a b : Nat → Nat} (ha : ∀ i, i < 16 → a i < 65536) : Sm (mi a b) := fun i _ => by
  unfold mi
  split
  · have := ha i (by assumption); have := mo_lt i; omega
  · decide
/-- A product, digit by digit. -/
def upd (f : Nat → Nat) (j x : Nat) : Nat → Nat := fun i => if i = j then x else f i
def acc (a b : Nat → Nat) (i : Nat) (f : Nat → Nat) : Nat → (Nat → Nat)
  | 0 => f
  | k + 1 => upd (acc a b i f k) (i + k) (acc a b i f k (i + k) + a i * b k)
def pro (a b : Nat → Nat) : Nat → (Nat → Nat)
  | 0 => fun _ => 0
  | i + 1 => acc a b i (pro a b i) 16
theorem sm_upd (f : Nat → Nat) (j x : Nat) : ∀ n, j < n → sm (upd f j (f j + x)) n = sm f n + x * 65536 ^ j
  | 0, h => absurd h (by omega)
  | n + 1, h => by
    unfold sm
    by_cases hj : j = n
    · subst hj
      rw [sm_congr (f := upd f j (f j + x)) (g := f) j fun i hi => by unfold upd; rw [if_neg (by omega)]]
      unfold upd
      rw [if_pos rfl, Nat.add_mul]
      omega
    · rw [sm_upd f j x n (by omega)]
      unfold upd
      rw [if_neg (fun e => hj e.symm)]
      omega
theorem acc_sum (a b f : Nat → Nat) {i : Nat} (hi : i < 16) : ∀ k, k ≤ 16 → sm (acc a b i f k) 32 = sm f 32 + a i * 65536 ^ i * sm b k
  | 0, _ => by unfold acc sm; omega
  | k + 1, h => by
    unfold acc
    rw [sm_upd _ _ _ 32 (by omega), acc_sum a b f hi k (by omega)]
    show _ = sm f 32 + a i * 65536 ^ i * (sm b k + b k * 65536 ^ k)
    rw [Nat.mul_add, Nat.pow_add, ← Nat.add_assoc]
    congr 1
    simp only [Nat.mul_assoc, Nat.mul_left_comm]
theorem sm_none : ∀ n, sm (fun _ => 0) n = 0
  | 0 => rfl
  | n + 1 => by
    unfold sm
    rw [sm_none n, Nat.zero_mul]
theorem pro_sum (a b : Nat → Nat) : ∀ i, i ≤ 16 → sm (pro a b i) 32 = sm a i * sm b 16
  | 0, _ => by
    rw [show sm a 0 = 0 from rfl, Nat.zero_mul]
    exact sm_none 32
  | i + 1, h => by
    show sm (acc a b i (pro a b i) 16) 32 = (sm a i + a i * 65536 ^ i) * sm b 16
    rw [acc_sum a b _ (by omega) 16 (by omega), pro_sum a b i (by omega), Nat.add_mul]
theorem acc_le {a b f : Nat → Nat} {i B : Nat} (ha : a i < 65536) (hb : ∀ k, k < 16 → b k < 65536) (hf : ∀ n, f n ≤ B) : ∀ k, k ≤ 16 → ∀ n, acc a b i f k n ≤ B + k * 4294967296
  | 0, _, n => by rw [Nat.zero_mul]; exact hf n
  | k + 1, h, n => by
    have ih := acc_le ha hb hf k (by omega)
    have h2 : a i * b k ≤ 65536 * 65536 := Nat.mul_le_mul (Nat.le_of_lt ha) (Nat.le_of_lt (hb k (by omega)))
    unfold acc upd
    split
    · have := ih (i + k)
      generalize acc a b i f k (i + k) = t at *
      omega
    · exact Nat.le_trans (ih n) (Nat.add_le_add_left (Nat.mul_le_mul_right _ (Nat.le_succ k)) B)
theorem pro_le {a b : Nat → Nat} (ha : ∀ i, i < 16 → a i < 65536) (hb : ∀ k, k < 16 → b k < 65536) : ∀ i, i ≤ 16 → ∀ n, pro a b i n ≤ i * 68719476736
  | 0, _, n => Nat.zero_le _
  | i + 1, h, n => by
    have := acc_le (ha i (by omega)) hb (pro_le ha hb i (by omega)) 16 (by omega) n
    unfold pro
    omega
theorem acc_pro_le {a b : Nat → Nat} (ha : ∀ i, i < 16 → a i < 65536) (hb : ∀ k, k < 16 → b k < 65536) {i k : Nat} (hi : i < 16) (hk : k ≤ 16) (n : Nat) : acc a b i (pro a b i) k n ≤ 1099511627776 := by
  have := acc_le (ha i hi) hb (pro_le ha hb i (by omega)) k hk n
  have h1 : i * 68719476736 ≤ 15 * 68719476736 := Nat.mul_le_mul_right _ (by omega)
  have h2 : k * 4294967296 ≤ 16 * 4294967296 := Nat.mul_le_mul_right _ hk
  omega
/-- The upper half, 38 times, put to the lower. -/
def fol (f : Nat → Nat) : Nat → Nat := fun i => f i + 38 * f (i + 16)
theorem sm_split (f : Nat → Nat) (m : Nat) : ∀ n, sm f (m + n) = sm f m + 65536 ^ m * sm (fun i => f (i + m)) n
  | 0 => by show sm f m = sm f m + _ * 0; omega
  | n + 1 => by
    show sm f (m + n) + f (m + n) * 65536 ^ (m + n) = _
    rw [sm_split f m n]
    show _ = sm f m + 65536 ^ m * (sm (fun i => f (i + m)) n + f (n + m) * 65536 ^ n)
    rw [Nat.mul_add, Nat.pow_add, Nat.add_comm n m, ← Nat.add_assoc]
    congr 1
    simp only [Nat.mul_left_comm]
theorem fol_mod (f : Nat → Nat) : sm (fol f) 16 % F.p = sm f 32 % F.p := by
  unfold fol
  rw [sm_add, sm_mul, sm_split f 16 16, Nat.add_mod, ← p38, ← Nat.add_mod, Nat.mul_comm (65536 ^ 16)]
/-- What By hands to least. -/
def byl (f : Nat → Nat) : Nat → Nat := fun i => if i < 16 then dig (fol f) 0 i else car (fol f) 0 16
theorem byl_sum (f : Nat → Nat) : sm (byl f) 17 % F.p = sm f 32 % F.p := by
  have h := car_sum (fol f) 0 16
  rw [Nat.add_zero] at h
  show (sm (byl f) 16 + byl f 16 * 65536 ^ 16) % F.p = _
  rw [sm_congr (f := byl f) (g := dig (fol f) 0) 16 fun i hi => by unfold byl; rw [if_pos hi], show byl f 16 = car (fol f) 0 16 from rfl, h, fol_mod]
theorem byl_Sm {f : Nat → Nat} (hf : ∀ n, f n ≤ 1099511627776) : Sm (byl f) := fun i hi => by
  have hl : ∀ i, i < 16 → fol f i < 2 ^ 50 := fun i _ => by
    have := hf i; have := hf (i + 16)
    unfold fol
    omega
  unfold byl
  split
  · have : dig (fol f) 0 i < 65536 := Nat.mod_lt _ (by decide)
    omega
  · have h1 := car_le (f := fol f) (c := 0) (by decide) hl 15 (by decide)
    have h2 := hl 15 (by decide)
    show (car (fol f) 0 15 + fol f 15) / 65536 < _
    omega
end Go.Proofs.Ytpnfopakkaoibaa.I

/- What a block of memory holds, whole or in ranges; what a store of a range does to it; rows of ints. (In a name space of its own: texts of numbers have other blocks.) -/
namespace Go.Proofs.Ytpnfopakkaoibaa.I
open Go.RowKit
/-- A number as an int. -/
abbrev dI (x : Nat) : Value := .int .i64 ((x : Nat) : Int)
/-- Block k holds these cells, and none of it is frozen. -/
structure Blk (w : World) (k : Nat) (vs : List Value) : Prop where
  lt : k < w.heap.size
  cell : ∀ j v, vs[j]? = some v → w.cell? ⟨k, j, none⟩ = some v
  fz : ∀ j, w.frozen? ⟨k, j, none⟩ = false
theorem Blk.up {W w1 : World} {k : Nat} {vs : List Value} {B : Nat} (h : Blk W k vs) (hb : Below B W w1) (hB : k < B) : Blk w1 k vs :=
  ⟨Nat.lt_of_lt_of_le h.lt hb.size, fun j v hv => (hb.cell (p := ⟨k, j, none⟩) hB).trans (h.cell j v hv), fun j => (hb.frozen (p := ⟨k, j, none⟩) hB).trans (h.fz j)⟩
theorem Blk.al {w : World} {vs : List Value} {t : TypeId} {C : Array Value} {k : Nat} (hk : k = w.heap.size) (hC : C.toList = vs) : Blk (w.alloc (.cells C t)) k vs := by
  subst hk hC
  have hb : (w.alloc (.cells C t)).heap[w.heap.size]? = some (.cells C t) := by show (w.heap.push _)[w.heap.size]? = _; simp
  refine ⟨by simp, fun j v hv => ?_, fun j => ?_⟩
  · rw [cell_of_row _ _ j C t _ hb]; simpa using hv
  · unfold World.frozen?
    rw [hb]
    simp
theorem Blk.range {w : World} {k : Nat} {a b c : List Value} (h : Blk w k (a ++ (b ++ c))) {o : Nat} (ho : o = a.length) : w.rangeAt k o b := by
  subst ho
  intro j v hv
  refine h.cell _ _ ?_
  have hj := (List.getElem?_eq_some_iff.1 hv).1
  rw [List.getElem?_append_right (by omega), show a.length + j - a.length = j by omega, List.getElem?_append_left hj, hv]
theorem Blk.all {w : World} {k : Nat} {a : List Value} (h : Blk w k a) : w.rangeAt k 0 a := fun j v hv => by
  rw [Nat.zero_add]; exact h.cell j v hv
theorem Blk.there {w : World} {k : Nat} {vs : List Value} (h : Blk w k vs) {o n : Nat} (hn : o + n ≤ vs.length) : w.there k o n := fun j hj => by
  refine ⟨?_, h.fz _⟩
  rw [h.cell (o + j) vs[o + j] (List.getElem?_eq_getElem (by omega))]
  rfl
theorem size_setCell (w : World) (a : Addr) (v : Value) : (w.setCell a v).heap.size = w.heap.size := by simp [World.setCell]
theorem size_setCells (k : Nat) : ∀ (vs : List Value) (o : Nat) (w : World), (w.setCells k o vs).heap.size = w.heap.size
  | [], _, _ => rfl
  | v :: vs, o, w => (size_setCells k vs (o + 1) _).trans (size_setCell w _ v)
theorem Blk.store {w : World} {k : Nat} {a b c b' : List Value} (h : Blk w k (a ++ (b ++ c))) {o : Nat} (ho : o = a.length) (hl : b'.length = b.length) : Blk (w.setCells k o b') k (a ++ (b' ++ c)) := by
  subst ho
  have ht := h.there (o := a.length) (n := b'.length) (by simp; omega)
  refine ⟨by rw [size_setCells]; exact h.lt, fun j v hv => ?_, fun j => by rw [World.frozen?_setCells]; exact h.fz j⟩
  rcases Nat.lt_or_ge j a.length with h1 | h1
  · rw [World.cell?_setCells_out k b' a.length w ⟨k, j, none⟩ (fun _ _ => Or.inl h1)]
    refine h.cell j v ?_
    rw [List.getElem?_append_left h1] at hv ⊢
    exact hv
  · rw [List.getElem?_append_right h1] at hv
    rcases Nat.lt_or_ge (j - a.length) b'.length with h2 | h2
    · rw [List.getElem?_append_left h2] at hv
      have := World.rangeAt_setCells_same w k a.length b' ht (j - a.length) v hv
      rwa [show a.length + (j - a.length) = j by omega] at this
    · rw [World.cell?_setCells_out k b' a.length w ⟨k, j, none⟩ (fun _ _ => Or.inr (by show a.length + b'.length ≤ j; omega))]
      refine h.cell j v ?_
      rw [List.getElem?_append_right h1, List.getElem?_append_right (by omega), ← hl]
      rw [List.getElem?_append_right h2] at hv
      exact hv
theorem Blk.set {w : World} {k : Nat} {vs : List Value} (h : Blk w k vs) (j : Nat) (v : Value) (hj : j < vs.length) : Blk (w.setCell ⟨k, j, none⟩ v) k (vs.set j v) := by
  have h0 : Blk w k (vs.take j ++ ([vs[j]] ++ vs.drop (j + 1))) := by
    have e : vs.take j ++ ([vs[j]] ++ vs.drop (j + 1)) = vs := by simp
    rw [e]; exact h
  have := h0.store (o := j) (b' := [v]) (by simp; omega) rfl
  rw [List.set_eq_take_append_cons_drop, if_pos hj]
  exact this
theorem Blk.apart {w : World} {k k' o : Nat} {vs b : List Value} (h : Blk w k vs) (hk : k ≠ k') : Blk (w.setCells k' o b) k vs :=
  ⟨by rw [size_setCells]; exact h.lt, fun j v hv => by
    rw [World.cell?_setCells_out k' b o w ⟨k, j, none⟩ (fun e _ => absurd e hk)]; exact h.cell j v hv, fun j => by rw [World.frozen?_setCells]; exact h.fz j⟩
theorem Blk.apart1 {w : World} {k k' o : Nat} {vs : List Value} {v : Value} (h : Blk w k vs) (hk : k ≠ k') : Blk (w.setCell ⟨k', o, none⟩ v) k vs := h.apart (b := [v]) hk
theorem below_setCells {B k : Nat} {a : World} : ∀ (vs : List Value) (o : Nat) (w : World), Below B a w → B ≤ k → Below B a (w.setCells k o vs)
  | [], _, _, h, _ => h
  | v :: vs, o, _, h, hk => below_setCells vs (o + 1) _ (h.setCell hk v) hk
/-- A row stored whole; the world behind it by an equation. -/
theorem wp_store_eq {P : Program} {ops : Array Oper} {rest : List Oper} {op : Oper} {a : Act} {w : World} {Q : Exit → Act → World → Prop} (hgd : op.guard = none) (ty : TypeId) (x y : Operand) (ho : op.op = .store ty x y)
    (b o : Nat) (cs : List Value) (hx : a.eval x = .pointer (some ⟨b, o, none⟩)) (hy : a.eval y = .agg cs.toArray)
    (ht : w.there b o cs.length) (hi : (P.info? ty).map (·.size) = some cs.length) (h1 : ∀ v ∈ cs, v.oneCell' = true)
    (h : ∀ w2, Hid (w2 = w.setCells b o cs) → wpList P ops Q rest (a.put op.dst undef) w2) : wpList P ops Q (op :: rest) a w :=
  wpList_store_mid hgd ty x y ho b o cs.toArray hx hy (by rw [List.size_toArray]; exact ht) (by rw [List.size_toArray]; exact hi) (all_oneCell_toArray h1) (h _ rfl)
theorem one_dI (xs : List Nat) : ∀ v ∈ xs.map dI, v.oneCell' = true := fun v hv => by
  obtain ⟨x, _, rfl⟩ := List.mem_map.1 hv
  rfl
theorem al1 (w : World) (C0 : Array Value) (t0 : TypeId) : Blk (w.alloc (.cells C0 t0)) w.heap.size C0.toList ∧ Below w.heap.size w (w.alloc (.cells C0 t0)) :=
  ⟨Blk.al rfl rfl, (Below.refl _ _).alloc (Nat.le_refl _) _⟩
theorem al2 (w : World) (C0 C1 : Array Value) (t0 t1 : TypeId) : Blk ((w.alloc (.cells C0 t0)).alloc (.cells C1 t1)) w.heap.size C0.toList ∧ Blk ((w.alloc (.cells C0 t0)).alloc (.cells C1 t1)) (w.heap.size + 1) C1.toList ∧ Below w.heap.size w ((w.alloc (.cells C0 t0)).alloc (.cells C1 t1)) := by
  obtain ⟨a0, a1⟩ := al1 w C0 t0
  obtain ⟨b0, b1⟩ := al1 (w.alloc (.cells C0 t0)) C1 t1
  rw [show (w.alloc (.cells C0 t0)).heap.size = w.heap.size + 1 by simp] at b0 b1
  exact ⟨a0.up b1 (by omega), b0, a1.trans (b1.mono (by omega))⟩
theorem al3 (w : World) (C0 C1 C2 : Array Value) (t0 t1 t2 : TypeId) : Blk (((w.alloc (.cells C0 t0)).alloc (.cells C1 t1)).alloc (.cells C2 t2)) w.heap.size C0.toList ∧ Blk (((w.alloc (.cells C0 t0)).alloc (.cells C1 t1)).alloc (.cells C2 t2)) (w.heap.size + 1) C1.toList ∧ Blk (((w.alloc (.cells C0 t0)).alloc (.cells C1 t1)).alloc (.cells C2 t2)) (w.heap.size + 1 + 1) C2.toList ∧ Below w.heap.size w (((w.alloc (.cells C0 t0)).alloc (.cells C1 t1)).alloc (.cells C2 t2)) := by
  obtain ⟨a0, a1, a2⟩ := al2 w C0 C1 t0 t1
  obtain ⟨b0, b1⟩ := al1 ((w.alloc (.cells C0 t0)).alloc (.cells C1 t1)) C2 t2
  rw [show ((w.alloc (.cells C0 t0)).alloc (.cells C1 t1)).heap.size = w.heap.size + 1 + 1 by simp] at b0 b1
  exact ⟨a0.up b1 (by omega), a1.up b1 (by omega), b0, a2.trans (b1.mono (by omega))⟩
theorem al4 (w : World) (C0 C1 C2 C3 : Array Value) (t0 t1 t2 t3 : TypeId) : Blk ((((w.alloc (.cells C0 t0)).alloc (.cells C1 t1)).alloc (.cells C2 t2)).alloc (.cells C3 t3)) w.heap.size C0.toList ∧ Blk ((((w.alloc (.cells C0 t0)).alloc (.cells C1 t1)).alloc (.cells C2 t2)).alloc (.cells C3 t3)) (w.heap.size + 1) C1.toList ∧ Blk ((((w.alloc (.cells C0 t0)).alloc (.cells C1 t1)).alloc (.cells C2 t2)).alloc (.cells C3 t3)) (w.heap.size + 1 + 1) C2.toList ∧ Blk ((((w.alloc (.cells C0 t0)).alloc (.cells C1 t1)).alloc (.cells C2 t2)).alloc (.cells C3 t3)) (w.heap.size + 1 + 1 + 1) C3.toList ∧ Below w.heap.size w ((((w.alloc (.cells C0 t0)).alloc (.cells C1 t1)).alloc (.cells C2 t2)).alloc (.cells C3 t3)) := by
  obtain ⟨a0, a1, a2, a3⟩ := al3 w C0 C1 C2 t0 t1 t2
  obtain ⟨b0, b1⟩ := al1 (((w.alloc (.cells C0 t0)).alloc (.cells C1 t1)).alloc (.cells C2 t2)) C3 t3
  rw [show (((w.alloc (.cells C0 t0)).alloc (.cells C1 t1)).alloc (.cells C2 t2)).heap.size = w.heap.size + 1 + 1 + 1 by simp] at b0 b1
  exact ⟨a0.up b1 (by omega), a1.up b1 (by omega), a2.up b1 (by omega), b0, a3.trans (b1.mono (by omega))⟩
/-- A row read whole in a quiet walk. -/
theorem quiet_load {P : Program} {ops : Array Oper} {C : World → Prop} {Q : Act → Prop} {o : Oper} {rest : List Oper} {a : Act} (hw : Region.wanted o (yielded ops a.tmps) = true) (ty : TypeId) (x : Operand) (ho : o.op = .load ty x)
    (b f : Nat) (hx : a.eval x = .pointer (some ⟨b, f, none⟩)) (cs : List Value) (d : TypeDesc) (hc : ∀ w, C w → w.rangeAt b f cs) (hu : P.underlying ty = some d) (hd : d.isRow = true) (hi : (P.info? ty).map (·.size) = some cs.length)
    (h : wpQuiet P ops C Q rest (a.put o.dst (.agg cs.toArray))) : wpQuiet P ops C Q (o :: rest) a := by
  refine BigFrame.wpQuiet_want hw fun K hK => ⟨.agg cs.toArray, fun w hw' => ?_, hK _ h⟩
  unfold Oper.quietAt
  have e : (execOp a.eval o).run P w = .ok (.value (.agg cs.toArray)) w := by
    unfold execOp
    simp only [ho, hx, Instr.loadAt, Instr.sureAddr, Sem.run_bind, Sem.run_pure, Result.andThen_ok, run_loadVar_mid w b f ty cs d (hc w hw') hu hd hi]
  rw [e]
  exact ⟨rfl, rfl⟩
theorem results_cell {P : Program} {fn : Func} {tmps : Array Value} {s : Tmp} {t : TypeId} {b : Nat} {cs : List Value} {d : TypeDesc} {W : World} (hr : fn.results = #[.cell s t]) (ht : tmps[s]?.getD undef = .pointer (some ⟨b, 0, none⟩)) (hc : W.rangeAt b 0 cs)
    (hu : P.underlying t = some d) (hd : d.isRow = true) (hi : (P.info? t).map (·.size) = some cs.length) : (results fn tmps).run P W = .ok (.agg cs.toArray) W := by
  have h1 := run_loadVar_mid (P := P) W b 0 t cs d hc hu hd hi
  simp [results, hr, ht, asAddr, h1]
theorem heap_setCell_at (w : World) (k o : Nat) (v : Value) (cs : List Value) (t : TypeId) (fz : Nat × Nat) (h : w.heap[k]? = some (.cells cs.toArray t fz)) : (w.setCell ⟨k, o, none⟩ v).heap[k]? = some (.cells (cs.set o v).toArray t fz) := by
  have hlt := (Array.getElem?_eq_some_iff.1 h).1
  have e : (w.setCell ⟨k, o, none⟩ v).heap = w.heap.modify k fun | .cells c elem frozen => .cells (if (⟨k, o, none⟩ : Addr).spot.isSome then c else c.setIfInBounds o v) elem frozen | o => o := rfl
  rw [e, Array.getElem?_modify, h]
  simp
theorem heap_setCells_at (k : Nat) (t : TypeId) (fz : Nat × Nat) : ∀ (vs a b c : List Value) (w : World), w.heap[k]? = some (.cells (a ++ (b ++ c)).toArray t fz) → b.length = vs.length → (w.setCells k a.length vs).heap[k]? = some (.cells (a ++ (vs ++ c)).toArray t fz)
  | [], a, b, c, w, h, hb => by
    rw [List.length_eq_zero_iff.1 hb] at h
    exact h
  | v :: vs, a, y :: b, c, w, h, hb => by
    have h1 := heap_setCell_at w k a.length v _ t fz h
    rw [List.set_append_right _ _ (Nat.le_refl _), Nat.sub_self, List.cons_append, List.set_cons_zero, show a ++ v :: (b ++ c) = (a ++ [v]) ++ (b ++ c) by simp] at h1
    have h2 := heap_setCells_at k t fz vs (a ++ [v]) b c _ h1 (by simpa using hb)
    rw [List.length_append, List.length_singleton] at h2
    rw [show a ++ (v :: vs ++ c) = (a ++ [v]) ++ (vs ++ c) by simp]
    exact h2
  | v :: vs, a, [], c, w, h, hb => by simp at hb
theorem heap_setCells_off (k j : Nat) (hj : j ≠ k) : ∀ (vs : List Value) (o : Nat) (w : World), (w.setCells k o vs).heap[j]? = w.heap[j]?
  | [], _, _ => rfl
  | v :: vs, o, w => (heap_setCells_off k j hj vs (o + 1) (w.setCell ⟨k, o, none⟩ v)).trans (Below.heap_setCell w ⟨k, o, none⟩ v j hj)
theorem Blk.put {w : World} {k : Nat} {vs us : List Value} (h : Blk w k vs) (hl : us.length = vs.length) : Blk (w.setCells k 0 us) k us := by
  have h1 : Blk w k ([] ++ (vs ++ [])) := by simpa using h
  have h2 := h1.store (o := 0) (b' := us) rfl (by omega)
  rw [List.nil_append, List.append_nil] at h2
  exact h2
/-- n ints in block k: the function of their places. -/
def row (n : Nat) (f : Nat → Nat) : List Nat := (List.range n).map f
theorem row_length (n : Nat) (f : Nat → Nat) : (row n f).length = n := by simp [row]
theorem row_congr {n : Nat} {f g : Nat → Nat} (h : ∀ i, i < n → f i = g i) : row n f = row n g := by
  unfold row
  exact List.map_congr_left fun i hi => h i (List.mem_range.1 hi)
abbrev Ar (w : World) (k n : Nat) (f : Nat → Nat) : Prop := Blk w k ((row n f).map dI)
/-- An array of ints as a value. -/
abbrev aI (n : Nat) (f : Nat → Nat) : Value := .agg ((row n f).map dI).toArray
theorem aI_congr {n : Nat} {f g : Nat → Nat} (h : ∀ i, i < n → f i = g i) : aI n f = aI n g := by
  unfold aI
  rw [row_congr h]
theorem Ar.congr {w : World} {k n : Nat} {f g : Nat → Nat} (h : Ar w k n f) (e : ∀ i, i < n → f i = g i) : Ar w k n g := by
  unfold Ar
  rw [← row_congr e]
  exact h
theorem Ar.at {w : World} {k n : Nat} {f : Nat → Nat} (h : Ar w k n f) {j : Nat} (hj : j < n) : w.cell? ⟨k, j, none⟩ = some (dI (f j)) :=
  h.cell j _ (by simp [row, hj])
theorem Ar.set {w : World} {k n : Nat} {f : Nat → Nat} (h : Ar w k n f) {j : Nat} (hj : j < n) (x : Nat) : Ar (w.setCell ⟨k, j, none⟩ (dI x)) k n (upd f j x) := by
  have h1 := Blk.set h j (dI x) (by simp [row, hj])
  have e : ((row n f).map dI).set j (dI x) = (row n (upd f j x)).map dI := by
    apply List.ext_getElem?
    intro i
    rw [List.getElem?_set]
    by_cases hi : i < n
    · by_cases hij : j = i
      · subst hij
        simp [row, upd, hj]
      · have : ¬ i = j := fun e => hij e.symm
        simp [row, upd, hi, hij, this]
    · have h2 : ¬ j = i := by omega
      simp [row, hi, h2]
  rw [e] at h1
  exact h1
theorem zero_of {t : TypeId} {v : Value} (h : (Try.prog.info? t).map (·.zero) = some (some v)) (w : World) : (zeroValue t).run Try.prog w = .ok v w := by
  cases hq : Try.prog.info? t with
  | none => simp [hq] at h
  | some d =>
    have hz : d.zero = some v := by simpa [hq] using h
    simp [zeroValue, typeInfo, hq, hz]
/-- So many noughts. -/
def z0 : Nat → Nat := fun _ => 0
theorem u_fe : Try.prog.underlying 70 = some (.array 16 3) := by kernel_rfl
theorem u_i17 : Try.prog.underlying 103 = some (.array 17 3) := by kernel_rfl
theorem info_fe : (Try.prog.info? 70).map (·.size) = some 16 := by kernel_rfl
theorem info_i17 : (Try.prog.info? 103).map (·.size) = some 17 := by kernel_rfl
theorem zero_fe (w : World) : (zeroValue 70).run Try.prog w = .ok (aI 16 z0) w := zero_of (by kernel_rfl) w
theorem zero_i17 (w : World) : (zeroValue 103).run Try.prog w = .ok (aI 17 z0) w := zero_of (by kernel_rfl) w
theorem zero_i32 (w : World) : (zeroValue 102).run Try.prog w = .ok (aI 32 z0) w := zero_of (by kernel_rfl) w
theorem info_row {t : TypeId} {n : Nat} (h : (Try.prog.info? t).map (·.size) = some n) (f : Nat → Nat) : (Try.prog.info? t).map (·.size) = some ((row n f).map dI).length := by
  rw [h, List.length_map, row_length]
end Go.Proofs.Ytpnfopakkaoibaa.I
