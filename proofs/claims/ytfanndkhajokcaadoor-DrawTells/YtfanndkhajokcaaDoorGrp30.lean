import Derived.Test.YtfanndkhajokcaaDoorNum
import Derived.Test.YtfanndkhajokcaaDoorRows
import Derived.WalkKit
import Derived.WalkSpells
import Derived.WalkLawsBesides
import Derived.LoopN
import Derived.Shelf.Spec.BitsCarry
import Derived.Laws.MathBits
import Derived.Test.YtfanndkhajokcaaDoorUp
/- The plain mathematics of numbers of eight words and of a division by bits, with no program in sight. -/
namespace Go.Proofs.YtfanndkhajokcaaDoor
open Go.RowKit

/-- What a number of eight words stands for. -/
def V (l h : Nm) : Nat := (l.val + M * h.val).toNat
/-- The number of eight words of n: its halves. -/
def WL (n : Nat) : Nm := Nm.of ((n : Int) % M)
def WH (n : Nat) : Nm := Nm.of ((n : Int) / M)
/-- The words of n. -/
def word (n j : Nat) : Nat := n / 2 ^ (64 * j) % 2 ^ 64
/-- The words of a number of eight. -/
def getV (l h : Nm) : Nat → Int
  | 0 => l.a
  | 1 => l.b
  | 2 => l.c
  | 3 => l.d
  | 4 => h.a
  | 5 => h.b
  | 6 => h.c
  | _ => h.d
theorem WL_ok (n : Nat) : (WL n).ok := Nm.of_ok _
theorem WH_ok (n : Nat) : (WH n).ok := Nm.of_ok _
theorem pow_twice (k n : Nat) (h : k = n + n) : (2 : Nat) ^ k = 2 ^ n * 2 ^ n := by rw [h, Nat.pow_add]
theorem pow512 : (2 : Nat) ^ 512 = 13407807929942597099574024998205846127479365820592393377723561443721764030073546976801874298166903427690031858186486050853753882811946569946433649006084096 := (pow_twice 512 256 rfl).trans (by simp only [Nat.reducePow, Nat.reduceMul])
theorem V_lt {l h : Nm} (ol : l.ok) (oh : h.ok) : V l h < 2 ^ 512 := by
  have a0 := Nm.val_nonneg ol; have a1 := Nm.val_lt ol; have b0 := Nm.val_nonneg oh; have b1 := Nm.val_lt oh
  rw [pow512]; unfold V M at *; omega
theorem V_cast {l h : Nm} (ol : l.ok) (oh : h.ok) : ((V l h : Nat) : Int) = l.val + M * h.val := by
  have a0 := Nm.val_nonneg ol; have b0 := Nm.val_nonneg oh
  unfold V M at *; omega
theorem V_of {n : Nat} (hn : n < 2 ^ 512) : V (WL n) (WH n) = n := by
  rw [pow512] at hn
  unfold V WL WH
  rw [Nm.of_val (by unfold M; omega) (by unfold M; omega), Nm.of_val (by unfold M; omega) (by unfold M; omega)]
  unfold M; omega
theorem V_halves {l h : Nm} (ol : l.ok) (oh : h.ok) : l = WL (V l h) ∧ h = WH (V l h) := by
  have a0 := Nm.val_nonneg ol; have a1 := Nm.val_lt ol; have b0 := Nm.val_nonneg oh; have b1 := Nm.val_lt oh
  refine ⟨Nm.eq_of ol ?_, Nm.eq_of oh ?_⟩ <;> rw [V_cast ol oh] <;> unfold M at * <;> omega
theorem V_ext {l h l' h' : Nm} (ol : l.ok) (oh : h.ok) (ol' : l'.ok) (oh' : h'.ok) (e : V l h = V l' h') : l = l' ∧ h = h' := by
  obtain ⟨p, q⟩ := V_halves ol oh
  obtain ⟨p', q'⟩ := V_halves ol' oh'
  rw [e] at p q
  exact ⟨p.trans p'.symm, q.trans q'.symm⟩
theorem V_zero (l : Nm) : V l ⟨0, 0, 0, 0⟩ = l.val.toNat := by simp [V, Nm.val, M]
theorem word_V {l h : Nm} (ol : l.ok) (oh : h.ok) (j : Nat) (hj : j < 8) : getV l h j = ((word (V l h) j : Nat) : Int) := by
  have e := V_cast ol oh
  obtain ⟨⟨_, _⟩, ⟨_, _⟩, ⟨_, _⟩, ⟨_, _⟩⟩ := ol
  obtain ⟨⟨_, _⟩, ⟨_, _⟩, ⟨_, _⟩, ⟨_, _⟩⟩ := oh
  generalize V l h = v at *
  unfold word
  simp only [Nm.val, M] at e
  match j, hj with
  | 0, _ => simp only [getV, Nat.mul_zero, Nat.pow_zero]; omega
  | 1, _ => simp only [getV, Nat.mul_one]; omega
  | 2, _ => simp only [getV, show 64 * 2 = 128 from rfl]; omega
  | 3, _ => simp only [getV, show 64 * 3 = 192 from rfl]; omega
  | 4, _ => simp only [getV, show 64 * 4 = 256 from rfl]; omega
  | 5, _ => simp only [getV, show 64 * 5 = 320 from rfl]; omega
  | 6, _ => simp only [getV, show 64 * 6 = 384 from rfl]; omega
  | 7, _ => simp only [getV, show 64 * 7 = 448 from rfl]; omega
theorem word_lt (n j : Nat) : word n j < 18446744073709551616 := Nat.mod_lt _ (by decide)
/-- The eight words of n are those of its halves. -/
theorem words_of {n : Nat} (hn : n < 2 ^ 512) (j : Nat) (hj : j < 8) : ((word n j : Nat) : Int) = getV (WL n) (WH n) j := by
  rw [word_V (WL_ok n) (WH_ok n) j hj, V_of hn]
/-- Bit i of n is bit i mod 64 of word i / 64. -/
theorem bit_of_word (n i : Nat) : word n (i / 64) / 2 ^ (i % 64) % 2 = n / 2 ^ i % 2 := by
  have h : (word n (i / 64)).testBit (i % 64) = n.testBit i := by
    unfold word
    rw [Nat.testBit_mod_two_pow, Nat.testBit_div_two_pow]
    have : 64 * (i / 64) + i % 64 = i := by omega
    have h2 : i % 64 < 64 := by omega
    simp [h2, show i % 64 + 64 * (i / 64) = i by omega]
  rw [Nat.testBit_eq_decide_div_mod_eq, Nat.testBit_eq_decide_div_mod_eq] at h
  have := decide_eq_decide.1 h
  omega
/-- What one more bit does to the words. -/
theorem word_bit {n k : Nat} (h0 : n % 2 ^ (k + 1) = 0) (j : Nat) : word (n + 2 ^ k) j = if j = k / 64 then word n j ||| 2 ^ (k % 64) else word n j := by
  have e : n + 2 ^ k = n ||| 2 ^ k := by
    obtain ⟨c, rfl⟩ := Nat.dvd_of_mod_eq_zero h0
    have := Nat.shiftLeft_add_eq_or_of_lt (b := 2 ^ k) (i := k + 1) (Nat.pow_lt_pow_right (by omega) (by omega)) c
    rw [Nat.shiftLeft_eq, Nat.mul_comm] at this
    exact this
  rw [e]
  apply Nat.eq_of_testBit_eq
  intro i
  unfold word
  split
  · rename_i hj
    subst hj
    rw [Nat.testBit_or, Nat.testBit_mod_two_pow, Nat.testBit_mod_two_pow, Nat.testBit_div_two_pow, Nat.testBit_div_two_pow, Nat.testBit_or, Nat.testBit_two_pow, Nat.testBit_two_pow]
    by_cases hi : i < 64
    · have : (k = i + 64 * (k / 64)) ↔ k % 64 = i := by omega
      simp [hi, this]
    · have : ¬ (k % 64 = i) := by omega
      simp [hi, this]
  · rename_i hj
    rw [Nat.testBit_mod_two_pow, Nat.testBit_mod_two_pow, Nat.testBit_div_two_pow, Nat.testBit_div_two_pow, Nat.testBit_or, Nat.testBit_two_pow]
    by_cases hi : i < 64
    · have : ¬ (k = i + 64 * j) := by omega
      simp [hi, this]
    · simp [hi]
/-- One step of the division by bits. -/
theorem div_step {A m k : Nat} (hm : 0 < m) : A / 2 ^ (k+1) % m < m ∧ A / 2 ^ k % m = (if m ≤ 2 * (A / 2 ^ (k+1) % m) + A / 2 ^ k % 2 then 2 * (A / 2 ^ (k+1) % m) + A / 2 ^ k % 2 - m else 2 * (A / 2 ^ (k+1) % m) + A / 2 ^ k % 2) ∧
    A / 2 ^ k / m = 2 * (A / 2 ^ (k+1) / m) + (if m ≤ 2 * (A / 2 ^ (k+1) % m) + A / 2 ^ k % 2 then 1 else 0) := by
  have hr : A / 2 ^ (k+1) % m < m := Nat.mod_lt _ hm
  have e1 : A / 2 ^ (k + 1) = A / 2 ^ k / 2 := by rw [Nat.pow_succ, Nat.div_div_eq_div_mul]
  have e2 : A / 2 ^ (k + 1) = m * (A / 2 ^ (k+1) / m) + A / 2 ^ (k+1) % m := (Nat.div_add_mod _ _).symm
  have hb : A / 2 ^ k % 2 < 2 := Nat.mod_lt _ (by omega)
  have e3 : A / 2 ^ k = m * (2 * (A / 2 ^ (k+1) / m)) + (2 * (A / 2 ^ (k+1) % m) + A / 2 ^ k % 2) := by
    have : m * (2 * (A / 2 ^ (k+1) / m)) = 2 * (m * (A / 2 ^ (k+1) / m)) := by rw [Nat.mul_left_comm]
    omega
  generalize A / 2 ^ (k+1) % m = r at *
  generalize A / 2 ^ (k+1) / m = q at *
  generalize A / 2 ^ k % 2 = b at *
  refine ⟨hr, ?_, ?_⟩
  · rw [e3, Nat.mul_add_mod]
    split
    · rw [Nat.mod_eq_sub_mod (by omega), Nat.mod_eq_of_lt (by omega)]
    · exact Nat.mod_eq_of_lt (by omega)
  · rw [e3, Nat.mul_add_div hm]
    split
    · rw [Nat.div_eq_sub_div hm (by omega), Nat.div_eq_of_lt (by omega)]
    · rw [Nat.div_eq_of_lt (by omega)]
/-- What is left, and how often, when k bits are still to come. -/
def LK (A m k : Nat) : Nm := Nm.of ((A / 2 ^ k % m : Nat) : Int)
def QK (A m k : Nat) : Nat := A / 2 ^ k / m * 2 ^ k
theorem LK_ok (A m k : Nat) : (LK A m k).ok := Nm.of_ok _
theorem M_cast : M = ((2 ^ 256 : Nat) : Int) := rfl
theorem LK_val {A m k : Nat} (hm : 0 < m) (hM : (m : Int) < M) : (LK A m k).val = ((A / 2 ^ k % m : Nat) : Int) :=
  Nm.of_val (Int.natCast_nonneg _) (Int.lt_trans (Int.ofNat_lt.2 (Nat.mod_lt _ hm)) hM)
theorem QK_low (A m k : Nat) : QK A m (k + 1) % 2 ^ (k + 1) = 0 := by unfold QK; exact Nat.mul_mod_left _ _
theorem QK_lt {A m k : Nat} (hA : A < 2 ^ 512) : QK A m k < 2 ^ 512 := by
  unfold QK
  have h1 : A / 2 ^ k / m ≤ A / 2 ^ k := Nat.div_le_self _ _
  have h2 := Nat.mul_le_mul_right (2 ^ k) h1
  have h3 := Nat.div_mul_le_self A (2 ^ k)
  omega
theorem QK_zero (A m : Nat) : QK A m 0 = A / m := by simp [QK]
theorem QK_up {A m k : Nat} (hm : 0 < m) (h : m ≤ 2 * (A / 2 ^ (k+1) % m) + A / 2 ^ k % 2) : QK A m k = QK A m (k + 1) + 2 ^ k := by
  unfold QK
  rw [(div_step (A := A) (k := k) hm).2.2, if_pos h, Nat.pow_succ, Nat.add_mul, Nat.one_mul, Nat.mul_comm 2, Nat.mul_assoc, Nat.mul_comm 2]
theorem QK_same {A m k : Nat} (hm : 0 < m) (h : ¬ m ≤ 2 * (A / 2 ^ (k+1) % m) + A / 2 ^ k % 2) : QK A m k = QK A m (k + 1) := by
  unfold QK
  rw [(div_step (A := A) (k := k) hm).2.2, if_neg h, Nat.pow_succ, Nat.add_zero, Nat.mul_comm 2, Nat.mul_assoc, Nat.mul_comm 2]
end Go.Proofs.YtfanndkhajokcaaDoor

/- The contracts of limb.Add and limb.Sub: the sum and the difference of two numbers of four words, with what is carried or borrowed. -/
namespace Go.Proofs.YtfanndkhajokcaaDoor
open Go.RowKit Go.Shelf

theorem sub64 (x y b : Int) (hx : Word x) (hy : Word y) (hb0 : 0 ≤ b) (hb : b ≤ 1) (w : World) : (callFunc 36 #[.int .u64 x, .int .u64 y, .int .u64 b]).run Tryd.prog w =
    .ok (.value (.tuple #[.int .u64 ((x - y - b) % 18446744073709551616), .int .u64 (- ((x - y - b) / 18446744073709551616))])) w := by
  obtain ⟨hx0, hx1⟩ := hx; obtain ⟨hy0, hy1⟩ := hy
  obtain ⟨x, rfl⟩ := Int.eq_ofNat_of_zero_le hx0
  obtain ⟨y, rfl⟩ := Int.eq_ofNat_of_zero_le hy0
  obtain ⟨b, rfl⟩ := Int.eq_ofNat_of_zero_le hb0
  rw [run_callFunc_extern Tryd.func36 (by kernel_rfl) (by kernel_rfl) (by kernel_rfl) (e := sub64Entry) (by kernel_rfl), run_sub64 x y b (by omega)]
  have e1 : (((x + 18446744073709551616 - y - b) % 18446744073709551616 : Nat) : Int) = ((x : Int) - y - b) % 18446744073709551616 := by omega
  have e2 : ((if x < y + b then 1 else 0 : Nat) : Int) = - (((x : Int) - y - b) / 18446744073709551616) := by split <;> omega
  rw [← e1, ← e2]
  rfl

theorem sub64_ex (x y c : Int) (hx : Word x) (hy : Word y) (hc0 : 0 ≤ c) (hc : c ≤ 1) : ∃ s k, (∀ w, (callFunc 36 #[.int .u64 x, .int .u64 y, .int .u64 c]).run Tryd.prog w = .ok (.value (.tuple #[.int .u64 s, .int .u64 k])) w) ∧ s = (x - y - c) % 18446744073709551616 ∧ k = - ((x - y - c) / 18446744073709551616) ∧ 0 ≤ k ∧ k ≤ 1 := by
  have hs := sub64 x y c hx hy hc0 hc
  obtain ⟨hx0, hx1⟩ := hx; obtain ⟨hy0, hy1⟩ := hy
  exact ⟨_, _, hs, rfl, rfl, by omega, by omega⟩

set_option maxHeartbeats 1000000 in
theorem sub_walk (x y : Nm) (s0 s1 s2 s3 c1 c2 c3 c4 : Int) (w : World)
    (h0 : ∀ w, (callFunc 36 #[.int .u64 x.a, .int .u64 y.a, .int .u64 0]).run Tryd.prog w = .ok (.value (.tuple #[.int .u64 s0, .int .u64 c1])) w)
    (h1 : ∀ w, (callFunc 36 #[.int .u64 x.b, .int .u64 y.b, .int .u64 c1]).run Tryd.prog w = .ok (.value (.tuple #[.int .u64 s1, .int .u64 c2])) w)
    (h2 : ∀ w, (callFunc 36 #[.int .u64 x.c, .int .u64 y.c, .int .u64 c2]).run Tryd.prog w = .ok (.value (.tuple #[.int .u64 s2, .int .u64 c3])) w)
    (h3 : ∀ w, (callFunc 36 #[.int .u64 x.d, .int .u64 y.d, .int .u64 c3]).run Tryd.prog w = .ok (.value (.tuple #[.int .u64 s3, .int .u64 c4])) w) :
    Calls Tryd.prog 16 #[N x, N y] w fun e w' =>
      e = .returned (.tuple #[N ⟨s0, s1, s2, s3⟩, .int .u64 c4]) ∧ Below w.heap.size w w' := by
  go_enter Tryd.func16, Tryd.ntmps16
  go_wp2
  refine wp_loop_rounds 5 ?_
  iterate 4
    rw [rounds_succ]
    go_wp2
    go_region
    go_wp2
  rw [rounds_succ]
  go_wp2
  refine bodyPost_ret (v := .tuple #[N ⟨s0, s1, s2, s3⟩, .int .u64 c4]) (by simp [results, Tryd.results16, go_sem]) rfl ⟨rfl, ?_⟩
  repeat (first | exact Below.refl _ _ | refine Below.drew ?_ | refine Below.setCell ?_ (by simp <;> omega) _ | refine Below.alloc ?_ (by simp <;> omega) _)

/-- limb.Sub. -/
theorem sub_any (x y : Nm) (hx : x.ok) (hy : y.ok) (w : World) :
    Calls Tryd.prog 16 #[N x, N y] w fun e w' =>
      ∃ s c, e = .returned (.tuple #[N s, .int .u64 c]) ∧ Hid (s.ok ∧ s.val - M * c = x.val - y.val ∧ 0 ≤ c ∧ c ≤ 1) ∧ Below w.heap.size w w' := by
  obtain ⟨s0, c1, h0, e0, k1, p1, q1⟩ := sub64_ex x.a y.a 0 hx.a hy.a (by decide) (by decide)
  obtain ⟨s1, c2, h1, e1, k2, p2, q2⟩ := sub64_ex x.b y.b c1 hx.b hy.b p1 q1
  obtain ⟨s2, c3, h2, e2, k3, p3, q3⟩ := sub64_ex x.c y.c c2 hx.c hy.c p2 q2
  obtain ⟨s3, c4, h3, e3, k4, p4, q4⟩ := sub64_ex x.d y.d c3 hx.d hy.d p3 q3
  refine (sub_walk x y s0 s1 s2 s3 c1 c2 c3 c4 w h0 h1 h2 h3).mono ?_
  rintro e w' ⟨rfl, hb⟩
  exact ⟨⟨s0, s1, s2, s3⟩, c4, rfl, sub_val hx hy e0 k1 e1 k2 e2 k3 e3 k4, hb⟩
/-- The sum, and what is carried. -/
def addS (x y : Nm) : Nm := Nm.of ((x.val + y.val) % M)
def addC (x y : Nm) : Int := (x.val + y.val) / M
/-- The difference, and what is borrowed. -/
def subS (x y : Nm) : Nm := Nm.of ((x.val - y.val) % M)
def subC (x y : Nm) : Int := - ((x.val - y.val) / M)
/-- limb.Sub, its answer told. -/
theorem sub_fun (x y : Nm) (hx : x.ok) (hy : y.ok) (w : World) :
    Calls Tryd.prog 16 #[N x, N y] w fun e w' => e = .returned (.tuple #[N (subS x y), .int .u64 (subC x y)]) ∧ Below w.heap.size w w' := by
  refine (sub_any x y hx hy w).mono ?_
  rintro e w' ⟨s, c, rfl, H, hb⟩
  obtain ⟨o, hv, _, _⟩ := H.out
  have h0 := Nm.val_nonneg o; have h1 := Nm.val_lt o
  have e1 : s = subS x y := Nm.eq_of o (by rw [← hv]; unfold M at *; omega)
  have e2 : c = subC x y := by unfold subC; rw [← hv]; unfold M at *; omega
  rw [← e1, ← e2]
  exact ⟨rfl, hb⟩
theorem addS_comm (x y : Nm) : addS x y = addS y x := by unfold addS; rw [Int.add_comm]
theorem addC_comm (x y : Nm) : addC x y = addC y x := by unfold addC; rw [Int.add_comm]
theorem addS_ok (x y : Nm) : (addS x y).ok := Nm.of_ok _
theorem add_val' {x y : Nm} : (addS x y).val + M * addC x y = x.val + y.val := by
  have e1 : (addS x y).val = (x.val + y.val) % M := Nm.of_val (Int.emod_nonneg _ (by decide)) (Int.emod_lt_of_pos _ M_pos)
  rw [e1]
  exact Int.emod_add_mul_ediv _ _
theorem addC_01 {x y : Nm} (hx : x.ok) (hy : y.ok) : 0 ≤ addC x y ∧ addC x y ≤ 1 := by
  have := Nm.val_nonneg hx; have := Nm.val_lt hx; have := Nm.val_nonneg hy; have := Nm.val_lt hy
  unfold addC M at *
  omega
theorem sums {a b c : Nm} : addS (addS a b) c = addS a (addS b c) ∧ addC a b + addC (addS a b) c = addC b c + addC a (addS b c) := by
  have h1 := add_val' (x := a) (y := b)
  have h2 := add_val' (x := addS a b) (y := c)
  have h3 := add_val' (x := b) (y := c)
  have h4 := add_val' (x := a) (y := addS b c)
  have o1 := addS_ok (addS a b) c
  have o2 := addS_ok a (addS b c)
  have := Nm.val_nonneg o1; have := Nm.val_lt o1; have := Nm.val_nonneg o2; have := Nm.val_lt o2
  have e : addC a b + addC (addS a b) c = addC b c + addC a (addS b c) := by unfold M at *; omega
  exact ⟨Nm.ext_val o1 o2 (by unfold M at *; omega), e⟩

/-- A number of one word. -/
theorem one_ok {c : Int} (h : Word c) : (⟨c, 0, 0, 0⟩ : Nm).ok := by
  have z : Word 0 := ⟨by decide, by decide⟩
  exact ⟨h, z, z, z⟩
theorem addC_word {x y : Nm} (hx : x.ok) (hy : y.ok) : Word (addC x y) := by
  have := addC_01 hx hy
  exact ⟨by omega, by omega⟩
end Go.Proofs.YtfanndkhajokcaaDoor

/- The contracts of math/bits.Mul64, limb.mulAdd and limb.Mul: the product of two numbers of four words, as one of eight. -/
namespace Go.Proofs.YtfanndkhajokcaaDoor
open Go.RowKit Go.Shelf

theorem prod_le {x y : Int} (hx : Word x) (hy : Word y) : x * y ≤ 18446744073709551615 * 18446744073709551615 := by
  obtain ⟨hx0, hx1⟩ := hx; obtain ⟨hy0, hy1⟩ := hy
  exact Int.mul_le_mul (by omega) (by omega) hy0 (by omega)

theorem mulAdd_val {p s t h l l1 c1 l2 c2 : Int} (hp : p ≤ 18446744073709551615 * 18446744073709551615) (hs : Word s) (ht : Word t) (H : Word h ∧ Word l ∧ l + 18446744073709551616 * h = p)
    (e1 : l1 = (l + s + 0) % 18446744073709551616) (k1 : c1 = (l + s + 0) / 18446744073709551616) (e2 : l2 = (l1 + t + 0) % 18446744073709551616) (k2 : c2 = (l1 + t + 0) / 18446744073709551616) :
    IntKind.u64.wrap (h + c1) = h + c1 ∧ IntKind.u64.wrap (h + c1 + c2) = h + c1 + c2 ∧ Word l2 ∧ Word (h + c1 + c2) ∧ l2 + 18446744073709551616 * (h + c1 + c2) = p + s + t := by
  obtain ⟨⟨h0, h1⟩, ⟨_, _⟩, hl⟩ := H
  obtain ⟨_, _⟩ := hs; obtain ⟨_, _⟩ := ht
  refine ⟨by rw [IntKind.wrap_u64]; omega, by rw [IntKind.wrap_u64]; omega, ⟨?_, ?_⟩, ⟨?_, ?_⟩, ?_⟩ <;> omega
/-- One row of the product: word x times y, added to what lies there. -/
theorem row_val {x : Int} {y : Nm} {s0 s1 s2 s3 r0 r1 r2 r3 c1 c2 c3 c4 : Int} (e0 : r0 + 18446744073709551616 * c1 = x * y.a + s0 + 0) (e1 : r1 + 18446744073709551616 * c2 = x * y.b + s1 + c1)
    (e2 : r2 + 18446744073709551616 * c3 = x * y.c + s2 + c2) (e3 : r3 + 18446744073709551616 * c4 = x * y.d + s3 + c3) :
    (⟨r0, r1, r2, r3⟩ : Nm).val + M * c4 = x * y.val + (⟨s0, s1, s2, s3⟩ : Nm).val := by
  simp only [Nm.val, M, Int.mul_add, Int.mul_left_comm x]
  omega
theorem rows_val {x y : Nm} {r00 r01 r02 r03 r04 r10 r11 r12 r13 r14 r20 r21 r22 r23 r24 r30 r31 r32 r33 r34 : Int}
    (h0 : (⟨r00, r01, r02, r03⟩ : Nm).val + M * r04 = x.a * y.val + (⟨0, 0, 0, 0⟩ : Nm).val) (h1 : (⟨r10, r11, r12, r13⟩ : Nm).val + M * r14 = x.b * y.val + (⟨r01, r02, r03, r04⟩ : Nm).val)
    (h2 : (⟨r20, r21, r22, r23⟩ : Nm).val + M * r24 = x.c * y.val + (⟨r11, r12, r13, r14⟩ : Nm).val) (h3 : (⟨r30, r31, r32, r33⟩ : Nm).val + M * r34 = x.d * y.val + (⟨r21, r22, r23, r24⟩ : Nm).val) :
    (⟨r00, r10, r20, r30⟩ : Nm).val + M * (⟨r31, r32, r33, r34⟩ : Nm).val = x.val * y.val := by
  have e : x.val * y.val = x.a * y.val + 18446744073709551616 * (x.b * y.val + 18446744073709551616 * (x.c * y.val + 18446744073709551616 * (x.d * y.val))) := by
    generalize y.val = v
    simp only [Nm.val, Int.add_mul, Int.mul_add, Int.mul_assoc]
  rw [e]
  generalize x.a * y.val = p0 at *
  generalize x.b * y.val = p1 at *
  generalize x.c * y.val = p2 at *
  generalize x.d * y.val = p3 at *
  simp only [Nm.val, M] at *
  omega
end Go.Proofs.YtfanndkhajokcaaDoor

/- The contract of limb.Mul: the product of two numbers of four words, as one of eight. -/
namespace Go.Proofs.YtfanndkhajokcaaDoor
open Go.RowKit
attribute [local go_sem] setCell_drewN
/-- The product's halves. -/
def mulL (x y : Nm) : Nm := Nm.of (x.val * y.val % M)
def mulH (x y : Nm) : Nm := Nm.of (x.val * y.val / M)
theorem mul_bound {x y : Nm} (hx : x.ok) (hy : y.ok) : 0 ≤ x.val * y.val ∧ x.val * y.val / M < M := by
  refine ⟨Int.mul_nonneg (Nm.val_nonneg hx) (Nm.val_nonneg hy), Int.ediv_lt_of_lt_mul M_pos ?_⟩
  have h1 : x.val ≤ M - 1 := by have := Nm.val_lt hx; omega
  have h2 : y.val ≤ M - 1 := by have := Nm.val_lt hy; omega
  have h3 := Int.mul_le_mul h1 h2 (Nm.val_nonneg hy) (by decide)
  have h4 : (M - 1) * (M - 1) < M * M := by decide
  omega
theorem mulL_ok (x y : Nm) : (mulL x y).ok := Nm.of_ok _
theorem mulH_ok (x y : Nm) : (mulH x y).ok := Nm.of_ok _
theorem mul_val {x y : Nm} (hx : x.ok) (hy : y.ok) : (mulL x y).val + M * (mulH x y).val = x.val * y.val := by
  have hb := mul_bound hx hy
  have e1 : (mulL x y).val = x.val * y.val % M := Nm.of_val (Int.emod_nonneg _ (by decide)) (Int.emod_lt_of_pos _ M_pos)
  have e2 : (mulH x y).val = x.val * y.val / M := Nm.of_val (Int.ediv_nonneg hb.1 (by decide)) hb.2
  rw [e1, e2]
  exact Int.emod_add_mul_ediv _ _
end Go.Proofs.YtfanndkhajokcaaDoor

/- limb.Mul, told by what numbers of eight words stand for. -/
namespace Go.Proofs.YtfanndkhajokcaaDoor
open Go.RowKit

/-- What a number stands for, as a natural number. -/
def Nm.nat (x : Nm) : Nat := x.val.toNat
theorem Nm.nat_cast {x : Nm} (h : x.ok) : ((x.nat : Nat) : Int) = x.val := Int.toNat_of_nonneg (Nm.val_nonneg h)
theorem Nm.nat_lt {x : Nm} (h : x.ok) : x.nat < 2 ^ 256 := by
  have := Nm.val_lt h
  rw [← Nm.nat_cast h, M_cast] at this
  exact Int.ofNat_lt.1 this
theorem Nm.ext_nat {x y : Nm} (hx : x.ok) (hy : y.ok) (h : x.nat = y.nat) : x = y := Nm.ext_val hx hy (by rw [← Nm.nat_cast hx, ← Nm.nat_cast hy, h])
theorem Nm.of_nat {n : Nat} (h : n < 2 ^ 256) : (Nm.of ((n : Nat) : Int)).nat = n := by
  unfold Nm.nat
  rw [Nm.of_val (Int.natCast_nonneg _) (by rw [M_cast]; exact Int.ofNat_lt.2 h)]
  rfl
theorem Nm.eq_of_nat {x : Nm} (h : x.ok) : x = Nm.of ((x.nat : Nat) : Int) := Nm.eq_of h (Nm.nat_cast h).symm
theorem V_nat {l h : Nm} (ol : l.ok) (oh : h.ok) : V l h = l.nat + 2 ^ 256 * h.nat := by
  have e := V_cast ol oh
  rw [← Nm.nat_cast ol, ← Nm.nat_cast oh, M_cast] at e
  omega
theorem V_wide (x : Nm) : V x ⟨0, 0, 0, 0⟩ = x.nat := V_zero x
theorem pow512' : (2 : Nat) ^ 512 = 2 ^ 256 * 2 ^ 256 := pow_twice 512 256 rfl
theorem WH_small {n : Nat} (h : n < 2 ^ 256) : WH n = ⟨0, 0, 0, 0⟩ := by
  unfold WH
  rw [Int.ediv_eq_zero_of_lt (Int.natCast_nonneg _) (by rw [M_cast]; exact Int.ofNat_lt.2 h)]
  rfl
theorem WL_small {n : Nat} (h : n < 2 ^ 256) : WL n = Nm.of ((n : Nat) : Int) := by
  unfold WL
  rw [Int.emod_eq_of_lt (Int.natCast_nonneg _) (by rw [M_cast]; exact Int.ofNat_lt.2 h)]
theorem mul_lt512 {x y : Nm} (ox : x.ok) (oy : y.ok) : x.nat * y.nat < 2 ^ 512 := by
  rw [pow512']
  exact Nat.mul_lt_mul'' (Nm.nat_lt ox) (Nm.nat_lt oy)
end Go.Proofs.YtfanndkhajokcaaDoor
