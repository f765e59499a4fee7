/- Texts that were joined: RGf, RGfI. -/
import Derived.Test.YtmfbdacalenfdabGC
/- The contract of sealringref.Gf: the product of polynomials, worked out in two steps. -/
namespace Go.Proofs.Ytmfbdacalenfdab
open Go.RowKit
set_option linter.unusedSimpArgs false
namespace G
/-- The product without a rest taken: the first k bits of b. -/
def clF : Nat → Nat → Nat → Nat
  | 0, _, _ => 0
  | k + 1, a, b => if b / 2 ^ k % 2 = 1 then clF k a b ^^^ a * 2 ^ k else clF k a b
def redS (i x : Nat) : Nat := if x / 2 ^ i % 2 = 1 then x ^^^ 283 * 2 ^ (i - 8) else x
/-- k steps, from 14 on. -/
def redF : Nat → Nat → Nat
  | 0, x => x
  | k + 1, x => redS (14 - k) (redF k x)
theorem bit_iff (x i : Nat) : x / 2 ^ i % 2 = 1 ↔ x.testBit i = true := by
  rw [Nat.testBit_eq_decide_div_mod_eq, decide_eq_true_iff]
/-- What is put to it where a bit is set goes with xor. -/
theorem lin_if (x y i p : Nat) : (if (x ^^^ y) / 2 ^ i % 2 = 1 then p else 0) = (if x / 2 ^ i % 2 = 1 then p else 0) ^^^ (if y / 2 ^ i % 2 = 1 then p else 0) := by
  simp only [bit_iff, Nat.testBit_xor]
  cases x.testBit i <;> cases y.testBit i <;> simp
theorem redS_eq (i x : Nat) : redS i x = x ^^^ (if x / 2 ^ i % 2 = 1 then 283 * 2 ^ (i - 8) else 0) := by
  unfold redS
  split <;> simp
theorem redS_xor (i x y : Nat) : redS i (x ^^^ y) = redS i x ^^^ redS i y := by
  rw [redS_eq, redS_eq, redS_eq, lin_if, xor4]
theorem redF_xor : ∀ k x y, redF k (x ^^^ y) = redF k x ^^^ redF k y
  | 0, _, _ => rfl
  | k + 1, x, y => by rw [redF, redF, redF, redF_xor k, redS_xor]
theorem clF_eq (k a b : Nat) : clF (k + 1) a b = clF k a b ^^^ (if b / 2 ^ k % 2 = 1 then a * 2 ^ k else 0) := by
  rw [clF]
  split <;> simp
theorem clF_xor (a : Nat) : ∀ k b c, clF k a (b ^^^ c) = clF k a b ^^^ clF k a c
  | 0, _, _ => by simp [clF]
  | k + 1, b, c => by rw [clF_eq, clF_eq, clF_eq, clF_xor a k, lin_if, xor4]
theorem gf_bits : ∀ a < 256, ∀ i < 8, redF 7 (clF 8 a (2 ^ i)) % 256 = mul a (2 ^ i) := by decide +kernel
theorem gf_eq {a b : Nat} (ha : a < 256) (hb : b < 256) : redF 7 (clF 8 a b) % 256 = mul a b := by
  refine lin_ext (F := fun b => redF 7 (clF 8 a b) % 256) (H := fun b => mul a b) (fun x y _ _ => ?_) (fun x y _ _ => mul_right a x y) (fun i hi => gf_bits a ha i hi) b hb
  show redF 7 (clF 8 a (x ^^^ y)) % 256 = _
  rw [clF_xor, redF_xor]
  exact Nat.xor_mod_two_pow (n := 8)
theorem clF_lt {a b : Nat} (ha : a < 256) : ∀ k, k ≤ 8 → clF k a b < 2 ^ 16
  | 0, _ => by rw [clF]; decide
  | k + 1, hk => by
    have ih := clF_lt (b := b) ha k (by omega)
    have h2 : a * 2 ^ k < 2 ^ 16 := by
      have : 2 ^ k ≤ 2 ^ 8 := Nat.pow_le_pow_right (by decide) (by omega)
      calc a * 2 ^ k ≤ a * 2 ^ 8 := Nat.mul_le_mul_left _ this
        _ < 256 * 2 ^ 8 := Nat.mul_lt_mul_of_pos_right ha (by decide)
        _ = 2 ^ 16 := by decide
    rw [clF]
    split
    · exact Nat.xor_lt_two_pow ih h2
    · exact ih
theorem redF_lt {x : Nat} (hx : x < 2 ^ 16) : ∀ k, k ≤ 7 → redF k x < 2 ^ 16
  | 0, _ => hx
  | k + 1, hk => by
    have ih := redF_lt hx k (by omega)
    have h2 : 283 * 2 ^ (14 - k - 8) < 2 ^ 16 := by
      have : 2 ^ (14 - k - 8) ≤ 2 ^ 6 := Nat.pow_le_pow_right (by decide) (by omega)
      omega
    rw [redF, redS]
    split
    · exact Nat.xor_lt_two_pow ih h2
    · exact ih
end G
theorem g_and1 (n : Nat) : bits .and .u8 (n : Int) 1 = ((n % 2 : Nat) : Int) := by
  show IntKind.u8.wrap (((BitVec.ofInt 8 (n : Int) &&& BitVec.ofInt 8 1).toNat : Nat) : Int) = _
  rw [BitVec.toNat_and, BitVec.toNat_ofInt, BitVec.toNat_ofInt]
  have e : ((1 : Int) % ((2 ^ 8 : Nat) : Int)).toNat = 1 := by decide
  rw [e, Nat.and_one_is_mod, IntKind.wrap_u8]
  omega
theorem g64_and1 (n : Nat) : bits .and .i64 (n : Int) 1 = ((n % 2 : Nat) : Int) := by
  show IntKind.i64.wrap (((BitVec.ofInt 64 (n : Int) &&& BitVec.ofInt 64 1).toNat : Nat) : Int) = _
  rw [BitVec.toNat_and, BitVec.toNat_ofInt, BitVec.toNat_ofInt]
  have e : ((1 : Int) % ((2 ^ 64 : Nat) : Int)).toNat = 1 := by decide
  rw [e, Nat.and_one_is_mod, IntKind.wrap_i64]
  omega
theorem g64_xor {x y : Nat} (hx : x < 2 ^ 16) (hy : y < 2 ^ 16) : bits .xor .i64 (x : Int) (y : Int) = ((x ^^^ y : Nat) : Int) := by
  have o64 : ∀ x : Nat, x < 2 ^ 16 → (BitVec.ofInt 64 (x : Int)).toNat = x := fun x h => by rw [BitVec.toNat_ofInt]; omega
  have h1 := Nat.xor_lt_two_pow hx hy
  show IntKind.i64.wrap (((BitVec.ofInt 64 (x : Int) ^^^ BitVec.ofInt 64 (y : Int)).toNat : Nat) : Int) = _
  rw [BitVec.toNat_xor, o64 _ hx, o64 _ hy, IntKind.wrap_i64]
  omega
end Go.Proofs.Ytmfbdacalenfdab

/- The contracts of sealringref.GfInv and GfPow. -/
namespace Go.Proofs.Ytmfbdacalenfdab
open Go.RowKit
set_option linter.unusedSimpArgs false
end Go.Proofs.Ytmfbdacalenfdab
