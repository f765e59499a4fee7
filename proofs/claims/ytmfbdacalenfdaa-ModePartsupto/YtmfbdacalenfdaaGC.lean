/- What is asked of package gf: its calls' contracts as one premise; bytes put for bytes, columns that are mixed, as functions of numbers. -/
import Derived.Test.YtmfbdacalenfdaaGMath
import Derived.Test.YtmfbdacalenfdaaBK
namespace Go.Proofs.Ytmfbdacalenfdaa
open Go.RowKit
set_option linter.unusedSimpArgs false
theorem g_xor {x y : Nat} (hx : x < 256) (hy : y < 256) : bits .xor .u8 (x : Int) (y : Int) = ((x ^^^ y : Nat) : Int) := by
  have o8 : ∀ x : Nat, x < 256 → (BitVec.ofInt 8 (x : Int)).toNat = x := fun x h => by rw [BitVec.toNat_ofInt]; omega
  have h1 := G.xor_lt hx hy
  show IntKind.u8.wrap (((BitVec.ofInt 8 (x : Int) ^^^ BitVec.ofInt 8 (y : Int)).toNat : Nat) : Int) = _
  rw [BitVec.toNat_xor, o8 _ hx, o8 _ hy, IntKind.wrap_u8]
  omega
theorem g_not_table : ∀ a < 256, 255 ^^^ a = 255 - a := by decide +kernel
theorem g_not {a : Nat} (h : a < 256) : bits .xor .u8 IntKind.u8.max (a : Int) = ((255 - a : Nat) : Int) := by
  rw [← g_not_table a h]
  exact g_xor (by decide) h
namespace G
/-- The powers of a that make 254, in steps. -/
theorem inv_chain (a : Nat) (ha : a < 256) : inv a = sq (mul (sq (mul (sq (mul (sq (mul (sq (mul (sq (mul (sq a) a)) a)) a)) a)) a)) a) := by
  have d : ∀ m, pow a (2 * m + 1) = mul (sq (pow a m)) a := fun m => by rw [Nat.two_mul, pow, pow_add ha]; rfl
  have d2 : ∀ m, pow a (2 * m) = sq (pow a m) := fun m => by rw [Nat.two_mul, pow_add ha]; rfl
  have e1 : pow a 1 = a := one_mul ha
  unfold inv
  rw [show 254 = 2 * (2 * (2 * (2 * (2 * (2 * (2 * 1 + 1) + 1) + 1) + 1) + 1) + 1) from rfl, d2, d, d, d, d, d, d, e1]
def chain (a : Nat) : Nat := sq (mul (sq (mul (sq (mul (sq (mul (sq (mul (sq (mul (sq a) a)) a)) a)) a)) a)) a)
/-- Turned round to the left. -/
def rot (b k : Nat) : Nat := b * 2 ^ k % 256 ^^^ b / 2 ^ (8 - k)
def aff (b : Nat) : Nat := b ^^^ rot b 1 ^^^ rot b 2 ^^^ rot b 3 ^^^ rot b 4 ^^^ 99
def unaff (b : Nat) : Nat := rot b 1 ^^^ rot b 3 ^^^ rot b 6 ^^^ 5
def sub (a : Nat) : Nat := aff (inv a)
def unsub (a : Nat) : Nat := inv (unaff a)
theorem rot_lt {b : Nat} (h : b < 256) (k : Nat) (_ : k ≤ 8) : rot b k < 256 := xor_lt (Nat.mod_lt _ (by decide)) (Nat.lt_of_le_of_lt (Nat.div_le_self _ _) h)
theorem aff_lt {b : Nat} (h : b < 256) : aff b < 256 := xor_lt (xor_lt (xor_lt (xor_lt (xor_lt h (rot_lt h 1 (by decide))) (rot_lt h 2 (by decide))) (rot_lt h 3 (by decide))) (rot_lt h 4 (by decide))) (by decide)
theorem unaff_lt {b : Nat} (h : b < 256) : unaff b < 256 := xor_lt (xor_lt (xor_lt (rot_lt h 1 (by decide)) (rot_lt h 3 (by decide))) (rot_lt h 6 (by decide))) (by decide)
theorem sub_lt (a : Nat) : sub a < 256 := aff_lt (inv_lt a)
theorem unsub_lt (a : Nat) : unsub a < 256 := inv_lt _
theorem unaff_aff : ∀ a < 256, unaff (aff a) = a := by decide +kernel
theorem aff_unaff : ∀ a < 256, aff (unaff a) = a := by decide +kernel
theorem unsub_sub {a : Nat} (h : a < 256) : unsub (sub a) = a := by
  unfold unsub sub
  rw [unaff_aff _ (inv_lt a), inv_inv h]
theorem sub_unsub {a : Nat} (h : a < 256) : sub (unsub a) = a := by
  unfold unsub sub
  rw [inv_inv (unaff_lt h), aff_unaff a h]
theorem sub_chain {a : Nat} (h : a < 256) : sub a = aff (chain a) := by unfold sub; rw [inv_chain a h]; rfl
theorem sub_ne_table : ∀ a < 256, aff (chain a) ≠ a ∧ aff (chain a) ≠ 255 - a := by decide +kernel
theorem sub_ne {a : Nat} (h : a < 256) : sub a ≠ a ∧ sub a ≠ 255 - a := by
  rw [sub_chain h]
  exact sub_ne_table a h
theorem sub_inj {a b : Nat} (ha : a < 256) (hb : b < 256) : sub a = sub b ↔ a = b := ⟨fun h => by rw [← unsub_sub ha, h, unsub_sub hb], fun h => by rw [h]⟩
theorem frob {a b : Nat} (ha : a < 256) (hb : b < 256) : pow (a ^^^ b) 2 = pow a 2 ^^^ pow b 2 := by
  have e : ∀ x, x < 256 → pow x 2 = mul x x := fun x hx => by rw [show 2 = 1 + 1 from rfl, pow_add hx, show pow x 1 = x from one_mul hx]
  rw [e _ (xor_lt ha hb), e a ha, e b hb]
  exact square_xor ha hb
theorem pow256 {a : Nat} (h : a < 256) : pow a 256 = a := by
  by_cases h0 : a = 0
  · subst h0; exact pow_zero_pos (by decide)
  · rw [pow_mod h h0, show 256 % 255 = 1 from rfl]
    exact one_mul h
theorem pow_ne {a : Nat} (h : a < 256) (h0 : a ≠ 0) : ∀ n, pow a n ≠ 0
  | 0 => by rw [pow]; decide
  | n + 1 => fun e => (no_zero (pow_lt256 n) h e).elim (pow_ne h h0 n) h0
/-- One byte of a column that is mixed. -/
def m2 (a b c d : Nat) : Nat := mul 2 a ^^^ mul 3 b ^^^ c ^^^ d
def u2 (a b c d : Nat) : Nat := mul 14 a ^^^ mul 11 b ^^^ mul 13 c ^^^ mul 9 d
theorem m2_lt {a b c d : Nat} (hc : c < 256) (hd : d < 256) : m2 a b c d < 256 := xor_lt (xor_lt (xor_lt (mul_lt _ (by decide)) (mul_lt _ (by decide))) hc) hd
theorem u2_lt {a b c d : Nat} : u2 a b c d < 256 := xor_lt (xor_lt (xor_lt (mul_lt _ (by decide)) (mul_lt _ (by decide))) (mul_lt _ (by decide))) (mul_lt _ (by decide))
end G
/-- A column as a value. -/
abbrev q4 (a b c d : Nat) : Value := .agg #[b8 a, b8 b, b8 c, b8 d]
/-- What package gf must keep; Tb: what is known of its tables, if it has some. -/
structure GfC (Tb : World → Prop) : Prop where
  up : ∀ {W w1 : World}, Tb W → Below W.heap.size W w1 → Tb w1
  mul : ∀ (a b : Nat), a < 256 → b < 256 → ∀ w, Tb w → Calls Try.prog 65 #[b8 a, b8 b] w fun e w' => e = .returned (b8 (G.mul a b)) ∧ Below w.heap.size w w'
  pow : ∀ (a n : Nat), a < 256 → n < 18446744073709551616 → ∀ w, Tb w → Calls Try.prog 51 #[b8 a, .int .u64 (n : Int)] w fun e w' => e = .returned (b8 (G.pow a n)) ∧ Below w.heap.size w w'
  inv : ∀ (a : Nat), a < 256 → ∀ w, Tb w → Calls Try.prog 62 #[b8 a] w fun e w' => e = .returned (b8 (G.inv a)) ∧ Below w.heap.size w w'
  sub : ∀ (a : Nat), a < 256 → ∀ w, Tb w → Calls Try.prog 47 #[b8 a] w fun e w' => e = .returned (b8 (G.sub a)) ∧ Below w.heap.size w w'
  unsub : ∀ (a : Nat), a < 256 → ∀ w, Tb w → Calls Try.prog 61 #[b8 a] w fun e w' => e = .returned (b8 (G.unsub a)) ∧ Below w.heap.size w w'
  mix : ∀ (a b c d : Nat), a < 256 → b < 256 → c < 256 → d < 256 → ∀ w, Tb w → Calls Try.prog 49 #[q4 a b c d] w fun e w' => e = .returned (q4 (G.m2 a b c d) (G.m2 b c d a) (G.m2 c d a b) (G.m2 d a b c)) ∧ Below w.heap.size w w'
  unmix : ∀ (a b c d : Nat), a < 256 → b < 256 → c < 256 → d < 256 → ∀ w, Tb w → Calls Try.prog 60 #[q4 a b c d] w fun e w' => e = .returned (q4 (G.u2 a b c d) (G.u2 b c d a) (G.u2 c d a b) (G.u2 d a b c)) ∧ Below w.heap.size w w'
theorem GfC.all {Tb : World → Prop} (C : GfC Tb) {w : World} (h : Tb w) : ∀ W, Below w.heap.size w W → Tb W := fun _ hb => C.up h hb
end Go.Proofs.Ytmfbdacalenfdaa
