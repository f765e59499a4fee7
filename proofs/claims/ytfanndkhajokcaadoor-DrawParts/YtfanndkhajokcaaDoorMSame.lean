/- The contract of mac.Same: true just where both are the same bytes. -/
import Derived.Test.YtfanndkhajokcaaDoorBs
namespace Go.Proofs.YtfanndkhajokcaaDoor
open Go.RowKit
set_option linter.unusedSimpArgs false
theorem wrap8 (n : Nat) (h : n < 256) : IntKind.u8.wrap (n : Int) = n := by
  simp only [IntKind.wrap, IntKind.bits, IntKind.signed]
  simp
  omega
theorem of8 (x : Nat) (h : x < 256) : (BitVec.ofInt 8 (x : Int)).toNat = x := by
  rw [BitVec.toNat_ofInt]
  omega
theorem xor_lt {x y : Nat} (hx : x < 256) (hy : y < 256) : x ^^^ y < 256 := Nat.xor_lt_two_pow (n := 8) hx hy
theorem or_lt {x y : Nat} (hx : x < 256) (hy : y < 256) : x ||| y < 256 := Nat.or_lt_two_pow (n := 8) hx hy
theorem b_xor {x y : Nat} (hx : x < 256) (hy : y < 256) : bits .xor .u8 (x : Int) (y : Int) = ((x ^^^ y : Nat) : Int) := by
  show IntKind.u8.wrap (((BitVec.ofInt 8 (x : Int) ^^^ BitVec.ofInt 8 (y : Int)).toNat : Nat) : Int) = _
  rw [BitVec.toNat_xor, of8 _ hx, of8 _ hy]
  exact wrap8 _ (xor_lt hx hy)
theorem b_or {x y : Nat} (hx : x < 256) (hy : y < 256) : bits .or .u8 (x : Int) (y : Int) = ((x ||| y : Nat) : Int) := by
  show IntKind.u8.wrap (((BitVec.ofInt 8 (x : Int) ||| BitVec.ofInt 8 (y : Int)).toNat : Nat) : Int) = _
  rw [BitVec.toNat_or, of8 _ hx, of8 _ hy]
  exact wrap8 _ (or_lt hx hy)
/-- Where the first k bytes of both part. -/
def apS (xs ys : List Nat) : Nat → Nat
  | 0 => 0
  | k + 1 => apS xs ys k ||| (xs.getD k 0 ^^^ ys.getD k 0)
theorem getD_low {xs : List Nat} (h : ∀ x ∈ xs, x < 256) (k : Nat) : xs.getD k 0 < 256 := by
  rw [List.getD_eq_getElem?_getD]
  cases e : xs[k]? with
  | none => simp
  | some x => exact h x (List.mem_of_getElem? e)
theorem apS_lt {xs ys : List Nat} (hx : ∀ x ∈ xs, x < 256) (hy : ∀ x ∈ ys, x < 256) : ∀ k, apS xs ys k < 256
  | 0 => by simp [apS]
  | k + 1 => or_lt (apS_lt hx hy k) (xor_lt (getD_low hx k) (getD_low hy k))
theorem xor_zero {x y : Nat} : x ^^^ y = 0 ↔ x = y := by
  constructor
  · intro h
    apply Nat.eq_of_testBit_eq
    intro i
    have := congrArg (·.testBit i) h
    simpa using this
  · rintro rfl; simp
theorem or_zero {x y : Nat} : x ||| y = 0 ↔ x = 0 ∧ y = 0 := by
  constructor
  · intro h
    have hb : ∀ i, (x ||| y).testBit i = false := fun i => by rw [h]; simp
    constructor <;>
    · apply Nat.eq_of_testBit_eq
      intro i
      have := hb i
      simp at this
      simp [this]
  · rintro ⟨rfl, rfl⟩; simp
theorem apS_zero (xs ys : List Nat) : ∀ k, apS xs ys k = 0 ↔ ∀ j, j < k → xs.getD j 0 = ys.getD j 0
  | 0 => by simp [apS]
  | k + 1 => by
    rw [apS, or_zero, apS_zero xs ys k, xor_zero]
    constructor
    · rintro ⟨h1, h2⟩ j hj
      rcases Nat.lt_or_ge j k with h | h
      · exact h1 j h
      · rw [show j = k by omega]; exact h2
    · exact fun h => ⟨fun j hj => h j (by omega), h k (by omega)⟩
theorem ext_getD {xs ys : List Nat} (hl : xs.length = ys.length) (h : ∀ j, j < xs.length → xs.getD j 0 = ys.getD j 0) : xs = ys := by
  apply List.ext_getElem hl
  intro j h1 h2
  have := h j h1
  simpa [List.getD_eq_getElem?_getD, h1, h2] using this
theorem apS_all (xs ys : List Nat) (hl : xs.length = ys.length) (m : Nat) (hm : m = xs.length) : apS xs ys m = 0 ↔ xs = ys := by
  subst hm
  rw [apS_zero]
  exact ⟨ext_getD hl, fun h j _ => by rw [h]⟩
theorem same_end (xs ys : List Nat) (m : Nat) (h3 : m = xs.length ∨ m = ys.length) : (decide (apS xs ys m = 0) && decide (xs.length = ys.length)) = decide (xs = ys) := by
  by_cases hl : xs.length = ys.length
  · rw [decide_eq_true hl, Bool.and_true]
    exact decide_eq_decide.2 (apS_all xs ys hl m (by omega))
  · rw [decide_eq_false hl, Bool.and_false, decide_eq_false (fun h => hl (by rw [h]))]
theorem int_beq (n k : Nat) : ((n : Int) == (k : Int)) = decide (n = k) := by
  by_cases h : n = k
  · subst h; simp
  · rw [decide_eq_false h]; simp; omega
end Go.Proofs.YtfanndkhajokcaaDoor
