/- The contract of sealringref.PadText. -/
import Derived.Test.YtmpniingbioggabDoorHPad
import Derived.Test.YtmpniingbioggabDoorSGet
namespace Go.Proofs.YtmpniingbioggabDoor
open Go.RowKit
set_option linter.unusedSimpArgs false
attribute [local go_sem] ByteArray.size_append
/-- 128 and j bytes 0. -/
def headP (j : Nat) : List Nat := 128 :: List.replicate j 0
/-- The last k bytes of eight, the greatest first. -/
def tailP (X : Nat) : Nat → List Nat
  | 0 => []
  | k + 1 => X / 256 ^ k % 256 :: tailP X k
theorem headP_snoc (j : Nat) : headP j ++ [0] = headP (j + 1) := by
  simp [headP, List.replicate_succ']
theorem headP_length (j : Nat) : (headP j).length = j + 1 := by simp [headP]
theorem tailP_length (X : Nat) : ∀ k, (tailP X k).length = k
  | 0 => rfl
  | k + 1 => by rw [tailP, List.length_cons, tailP_length X k]
theorem tailP_get (X : Nat) : ∀ k j, j < k → (tailP X k)[j]? = some (X / 256 ^ (k - 1 - j) % 256)
  | 0, _, h => absurd h (Nat.not_lt_zero _)
  | k + 1, 0, _ => by simp [tailP]
  | k + 1, j + 1, h => by
    rw [tailP, List.getElem?_cons_succ, tailP_get X k j (by omega), show k + 1 - 1 - (j + 1) = k - 1 - j by omega]
theorem pad_parts (n : Nat) : headP (padZ n) ++ tailP (8 * n % 18446744073709551616) 8 = padS n := by
  unfold padS
  generalize 8 * n % 18446744073709551616 = X at *
  generalize padZ n = z at *
  apply List.ext_getElem?
  intro j
  rcases Nat.lt_or_ge j (z + 9) with h | h
  · have g : (padF X z 8)[j]? = some (if j = 0 then 128 else if z + 9 ≤ j + 8 then X / 256 ^ (z + 8 - j) % 256 else 0) := by simp [padF, h]
    rw [g]
    rcases Nat.lt_or_ge j (z + 1) with h1 | h1
    · rw [List.getElem?_append_left (by rw [headP_length]; exact h1)]
      cases j with
      | zero => rfl
      | succ j =>
        rw [if_neg (by omega), if_neg (by omega)]
        simp only [headP, List.getElem?_cons_succ, List.getElem?_replicate]
        rw [if_pos (by omega)]
    · rw [List.getElem?_append_right (by rw [headP_length]; exact h1), headP_length, tailP_get X 8 _ (by omega), if_neg (by omega), if_pos (by omega), show 8 - 1 - (j - (z + 1)) = z + 8 - j by omega]
  · rw [List.getElem?_eq_none (by rw [List.length_append, headP_length, tailP_length]; omega), List.getElem?_eq_none (by rw [padF_length]; omega)]
def strL : Value → Nat
  | .string b => b.size
  | _ => 0
theorem str_one (x : Nat) : sOf [x] = ⟨#[UInt8.ofNat x]⟩ := rfl
theorem head_on (j : Nat) : sOf (headP j) ++ (⟨#[0]⟩ : ByteArray) = sOf (headP (j + 1)) := by
  rw [show (⟨#[0]⟩ : ByteArray) = sOf [0] from rfl, sOf_append, headP_snoc]
end Go.Proofs.YtmpniingbioggabDoor
