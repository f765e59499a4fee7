/- The contract of sealringref.Column: a column times a row of numbers. -/
import Derived.Test.YtmfbdacalenfdabRBox
import Derived.Test.YtmfbdacalenfdabUpS
namespace Go.Proofs.Ytmfbdacalenfdab
open Go.RowKit
set_option linter.unusedSimpArgs false
attribute [local go_sem] YieldsP execOp
attribute [local simp] MP.eq_p
namespace G
/-- One byte of a column, by the first so many of the row. -/
def colN (c r : List Nat) (i : Nat) : Nat → Nat
  | 0 => 0
  | k + 1 => colN c r i k ^^^ mul (r.getD k 0) (c.getD ((i + k) % 4) 0)
def colL (c r : List Nat) : List Nat := (List.range 4).map fun i => colN c r i 4
theorem colN_lt {c r : List Nat} (hr : ∀ k, r.getD k 0 < 256) (i : Nat) : ∀ k, colN c r i k < 256
  | 0 => by rw [colN]; decide
  | k + 1 => by rw [colN]; exact xor_lt (colN_lt hr i k) (mul_lt _ (hr k))
theorem col_mix {a b c d : Nat} (hc : c < 256) (hd : d < 256) : colN [a, b, c, d] [2, 3, 1, 1] 0 4 = m2 a b c d := by
  show (((0 ^^^ mul 2 a) ^^^ mul 3 b) ^^^ mul 1 c) ^^^ mul 1 d = _
  rw [one_mul hc, one_mul hd, Nat.zero_xor]
  rfl
theorem colL_turn (a b c d : Nat) (r : List Nat) : colL [a, b, c, d] r = [colN [a, b, c, d] r 0 4, colN [b, c, d, a] r 0 4, colN [c, d, a, b] r 0 4, colN [d, a, b, c] r 0 4] := rfl
theorem colL_mix {a b c d : Nat} (ha : a < 256) (hb : b < 256) (hc : c < 256) (hd : d < 256) : colL [a, b, c, d] [2, 3, 1, 1] = [m2 a b c d, m2 b c d a, m2 c d a b, m2 d a b c] := by
  rw [colL_turn, col_mix hc hd, col_mix hd ha, col_mix ha hb, col_mix hb hc]
theorem col_unmix (a b c d : Nat) : colN [a, b, c, d] [14, 11, 13, 9] 0 4 = u2 a b c d := by
  show (((0 ^^^ mul 14 a) ^^^ mul 11 b) ^^^ mul 13 c) ^^^ mul 9 d = _
  rw [Nat.zero_xor]
  rfl
theorem colL_unmix (a b c d : Nat) : colL [a, b, c, d] [14, 11, 13, 9] = [u2 a b c d, u2 b c d a, u2 c d a b, u2 d a b c] := by
  rw [colL_turn, col_unmix, col_unmix, col_unmix, col_unmix]
end G
theorem u_a4 : Try.prog.underlying 24 = some (.array 4 5) := by kernel_rfl
theorem info_a4 : (Try.prog.info? 24).map (·.size) = some 4 := by kernel_rfl
theorem upL_set0 (f : Nat → Nat) (n j : Nat) (h : j < n) : (upL f n j).set j 0 = upL f n j := by
  unfold upL
  rw [List.set_append_right _ _ (by simp), List.length_map, List.length_range, Nat.sub_self, show n - j = n - (j + 1) + 1 by omega, List.replicate_succ, List.set_cons_zero]
theorem getD_low {l : List Nat} (h : ∀ x ∈ l, x < 256) (i : Nat) : l.getD i 0 < 256 := by
  rw [List.getD_eq_getElem?_getD]
  cases e : l[i]? with
  | none => simp
  | some x => exact h x (List.mem_of_getElem? e)
end Go.Proofs.Ytmfbdacalenfdab
