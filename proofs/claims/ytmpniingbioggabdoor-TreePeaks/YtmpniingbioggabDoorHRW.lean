/- The contracts of sealringref.turn, choose and most; the same words by other roads. -/
import Derived.Test.YtmpniingbioggabDoorHMath
namespace Go.Proofs.YtmpniingbioggabDoor
open Go.RowKit
set_option linter.unusedSimpArgs false
theorem u_ror' (x : BitVec 32) (n m : Nat) (h : m = 32 - n) : bits .or .u32 (U x / ((2 ^ n : Nat) : Int)) (IntKind.u32.wrap (U x * ((2 ^ m : Nat) : Int))) = U (wror x n) := by
  rw [u_shl, u_shr, u_or, h]
  unfold wor wror wshr
  rw [BitVec.or_comm]
theorem ch_eq (x y z : BitVec 32) : wxor z (wand x (wxor y z)) = Ch x y z := by
  unfold Ch wxor wand wnot
  apply BitVec.eq_of_getLsbD_eq
  intro i hi
  simp only [BitVec.getLsbD_xor, BitVec.getLsbD_and, BitVec.getLsbD_not, hi, decide_true, Bool.true_and]
  cases x.getLsbD i <;> cases y.getLsbD i <;> cases z.getLsbD i <;> rfl
theorem mj_eq (x y z : BitVec 32) : wor (wand x y) (wand z (wor x y)) = Mj x y z := by
  unfold Mj wxor wand wor
  apply BitVec.eq_of_getLsbD_eq
  intro i _
  simp only [BitVec.getLsbD_xor, BitVec.getLsbD_and, BitVec.getLsbD_or]
  cases x.getLsbD i <;> cases y.getLsbD i <;> cases z.getLsbD i <;> rfl
theorem next_eq (a b c d : BitVec 32) : wadd (wadd (wadd a b) c) d = wadd (wadd (wadd a c) b) d := by
  unfold wadd
  rw [BitVec.add_assoc a b c, BitVec.add_comm b c, ← BitVec.add_assoc]
end Go.Proofs.YtmpniingbioggabDoor
