/- The contracts of sealringref.turn, choose and most; the same words by other roads. -/
import Derived.Test.YtdcpicbkemmakaaDoorQHWToHMath
namespace Go.Proofs.YtdcpicbkemmakaaDoor
open Go.RowKit
set_option linter.unusedSimpArgs false
theorem u_ror' (x : BitVec 32) (n m : Nat) (h : m = 32 - n) : bits .or .u32 (U x / ((2 ^ n : Nat) : Int)) (IntKind.u32.wrap (U x * ((2 ^ m : Nat) : Int))) = U (wror x n) := by
  rw [u_shl, u_shr, u_or, h]
  unfold wor wror wshr
  rw [BitVec.or_comm]
theorem ch_eq (x y z : BitVec 32) : wxor z (wand x (wxor y z)) = Ch x y z := by
  unfold Ch wxor wand wnot
  apply BitVec.eq_of_getLsbD_eq
  intro i hi
  simp only [BitVec.getLsbD_xor, BitVec.getLsbD_and, BitVec.getLsbD_not, hi, decide_true, Bool.true_and]
  cases x.getLsbD i <;> cases y.getLsbD i <;> cases z.getLsbD i <;> rfl
theorem mj_eq (x y z : BitVec 32) : wor (wand x y) (wand z (wor x y)) = Mj x y z := by
  unfold Mj wxor wand wor
  apply BitVec.eq_of_getLsbD_eq
  intro i _
  simp only [BitVec.getLsbD_xor, BitVec.getLsbD_and, BitVec.getLsbD_or]
  cases x.getLsbD i <;> cases y.getLsbD i <;> cases z.getLsbD i <;> rfl
theorem next_eq (a b c d : BitVec 32) : wadd (wadd (wadd a b) c) d = wadd (wadd (wadd a c) b) d := by
  unfold wadd
  rw [BitVec.add_assoc a b c, BitVec.add_comm b c, ← BitVec.add_assoc]
set_option maxHeartbeats 1000000 in
theorem turn_2 (x : BitVec 32) (w : World) :
    Calls Tryd.prog 96 #[uw x, .int .u64 2] w fun e w' => e = .returned (uw (wror x 2)) ∧ w' = w := by
  have e := u_ror' x 2 30 rfl
  simp only [Nat.reducePow, Int.cast_ofNat_Int] at e
  go_enter Tryd.func96, Tryd.ntmps96
  go_wp2_with fail
  go_ret
  exact ⟨congrArg Ending.returned (congrArg (Value.int IntKind.u32) e), rfl⟩
set_option maxHeartbeats 1000000 in
theorem turn_6 (x : BitVec 32) (w : World) :
    Calls Tryd.prog 96 #[uw x, .int .u64 6] w fun e w' => e = .returned (uw (wror x 6)) ∧ w' = w := by
  have e := u_ror' x 6 26 rfl
  simp only [Nat.reducePow, Int.cast_ofNat_Int] at e
  go_enter Tryd.func96, Tryd.ntmps96
  go_wp2_with fail
  go_ret
  exact ⟨congrArg Ending.returned (congrArg (Value.int IntKind.u32) e), rfl⟩
set_option maxHeartbeats 1000000 in
theorem turn_7 (x : BitVec 32) (w : World) :
    Calls Tryd.prog 96 #[uw x, .int .u64 7] w fun e w' => e = .returned (uw (wror x 7)) ∧ w' = w := by
  have e := u_ror' x 7 25 rfl
  simp only [Nat.reducePow, Int.cast_ofNat_Int] at e
  go_enter Tryd.func96, Tryd.ntmps96
  go_wp2_with fail
  go_ret
  exact ⟨congrArg Ending.returned (congrArg (Value.int IntKind.u32) e), rfl⟩
set_option maxHeartbeats 1000000 in
theorem turn_11 (x : BitVec 32) (w : World) :
    Calls Tryd.prog 96 #[uw x, .int .u64 11] w fun e w' => e = .returned (uw (wror x 11)) ∧ w' = w := by
  have e := u_ror' x 11 21 rfl
  simp only [Nat.reducePow, Int.cast_ofNat_Int] at e
  go_enter Tryd.func96, Tryd.ntmps96
  go_wp2_with fail
  go_ret
  exact ⟨congrArg Ending.returned (congrArg (Value.int IntKind.u32) e), rfl⟩
set_option maxHeartbeats 1000000 in
theorem turn_13 (x : BitVec 32) (w : World) :
    Calls Tryd.prog 96 #[uw x, .int .u64 13] w fun e w' => e = .returned (uw (wror x 13)) ∧ w' = w := by
  have e := u_ror' x 13 19 rfl
  simp only [Nat.reducePow, Int.cast_ofNat_Int] at e
  go_enter Tryd.func96, Tryd.ntmps96
  go_wp2_with fail
  go_ret
  exact ⟨congrArg Ending.returned (congrArg (Value.int IntKind.u32) e), rfl⟩
set_option maxHeartbeats 1000000 in
theorem turn_17 (x : BitVec 32) (w : World) :
    Calls Tryd.prog 96 #[uw x, .int .u64 17] w fun e w' => e = .returned (uw (wror x 17)) ∧ w' = w := by
  have e := u_ror' x 17 15 rfl
  simp only [Nat.reducePow, Int.cast_ofNat_Int] at e
  go_enter Tryd.func96, Tryd.ntmps96
  go_wp2_with fail
  go_ret
  exact ⟨congrArg Ending.returned (congrArg (Value.int IntKind.u32) e), rfl⟩
set_option maxHeartbeats 1000000 in
theorem turn_18 (x : BitVec 32) (w : World) :
    Calls Tryd.prog 96 #[uw x, .int .u64 18] w fun e w' => e = .returned (uw (wror x 18)) ∧ w' = w := by
  have e := u_ror' x 18 14 rfl
  simp only [Nat.reducePow, Int.cast_ofNat_Int] at e
  go_enter Tryd.func96, Tryd.ntmps96
  go_wp2_with fail
  go_ret
  exact ⟨congrArg Ending.returned (congrArg (Value.int IntKind.u32) e), rfl⟩
set_option maxHeartbeats 1000000 in
theorem turn_19 (x : BitVec 32) (w : World) :
    Calls Tryd.prog 96 #[uw x, .int .u64 19] w fun e w' => e = .returned (uw (wror x 19)) ∧ w' = w := by
  have e := u_ror' x 19 13 rfl
  simp only [Nat.reducePow, Int.cast_ofNat_Int] at e
  go_enter Tryd.func96, Tryd.ntmps96
  go_wp2_with fail
  go_ret
  exact ⟨congrArg Ending.returned (congrArg (Value.int IntKind.u32) e), rfl⟩
set_option maxHeartbeats 1000000 in
theorem turn_22 (x : BitVec 32) (w : World) :
    Calls Tryd.prog 96 #[uw x, .int .u64 22] w fun e w' => e = .returned (uw (wror x 22)) ∧ w' = w := by
  have e := u_ror' x 22 10 rfl
  simp only [Nat.reducePow, Int.cast_ofNat_Int] at e
  go_enter Tryd.func96, Tryd.ntmps96
  go_wp2_with fail
  go_ret
  exact ⟨congrArg Ending.returned (congrArg (Value.int IntKind.u32) e), rfl⟩
set_option maxHeartbeats 1000000 in
theorem turn_25 (x : BitVec 32) (w : World) :
    Calls Tryd.prog 96 #[uw x, .int .u64 25] w fun e w' => e = .returned (uw (wror x 25)) ∧ w' = w := by
  have e := u_ror' x 25 7 rfl
  simp only [Nat.reducePow, Int.cast_ofNat_Int] at e
  go_enter Tryd.func96, Tryd.ntmps96
  go_wp2_with fail
  go_ret
  exact ⟨congrArg Ending.returned (congrArg (Value.int IntKind.u32) e), rfl⟩
set_option maxHeartbeats 1000000 in
theorem choose_fun (x y z : BitVec 32) (w : World) : Calls Tryd.prog 97 #[uw x, uw y, uw z] w fun e w' => e = .returned (uw (Ch x y z)) ∧ w' = w := by
  go_enter Tryd.func97, Tryd.ntmps97
  go_wp2_with fail
  simp only [u_xor, u_and, ch_eq]
  go_ret
  exact ⟨rfl, rfl⟩
set_option maxHeartbeats 1000000 in
theorem most_fun (x y z : BitVec 32) (w : World) : Calls Tryd.prog 98 #[uw x, uw y, uw z] w fun e w' => e = .returned (uw (Mj x y z)) ∧ w' = w := by
  go_enter Tryd.func98, Tryd.ntmps98
  go_wp2_with fail
  simp only [u_or, u_and, mj_eq]
  go_ret
  exact ⟨rfl, rfl⟩
end Go.Proofs.YtdcpicbkemmakaaDoor
