/- Words of 32 bits as Go computes with them, and turned ones: math/bits.RotateLeft32 and hash.right. -/
import Derived.Test.YtfanndkhajokcaaDoorRows
import Derived.WalkKit
import Derived.WalkSpells
import Derived.WalkLawsBesides
import Derived.Laws.BitsAllLaws
import Derived.BigQuiet
import Derived.Below
namespace Go.Proofs.YtfanndkhajokcaaDoor
open Go.RowKit
set_option linter.unusedSimpArgs false
/-- The number of a word, as Go's value has it. -/
def U (x : BitVec 32) : Int := (x.toNat : Int)
abbrev uw (x : BitVec 32) : Value := .int .u32 (U x)
def wadd (x y : BitVec 32) : BitVec 32 := x + y
def wxor (x y : BitVec 32) : BitVec 32 := x ^^^ y
def wand (x y : BitVec 32) : BitVec 32 := x &&& y
def wor (x y : BitVec 32) : BitVec 32 := x ||| y
def wnot (x : BitVec 32) : BitVec 32 := ~~~x
def wshr (x : BitVec 32) (n : Nat) : BitVec 32 := x >>> n
def wror (x : BitVec 32) (n : Nat) : BitVec 32 := x <<< (32 - n) ||| x >>> n
theorem U_nonneg (x : BitVec 32) : 0 ≤ U x := Int.natCast_nonneg _
theorem U_lt (x : BitVec 32) : U x < 4294967296 := by unfold U; have := x.isLt; omega
theorem ofU (x : BitVec 32) : BitVec.ofInt 32 (U x) = x := by
  apply BitVec.eq_of_toNat_eq
  rw [U, BitVec.toNat_ofInt]
  have := x.isLt
  omega
theorem wrap32 (n : Nat) (h : n < 4294967296) : IntKind.u32.wrap (n : Int) = n := by
  simp only [IntKind.wrap, IntKind.bits, IntKind.signed]
  simp
  omega
theorem u_add (x y : BitVec 32) : IntKind.u32.wrap (U x + U y) = U (wadd x y) := by
  simp only [IntKind.wrap, IntKind.bits, IntKind.signed, U, wadd, BitVec.toNat_add]
  simp
theorem u_xor (x y : BitVec 32) : bits .xor .u32 (U x) (U y) = U (wxor x y) := by
  show IntKind.u32.wrap (((BitVec.ofInt 32 (U x) ^^^ BitVec.ofInt 32 (U y)).toNat : Nat) : Int) = _
  rw [ofU, ofU]; exact wrap32 _ (BitVec.isLt _)
theorem u_and (x y : BitVec 32) : bits .and .u32 (U x) (U y) = U (wand x y) := by
  show IntKind.u32.wrap (((BitVec.ofInt 32 (U x) &&& BitVec.ofInt 32 (U y)).toNat : Nat) : Int) = _
  rw [ofU, ofU]; exact wrap32 _ (BitVec.isLt _)
theorem u_or (x y : BitVec 32) : bits .or .u32 (U x) (U y) = U (wor x y) := by
  show IntKind.u32.wrap (((BitVec.ofInt 32 (U x) ||| BitVec.ofInt 32 (U y)).toNat : Nat) : Int) = _
  rw [ofU, ofU]; exact wrap32 _ (BitVec.isLt _)
theorem u_not (x : BitVec 32) : bits .xor .u32 4294967295 (U x) = U (wnot x) := by
  show IntKind.u32.wrap (((BitVec.ofInt 32 4294967295 ^^^ BitVec.ofInt 32 (U x)).toNat : Nat) : Int) = _
  rw [ofU, show BitVec.ofInt 32 4294967295 = BitVec.allOnes 32 by decide, BitVec.allOnes_xor]
  exact wrap32 _ (BitVec.isLt _)
theorem u_shr (x : BitVec 32) (n : Nat) : U x / ((2 ^ n : Nat) : Int) = U (wshr x n) := by
  simp only [U, wshr, BitVec.toNat_ushiftRight, Nat.shiftRight_eq_div_pow]
  exact (Int.natCast_ediv _ _).symm
theorem u_shl (x : BitVec 32) (n : Nat) : IntKind.u32.wrap (U x * ((2 ^ n : Nat) : Int)) = U (x <<< n) := by
  simp only [IntKind.wrap, IntKind.bits, IntKind.signed, U, BitVec.toNat_shiftLeft, Nat.shiftLeft_eq]
  simp
theorem u_ror (x : BitVec 32) (n m : Nat) (h : m = 32 - n) : bits .or .u32 (IntKind.u32.wrap (U x * ((2 ^ m : Nat) : Int))) (U x / ((2 ^ n : Nat) : Int)) = U (wror x n) := by
  rw [u_shl, u_shr, u_or, h]; rfl
/- Turned to the left by so many less than none. -/
set_option maxHeartbeats 1000000 in
theorem rol_2 (x : BitVec 32) (w : World) :
    Calls Tryd.prog 66 #[uw x, .int .i64 (-2)] w fun e w' => e = .returned (uw (wror x 2)) ∧ w' = w := by
  have e := u_ror x 2 30 rfl
  simp only [Nat.reducePow, Int.cast_ofNat_Int] at e
  have e1 : bits .and .u64 (IntKind.u64.wrap (-2)) 31 = 30 := by decide +kernel
  go_enter Tryd.func66, Tryd.ntmps66
  go_wp2_with (simp only [e1])
  go_ret
  exact ⟨congrArg Ending.returned (congrArg (Value.int IntKind.u32) e), rfl⟩
set_option maxHeartbeats 1000000 in
theorem right_2 (x : BitVec 32) (w : World) :
    Calls Tryd.prog 62 #[uw x, .int .i64 2] w fun e w' => e = .returned (uw (wror x 2)) ∧ w' = w := by
  go_enter Tryd.func62, Tryd.ntmps62
  go_wp2_with fail
  refine (rol_2 x _).mono ?_
  rintro e w1 ⟨rfl, rfl⟩
  go_wp2_with fail
  go_ret
  exact ⟨rfl, rfl⟩
set_option maxHeartbeats 1000000 in
theorem rol_6 (x : BitVec 32) (w : World) :
    Calls Tryd.prog 66 #[uw x, .int .i64 (-6)] w fun e w' => e = .returned (uw (wror x 6)) ∧ w' = w := by
  have e := u_ror x 6 26 rfl
  simp only [Nat.reducePow, Int.cast_ofNat_Int] at e
  have e1 : bits .and .u64 (IntKind.u64.wrap (-6)) 31 = 26 := by decide +kernel
  go_enter Tryd.func66, Tryd.ntmps66
  go_wp2_with (simp only [e1])
  go_ret
  exact ⟨congrArg Ending.returned (congrArg (Value.int IntKind.u32) e), rfl⟩
set_option maxHeartbeats 1000000 in
theorem right_6 (x : BitVec 32) (w : World) :
    Calls Tryd.prog 62 #[uw x, .int .i64 6] w fun e w' => e = .returned (uw (wror x 6)) ∧ w' = w := by
  go_enter Tryd.func62, Tryd.ntmps62
  go_wp2_with fail
  refine (rol_6 x _).mono ?_
  rintro e w1 ⟨rfl, rfl⟩
  go_wp2_with fail
  go_ret
  exact ⟨rfl, rfl⟩
set_option maxHeartbeats 1000000 in
theorem rol_7 (x : BitVec 32) (w : World) :
    Calls Tryd.prog 66 #[uw x, .int .i64 (-7)] w fun e w' => e = .returned (uw (wror x 7)) ∧ w' = w := by
  have e := u_ror x 7 25 rfl
  simp only [Nat.reducePow, Int.cast_ofNat_Int] at e
  have e1 : bits .and .u64 (IntKind.u64.wrap (-7)) 31 = 25 := by decide +kernel
  go_enter Tryd.func66, Tryd.ntmps66
  go_wp2_with (simp only [e1])
  go_ret
  exact ⟨congrArg Ending.returned (congrArg (Value.int IntKind.u32) e), rfl⟩
set_option maxHeartbeats 1000000 in
theorem right_7 (x : BitVec 32) (w : World) :
    Calls Tryd.prog 62 #[uw x, .int .i64 7] w fun e w' => e = .returned (uw (wror x 7)) ∧ w' = w := by
  go_enter Tryd.func62, Tryd.ntmps62
  go_wp2_with fail
  refine (rol_7 x _).mono ?_
  rintro e w1 ⟨rfl, rfl⟩
  go_wp2_with fail
  go_ret
  exact ⟨rfl, rfl⟩
set_option maxHeartbeats 1000000 in
theorem rol_11 (x : BitVec 32) (w : World) :
    Calls Tryd.prog 66 #[uw x, .int .i64 (-11)] w fun e w' => e = .returned (uw (wror x 11)) ∧ w' = w := by
  have e := u_ror x 11 21 rfl
  simp only [Nat.reducePow, Int.cast_ofNat_Int] at e
  have e1 : bits .and .u64 (IntKind.u64.wrap (-11)) 31 = 21 := by decide +kernel
  go_enter Tryd.func66, Tryd.ntmps66
  go_wp2_with (simp only [e1])
  go_ret
  exact ⟨congrArg Ending.returned (congrArg (Value.int IntKind.u32) e), rfl⟩
set_option maxHeartbeats 1000000 in
theorem right_11 (x : BitVec 32) (w : World) :
    Calls Tryd.prog 62 #[uw x, .int .i64 11] w fun e w' => e = .returned (uw (wror x 11)) ∧ w' = w := by
  go_enter Tryd.func62, Tryd.ntmps62
  go_wp2_with fail
  refine (rol_11 x _).mono ?_
  rintro e w1 ⟨rfl, rfl⟩
  go_wp2_with fail
  go_ret
  exact ⟨rfl, rfl⟩
set_option maxHeartbeats 1000000 in
theorem rol_13 (x : BitVec 32) (w : World) :
    Calls Tryd.prog 66 #[uw x, .int .i64 (-13)] w fun e w' => e = .returned (uw (wror x 13)) ∧ w' = w := by
  have e := u_ror x 13 19 rfl
  simp only [Nat.reducePow, Int.cast_ofNat_Int] at e
  have e1 : bits .and .u64 (IntKind.u64.wrap (-13)) 31 = 19 := by decide +kernel
  go_enter Tryd.func66, Tryd.ntmps66
  go_wp2_with (simp only [e1])
  go_ret
  exact ⟨congrArg Ending.returned (congrArg (Value.int IntKind.u32) e), rfl⟩
set_option maxHeartbeats 1000000 in
theorem right_13 (x : BitVec 32) (w : World) :
    Calls Tryd.prog 62 #[uw x, .int .i64 13] w fun e w' => e = .returned (uw (wror x 13)) ∧ w' = w := by
  go_enter Tryd.func62, Tryd.ntmps62
  go_wp2_with fail
  refine (rol_13 x _).mono ?_
  rintro e w1 ⟨rfl, rfl⟩
  go_wp2_with fail
  go_ret
  exact ⟨rfl, rfl⟩
set_option maxHeartbeats 1000000 in
theorem rol_17 (x : BitVec 32) (w : World) :
    Calls Tryd.prog 66 #[uw x, .int .i64 (-17)] w fun e w' => e = .returned (uw (wror x 17)) ∧ w' = w := by
  have e := u_ror x 17 15 rfl
  simp only [Nat.reducePow, Int.cast_ofNat_Int] at e
  have e1 : bits .and .u64 (IntKind.u64.wrap (-17)) 31 = 15 := by decide +kernel
  go_enter Tryd.func66, Tryd.ntmps66
  go_wp2_with (simp only [e1])
  go_ret
  exact ⟨congrArg Ending.returned (congrArg (Value.int IntKind.u32) e), rfl⟩
set_option maxHeartbeats 1000000 in
theorem right_17 (x : BitVec 32) (w : World) :
    Calls Tryd.prog 62 #[uw x, .int .i64 17] w fun e w' => e = .returned (uw (wror x 17)) ∧ w' = w := by
  go_enter Tryd.func62, Tryd.ntmps62
  go_wp2_with fail
  refine (rol_17 x _).mono ?_
  rintro e w1 ⟨rfl, rfl⟩
  go_wp2_with fail
  go_ret
  exact ⟨rfl, rfl⟩
set_option maxHeartbeats 1000000 in
theorem rol_18 (x : BitVec 32) (w : World) :
    Calls Tryd.prog 66 #[uw x, .int .i64 (-18)] w fun e w' => e = .returned (uw (wror x 18)) ∧ w' = w := by
  have e := u_ror x 18 14 rfl
  simp only [Nat.reducePow, Int.cast_ofNat_Int] at e
  have e1 : bits .and .u64 (IntKind.u64.wrap (-18)) 31 = 14 := by decide +kernel
  go_enter Tryd.func66, Tryd.ntmps66
  go_wp2_with (simp only [e1])
  go_ret
  exact ⟨congrArg Ending.returned (congrArg (Value.int IntKind.u32) e), rfl⟩
set_option maxHeartbeats 1000000 in
theorem right_18 (x : BitVec 32) (w : World) :
    Calls Tryd.prog 62 #[uw x, .int .i64 18] w fun e w' => e = .returned (uw (wror x 18)) ∧ w' = w := by
  go_enter Tryd.func62, Tryd.ntmps62
  go_wp2_with fail
  refine (rol_18 x _).mono ?_
  rintro e w1 ⟨rfl, rfl⟩
  go_wp2_with fail
  go_ret
  exact ⟨rfl, rfl⟩
set_option maxHeartbeats 1000000 in
theorem rol_19 (x : BitVec 32) (w : World) :
    Calls Tryd.prog 66 #[uw x, .int .i64 (-19)] w fun e w' => e = .returned (uw (wror x 19)) ∧ w' = w := by
  have e := u_ror x 19 13 rfl
  simp only [Nat.reducePow, Int.cast_ofNat_Int] at e
  have e1 : bits .and .u64 (IntKind.u64.wrap (-19)) 31 = 13 := by decide +kernel
  go_enter Tryd.func66, Tryd.ntmps66
  go_wp2_with (simp only [e1])
  go_ret
  exact ⟨congrArg Ending.returned (congrArg (Value.int IntKind.u32) e), rfl⟩
set_option maxHeartbeats 1000000 in
theorem right_19 (x : BitVec 32) (w : World) :
    Calls Tryd.prog 62 #[uw x, .int .i64 19] w fun e w' => e = .returned (uw (wror x 19)) ∧ w' = w := by
  go_enter Tryd.func62, Tryd.ntmps62
  go_wp2_with fail
  refine (rol_19 x _).mono ?_
  rintro e w1 ⟨rfl, rfl⟩
  go_wp2_with fail
  go_ret
  exact ⟨rfl, rfl⟩
set_option maxHeartbeats 1000000 in
theorem rol_22 (x : BitVec 32) (w : World) :
    Calls Tryd.prog 66 #[uw x, .int .i64 (-22)] w fun e w' => e = .returned (uw (wror x 22)) ∧ w' = w := by
  have e := u_ror x 22 10 rfl
  simp only [Nat.reducePow, Int.cast_ofNat_Int] at e
  have e1 : bits .and .u64 (IntKind.u64.wrap (-22)) 31 = 10 := by decide +kernel
  go_enter Tryd.func66, Tryd.ntmps66
  go_wp2_with (simp only [e1])
  go_ret
  exact ⟨congrArg Ending.returned (congrArg (Value.int IntKind.u32) e), rfl⟩
set_option maxHeartbeats 1000000 in
theorem right_22 (x : BitVec 32) (w : World) :
    Calls Tryd.prog 62 #[uw x, .int .i64 22] w fun e w' => e = .returned (uw (wror x 22)) ∧ w' = w := by
  go_enter Tryd.func62, Tryd.ntmps62
  go_wp2_with fail
  refine (rol_22 x _).mono ?_
  rintro e w1 ⟨rfl, rfl⟩
  go_wp2_with fail
  go_ret
  exact ⟨rfl, rfl⟩
set_option maxHeartbeats 1000000 in
theorem rol_25 (x : BitVec 32) (w : World) :
    Calls Tryd.prog 66 #[uw x, .int .i64 (-25)] w fun e w' => e = .returned (uw (wror x 25)) ∧ w' = w := by
  have e := u_ror x 25 7 rfl
  simp only [Nat.reducePow, Int.cast_ofNat_Int] at e
  have e1 : bits .and .u64 (IntKind.u64.wrap (-25)) 31 = 7 := by decide +kernel
  go_enter Tryd.func66, Tryd.ntmps66
  go_wp2_with (simp only [e1])
  go_ret
  exact ⟨congrArg Ending.returned (congrArg (Value.int IntKind.u32) e), rfl⟩
set_option maxHeartbeats 1000000 in
theorem right_25 (x : BitVec 32) (w : World) :
    Calls Tryd.prog 62 #[uw x, .int .i64 25] w fun e w' => e = .returned (uw (wror x 25)) ∧ w' = w := by
  go_enter Tryd.func62, Tryd.ntmps62
  go_wp2_with fail
  refine (rol_25 x _).mono ?_
  rintro e w1 ⟨rfl, rfl⟩
  go_wp2_with fail
  go_ret
  exact ⟨rfl, rfl⟩
end Go.Proofs.YtfanndkhajokcaaDoor
