/- Texts that were joined: HW, HMath. -/
import Derived.Test.YtdcpicbkemmakaaDoorRows
import Derived.WalkKit
import Derived.WalkSpells
import Derived.WalkLawsBesides
import Derived.Laws.BitsAllLaws
import Derived.BigQuiet
import Derived.Below
/- Words of 32 bits as Go computes with them, and turned ones: math/bits.RotateLeft32 and hash.right. -/
namespace Go.Proofs.YtdcpicbkemmakaaDoor
open Go.RowKit
set_option linter.unusedSimpArgs false
/-- The number of a word, as Go's value has it. -/
def U (x : BitVec 32) : Int := (x.toNat : Int)
abbrev uw (x : BitVec 32) : Value := .int .u32 (U x)
def wadd (x y : BitVec 32) : BitVec 32 := x + y
def wxor (x y : BitVec 32) : BitVec 32 := x ^^^ y
def wand (x y : BitVec 32) : BitVec 32 := x &&& y
def wor (x y : BitVec 32) : BitVec 32 := x ||| y
def wnot (x : BitVec 32) : BitVec 32 := ~~~x
def wshr (x : BitVec 32) (n : Nat) : BitVec 32 := x >>> n
def wror (x : BitVec 32) (n : Nat) : BitVec 32 := x <<< (32 - n) ||| x >>> n
theorem U_nonneg (x : BitVec 32) : 0 ≤ U x := Int.natCast_nonneg _
theorem ofU (x : BitVec 32) : BitVec.ofInt 32 (U x) = x := by
  apply BitVec.eq_of_toNat_eq
  rw [U, BitVec.toNat_ofInt]
  have := x.isLt
  omega
theorem wrap32 (n : Nat) (h : n < 4294967296) : IntKind.u32.wrap (n : Int) = n := by
  simp only [IntKind.wrap, IntKind.bits, IntKind.signed]
  simp
  omega
theorem u_add (x y : BitVec 32) : IntKind.u32.wrap (U x + U y) = U (wadd x y) := by
  simp only [IntKind.wrap, IntKind.bits, IntKind.signed, U, wadd, BitVec.toNat_add]
  simp
theorem u_xor (x y : BitVec 32) : bits .xor .u32 (U x) (U y) = U (wxor x y) := by
  show IntKind.u32.wrap (((BitVec.ofInt 32 (U x) ^^^ BitVec.ofInt 32 (U y)).toNat : Nat) : Int) = _
  rw [ofU, ofU]; exact wrap32 _ (BitVec.isLt _)
theorem u_and (x y : BitVec 32) : bits .and .u32 (U x) (U y) = U (wand x y) := by
  show IntKind.u32.wrap (((BitVec.ofInt 32 (U x) &&& BitVec.ofInt 32 (U y)).toNat : Nat) : Int) = _
  rw [ofU, ofU]; exact wrap32 _ (BitVec.isLt _)
theorem u_or (x y : BitVec 32) : bits .or .u32 (U x) (U y) = U (wor x y) := by
  show IntKind.u32.wrap (((BitVec.ofInt 32 (U x) ||| BitVec.ofInt 32 (U y)).toNat : Nat) : Int) = _
  rw [ofU, ofU]; exact wrap32 _ (BitVec.isLt _)
theorem u_not (x : BitVec 32) : bits .xor .u32 4294967295 (U x) = U (wnot x) := by
  show IntKind.u32.wrap (((BitVec.ofInt 32 4294967295 ^^^ BitVec.ofInt 32 (U x)).toNat : Nat) : Int) = _
  rw [ofU, show BitVec.ofInt 32 4294967295 = BitVec.allOnes 32 by decide, BitVec.allOnes_xor]
  exact wrap32 _ (BitVec.isLt _)
theorem u_shr (x : BitVec 32) (n : Nat) : U x / ((2 ^ n : Nat) : Int) = U (wshr x n) := by
  simp only [U, wshr, BitVec.toNat_ushiftRight, Nat.shiftRight_eq_div_pow]
  exact (Int.natCast_ediv _ _).symm
theorem u_shl (x : BitVec 32) (n : Nat) : IntKind.u32.wrap (U x * ((2 ^ n : Nat) : Int)) = U (x <<< n) := by
  simp only [IntKind.wrap, IntKind.bits, IntKind.signed, U, BitVec.toNat_shiftLeft, Nat.shiftLeft_eq]
  simp
theorem u_ror (x : BitVec 32) (n m : Nat) (h : m = 32 - n) : bits .or .u32 (IntKind.u32.wrap (U x * ((2 ^ m : Nat) : Int))) (U x / ((2 ^ n : Nat) : Int)) = U (wror x n) := by
  rw [u_shl, u_shr, u_or, h]; rfl
/- Turned to the left by so many less than none. -/
set_option maxHeartbeats 1000000 in
theorem rol_2 (x : BitVec 32) (w : World) :
    Calls Tryd.prog 100 #[uw x, .int .i64 (-2)] w fun e w' => e = .returned (uw (wror x 2)) ∧ w' = w := by
  have e := u_ror x 2 30 rfl
  simp only [Nat.reducePow, Int.cast_ofNat_Int] at e
  have e1 : bits .and .u64 (IntKind.u64.wrap (-2)) 31 = 30 := by decide +kernel
  go_enter Tryd.func100, Tryd.ntmps100
  go_wp2_with (simp only [e1])
  go_ret
  exact ⟨congrArg Ending.returned (congrArg (Value.int IntKind.u32) e), rfl⟩
set_option maxHeartbeats 1000000 in
theorem right_2 (x : BitVec 32) (w : World) :
    Calls Tryd.prog 95 #[uw x, .int .i64 2] w fun e w' => e = .returned (uw (wror x 2)) ∧ w' = w := by
  go_enter Tryd.func95, Tryd.ntmps95
  go_wp2_with fail
  refine (rol_2 x _).mono ?_
  rintro e w1 ⟨rfl, rfl⟩
  go_wp2_with fail
  go_ret
  exact ⟨rfl, rfl⟩
set_option maxHeartbeats 1000000 in
theorem rol_6 (x : BitVec 32) (w : World) :
    Calls Tryd.prog 100 #[uw x, .int .i64 (-6)] w fun e w' => e = .returned (uw (wror x 6)) ∧ w' = w := by
  have e := u_ror x 6 26 rfl
  simp only [Nat.reducePow, Int.cast_ofNat_Int] at e
  have e1 : bits .and .u64 (IntKind.u64.wrap (-6)) 31 = 26 := by decide +kernel
  go_enter Tryd.func100, Tryd.ntmps100
  go_wp2_with (simp only [e1])
  go_ret
  exact ⟨congrArg Ending.returned (congrArg (Value.int IntKind.u32) e), rfl⟩
set_option maxHeartbeats 1000000 in
theorem right_6 (x : BitVec 32) (w : World) :
    Calls Tryd.prog 95 #[uw x, .int .i64 6] w fun e w' => e = .returned (uw (wror x 6)) ∧ w' = w := by
  go_enter Tryd.func95, Tryd.ntmps95
  go_wp2_with fail
  refine (rol_6 x _).mono ?_
  rintro e w1 ⟨rfl, rfl⟩
  go_wp2_with fail
  go_ret
  exact ⟨rfl, rfl⟩
set_option maxHeartbeats 1000000 in
theorem rol_7 (x : BitVec 32) (w : World) :
    Calls Tryd.prog 100 #[uw x, .int .i64 (-7)] w fun e w' => e = .returned (uw (wror x 7)) ∧ w' = w := by
  have e := u_ror x 7 25 rfl
  simp only [Nat.reducePow, Int.cast_ofNat_Int] at e
  have e1 : bits .and .u64 (IntKind.u64.wrap (-7)) 31 = 25 := by decide +kernel
  go_enter Tryd.func100, Tryd.ntmps100
  go_wp2_with (simp only [e1])
  go_ret
  exact ⟨congrArg Ending.returned (congrArg (Value.int IntKind.u32) e), rfl⟩
set_option maxHeartbeats 1000000 in
theorem right_7 (x : BitVec 32) (w : World) :
    Calls Tryd.prog 95 #[uw x, .int .i64 7] w fun e w' => e = .returned (uw (wror x 7)) ∧ w' = w := by
  go_enter Tryd.func95, Tryd.ntmps95
  go_wp2_with fail
  refine (rol_7 x _).mono ?_
  rintro e w1 ⟨rfl, rfl⟩
  go_wp2_with fail
  go_ret
  exact ⟨rfl, rfl⟩
set_option maxHeartbeats 1000000 in
theorem rol_11 (x : BitVec 32) (w : World) :
    Calls Tryd.prog 100 #[uw x, .int .i64 (-11)] w fun e w' => e = .returned (uw (wror x 11)) ∧ w' = w := by
  have e := u_ror x 11 21 rfl
  simp only [Nat.reducePow, Int.cast_ofNat_Int] at e
  have e1 : bits .and .u64 (IntKind.u64.wrap (-11)) 31 = 21 := by decide +kernel
  go_enter Tryd.func100, Tryd.ntmps100
  go_wp2_with (simp only [e1])
  go_ret
  exact ⟨congrArg Ending.returned (congrArg (Value.int IntKind.u32) e), rfl⟩
set_option maxHeartbeats 1000000 in
theorem right_11 (x : BitVec 32) (w : World) :
    Calls Tryd.prog 95 #[uw x, .int .i64 11] w fun e w' => e = .returned (uw (wror x 11)) ∧ w' = w := by
  go_enter Tryd.func95, Tryd.ntmps95
  go_wp2_with fail
  refine (rol_11 x _).mono ?_
  rintro e w1 ⟨rfl, rfl⟩
  go_wp2_with fail
  go_ret
  exact ⟨rfl, rfl⟩
set_option maxHeartbeats 1000000 in
theorem rol_13 (x : BitVec 32) (w : World) :
    Calls Tryd.prog 100 #[uw x, .int .i64 (-13)] w fun e w' => e = .returned (uw (wror x 13)) ∧ w' = w := by
  have e := u_ror x 13 19 rfl
  simp only [Nat.reducePow, Int.cast_ofNat_Int] at e
  have e1 : bits .and .u64 (IntKind.u64.wrap (-13)) 31 = 19 := by decide +kernel
  go_enter Tryd.func100, Tryd.ntmps100
  go_wp2_with (simp only [e1])
  go_ret
  exact ⟨congrArg Ending.returned (congrArg (Value.int IntKind.u32) e), rfl⟩
set_option maxHeartbeats 1000000 in
theorem right_13 (x : BitVec 32) (w : World) :
    Calls Tryd.prog 95 #[uw x, .int .i64 13] w fun e w' => e = .returned (uw (wror x 13)) ∧ w' = w := by
  go_enter Tryd.func95, Tryd.ntmps95
  go_wp2_with fail
  refine (rol_13 x _).mono ?_
  rintro e w1 ⟨rfl, rfl⟩
  go_wp2_with fail
  go_ret
  exact ⟨rfl, rfl⟩
set_option maxHeartbeats 1000000 in
theorem rol_17 (x : BitVec 32) (w : World) :
    Calls Tryd.prog 100 #[uw x, .int .i64 (-17)] w fun e w' => e = .returned (uw (wror x 17)) ∧ w' = w := by
  have e := u_ror x 17 15 rfl
  simp only [Nat.reducePow, Int.cast_ofNat_Int] at e
  have e1 : bits .and .u64 (IntKind.u64.wrap (-17)) 31 = 15 := by decide +kernel
  go_enter Tryd.func100, Tryd.ntmps100
  go_wp2_with (simp only [e1])
  go_ret
  exact ⟨congrArg Ending.returned (congrArg (Value.int IntKind.u32) e), rfl⟩
set_option maxHeartbeats 1000000 in
theorem right_17 (x : BitVec 32) (w : World) :
    Calls Tryd.prog 95 #[uw x, .int .i64 17] w fun e w' => e = .returned (uw (wror x 17)) ∧ w' = w := by
  go_enter Tryd.func95, Tryd.ntmps95
  go_wp2_with fail
  refine (rol_17 x _).mono ?_
  rintro e w1 ⟨rfl, rfl⟩
  go_wp2_with fail
  go_ret
  exact ⟨rfl, rfl⟩
set_option maxHeartbeats 1000000 in
theorem rol_18 (x : BitVec 32) (w : World) :
    Calls Tryd.prog 100 #[uw x, .int .i64 (-18)] w fun e w' => e = .returned (uw (wror x 18)) ∧ w' = w := by
  have e := u_ror x 18 14 rfl
  simp only [Nat.reducePow, Int.cast_ofNat_Int] at e
  have e1 : bits .and .u64 (IntKind.u64.wrap (-18)) 31 = 14 := by decide +kernel
  go_enter Tryd.func100, Tryd.ntmps100
  go_wp2_with (simp only [e1])
  go_ret
  exact ⟨congrArg Ending.returned (congrArg (Value.int IntKind.u32) e), rfl⟩
set_option maxHeartbeats 1000000 in
theorem right_18 (x : BitVec 32) (w : World) :
    Calls Tryd.prog 95 #[uw x, .int .i64 18] w fun e w' => e = .returned (uw (wror x 18)) ∧ w' = w := by
  go_enter Tryd.func95, Tryd.ntmps95
  go_wp2_with fail
  refine (rol_18 x _).mono ?_
  rintro e w1 ⟨rfl, rfl⟩
  go_wp2_with fail
  go_ret
  exact ⟨rfl, rfl⟩
set_option maxHeartbeats 1000000 in
theorem rol_19 (x : BitVec 32) (w : World) :
    Calls Tryd.prog 100 #[uw x, .int .i64 (-19)] w fun e w' => e = .returned (uw (wror x 19)) ∧ w' = w := by
  have e := u_ror x 19 13 rfl
  simp only [Nat.reducePow, Int.cast_ofNat_Int] at e
  have e1 : bits .and .u64 (IntKind.u64.wrap (-19)) 31 = 13 := by decide +kernel
  go_enter Tryd.func100, Tryd.ntmps100
  go_wp2_with (simp only [e1])
  go_ret
  exact ⟨congrArg Ending.returned (congrArg (Value.int IntKind.u32) e), rfl⟩
set_option maxHeartbeats 1000000 in
theorem right_19 (x : BitVec 32) (w : World) :
    Calls Tryd.prog 95 #[uw x, .int .i64 19] w fun e w' => e = .returned (uw (wror x 19)) ∧ w' = w := by
  go_enter Tryd.func95, Tryd.ntmps95
  go_wp2_with fail
  refine (rol_19 x _).mono ?_
  rintro e w1 ⟨rfl, rfl⟩
  go_wp2_with fail
  go_ret
  exact ⟨rfl, rfl⟩
set_option maxHeartbeats 1000000 in
theorem rol_22 (x : BitVec 32) (w : World) :
    Calls Tryd.prog 100 #[uw x, .int .i64 (-22)] w fun e w' => e = .returned (uw (wror x 22)) ∧ w' = w := by
  have e := u_ror x 22 10 rfl
  simp only [Nat.reducePow, Int.cast_ofNat_Int] at e
  have e1 : bits .and .u64 (IntKind.u64.wrap (-22)) 31 = 10 := by decide +kernel
  go_enter Tryd.func100, Tryd.ntmps100
  go_wp2_with (simp only [e1])
  go_ret
  exact ⟨congrArg Ending.returned (congrArg (Value.int IntKind.u32) e), rfl⟩
set_option maxHeartbeats 1000000 in
theorem right_22 (x : BitVec 32) (w : World) :
    Calls Tryd.prog 95 #[uw x, .int .i64 22] w fun e w' => e = .returned (uw (wror x 22)) ∧ w' = w := by
  go_enter Tryd.func95, Tryd.ntmps95
  go_wp2_with fail
  refine (rol_22 x _).mono ?_
  rintro e w1 ⟨rfl, rfl⟩
  go_wp2_with fail
  go_ret
  exact ⟨rfl, rfl⟩
set_option maxHeartbeats 1000000 in
theorem rol_25 (x : BitVec 32) (w : World) :
    Calls Tryd.prog 100 #[uw x, .int .i64 (-25)] w fun e w' => e = .returned (uw (wror x 25)) ∧ w' = w := by
  have e := u_ror x 25 7 rfl
  simp only [Nat.reducePow, Int.cast_ofNat_Int] at e
  have e1 : bits .and .u64 (IntKind.u64.wrap (-25)) 31 = 7 := by decide +kernel
  go_enter Tryd.func100, Tryd.ntmps100
  go_wp2_with (simp only [e1])
  go_ret
  exact ⟨congrArg Ending.returned (congrArg (Value.int IntKind.u32) e), rfl⟩
set_option maxHeartbeats 1000000 in
theorem right_25 (x : BitVec 32) (w : World) :
    Calls Tryd.prog 95 #[uw x, .int .i64 25] w fun e w' => e = .returned (uw (wror x 25)) ∧ w' = w := by
  go_enter Tryd.func95, Tryd.ntmps95
  go_wp2_with fail
  refine (rol_25 x _).mono ?_
  rintro e w1 ⟨rfl, rfl⟩
  go_wp2_with fail
  go_ret
  exact ⟨rfl, rfl⟩
end Go.Proofs.YtdcpicbkemmakaaDoor

/- Digests as functions of lists of bytes. -/
namespace Go.Proofs.YtdcpicbkemmakaaDoor
def S0 (x : BitVec 32) : BitVec 32 := wxor (wxor (wror x 7) (wror x 18)) (wshr x 3)
def S1 (x : BitVec 32) : BitVec 32 := wxor (wxor (wror x 17) (wror x 19)) (wshr x 10)
def E1 (x : BitVec 32) : BitVec 32 := wxor (wxor (wror x 6) (wror x 11)) (wror x 25)
def E0 (x : BitVec 32) : BitVec 32 := wxor (wxor (wror x 2) (wror x 13)) (wror x 22)
def Ch (e f g : BitVec 32) : BitVec 32 := wxor (wand e f) (wand (wnot e) g)
def Mj (a b c : BitVec 32) : BitVec 32 := wxor (wxor (wand a b) (wand a c)) (wand b c)
def Kt : List (BitVec 32) := [BitVec.ofNat 32 0x428a2f98, BitVec.ofNat 32 0x71374491, BitVec.ofNat 32 0xb5c0fbcf, BitVec.ofNat 32 0xe9b5dba5, BitVec.ofNat 32 0x3956c25b, BitVec.ofNat 32 0x59f111f1, BitVec.ofNat 32 0x923f82a4, BitVec.ofNat 32 0xab1c5ed5, BitVec.ofNat 32 0xd807aa98, BitVec.ofNat 32 0x12835b01, BitVec.ofNat 32 0x243185be, BitVec.ofNat 32 0x550c7dc3, BitVec.ofNat 32 0x72be5d74, BitVec.ofNat 32 0x80deb1fe, BitVec.ofNat 32 0x9bdc06a7, BitVec.ofNat 32 0xc19bf174, BitVec.ofNat 32 0xe49b69c1, BitVec.ofNat 32 0xefbe4786, BitVec.ofNat 32 0x0fc19dc6, BitVec.ofNat 32 0x240ca1cc, BitVec.ofNat 32 0x2de92c6f, BitVec.ofNat 32 0x4a7484aa, BitVec.ofNat 32 0x5cb0a9dc, BitVec.ofNat 32 0x76f988da, BitVec.ofNat 32 0x983e5152, BitVec.ofNat 32 0xa831c66d, BitVec.ofNat 32 0xb00327c8, BitVec.ofNat 32 0xbf597fc7, BitVec.ofNat 32 0xc6e00bf3, BitVec.ofNat 32 0xd5a79147, BitVec.ofNat 32 0x06ca6351, BitVec.ofNat 32 0x14292967, BitVec.ofNat 32 0x27b70a85, BitVec.ofNat 32 0x2e1b2138, BitVec.ofNat 32 0x4d2c6dfc, BitVec.ofNat 32 0x53380d13, BitVec.ofNat 32 0x650a7354, BitVec.ofNat 32 0x766a0abb, BitVec.ofNat 32 0x81c2c92e, BitVec.ofNat 32 0x92722c85, BitVec.ofNat 32 0xa2bfe8a1, BitVec.ofNat 32 0xa81a664b, BitVec.ofNat 32 0xc24b8b70, BitVec.ofNat 32 0xc76c51a3, BitVec.ofNat 32 0xd192e819, BitVec.ofNat 32 0xd6990624, BitVec.ofNat 32 0xf40e3585, BitVec.ofNat 32 0x106aa070, BitVec.ofNat 32 0x19a4c116, BitVec.ofNat 32 0x1e376c08, BitVec.ofNat 32 0x2748774c, BitVec.ofNat 32 0x34b0bcb5, BitVec.ofNat 32 0x391c0cb3, BitVec.ofNat 32 0x4ed8aa4a, BitVec.ofNat 32 0x5b9cca4f, BitVec.ofNat 32 0x682e6ff3, BitVec.ofNat 32 0x748f82ee, BitVec.ofNat 32 0x78a5636f, BitVec.ofNat 32 0x84c87814, BitVec.ofNat 32 0x8cc70208, BitVec.ofNat 32 0x90befffa, BitVec.ofNat 32 0xa4506ceb, BitVec.ofNat 32 0xbef9a3f7, BitVec.ofNat 32 0xc67178f2]
/-- Four bytes, the greatest first. -/
def wd4 (a b c d : Nat) : BitVec 32 := BitVec.ofNat 32 (a * 16777216 + b * 65536 + c * 256 + d)
def wd (bs : List Nat) (t : Nat) : BitVec 32 := wd4 (bs.getD (4 * t) 0) (bs.getD (4 * t + 1) 0) (bs.getD (4 * t + 2) 0) (bs.getD (4 * t + 3) 0)
/-- The word behind those that are there. -/
def nextW (l : List (BitVec 32)) : BitVec 32 :=
  wadd (wadd (wadd (l.getD (l.length - 16) 0) (S0 (l.getD (l.length - 15) 0))) (l.getD (l.length - 7) 0)) (S1 (l.getD (l.length - 2) 0))
def schd (bs : List Nat) : Nat → List (BitVec 32)
  | 0 => []
  | t + 1 => schd bs t ++ [if t < 16 then wd bs t else nextW (schd bs t)]
theorem schd_length (bs : List Nat) : ∀ t, (schd bs t).length = t
  | 0 => rfl
  | t + 1 => by rw [schd, List.length_append, schd_length bs t]; rfl
/-- Eight words. -/
structure R8 where
  a : BitVec 32
  b : BitVec 32
  c : BitVec 32
  d : BitVec 32
  e : BitVec 32
  f : BitVec 32
  g : BitVec 32
  h : BitVec 32
def R8.list (s : R8) : List (BitVec 32) := [s.a, s.b, s.c, s.d, s.e, s.f, s.g, s.h]
def T1 (s : R8) (k x : BitVec 32) : BitVec 32 := wadd (wadd (wadd (wadd s.h (E1 s.e)) (Ch s.e s.f s.g)) k) x
def T2 (s : R8) : BitVec 32 := wadd (E0 s.a) (Mj s.a s.b s.c)
def rnd (s : R8) (k x : BitVec 32) : R8 := ⟨wadd (T1 s k x) (T2 s), s.a, s.b, s.c, wadd s.d (T1 s k x), s.e, s.f, s.g⟩
def rds (H : R8) (ws : List (BitVec 32)) : Nat → R8
  | 0 => H
  | t + 1 => rnd (rds H ws t) (Kt.getD t 0) (ws.getD t 0)
def R8.plus (H r : R8) : R8 := ⟨wadd H.a r.a, wadd H.b r.b, wadd H.c r.c, wadd H.d r.d, wadd H.e r.e, wadd H.f r.f, wadd H.g r.g, wadd H.h r.h⟩
/-- H behind one more block. -/
def mixS (H : R8) (bs : List Nat) : R8 := H.plus (rds H (schd bs 64) 64)
def IV : R8 := ⟨BitVec.ofNat 32 0x6a09e667, BitVec.ofNat 32 0xbb67ae85, BitVec.ofNat 32 0x3c6ef372, BitVec.ofNat 32 0xa54ff53a, BitVec.ofNat 32 0x510e527f, BitVec.ofNat 32 0x9b05688c, BitVec.ofNat 32 0x1f83d9ab, BitVec.ofNat 32 0x5be0cd19⟩
/-- H behind n whole blocks of a text. -/
def absN (H : R8) : Nat → List Nat → R8
  | 0, _ => H
  | n + 1, p => absN (mixS H (p.take 64)) n (p.drop 64)
/-- Byte i of eight words, the greatest of each first. -/
def dbyte (H : R8) (i : Nat) : Nat := ((H.list.getD (i / 4) 0).toNat >>> (24 - i % 4 * 8)) % 256
def digS (H : R8) : List Nat := (List.range 32).map (dbyte H)
theorem digS_length (H : R8) : (digS H).length = 32 := by simp [digS]
theorem absN_add (H : R8) : ∀ (m n : Nat) (p : List Nat), absN H (m + n) p = absN (absN H m p) n (p.drop (64 * m))
  | 0, n, p => by simp [absN]
  | m + 1, n, p => by
    rw [show m + 1 + n = (m + n) + 1 by omega, absN, absN_add _ m n, absN, List.drop_drop, show 64 + 64 * m = 64 * (m + 1) by omega]
theorem absN_front (H : R8) : ∀ (n : Nat) (p q : List Nat), 64 * n ≤ p.length → absN H n (p ++ q) = absN H n p
  | 0, _, _, _ => rfl
  | n + 1, p, q, h => by
    rw [absN, absN, List.take_append_of_le_length (by omega), List.drop_append_of_le_length (by omega), absN_front _ n _ _ (by rw [List.length_drop]; omega)]
end Go.Proofs.YtdcpicbkemmakaaDoor
