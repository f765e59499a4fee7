import Derived.Test.YtfanndkhajokcaaDoorGrp28
import Derived.Test.YtfanndkhajokcaaDoorDTimes
import Derived.Laws.Bits64
import Derived.Laws.Bits64b
/- The contract of sealringref.Rest. -/
namespace Go.Proofs.YtfanndkhajokcaaDoor
open Go.RowKit
set_option maxHeartbeats 400000 in
theorem drest_fun (u v : Value) (xs ys : List Nat) (hx : P.Dg xs) (hy : P.Dg ys) (hM : 0 < P.dv ys) (lx : xs.length < 1048576) (ly : ys.length < 1048576) (w : World) (su : Sl w u xs) (sv : Sl w v ys) :
    Calls Tryd.prog 31 #[u, v] w fun e w' => (∃ v', e = .returned v' ∧ Sl w' v' (P.dg (P.dv xs % P.dv ys))) ∧ Below w.heap.size w w' := by
  have D : Hid _ := dparts_fun u v xs ys hx hy hM lx ly w su sv
  clear su sv
  go_enter Tryd.func31, Tryd.ntmps31
  go_wp2_with fail
  refine Calls.mono D.out ?_
  rintro e w1 ⟨⟨v1, v2, rfl, h1, h2⟩, hb1⟩
  have H2 : Hid _ := h2
  have B1 : Hid _ := hb1
  clear h1 h2 hb1
  go_wp2_with fail
  go_ret
  exact ⟨⟨v2, rfl, H2.out⟩, B1.out⟩
end Go.Proofs.YtfanndkhajokcaaDoor

/- The contracts of sealringref.TwoTo (at 256) and Bits. -/
namespace Go.Proofs.YtfanndkhajokcaaDoor
open Go.RowKit
theorem dg_two256 : (List.replicate 17 0).set 16 1 = P.dg (2 ^ 256) := by
  have h : P.dv ((List.replicate 17 0).set 16 1) = 2 ^ 256 := by decide
  rw [← h]
  refine P.eq_dg _ (fun x hx => ?_) (.inr (by decide))
  have : x = 0 ∨ x = 1 := by simpa using hx
  omega
set_option maxHeartbeats 1000000 in
theorem twoTo_fun (w : World) :
    Calls Tryd.prog 28 #[.int .i64 256] w fun e w' => (∃ v', e = .returned v' ∧ Sl w' v' (P.dg (2 ^ 256))) ∧ Below w.heap.size w w' := by
  go_enter Tryd.func28, Tryd.ntmps28
  go_wp2_with (at_make; refine wp_mk rfl _ _ rfl w.heap.size 17 _ _ rfl rfl (by decide) (by decide) (by decide) (Nat.le_refl _) ?_)
  intro w1 o1 hb1
  have s1 : Hid (Ow w1 w.heap.size (.slice (some ⟨w.heap.size, 0, none⟩) 17 17) (List.replicate 17 0)) := o1
  have b1 : Hid (Below w.heap.size w w1) := hb1
  clear o1 hb1
  obtain ⟨c3, c4⟩ := Ow.cell s1.out (by simp) 16 (by simp)
  have SS : Hid _ := Ow.set s1.out (by simp) (Nat.le_refl _) 16 1 1 rfl
  go_wp2_with fail
  go_ret
  refine ⟨⟨_, rfl, ?_⟩, b1.out.trans SS.out.2⟩
  rw [← dg_two256]
  exact Ow.sl SS.out.1
theorem i64_and1 (n : Int) : bits .and .i64 n 1 = n % 2 := by
  have h1 : (BitVec.ofInt 64 1).toNat = 2 ^ 1 - 1 := by decide
  have key : (BitVec.ofInt 64 n &&& BitVec.ofInt 64 1).toNat = (n % ((2 ^ 64 : Nat) : Int)).toNat % 2 ^ 1 := by
    rw [BitVec.toNat_and, BitVec.toNat_ofInt, h1, Nat.and_two_pow_sub_one_eq_mod]
  show IntKind.i64.wrap ((BitVec.ofInt 64 n &&& BitVec.ofInt 64 1).toNat : Nat) = n % 2
  rw [key, IntKind.wrap_i64]
  omega
/-- The bit at a place. -/
theorem bit_dig (X i : Nat) : X / 65536 ^ (i / 16) % 65536 / 2 ^ (i % 16) % 2 = X / 2 ^ i % 2 := by
  have e : (2 : Nat) ^ i = 65536 ^ (i / 16) * 2 ^ (i % 16) := by
    rw [show (65536 : Nat) = 2 ^ 16 from rfl, ← Nat.pow_mul, ← Nat.pow_add, Nat.div_add_mod]
  have e2 : (65536 : Nat) = 2 ^ (i % 16) * 2 ^ (16 - i % 16) := by
    rw [← Nat.pow_add, show i % 16 + (16 - i % 16) = 16 by omega]
  rw [e, ← Nat.div_div_eq_div_mul]
  generalize X / 65536 ^ (i / 16) = Z
  rw [e2, Nat.mod_mul_right_div_self]
  have e3 : (2 : Nat) ^ (16 - i % 16) = 2 * 2 ^ (15 - i % 16) := by rw [show 16 - i % 16 = 15 - i % 16 + 1 by omega, Nat.pow_succ, Nat.mul_comm]
  rw [e3, Nat.mod_mul_right_mod]
end Go.Proofs.YtfanndkhajokcaaDoor

/- The contract of sealringref.Power. -/
namespace Go.Proofs.YtfanndkhajokcaaDoor
open Go.RowKit
set_option linter.unusedSimpArgs false
theorem dshort {n : Nat} (h : n < 65536 ^ 64) : (P.dg n).length < 1048576 := Nat.lt_of_le_of_lt (P.dg_len 64 h) (by decide)
theorem rest_n (X M : Nat) (hX : X < 65536 ^ 64) (hM : 0 < M) (hM2 : M < 65536 ^ 64) (u v : Value) (w : World) (su : Sl w u (P.dg X)) (sv : Sl w v (P.dg M)) :
    Calls Tryd.prog 31 #[u, v] w fun e w' => (∃ v', e = .returned v' ∧ Sl w' v' (P.dg (X % M))) ∧ Below w.heap.size w w' := by
  have := drest_fun u v _ _ (P.dg_Dg X) (P.dg_Dg M) (by rw [P.dv_dg]; exact hM) (dshort hX) (dshort hM2) w su sv
  rwa [P.dv_dg, P.dv_dg] at this
theorem times_n (X Y : Nat) (hX : X < 65536 ^ 64) (hY : Y < 65536 ^ 64) (u v : Value) (w : World) (su : Sl w u (P.dg X)) (sv : Sl w v (P.dg Y)) :
    Calls Tryd.prog 30 #[u, v] w fun e w' => (∃ v', e = .returned v' ∧ Sl w' v' (P.dg (X * Y))) ∧ Below w.heap.size w w' := by
  have := dtimes_fun u v _ _ (P.dg_Dg X) (P.dg_Dg Y) (Nat.lt_trans (dshort hX) (by decide)) (Nat.lt_trans (dshort hY) (by decide)) w su sv
  rwa [P.dv_dg, P.dv_dg] at this
theorem dg_one : P.dg 1 = [1] := by rw [P.dg_pos (by decide), show 1 / 65536 = 0 from rfl, P.dg_zero]
theorem mod_two_succ (Y k : Nat) : Y % 2 ^ (k + 1) = Y % 2 ^ k + 2 ^ k * (Y / 2 ^ k % 2) := by
  rw [Nat.pow_succ, Nat.mod_mul]
theorem pow_on (X Y M k : Nat) (h : Y / 2 ^ k % 2 = 1) : X ^ (Y % 2 ^ k) % M * (X ^ 2 ^ k % M) % M = X ^ (Y % 2 ^ (k + 1)) % M := by
  rw [mod_two_succ, h, Nat.mul_one, Nat.pow_add, ← Nat.mul_mod]
theorem pow_off (Y k : Nat) (h : Y / 2 ^ k % 2 = 0) : Y % 2 ^ (k + 1) = Y % 2 ^ k := by
  rw [mod_two_succ, h, Nat.mul_zero, Nat.add_zero]
theorem pow_sq (X M k : Nat) : X ^ 2 ^ k % M * (X ^ 2 ^ k % M) % M = X ^ 2 ^ (k + 1) % M := by
  rw [← Nat.mul_mod, ← Nat.pow_add, Nat.pow_succ, Nat.mul_two]
theorem prod_short {a b : Nat} (ha : a < 2 ^ 256) (hb : b < 2 ^ 256) : a * b < 65536 ^ 64 :=
  Nat.lt_of_lt_of_le (Nat.mul_lt_mul'' ha hb) (by decide)
end Go.Proofs.YtfanndkhajokcaaDoor
