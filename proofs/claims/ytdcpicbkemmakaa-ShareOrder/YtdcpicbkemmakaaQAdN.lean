/- limb.Add, limb.Sub and the halves of a product, by numbers. -/
import Derived.Test.YtdcpicbkemmakaaQMulWToNmN
import Derived.Test.YtdcpicbkemmakaaQAddSubToMul
namespace Go.Proofs.Ytdcpicbkemmakaa
open Go.RowKit
set_option linter.unusedSimpArgs false
/-- limb.Add and limb.Sub by the numbers that they answer. -/
theorem add_nat (x y : Nm) (ox : x.ok) (oy : y.ok) (w : World) : Calls Try.prog 32 #[N x, N y] w fun e w' => e = .returned (.tuple #[N (nm ((x.nat + y.nat) % 2 ^ 256)), .int .u64 (((x.nat + y.nat) / 2 ^ 256 : Nat) : Int)]) ∧ Below w.heap.size w w' := by
  have h := add_fun x y ox oy w
  have e1 : addS x y = nm ((x.nat + y.nat) % 2 ^ 256) := by
    unfold addS nm
    rw [← Nm.nat_cast ox, ← Nm.nat_cast oy, M_cast, ← Int.natCast_add, ← Int.natCast_emod]
  have e2 : addC x y = (((x.nat + y.nat) / 2 ^ 256 : Nat) : Int) := by
    unfold addC
    rw [← Nm.nat_cast ox, ← Nm.nat_cast oy, M_cast, ← Int.natCast_add, ← Int.natCast_ediv]
  rw [e1, e2] at h
  exact h
theorem sub_nat (x y : Nm) (ox : x.ok) (oy : y.ok) (w : World) : Calls Try.prog 36 #[N x, N y] w fun e w' => e = .returned (.tuple #[N (nm ((x.nat + 2 ^ 256 - y.nat) % 2 ^ 256)), .int .u64 (if x.nat < y.nat then 1 else 0)]) ∧ Below w.heap.size w w' := by
  have h := sub_fun x y ox oy w
  have lx := Nm.nat_lt ox; have ly := Nm.nat_lt oy
  have p2 : (2 : Nat) ^ 256 = 115792089237316195423570985008687907853269984665640564039457584007913129639936 := by decide
  have e1 : subS x y = nm ((x.nat + 2 ^ 256 - y.nat) % 2 ^ 256) := by
    unfold subS nm M
    rw [← Nm.nat_cast ox, ← Nm.nat_cast oy]
    congr 1
    rw [p2] at *
    omega
  have e2 : subC x y = if x.nat < y.nat then 1 else 0 := by
    unfold subC M
    rw [← Nm.nat_cast ox, ← Nm.nat_cast oy]
    rw [p2] at *
    split <;> omega
  rw [e1, e2] at h
  exact h
theorem WL_nm (n : Nat) : WL n = nm (n % 2 ^ 256) := by
  unfold WL nm
  rw [M_cast, ← Int.natCast_emod]
theorem WH_nm (n : Nat) : WH n = nm (n / 2 ^ 256) := by
  unfold WH nm
  rw [M_cast, ← Int.natCast_ediv]
end Go.Proofs.Ytdcpicbkemmakaa
