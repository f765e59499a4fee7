/- Texts that were joined: MulV, NmN. -/
import Derived.Test.YtjdamgfichlgpaaQMath
import Derived.Test.YtjdamgfichlgpaaMulW
/- limb.Mul, told by what numbers of eight words stand for. -/
namespace Go.Proofs.Ytjdamgfichlgpaa
open Go.RowKit

/-- What a number stands for, as a natural number. -/
def Nm.nat (x : Nm) : Nat := x.val.toNat
theorem Nm.nat_cast {x : Nm} (h : x.ok) : ((x.nat : Nat) : Int) = x.val := Int.toNat_of_nonneg (Nm.val_nonneg h)
theorem Nm.nat_lt {x : Nm} (h : x.ok) : x.nat < 2 ^ 256 := by
  have := Nm.val_lt h
  rw [← Nm.nat_cast h, M_cast] at this
  exact Int.ofNat_lt.1 this
theorem Nm.ext_nat {x y : Nm} (hx : x.ok) (hy : y.ok) (h : x.nat = y.nat) : x = y := Nm.ext_val hx hy (by rw [← Nm.nat_cast hx, ← Nm.nat_cast hy, h])
theorem Nm.of_nat {n : Nat} (h : n < 2 ^ 256) : (Nm.of ((n : Nat) : Int)).nat = n := by
  unfold Nm.nat
  rw [Nm.of_val (Int.natCast_nonneg _) (by rw [M_cast]; exact Int.ofNat_lt.2 h)]
  rfl
theorem Nm.eq_of_nat {x : Nm} (h : x.ok) : x = Nm.of ((x.nat : Nat) : Int) := Nm.eq_of h (Nm.nat_cast h).symm
theorem V_nat {l h : Nm} (ol : l.ok) (oh : h.ok) : V l h = l.nat + 2 ^ 256 * h.nat := by
  have e := V_cast ol oh
  rw [← Nm.nat_cast ol, ← Nm.nat_cast oh, M_cast] at e
  omega
theorem V_wide (x : Nm) : V x ⟨0, 0, 0, 0⟩ = x.nat := V_zero x
theorem pow512' : (2 : Nat) ^ 512 = 2 ^ 256 * 2 ^ 256 := pow_twice 512 256 rfl
theorem WH_small {n : Nat} (h : n < 2 ^ 256) : WH n = ⟨0, 0, 0, 0⟩ := by
  unfold WH
  rw [Int.ediv_eq_zero_of_lt (Int.natCast_nonneg _) (by rw [M_cast]; exact Int.ofNat_lt.2 h)]
  rfl
theorem WL_small {n : Nat} (h : n < 2 ^ 256) : WL n = Nm.of ((n : Nat) : Int) := by
  unfold WL
  rw [Int.emod_eq_of_lt (Int.natCast_nonneg _) (by rw [M_cast]; exact Int.ofNat_lt.2 h)]
theorem mul_lt512 {x y : Nm} (ox : x.ok) (oy : y.ok) : x.nat * y.nat < 2 ^ 512 := by
  rw [pow512']
  exact Nat.mul_lt_mul'' (Nm.nat_lt ox) (Nm.nat_lt oy)
/-- limb.Mul. -/
theorem mul_V (x y : Nm) (ox : x.ok) (oy : y.ok) (w : World) :
    Calls Try.prog 22 #[N x, N y] w fun e w' => e = .returned (Wv (WL (x.nat * y.nat)) (WH (x.nat * y.nat))) ∧ Below w.heap.size w w' := by
  have := mul_fun x y ox oy w
  have e : ((x.nat * y.nat : Nat) : Int) = x.val * y.val := by rw [Int.natCast_mul, Nm.nat_cast ox, Nm.nat_cast oy]
  unfold WL WH
  rw [e]
  exact this
end Go.Proofs.Ytjdamgfichlgpaa

/- A natural number as Go has it: four words. -/
namespace Go.Proofs.Ytjdamgfichlgpaa
open Go.RowKit
/-- A number as Go has it. -/
abbrev nm (n : Nat) : Nm := Nm.of ((n : Nat) : Int)
theorem nm_ok (n : Nat) : (nm n).ok := Nm.of_ok _
theorem nm_nat {n : Nat} (h : n < 2 ^ 256) : (nm n).nat = n := Nm.of_nat h
theorem Nm.eq_nm {x : Nm} {n : Nat} (h : x.ok) (e : x.nat = n) : x = nm n := by rw [← e]; exact Nm.eq_of_nat h
end Go.Proofs.Ytjdamgfichlgpaa
