/- The plain mathematics of numbers of eight words and of a division by bits, with no program in sight. -/
import Derived.Test.YtpnfopakkaoibaaQNumToKn
namespace Go.Proofs.Ytpnfopakkaoibaa
open Go.RowKit

/-- What a number of eight words stands for. -/
def V (l h : Nm) : Nat := (l.val + M * h.val).toNat
/-- The number of eight words of n: its halves. -/
def WL (n : Nat) : Nm := Nm.of ((n : Int) % M)
def WH (n : Nat) : Nm := Nm.of ((n : Int) / M)
/-- The words of n. -/
def word (n j : Nat) : Nat := n / 2 ^ (64 * j) % 2 ^ 64
theorem pow_twice (k n : Nat) (h : k = n + n) : (2 : Nat) ^ k = 2 ^ n * 2 ^ n := by rw [h, Nat.pow_add]
theorem M_cast : M = ((2 ^ 256 : Nat) : Int) := rfl
end Go.Proofs.Ytpnfopakkaoibaa
