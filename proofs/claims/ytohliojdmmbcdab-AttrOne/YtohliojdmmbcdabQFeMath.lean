/- Numbers modulo 2^255 - 19 as sixteen digits, as functions of their places: carries, borrows. Mathematics alone. -/
import Derived.Test.YtohliojdmmbcdabQFMath
namespace Go.Proofs.Ytohliojdmmbcdab.I
/-- A product, digit by digit. -/
def upd (f : Nat → Nat) (j x : Nat) : Nat → Nat := fun i => if i = j then x else f i
end Go.Proofs.Ytohliojdmmbcdab.I
