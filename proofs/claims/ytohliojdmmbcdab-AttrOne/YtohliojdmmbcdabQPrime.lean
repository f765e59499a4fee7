/- Fermat's little theorem, Pocklington's test, and that 2^255 - 19 is a prime. -/
import Derived.Test.YtohliojdmmbcdabRows
namespace Go.Proofs.Ytohliojdmmbcdab.P
/-- choose -/
def C : Nat → Nat → Nat
  | _, 0 => 1
  | 0, _ + 1 => 0
  | n + 1, k + 1 => C n k + C n (k + 1)
end Go.Proofs.Ytohliojdmmbcdab.P
