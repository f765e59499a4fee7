/- How often the base makes nothing: a prime. Mathematics alone. -/
import Derived.Test.YtjcnfffmciahiaaPrimeL
namespace Go.Proofs.Ytjcnfffmciahiaa.Cv
open Go.Proofs.Ytjcnfffmciahiaa
def ord : Nat := 7237005577332262213973186563042994240857116359379907606001950938285454250989
theorem ord_pr : P.Pr ord := P.pr_L
end Go.Proofs.Ytjcnfffmciahiaa.Cv
