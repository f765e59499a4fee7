/- Texts that were joined: CvId, CMath, CGrp. -/
import Derived.Test.YtpnfopakkaoibaaRows
import Derived.Test.YtpnfopakkaoibaaQPrimeToFMath
/- Three identities of polynomials: that the sum of two points of an Edwards curve lies on it, and that of three it does not matter which two come first. Mathematics alone (the factors were found by a program of algebra; that they fit is shown here). -/
namespace Go.Proofs.Ytpnfopakkaoibaa.Cv
set_option maxHeartbeats 4000000 in
theorem id_c (x1 y1 x2 y2 d : Int) : (y1 * y2 + x1 * x2) ^ 2 * (1 + d * x1 * x2 * y1 * y2) ^ 2 - (x1 * y2 + y1 * x2) ^ 2 * (1 - d * x1 * x2 * y1 * y2) ^ 2 - (1 + d * x1 * x2 * y1 * y2) ^ 2 * (1 - d * x1 * x2 * y1 * y2) ^ 2 - d * (x1 * y2 + y1 * x2) ^ 2 * (y1 * y2 + x1 * x2) ^ 2 = (d ^ 3 * x1 ^ 2 * x2 ^ 4 * y1 ^ 2 * y2 ^ 4 - d ^ 2 * x1 ^ 2 * x2 ^ 4 * y2 ^ 4 + d ^ 2 * x2 ^ 4 * y1 ^ 2 * y2 ^ 4 - d ^ 2 * x2 ^ 4 * y2 ^ 4 - d * x1 ^ 2 * x2 ^ 4 * y2 ^ 2 + d * x1 ^ 2 * x2 ^ 2 * y2 ^ 4 + d * x2 ^ 4 * y1 ^ 2 * y2 ^ 2 - 2 * d * x2 ^ 4 * y2 ^ 4 - d * x2 ^ 2 * y1 ^ 2 * y2 ^ 4 - 2 * d * x2 ^ 2 * y2 ^ 2 - 2 * x2 ^ 4 * y2 ^ 2 + x2 ^ 4 + 2 * x2 ^ 2 * y2 ^ 4 - 4 * x2 ^ 2 * y2 ^ 2 + y2 ^ 4) * (y1 ^ 2 - x1 ^ 2 - 1 - d * x1 ^ 2 * y1 ^ 2) + (d * x1 ^ 4 * x2 ^ 2 * y2 ^ 2 + 2 * d * x1 ^ 2 * x2 ^ 2 * y2 ^ 2 + d * x2 ^ 2 * y1 ^ 4 * y2 ^ 2 - 2 * d * x2 ^ 2 * y1 ^ 2 * y2 ^ 2 + d * x2 ^ 2 * y2 ^ 2 + 2 * x1 ^ 2 * x2 ^ 2 * y2 ^ 2 - x1 ^ 2 * x2 ^ 2 + x1 ^ 2 * y2 ^ 2 - 2 * x2 ^ 2 * y1 ^ 2 * y2 ^ 2 + x2 ^ 2 * y1 ^ 2 + 2 * x2 ^ 2 * y2 ^ 2 - x2 ^ 2 - y1 ^ 2 * y2 ^ 2 + y2 ^ 2 + 1) * (y2 ^ 2 - x2 ^ 2 - 1 - d * x2 ^ 2 * y2 ^ 2) := by grind
set_option maxHeartbeats 4000000 in
theorem id_x (x1 y1 x2 y2 x3 y3 d : Int) : ((x1 * y2 + y1 * x2) * (1 - d * x1 * x2 * y1 * y2) * y3 + (y1 * y2 + x1 * x2) * (1 + d * x1 * x2 * y1 * y2) * x3) * ((1 + d * x2 * x3 * y2 * y3) * (1 - d * x2 * x3 * y2 * y3) + d * x1 * y1 * (x2 * y3 + y2 * x3) * (y2 * y3 + x2 * x3)) - (x1 * (y2 * y3 + x2 * x3) * (1 + d * x2 * x3 * y2 * y3) + y1 * (x2 * y3 + y2 * x3) * (1 - d * x2 * x3 * y2 * y3)) * ((1 + d * x1 * x2 * y1 * y2) * (1 - d * x1 * x2 * y1 * y2) + d * (x1 * y2 + y1 * x2) * (y1 * y2 + x1 * x2) * x3 * y3) = (-d * x2 * y2 * (d * x1 * x2 ^ 3 * x3 ^ 2 * y2 ^ 2 * y3 + d * x1 * x2 ^ 2 * x3 * y2 ^ 3 * y3 ^ 2 - d * x2 ^ 3 * x3 * y1 * y2 ^ 2 * y3 ^ 2 - d * x2 ^ 2 * x3 ^ 2 * y1 * y2 ^ 3 * y3 + x1 * x2 ^ 3 * x3 ^ 2 * y3 + x1 * x2 ^ 2 * x3 ^ 3 * y2 + x1 * x2 ^ 2 * x3 * y2 - x1 * x2 * y2 ^ 2 * y3 ^ 3 + x1 * x2 * y2 ^ 2 * y3 - x1 * x3 * y2 ^ 3 * y3 ^ 2 - x2 ^ 3 * x3 * y1 * y3 ^ 2 - x2 ^ 2 * y1 * y2 * y3 ^ 3 + x2 ^ 2 * y1 * y2 * y3 + x2 * x3 ^ 3 * y1 * y2 ^ 2 + x2 * x3 * y1 * y2 ^ 2 + x3 ^ 2 * y1 * y2 ^ 3 * y3)) * (y1 ^ 2 - x1 ^ 2 - 1 - d * x1 ^ 2 * y1 ^ 2) + (d ^ 2 * x1 ^ 2 * x2 ^ 2 * x3 ^ 3 * y1 * y2 * y3 ^ 2 - d ^ 2 * x1 ^ 2 * x2 * x3 ^ 2 * y1 * y2 ^ 2 * y3 ^ 3 - d ^ 2 * x1 * x2 ^ 2 * x3 ^ 2 * y1 ^ 2 * y2 * y3 ^ 3 + d ^ 2 * x1 * x2 * x3 ^ 3 * y1 ^ 2 * y2 ^ 2 * y3 ^ 2 + d * x1 ^ 3 * x2 ^ 2 * x3 ^ 2 * y2 * y3 + d * x1 ^ 3 * x2 * x3 ^ 3 * y3 ^ 2 + d * x1 ^ 3 * x2 * x3 * y2 ^ 2 * y3 ^ 2 + d * x1 ^ 3 * x3 ^ 2 * y2 * y3 ^ 3 - d * x1 ^ 2 * x2 ^ 2 * x3 * y1 * y2 * y3 ^ 2 - d * x1 ^ 2 * x2 * x3 ^ 2 * y1 * y2 ^ 2 * y3 + d * x1 ^ 2 * x2 * x3 ^ 2 * y1 * y3 ^ 3 + d * x1 ^ 2 * x3 ^ 3 * y1 * y2 * y3 ^ 2 - d * x1 * x2 ^ 2 * x3 ^ 2 * y1 ^ 2 * y2 * y3 + d * x1 * x2 ^ 2 * x3 ^ 2 * y2 * y3 - d * x1 * x2 * x3 ^ 3 * y1 ^ 2 * y3 ^ 2 + d * x1 * x2 * x3 ^ 3 * y3 ^ 2 - d * x1 * x2 * x3 * y1 ^ 2 * y2 ^ 2 * y3 ^ 2 + d * x1 * x2 * x3 * y2 ^ 2 * y3 ^ 2 - d * x1 * x3 ^ 2 * y1 ^ 2 * y2 * y3 ^ 3 + d * x1 * x3 ^ 2 * y2 * y3 ^ 3 + d * x2 ^ 2 * x3 * y1 ^ 3 * y2 * y3 ^ 2 - d * x2 ^ 2 * x3 * y1 * y2 * y3 ^ 2 + d * x2 * x3 ^ 2 * y1 ^ 3 * y2 ^ 2 * y3 - d * x2 * x3 ^ 2 * y1 ^ 3 * y3 ^ 3 - d * x2 * x3 ^ 2 * y1 * y2 ^ 2 * y3 + d * x2 * x3 ^ 2 * y1 * y3 ^ 3 - d * x3 ^ 3 * y1 ^ 3 * y2 * y3 ^ 2 + d * x3 ^ 3 * y1 * y2 * y3 ^ 2 + x1 ^ 3 * x2 * x3 ^ 3 - x1 ^ 3 * x2 * x3 * y3 ^ 2 + x1 ^ 3 * x2 * x3 + x1 ^ 3 * x3 ^ 2 * y2 * y3 - x1 ^ 3 * y2 * y3 ^ 3 + x1 ^ 3 * y2 * y3 + x1 ^ 2 * x2 * x3 ^ 2 * y1 * y3 - x1 ^ 2 * x2 * y1 * y3 ^ 3 + x1 ^ 2 * x2 * y1 * y3 + x1 ^ 2 * x3 ^ 3 * y1 * y2 - x1 ^ 2 * x3 * y1 * y2 * y3 ^ 2 + x1 ^ 2 * x3 * y1 * y2 - x1 * x2 * x3 ^ 3 * y1 ^ 2 + x1 * x2 * x3 ^ 3 + x1 * x2 * x3 * y1 ^ 2 * y3 ^ 2 - x1 * x2 * x3 * y1 ^ 2 - x1 * x2 * x3 * y3 ^ 2 + x1 * x2 * x3 - x1 * x3 ^ 2 * y1 ^ 2 * y2 * y3 + x1 * x3 ^ 2 * y2 * y3 + x1 * y1 ^ 2 * y2 * y3 ^ 3 - x1 * y1 ^ 2 * y2 * y3 - x1 * y2 * y3 ^ 3 + x1 * y2 * y3 - x2 * x3 ^ 2 * y1 ^ 3 * y3 + x2 * x3 ^ 2 * y1 * y3 + x2 * y1 ^ 3 * y3 ^ 3 - x2 * y1 ^ 3 * y3 - x2 * y1 * y3 ^ 3 + x2 * y1 * y3 - x3 ^ 3 * y1 ^ 3 * y2 + x3 ^ 3 * y1 * y2 + x3 * y1 ^ 3 * y2 * y3 ^ 2 - x3 * y1 ^ 3 * y2 - x3 * y1 * y2 * y3 ^ 2 + x3 * y1 * y2) * (y2 ^ 2 - x2 ^ 2 - 1 - d * x2 ^ 2 * y2 ^ 2) + (-d * x1 ^ 2 * x2 ^ 2 * x3 * y1 * y2 + d * x1 ^ 2 * x2 * y1 * y2 ^ 2 * y3 + d * x1 * x2 ^ 2 * y1 ^ 2 * y2 * y3 - d * x1 * x2 * x3 * y1 ^ 2 * y2 ^ 2 - x1 ^ 3 * x2 ^ 3 * x3 - x1 ^ 3 * x2 ^ 2 * y2 * y3 + x1 ^ 3 * x2 * x3 * y2 ^ 2 - x1 ^ 3 * x2 * x3 + x1 ^ 3 * y2 ^ 3 * y3 - x1 ^ 3 * y2 * y3 - x1 ^ 2 * x2 ^ 3 * y1 * y3 - x1 ^ 2 * x2 ^ 2 * x3 * y1 * y2 + x1 ^ 2 * x2 * y1 * y2 ^ 2 * y3 - x1 ^ 2 * x2 * y1 * y3 + x1 ^ 2 * x3 * y1 * y2 ^ 3 - x1 ^ 2 * x3 * y1 * y2 + x1 * x2 ^ 3 * x3 * y1 ^ 2 - x1 * x2 ^ 3 * x3 + x1 * x2 ^ 2 * y1 ^ 2 * y2 * y3 - x1 * x2 ^ 2 * y2 * y3 - x1 * x2 * x3 * y1 ^ 2 * y2 ^ 2 + x1 * x2 * x3 * y1 ^ 2 + x1 * x2 * x3 * y2 ^ 2 - x1 * x2 * x3 - x1 * y1 ^ 2 * y2 ^ 3 * y3 + x1 * y1 ^ 2 * y2 * y3 + x1 * y2 ^ 3 * y3 - x1 * y2 * y3 + x2 ^ 3 * y1 ^ 3 * y3 - x2 ^ 3 * y1 * y3 + x2 ^ 2 * x3 * y1 ^ 3 * y2 - x2 ^ 2 * x3 * y1 * y2 - x2 * y1 ^ 3 * y2 ^ 2 * y3 + x2 * y1 ^ 3 * y3 + x2 * y1 * y2 ^ 2 * y3 - x2 * y1 * y3 - x3 * y1 ^ 3 * y2 ^ 3 + x3 * y1 ^ 3 * y2 + x3 * y1 * y2 ^ 3 - x3 * y1 * y2) * (y3 ^ 2 - x3 ^ 2 - 1 - d * x3 ^ 2 * y3 ^ 2) := by grind
set_option maxHeartbeats 4000000 in
theorem id_y (x1 y1 x2 y2 x3 y3 d : Int) : ((y1 * y2 + x1 * x2) * (1 + d * x1 * x2 * y1 * y2) * y3 + (x1 * y2 + y1 * x2) * (1 - d * x1 * x2 * y1 * y2) * x3) * ((1 + d * x2 * x3 * y2 * y3) * (1 - d * x2 * x3 * y2 * y3) - d * x1 * y1 * (x2 * y3 + y2 * x3) * (y2 * y3 + x2 * x3)) - (y1 * (y2 * y3 + x2 * x3) * (1 + d * x2 * x3 * y2 * y3) + x1 * (x2 * y3 + y2 * x3) * (1 - d * x2 * x3 * y2 * y3)) * ((1 + d * x1 * x2 * y1 * y2) * (1 - d * x1 * x2 * y1 * y2) - d * (x1 * y2 + y1 * x2) * (y1 * y2 + x1 * x2) * x3 * y3) = (d * x2 * y2 * (d * x1 * x2 ^ 3 * x3 * y2 ^ 2 * y3 ^ 2 + d * x1 * x2 ^ 2 * x3 ^ 2 * y2 ^ 3 * y3 - d * x2 ^ 3 * x3 ^ 2 * y1 * y2 ^ 2 * y3 - d * x2 ^ 2 * x3 * y1 * y2 ^ 3 * y3 ^ 2 + x1 * x2 ^ 3 * x3 * y3 ^ 2 + x1 * x2 ^ 2 * y2 * y3 ^ 3 - x1 * x2 ^ 2 * y2 * y3 - x1 * x2 * x3 ^ 3 * y2 ^ 2 - x1 * x2 * x3 * y2 ^ 2 - x1 * x3 ^ 2 * y2 ^ 3 * y3 - x2 ^ 3 * x3 ^ 2 * y1 * y3 - x2 ^ 2 * x3 ^ 3 * y1 * y2 - x2 ^ 2 * x3 * y1 * y2 + x2 * y1 * y2 ^ 2 * y3 ^ 3 - x2 * y1 * y2 ^ 2 * y3 + x3 * y1 * y2 ^ 3 * y3 ^ 2)) * (y1 ^ 2 - x1 ^ 2 - 1 - d * x1 ^ 2 * y1 ^ 2) + (d ^ 2 * x1 ^ 2 * x2 ^ 2 * x3 ^ 2 * y1 * y2 * y3 ^ 3 - d ^ 2 * x1 ^ 2 * x2 * x3 ^ 3 * y1 * y2 ^ 2 * y3 ^ 2 - d ^ 2 * x1 * x2 ^ 2 * x3 ^ 3 * y1 ^ 2 * y2 * y3 ^ 2 + d ^ 2 * x1 * x2 * x3 ^ 2 * y1 ^ 2 * y2 ^ 2 * y3 ^ 3 - d * x1 ^ 3 * x2 ^ 2 * x3 * y2 * y3 ^ 2 - d * x1 ^ 3 * x2 * x3 ^ 2 * y2 ^ 2 * y3 + d * x1 ^ 3 * x2 * x3 ^ 2 * y3 ^ 3 + d * x1 ^ 3 * x3 ^ 3 * y2 * y3 ^ 2 + d * x1 ^ 2 * x2 ^ 2 * x3 ^ 2 * y1 * y2 * y3 + d * x1 ^ 2 * x2 * x3 ^ 3 * y1 * y3 ^ 2 + d * x1 ^ 2 * x2 * x3 * y1 * y2 ^ 2 * y3 ^ 2 + d * x1 ^ 2 * x3 ^ 2 * y1 * y2 * y3 ^ 3 + d * x1 * x2 ^ 2 * x3 * y1 ^ 2 * y2 * y3 ^ 2 - d * x1 * x2 ^ 2 * x3 * y2 * y3 ^ 2 + d * x1 * x2 * x3 ^ 2 * y1 ^ 2 * y2 ^ 2 * y3 - d * x1 * x2 * x3 ^ 2 * y1 ^ 2 * y3 ^ 3 - d * x1 * x2 * x3 ^ 2 * y2 ^ 2 * y3 + d * x1 * x2 * x3 ^ 2 * y3 ^ 3 - d * x1 * x3 ^ 3 * y1 ^ 2 * y2 * y3 ^ 2 + d * x1 * x3 ^ 3 * y2 * y3 ^ 2 - d * x2 ^ 2 * x3 ^ 2 * y1 ^ 3 * y2 * y3 + d * x2 ^ 2 * x3 ^ 2 * y1 * y2 * y3 - d * x2 * x3 ^ 3 * y1 ^ 3 * y3 ^ 2 + d * x2 * x3 ^ 3 * y1 * y3 ^ 2 - d * x2 * x3 * y1 ^ 3 * y2 ^ 2 * y3 ^ 2 + d * x2 * x3 * y1 * y2 ^ 2 * y3 ^ 2 - d * x3 ^ 2 * y1 ^ 3 * y2 * y3 ^ 3 + d * x3 ^ 2 * y1 * y2 * y3 ^ 3 + x1 ^ 3 * x2 * x3 ^ 2 * y3 - x1 ^ 3 * x2 * y3 ^ 3 + x1 ^ 3 * x2 * y3 + x1 ^ 3 * x3 ^ 3 * y2 - x1 ^ 3 * x3 * y2 * y3 ^ 2 + x1 ^ 3 * x3 * y2 + x1 ^ 2 * x2 * x3 ^ 3 * y1 - x1 ^ 2 * x2 * x3 * y1 * y3 ^ 2 + x1 ^ 2 * x2 * x3 * y1 + x1 ^ 2 * x3 ^ 2 * y1 * y2 * y3 - x1 ^ 2 * y1 * y2 * y3 ^ 3 + x1 ^ 2 * y1 * y2 * y3 - x1 * x2 * x3 ^ 2 * y1 ^ 2 * y3 + x1 * x2 * x3 ^ 2 * y3 + x1 * x2 * y1 ^ 2 * y3 ^ 3 - x1 * x2 * y1 ^ 2 * y3 - x1 * x2 * y3 ^ 3 + x1 * x2 * y3 - x1 * x3 ^ 3 * y1 ^ 2 * y2 + x1 * x3 ^ 3 * y2 + x1 * x3 * y1 ^ 2 * y2 * y3 ^ 2 - x1 * x3 * y1 ^ 2 * y2 - x1 * x3 * y2 * y3 ^ 2 + x1 * x3 * y2 - x2 * x3 ^ 3 * y1 ^ 3 + x2 * x3 ^ 3 * y1 + x2 * x3 * y1 ^ 3 * y3 ^ 2 - x2 * x3 * y1 ^ 3 - x2 * x3 * y1 * y3 ^ 2 + x2 * x3 * y1 - x3 ^ 2 * y1 ^ 3 * y2 * y3 + x3 ^ 2 * y1 * y2 * y3 + y1 ^ 3 * y2 * y3 ^ 3 - y1 ^ 3 * y2 * y3 - y1 * y2 * y3 ^ 3 + y1 * y2 * y3) * (y2 ^ 2 - x2 ^ 2 - 1 - d * x2 ^ 2 * y2 ^ 2) + (-d * x1 ^ 2 * x2 ^ 2 * y1 * y2 * y3 + d * x1 ^ 2 * x2 * x3 * y1 * y2 ^ 2 + d * x1 * x2 ^ 2 * x3 * y1 ^ 2 * y2 - d * x1 * x2 * y1 ^ 2 * y2 ^ 2 * y3 - x1 ^ 3 * x2 ^ 3 * y3 - x1 ^ 3 * x2 ^ 2 * x3 * y2 + x1 ^ 3 * x2 * y2 ^ 2 * y3 - x1 ^ 3 * x2 * y3 + x1 ^ 3 * x3 * y2 ^ 3 - x1 ^ 3 * x3 * y2 - x1 ^ 2 * x2 ^ 3 * x3 * y1 - x1 ^ 2 * x2 ^ 2 * y1 * y2 * y3 + x1 ^ 2 * x2 * x3 * y1 * y2 ^ 2 - x1 ^ 2 * x2 * x3 * y1 + x1 ^ 2 * y1 * y2 ^ 3 * y3 - x1 ^ 2 * y1 * y2 * y3 + x1 * x2 ^ 3 * y1 ^ 2 * y3 - x1 * x2 ^ 3 * y3 + x1 * x2 ^ 2 * x3 * y1 ^ 2 * y2 - x1 * x2 ^ 2 * x3 * y2 - x1 * x2 * y1 ^ 2 * y2 ^ 2 * y3 + x1 * x2 * y1 ^ 2 * y3 + x1 * x2 * y2 ^ 2 * y3 - x1 * x2 * y3 - x1 * x3 * y1 ^ 2 * y2 ^ 3 + x1 * x3 * y1 ^ 2 * y2 + x1 * x3 * y2 ^ 3 - x1 * x3 * y2 + x2 ^ 3 * x3 * y1 ^ 3 - x2 ^ 3 * x3 * y1 + x2 ^ 2 * y1 ^ 3 * y2 * y3 - x2 ^ 2 * y1 * y2 * y3 - x2 * x3 * y1 ^ 3 * y2 ^ 2 + x2 * x3 * y1 ^ 3 + x2 * x3 * y1 * y2 ^ 2 - x2 * x3 * y1 - y1 ^ 3 * y2 ^ 3 * y3 + y1 ^ 3 * y2 * y3 + y1 * y2 ^ 3 * y3 - y1 * y2 * y3) * (y3 ^ 2 - x3 ^ 2 - 1 - d * x3 ^ 2 * y3 ^ 2) := by grind
end Go.Proofs.Ytpnfopakkaoibaa.Cv

/- Points of the curve y*y - x*x = 1 + d*x*x*y*y modulo 2^255 - 19: that they make a group. Mathematics alone. -/
namespace Go.Proofs.Ytpnfopakkaoibaa.Cv
open Go.Proofs.Ytpnfopakkaoibaa
/-- -121665/121666. -/
def d : Nat := 37095705934669439343138083508754565189542113879843219016388785533085940283555
theorem d_lt : d < F.p := by decide
theorem d_is : F.add (F.mul d 121666) 121665 = 0 := by decide +kernel
theorem d_chi : F.chi d = F.p - 1 := (F.chi_pw d).trans (by decide +kernel)
theorem d_no : ¬ ∃ r, F.mul r r = d % F.p := fun h => by
  have := (F.ok_iff d).2 h
  unfold F.ok at this
  rw [d_chi] at this
  simp at this
/-- A multiple of p. -/
def Z (a : Int) : Prop := (F.p : Int) ∣ a
theorem Z.add {a b : Int} (ha : Z a) (hb : Z b) : Z (a + b) := Int.dvd_add ha hb
theorem Z.sub {a b : Int} (ha : Z a) (hb : Z b) : Z (a - b) := Int.dvd_sub ha hb
theorem Z.neg {a : Int} (ha : Z a) : Z (-a) := (Int.dvd_neg).2 ha
theorem Z.mul (c : Int) {a : Int} (ha : Z a) : Z (c * a) := Int.dvd_trans ha (Int.dvd_mul_left _ _)
theorem Z.zero : Z 0 := Int.dvd_zero _
theorem Z.prime {a b : Int} (h : Z (a * b)) : Z a ∨ Z b := by
  have h2 : F.p ∣ a.natAbs * b.natAbs := by rw [← Int.natAbs_mul]; exact Int.ofNat_dvd_left.1 h
  rcases F.pr.euclid h2 with h | h
  · exact .inl (Int.ofNat_dvd_left.2 h)
  · exact .inr (Int.ofNat_dvd_left.2 h)
theorem Z.of_eq {a b : Int} (h : Z a) (e : b = a) : Z b := by rw [e]; exact h
theorem Z_nat (n : Nat) : Z (n : Int) ↔ n % F.p = 0 := by
  unfold Z
  rw [Int.natCast_dvd_natCast]
  exact Nat.dvd_iff_mod_eq_zero ..
theorem Z_eq {m n : Nat} : Z ((m : Int) - n) ↔ m % F.p = n % F.p := by
  have e : Z ((m : Int) - n) ↔ (m : Int) % F.p = (n : Int) % F.p := (Int.dvd_iff_emod_eq_zero).trans Int.emod_eq_emod_iff_emod_sub_eq_zero.symm
  rw [e, ← Int.natCast_emod, ← Int.natCast_emod]
  exact Int.ofNat_inj
theorem one_no : ¬ Z 1 := fun h => by
  have : Z ((1 : Nat) : Int) := h
  rw [Z_nat] at this
  exact absurd this (by decide)
theorem two_no : ¬ Z 2 := fun h => by
  have : Z ((2 : Nat) : Int) := h
  rw [Z_nat] at this
  exact absurd this (by decide)
/-- Congruence. -/
def K (a b : Int) : Prop := Z (a - b)
theorem K.refl (a : Int) : K a a := by unfold K; rw [Int.sub_self]; exact Z.zero
theorem K.symm {a b : Int} (h : K a b) : K b a := (Z.neg h).of_eq (by omega)
theorem K.trans {a b c : Int} (h : K a b) (h' : K b c) : K a c := (Z.add h h').of_eq (by omega)
theorem K.add {a b a' b' : Int} (h : K a b) (h' : K a' b') : K (a + a') (b + b') := (Z.add h h').of_eq (by omega)
theorem K.sub {a b a' b' : Int} (h : K a b) (h' : K a' b') : K (a - a') (b - b') := (Z.sub h h').of_eq (by omega)
theorem K.mul {a b a' b' : Int} (h : K a b) (h' : K a' b') : K (a * a') (b * b') := (Z.add (Z.mul a' h) (Z.mul b h')).of_eq (by grind)
theorem K.z {a b : Int} (h : K a b) (hb : Z b) : Z a := (Z.add h hb).of_eq (by omega)
theorem K.no {a b : Int} (h : K a b) (hb : ¬ Z b) : ¬ Z a := fun ha => hb (h.symm.z ha)
theorem K_eq {m n : Nat} (hm : m < F.p) (hn : n < F.p) : K (m : Int) n ↔ m = n := by
  unfold K
  rw [Z_eq, Nat.mod_eq_of_lt hm, Nat.mod_eq_of_lt hn]
theorem K_mod (n : Nat) : K ((n % F.p : Nat) : Int) n := Z_eq.2 (Nat.mod_mod _ _)
theorem K_mul (a b : Nat) : K (F.mul a b : Nat) ((a : Int) * b) := by
  have := K_mod (a * b)
  rwa [Int.natCast_mul] at this
theorem K_add (a b : Nat) : K (F.add a b : Nat) ((a : Int) + b) := by
  have := K_mod (a + b)
  rwa [Int.natCast_add] at this
theorem K_sub (a b : Nat) : K (F.sub a b : Nat) ((a : Int) - b) := by
  have h := F.sub_add a b
  have h1 := K_add (F.sub a b) b
  rw [h] at h1
  exact ((K_mod a).symm.trans h1 |>.sub (K.refl (b : Int))).symm.trans (K.refl _) |>.symm |> fun h => (Z.neg h).of_eq (by omega)
theorem K_inv {a : Nat} (h : ¬ Z (a : Int)) : K ((a : Int) * (F.inv a : Nat)) 1 := by
  have h0 : a % F.p ≠ 0 := fun e => h ((Z_nat a).2 e)
  have := K_mul a (F.inv a)
  rw [F.mul_inv h0] at this
  exact this.symm
/-- What is not a multiple of p has an inverse. -/
theorem inv_of {t : Int} (h : ¬ Z t) : ∃ w : Int, K (t * w) 1 := by
  obtain ⟨n, hn⟩ : ∃ n : Nat, K (n : Int) t := by
    have hp : (0 : Int) < F.p := by have := F.p_pos; omega
    refine ⟨(t % F.p).toNat, ?_⟩
    rw [Int.toNat_of_nonneg (Int.emod_nonneg _ (by omega))]
    have e := Int.mul_ediv_add_emod t F.p
    refine ⟨-(t / F.p), ?_⟩
    rw [Int.mul_neg]
    omega
  have hz : ¬ Z (n : Int) := fun hh => h (hn.symm.z hh)
  exact ⟨_, (hn.symm.mul (K.refl _)).trans (K_inv hz)⟩
/-- d is no square. -/
theorem d_sq (r t : Int) (h : Z (r * r - d * (t * t))) : Z t := by
  refine Classical.byContradiction fun ht => ?_
  obtain ⟨w, hw⟩ := inv_of ht
  have h1 : K (r * w * (r * w)) d := (Z.add (Z.mul (w * w) h) (Z.mul (d * (t * w + 1)) hw)).of_eq (by grind)
  have hp : (0 : Int) < F.p := by have := F.p_pos; omega
  obtain ⟨n, hn⟩ : ∃ n : Nat, K (n : Int) (r * w) := by
    refine ⟨(r * w % F.p).toNat, ?_⟩
    rw [Int.toNat_of_nonneg (Int.emod_nonneg _ (by omega))]
    have e := Int.mul_ediv_add_emod (r * w) F.p
    refine ⟨-(r * w / F.p), ?_⟩
    rw [Int.mul_neg]
    generalize r * w = rw' at *
    omega
  refine d_no ⟨n, ?_⟩
  have h2 : K (F.mul n n : Nat) d := (K_mul n n).trans ((hn.mul hn).trans h1)
  have := (K_eq (F.mul_lt n n) d_lt).1 h2
  rw [this, Nat.mod_eq_of_lt d_lt]
theorem im_z : Z ((F.im : Int) * F.im + 1) := by
  have h := K_mul F.im F.im
  rw [F.im_sq] at h
  have h2 : K ((F.p - 1 : Nat) : Int) (-1) := by
    refine ⟨1, ?_⟩
    have := F.p_pos
    omega
  exact (h.symm.trans h2 : Z _).of_eq (by omega)
/-- The left side less the right one. -/
abbrev E (x y : Int) : Int := y ^ 2 - x ^ 2 - 1 - d * x ^ 2 * y ^ 2
/-- What is divided by is never 0. -/
theorem complete {x1 y1 x2 y2 e : Int} (h1 : Z (E x1 y1)) (h2 : Z (E x2 y2)) (he : e * e = 1) : ¬ Z (e - d * x1 * x2 * y1 * y2) := by
  intro hD
  obtain ⟨i, hi⟩ : ∃ i : Int, Z (i * i + 1) := ⟨_, im_z⟩
  have hx : ∀ u, Z (u * (d * x1 * x2 * y1 * y2)) → Z u := fun u hu => by
    have : Z (u * e) := (Z.add (Z.mul u hD) hu).of_eq (by grind)
    have : Z (e * (u * e)) := Z.mul e this
    exact this.of_eq (by rw [← Int.mul_one u, ← he]; grind)
  have no : ∀ u, Z u → Z (d * x1 * x2 * y1 * y2) → False := fun u _ hd => one_no (hx 1 (by rw [Int.one_mul]; exact hd))
  have hxy : ¬ Z (x1 * y1) := fun h => no _ h ((Z.mul (d * x2 * y2) h).of_eq (by grind))
  have hy2 : ¬ Z y2 := fun h => no _ h ((Z.mul (d * x1 * x2 * y1) h).of_eq (by grind))
  have key : ∀ j : Int, Z (j * j + 1) → Z (y2 + j * x2) := fun j hj => by
    have hs : Z ((y1 + e * j * x1) * (y1 + e * j * x1) - d * ((x1 * y1 * (y2 + j * x2)) * (x1 * y1 * (y2 + j * x2)))) := by
      have a1 := Z.sub h1 (Z.mul (d * x1 ^ 2 * y1 ^ 2) h2)
      have a2 := Z.mul (e + d * x1 * x2 * y1 * y2 + 2 * j * x1 * y1) hD
      have a3 := Z.mul (x1 ^ 2 - d * x1 ^ 2 * y1 ^ 2 * x2 ^ 2) hj
      refine ((a1.add a2).add a3).of_eq ?_
      unfold E
      grind
    have := d_sq _ _ hs
    exact (Z.prime this).resolve_left hxy
  have k1 := key i hi
  have k2 := key (-i) (hi.of_eq (by grind))
  have : Z (2 * y2) := (k1.add k2).of_eq (by grind)
  rcases Z.prime this with h | h
  · exact two_no h
  · exact hy2 h
end Go.Proofs.Ytpnfopakkaoibaa.Cv

/- Sums of points: closed, in any order, with Zero and Neg; so often. Mathematics alone. -/
namespace Go.Proofs.Ytpnfopakkaoibaa.Cv
open Go.Proofs.Ytpnfopakkaoibaa
/-- A pair of numbers. -/
abbrev Pt := Nat × Nat
def On (P : Pt) : Prop := P.1 < F.p ∧ P.2 < F.p ∧ Z (E P.1 P.2)
/-- d times all four. -/
def dd (P Q : Pt) : Nat := F.mul d (F.mul (F.mul P.1 Q.1) (F.mul P.2 Q.2))
def add (P Q : Pt) : Pt := (F.mul (F.add (F.mul P.1 Q.2) (F.mul P.2 Q.1)) (F.inv (F.add 1 (dd P Q))), F.mul (F.add (F.mul P.2 Q.2) (F.mul P.1 Q.1)) (F.inv (F.sub 1 (dd P Q))))
def zero : Pt := (0, 1)
def neg (P : Pt) : Pt := (F.sub 0 P.1, P.2)
theorem K_dd (P Q : Pt) : K (dd P Q) (d * P.1 * Q.1 * P.2 * Q.2) := by
  have h := (K_mul d _).trans ((K.refl (d : Int)).mul ((K_mul (F.mul P.1 Q.1) (F.mul P.2 Q.2)).trans ((K_mul P.1 Q.1).mul (K_mul P.2 Q.2))))
  unfold dd
  exact (h : Z _).of_eq (by grind)
/-- The sum, without a quotient. -/
structure Sum (x1 y1 x2 y2 x y : Int) : Prop where
  x : K (x * (1 + d * x1 * x2 * y1 * y2)) (x1 * y2 + y1 * x2)
  y : K (y * (1 - d * x1 * x2 * y1 * y2)) (y1 * y2 + x1 * x2)
theorem den {P Q : Pt} (hP : On P) (hQ : On Q) : ¬ Z (1 + d * P.1 * Q.1 * P.2 * Q.2) ∧ ¬ Z (1 - d * P.1 * Q.1 * P.2 * Q.2) := by
  refine ⟨fun h => ?_, fun h => complete hP.2.2 hQ.2.2 (e := 1) rfl h⟩
  exact complete hP.2.2 hQ.2.2 (e := -1) rfl ((Z.neg h).of_eq (by grind))
theorem quot {n : Int} {m t : Nat} (hm : K (m : Int) n) (hn : ¬ Z n) : K ((F.mul t (F.inv m) : Nat) * n) t := by
  have h1 := K_inv (hm.no hn)
  have h2 := K_mul t (F.inv m)
  have h3 : K ((t : Int) * (F.inv m : Nat) * m) t := (Z.mul t h1 : Z _).of_eq (by grind)
  exact ((h2.mul hm.symm)).trans h3
theorem add_sum {P Q : Pt} (hP : On P) (hQ : On Q) : Sum P.1 P.2 Q.1 Q.2 (add P Q).1 (add P Q).2 := by
  have hd := den hP hQ
  have k := K_dd P Q
  constructor
  · refine (quot ((K_add 1 (dd P Q)).trans ((K.refl _).add k)) hd.1).trans ?_
    exact (K_add _ _).trans ((K_mul _ _).add (K_mul _ _))
  · refine (quot ((K_sub 1 (dd P Q)).trans ((K.refl _).sub k)) hd.2).trans ?_
    exact (K_add _ _).trans ((K_mul _ _).add (K_mul _ _))
theorem add_lt (P Q : Pt) : (add P Q).1 < F.p ∧ (add P Q).2 < F.p := ⟨F.mul_lt _ _, F.mul_lt _ _⟩
theorem cancel {n a b : Int} (hn : ¬ Z n) (h : K (a * n) (b * n)) : K a b := by
  have : Z (n * (a - b)) := (h : Z _).of_eq (by grind)
  exact (Z.prime this).resolve_left hn
/-- There is one sum. -/
theorem sum_only {P Q R : Pt} (hP : On P) (hQ : On Q) (h1 : R.1 < F.p) (h2 : R.2 < F.p) (h : Sum P.1 P.2 Q.1 Q.2 R.1 R.2) : R = add P Q := by
  have hs := add_sum hP hQ
  have hd := den hP hQ
  have hl := add_lt P Q
  refine Prod.ext ?_ ?_
  · exact (K_eq h1 hl.1).1 (cancel hd.1 (h.x.trans hs.x.symm))
  · exact (K_eq h2 hl.2).1 (cancel hd.2 (h.y.trans hs.y.symm))
theorem sum_closed {x1 y1 x2 y2 x y : Int} (h1 : Z (E x1 y1)) (h2 : Z (E x2 y2)) (h : Sum x1 y1 x2 y2 x y) : Z (E x y) := by
  have n1 : ¬ Z (1 + d * x1 * x2 * y1 * y2) := fun hh => complete h1 h2 (e := -1) rfl ((Z.neg hh).of_eq (by grind))
  have n2 : ¬ Z (1 - d * x1 * x2 * y1 * y2) := complete h1 h2 (e := 1) rfl
  have hx := h.x
  have hy := h.y
  have id := id_c x1 y1 x2 y2 d
  have hz : Z ((y1 * y2 + x1 * x2) ^ 2 * (1 + d * x1 * x2 * y1 * y2) ^ 2 - (x1 * y2 + y1 * x2) ^ 2 * (1 - d * x1 * x2 * y1 * y2) ^ 2 - (1 + d * x1 * x2 * y1 * y2) ^ 2 * (1 - d * x1 * x2 * y1 * y2) ^ 2 - d * (x1 * y2 + y1 * x2) ^ 2 * (y1 * y2 + x1 * x2) ^ 2) := by
    rw [id]
    exact (Z.mul _ h1).add (Z.mul _ h2)
  clear id
  generalize 1 + d * x1 * x2 * y1 * y2 = b at *
  generalize 1 - d * x1 * x2 * y1 * y2 = e at *
  generalize x1 * y2 + y1 * x2 = a at *
  generalize y1 * y2 + x1 * x2 = c at *
  have hx2 := hx.mul hx
  have hy2 := hy.mul hy
  have t1 : K (y * e * (y * e) * (b * b) - x * b * (x * b) * (e * e) - b * b * (e * e) - d * (x * b * (x * b) * (y * e * (y * e)))) (c * c * (b * b) - a * a * (e * e) - b * b * (e * e) - d * (a * a * (c * c))) := (((hy2.mul (K.refl _)).sub (hx2.mul (K.refl _))).sub (K.refl _)).sub ((K.refl _).mul (hx2.mul hy2))
  have t2 : Z (c * c * (b * b) - a * a * (e * e) - b * b * (e * e) - d * (a * a * (c * c))) := hz.of_eq (by grind)
  have t3 : Z (b * (b * (e * (e * E x y)))) := (t1.z t2).of_eq (by unfold E; grind)
  have t4 := (Z.prime t3).resolve_left n1
  have t5 := (Z.prime t4).resolve_left n1
  have t6 := (Z.prime t5).resolve_left n2
  exact (Z.prime t6).resolve_left n2
theorem closed {P Q : Pt} (hP : On P) (hQ : On Q) : On (add P Q) := ⟨(add_lt P Q).1, (add_lt P Q).2, sum_closed hP.2.2 hQ.2.2 (add_sum hP hQ)⟩
theorem add_comm {P Q : Pt} (hP : On P) (hQ : On Q) : add P Q = add Q P := by
  have h := add_sum hP hQ
  refine sum_only hQ hP (add_lt P Q).1 (add_lt P Q).2 ⟨?_, ?_⟩
  · exact (h.x : Z _).of_eq (by grind)
  · exact (h.y : Z _).of_eq (by grind)
theorem zero_on : On zero := ⟨by decide, by decide, by unfold zero E; exact Z.zero⟩
theorem add_zero {P : Pt} (hP : On P) : add P zero = P := by
  refine (sum_only hP zero_on hP.1 hP.2.1 ⟨?_, ?_⟩).symm
  · show K _ _
    unfold zero
    exact (Z.zero).of_eq (by simp)
  · show K _ _
    unfold zero
    exact (Z.zero).of_eq (by simp)
theorem neg_on {P : Pt} (hP : On P) : On (neg P) := by
  refine ⟨F.sub_lt _ _, hP.2.1, ?_⟩
  have k := K_sub 0 P.1
  have h : K (E (F.sub 0 P.1 : Nat) P.2) (E P.1 P.2) := by
    have k2 := k.mul k
    refine (Z.mul (-1 - d * (P.2 : Int) ^ 2) k2 : Z _).of_eq ?_
    unfold E
    grind
  exact h.z hP.2.2
theorem add_neg {P : Pt} (hP : On P) : add P (neg P) = zero := by
  refine (sum_only hP (neg_on hP) (by decide) (by decide) ⟨?_, ?_⟩).symm
  · have k := K_sub 0 P.1
    refine (Z.mul (-(P.2 : Int)) k : Z _).of_eq ?_
    unfold zero neg
    simp only [Int.natCast_zero]
    grind
  · have k := K_sub 0 P.1
    have h := hP.2.2
    refine ((Z.mul (-1) h).add (Z.mul (-(P.1 : Int) - d * P.1 * P.2 * P.2) k) : Z _).of_eq ?_
    unfold zero neg E
    simp only [Int.natCast_zero, Int.natCast_one]
    grind
end Go.Proofs.Ytpnfopakkaoibaa.Cv
