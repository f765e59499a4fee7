/- Texts that were joined: CvId, CMath. -/
import Derived.Test.YtjdamgfichlgpaaRows
import Derived.Test.YtjdamgfichlgpaaGrp8
/- Three identities of polynomials: that the sum of two points of an Edwards curve lies on it, and that of three it does not matter which two come first. Mathematics alone (the factors were found by a program of algebra; that they fit is shown here). -/
namespace Go.Proofs.Ytjdamgfichlgpaa.Cv
set_option maxHeartbeats 4000000 in
theorem id_c (x1 y1 x2 y2 d : Int) : (y1 * y2 + x1 * x2) ^ 2 * (1 + d * x1 * x2 * y1 * y2) ^ 2 - (x1 * y2 + y1 * x2) ^ 2 * (1 - d * x1 * x2 * y1 * y2) ^ 2 - (1 + d * x1 * x2 * y1 * y2) ^ 2 * (1 - d * x1 * x2 * y1 * y2) ^ 2 - d * (x1 * y2 + y1 * x2) ^ 2 * (y1 * y2 + x1 * x2) ^ 2 = (d ^ 3 * x1 ^ 2 * x2 ^ 4 * y1 ^ 2 * y2 ^ 4 - d ^ 2 * x1 ^ 2 * x2 ^ 4 * y2 ^ 4 + d ^ 2 * x2 ^ 4 * y1 ^ 2 * y2 ^ 4 - d ^ 2 * x2 ^ 4 * y2 ^ 4 - d * x1 ^ 2 * x2 ^ 4 * y2 ^ 2 + d * x1 ^ 2 * x2 ^ 2 * y2 ^ 4 + d * x2 ^ 4 * y1 ^ 2 * y2 ^ 2 - 2 * d * x2 ^ 4 * y2 ^ 4 - d * x2 ^ 2 * y1 ^ 2 * y2 ^ 4 - 2 * d * x2 ^ 2 * y2 ^ 2 - 2 * x2 ^ 4 * y2 ^ 2 + x2 ^ 4 + 2 * x2 ^ 2 * y2 ^ 4 - 4 * x2 ^ 2 * y2 ^ 2 + y2 ^ 4) * (y1 ^ 2 - x1 ^ 2 - 1 - d * x1 ^ 2 * y1 ^ 2) + (d * x1 ^ 4 * x2 ^ 2 * y2 ^ 2 + 2 * d * x1 ^ 2 * x2 ^ 2 * y2 ^ 2 + d * x2 ^ 2 * y1 ^ 4 * y2 ^ 2 - 2 * d * x2 ^ 2 * y1 ^ 2 * y2 ^ 2 + d * x2 ^ 2 * y2 ^ 2 + 2 * x1 ^ 2 * x2 ^ 2 * y2 ^ 2 - x1 ^ 2 * x2 ^ 2 + x1 ^ 2 * y2 ^ 2 - 2 * x2 ^ 2 * y1 ^ 2 * y2 ^ 2 + x2 ^ 2 * y1 ^ 2 + 2 * x2 ^ 2 * y2 ^ 2 - x2 ^ 2 - y1 ^ 2 * y2 ^ 2 + y2 ^ 2 + 1) * (y2 ^ 2 - x2 ^ 2 - 1 - d * x2 ^ 2 * y2 ^ 2) := by grind
set_option maxHeartbeats 4000000 in
theorem id_x (x1 y1 x2 y2 x3 y3 d : Int) : ((x1 * y2 + y1 * x2) * (1 - d * x1 * x2 * y1 * y2) * y3 + (y1 * y2 + x1 * x2) * (1 + d * x1 * x2 * y1 * y2) * x3) * ((1 + d * x2 * x3 * y2 * y3) * (1 - d * x2 * x3 * y2 * y3) + d * x1 * y1 * (x2 * y3 + y2 * x3) * (y2 * y3 + x2 * x3)) - (x1 * (y2 * y3 + x2 * x3) * (1 + d * x2 * x3 * y2 * y3) + y1 * (x2 * y3 + y2 * x3) * (1 - d * x2 * x3 * y2 * y3)) * ((1 + d * x1 * x2 * y1 * y2) * (1 - d * x1 * x2 * y1 * y2) + d * (x1 * y2 + y1 * x2) * (y1 * y2 + x1 * x2) * x3 * y3) = (-d * x2 * y2 * (d * x1 * x2 ^ 3 * x3 ^ 2 * y2 ^ 2 * y3 + d * x1 * x2 ^ 2 * x3 * y2 ^ 3 * y3 ^ 2 - d * x2 ^ 3 * x3 * y1 * y2 ^ 2 * y3 ^ 2 - d * x2 ^ 2 * x3 ^ 2 * y1 * y2 ^ 3 * y3 + x1 * x2 ^ 3 * x3 ^ 2 * y3 + x1 * x2 ^ 2 * x3 ^ 3 * y2 + x1 * x2 ^ 2 * x3 * y2 - x1 * x2 * y2 ^ 2 * y3 ^ 3 + x1 * x2 * y2 ^ 2 * y3 - x1 * x3 * y2 ^ 3 * y3 ^ 2 - x2 ^ 3 * x3 * y1 * y3 ^ 2 - x2 ^ 2 * y1 * y2 * y3 ^ 3 + x2 ^ 2 * y1 * y2 * y3 + x2 * x3 ^ 3 * y1 * y2 ^ 2 + x2 * x3 * y1 * y2 ^ 2 + x3 ^ 2 * y1 * y2 ^ 3 * y3)) * (y1 ^ 2 - x1 ^ 2 - 1 - d * x1 ^ 2 * y1 ^ 2) + (d ^ 2 * x1 ^ 2 * x2 ^ 2 * x3 ^ 3 * y1 * y2 * y3 ^ 2 - d ^ 2 * x1 ^ 2 * x2 * x3 ^ 2 * y1 * y2 ^ 2 * y3 ^ 3 - d ^ 2 * x1 * x2 ^ 2 * x3 ^ 2 * y1 ^ 2 * y2 * y3 ^ 3 + d ^ 2 * x1 * x2 * x3 ^ 3 * y1 ^ 2 * y2 ^ 2 * y3 ^ 2 + d * x1 ^ 3 * x2 ^ 2 * x3 ^ 2 * y2 * y3 + d * x1 ^ 3 * x2 * x3 ^ 3 * y3 ^ 2 + d * x1 ^ 3 * x2 * x3 * y2 ^ 2 * y3 ^ 2 + d * x1 ^ 3 * x3 ^ 2 * y2 * y3 ^ 3 - d * x1 ^ 2 * x2 ^ 2 * x3 * y1 * y2 * y3 ^ 2 - d * x1 ^ 2 * x2 * x3 ^ 2 * y1 * y2 ^ 2 * y3 + d * x1 ^ 2 * x2 * x3 ^ 2 * y1 * y3 ^ 3 + d * x1 ^ 2 * x3 ^ 3 * y1 * y2 * y3 ^ 2 - d * x1 * x2 ^ 2 * x3 ^ 2 * y1 ^ 2 * y2 * y3 + d * x1 * x2 ^ 2 * x3 ^ 2 * y2 * y3 - d * x1 * x2 * x3 ^ 3 * y1 ^ 2 * y3 ^ 2 + d * x1 * x2 * x3 ^ 3 * y3 ^ 2 - d * x1 * x2 * x3 * y1 ^ 2 * y2 ^ 2 * y3 ^ 2 + d * x1 * x2 * x3 * y2 ^ 2 * y3 ^ 2 - d * x1 * x3 ^ 2 * y1 ^ 2 * y2 * y3 ^ 3 + d * x1 * x3 ^ 2 * y2 * y3 ^ 3 + d * x2 ^ 2 * x3 * y1 ^ 3 * y2 * y3 ^ 2 - d * x2 ^ 2 * x3 * y1 * y2 * y3 ^ 2 + d * x2 * x3 ^ 2 * y1 ^ 3 * y2 ^ 2 * y3 - d * x2 * x3 ^ 2 * y1 ^ 3 * y3 ^ 3 - d * x2 * x3 ^ 2 * y1 * y2 ^ 2 * y3 + d * x2 * x3 ^ 2 * y1 * y3 ^ 3 - d * x3 ^ 3 * y1 ^ 3 * y2 * y3 ^ 2 + d * x3 ^ 3 * y1 * y2 * y3 ^ 2 + x1 ^ 3 * x2 * x3 ^ 3 - x1 ^ 3 * x2 * x3 * y3 ^ 2 + x1 ^ 3 * x2 * x3 + x1 ^ 3 * x3 ^ 2 * y2 * y3 - x1 ^ 3 * y2 * y3 ^ 3 + x1 ^ 3 * y2 * y3 + x1 ^ 2 * x2 * x3 ^ 2 * y1 * y3 - x1 ^ 2 * x2 * y1 * y3 ^ 3 + x1 ^ 2 * x2 * y1 * y3 + x1 ^ 2 * x3 ^ 3 * y1 * y2 - x1 ^ 2 * x3 * y1 * y2 * y3 ^ 2 + x1 ^ 2 * x3 * y1 * y2 - x1 * x2 * x3 ^ 3 * y1 ^ 2 + x1 * x2 * x3 ^ 3 + x1 * x2 * x3 * y1 ^ 2 * y3 ^ 2 - x1 * x2 * x3 * y1 ^ 2 - x1 * x2 * x3 * y3 ^ 2 + x1 * x2 * x3 - x1 * x3 ^ 2 * y1 ^ 2 * y2 * y3 + x1 * x3 ^ 2 * y2 * y3 + x1 * y1 ^ 2 * y2 * y3 ^ 3 - x1 * y1 ^ 2 * y2 * y3 - x1 * y2 * y3 ^ 3 + x1 * y2 * y3 - x2 * x3 ^ 2 * y1 ^ 3 * y3 + x2 * x3 ^ 2 * y1 * y3 + x2 * y1 ^ 3 * y3 ^ 3 - x2 * y1 ^ 3 * y3 - x2 * y1 * y3 ^ 3 + x2 * y1 * y3 - x3 ^ 3 * y1 ^ 3 * y2 + x3 ^ 3 * y1 * y2 + x3 * y1 ^ 3 * y2 * y3 ^ 2 - x3 * y1 ^ 3 * y2 - x3 * y1 * y2 * y3 ^ 2 + x3 * y1 * y2) * (y2 ^ 2 - x2 ^ 2 - 1 - d * x2 ^ 2 * y2 ^ 2) + (-d * x1 ^ 2 * x2 ^ 2 * x3 * y1 * y2 + d * x1 ^ 2 * x2 * y1 * y2 ^ 2 * y3 + d * x1 * x2 ^ 2 * y1 ^ 2 * y2 * y3 - d * x1 * x2 * x3 * y1 ^ 2 * y2 ^ 2 - x1 ^ 3 * x2 ^ 3 * x3 - x1 ^ 3 * x2 ^ 2 * y2 * y3 + x1 ^ 3 * x2 * x3 * y2 ^ 2 - x1 ^ 3 * x2 * x3 + x1 ^ 3 * y2 ^ 3 * y3 - x1 ^ 3 * y2 * y3 - x1 ^ 2 * x2 ^ 3 * y1 * y3 - x1 ^ 2 * x2 ^ 2 * x3 * y1 * y2 + x1 ^ 2 * x2 * y1 * y2 ^ 2 * y3 - x1 ^ 2 * x2 * y1 * y3 + x1 ^ 2 * x3 * y1 * y2 ^ 3 - x1 ^ 2 * x3 * y1 * y2 + x1 * x2 ^ 3 * x3 * y1 ^ 2 - x1 * x2 ^ 3 * x3 + x1 * x2 ^ 2 * y1 ^ 2 * y2 * y3 - x1 * x2 ^ 2 * y2 * y3 - x1 * x2 * x3 * y1 ^ 2 * y2 ^ 2 + x1 * x2 * x3 * y1 ^ 2 + x1 * x2 * x3 * y2 ^ 2 - x1 * x2 * x3 - x1 * y1 ^ 2 * y2 ^ 3 * y3 + x1 * y1 ^ 2 * y2 * y3 + x1 * y2 ^ 3 * y3 - x1 * y2 * y3 + x2 ^ 3 * y1 ^ 3 * y3 - x2 ^ 3 * y1 * y3 + x2 ^ 2 * x3 * y1 ^ 3 * y2 - x2 ^ 2 * x3 * y1 * y2 - x2 * y1 ^ 3 * y2 ^ 2 * y3 + x2 * y1 ^ 3 * y3 + x2 * y1 * y2 ^ 2 * y3 - x2 * y1 * y3 - x3 * y1 ^ 3 * y2 ^ 3 + x3 * y1 ^ 3 * y2 + x3 * y1 * y2 ^ 3 - x3 * y1 * y2) * (y3 ^ 2 - x3 ^ 2 - 1 - d * x3 ^ 2 * y3 ^ 2) := by grind
set_option maxHeartbeats 4000000 in
theorem id_y (x1 y1 x2 y2 x3 y3 d : Int) : ((y1 * y2 + x1 * x2) * (1 + d * x1 * x2 * y1 * y2) * y3 + (x1 * y2 + y1 * x2) * (1 - d * x1 * x2 * y1 * y2) * x3) * ((1 + d * x2 * x3 * y2 * y3) * (1 - d * x2 * x3 * y2 * y3) - d * x1 * y1 * (x2 * y3 + y2 * x3) * (y2 * y3 + x2 * x3)) - (y1 * (y2 * y3 + x2 * x3) * (1 + d * x2 * x3 * y2 * y3) + x1 * (x2 * y3 + y2 * x3) * (1 - d * x2 * x3 * y2 * y3)) * ((1 + d * x1 * x2 * y1 * y2) * (1 - d * x1 * x2 * y1 * y2) - d * (x1 * y2 + y1 * x2) * (y1 * y2 + x1 * x2) * x3 * y3) = (d * x2 * y2 * (d * x1 * x2 ^ 3 * x3 * y2 ^ 2 * y3 ^ 2 + d * x1 * x2 ^ 2 * x3 ^ 2 * y2 ^ 3 * y3 - d * x2 ^ 3 * x3 ^ 2 * y1 * y2 ^ 2 * y3 - d * x2 ^ 2 * x3 * y1 * y2 ^ 3 * y3 ^ 2 + x1 * x2 ^ 3 * x3 * y3 ^ 2 + x1 * x2 ^ 2 * y2 * y3 ^ 3 - x1 * x2 ^ 2 * y2 * y3 - x1 * x2 * x3 ^ 3 * y2 ^ 2 - x1 * x2 * x3 * y2 ^ 2 - x1 * x3 ^ 2 * y2 ^ 3 * y3 - x2 ^ 3 * x3 ^ 2 * y1 * y3 - x2 ^ 2 * x3 ^ 3 * y1 * y2 - x2 ^ 2 * x3 * y1 * y2 + x2 * y1 * y2 ^ 2 * y3 ^ 3 - x2 * y1 * y2 ^ 2 * y3 + x3 * y1 * y2 ^ 3 * y3 ^ 2)) * (y1 ^ 2 - x1 ^ 2 - 1 - d * x1 ^ 2 * y1 ^ 2) + (d ^ 2 * x1 ^ 2 * x2 ^ 2 * x3 ^ 2 * y1 * y2 * y3 ^ 3 - d ^ 2 * x1 ^ 2 * x2 * x3 ^ 3 * y1 * y2 ^ 2 * y3 ^ 2 - d ^ 2 * x1 * x2 ^ 2 * x3 ^ 3 * y1 ^ 2 * y2 * y3 ^ 2 + d ^ 2 * x1 * x2 * x3 ^ 2 * y1 ^ 2 * y2 ^ 2 * y3 ^ 3 - d * x1 ^ 3 * x2 ^ 2 * x3 * y2 * y3 ^ 2 - d * x1 ^ 3 * x2 * x3 ^ 2 * y2 ^ 2 * y3 + d * x1 ^ 3 * x2 * x3 ^ 2 * y3 ^ 3 + d * x1 ^ 3 * x3 ^ 3 * y2 * y3 ^ 2 + d * x1 ^ 2 * x2 ^ 2 * x3 ^ 2 * y1 * y2 * y3 + d * x1 ^ 2 * x2 * x3 ^ 3 * y1 * y3 ^ 2 + d * x1 ^ 2 * x2 * x3 * y1 * y2 ^ 2 * y3 ^ 2 + d * x1 ^ 2 * x3 ^ 2 * y1 * y2 * y3 ^ 3 + d * x1 * x2 ^ 2 * x3 * y1 ^ 2 * y2 * y3 ^ 2 - d * x1 * x2 ^ 2 * x3 * y2 * y3 ^ 2 + d * x1 * x2 * x3 ^ 2 * y1 ^ 2 * y2 ^ 2 * y3 - d * x1 * x2 * x3 ^ 2 * y1 ^ 2 * y3 ^ 3 - d * x1 * x2 * x3 ^ 2 * y2 ^ 2 * y3 + d * x1 * x2 * x3 ^ 2 * y3 ^ 3 - d * x1 * x3 ^ 3 * y1 ^ 2 * y2 * y3 ^ 2 + d * x1 * x3 ^ 3 * y2 * y3 ^ 2 - d * x2 ^ 2 * x3 ^ 2 * y1 ^ 3 * y2 * y3 + d * x2 ^ 2 * x3 ^ 2 * y1 * y2 * y3 - d * x2 * x3 ^ 3 * y1 ^ 3 * y3 ^ 2 + d * x2 * x3 ^ 3 * y1 * y3 ^ 2 - d * x2 * x3 * y1 ^ 3 * y2 ^ 2 * y3 ^ 2 + d * x2 * x3 * y1 * y2 ^ 2 * y3 ^ 2 - d * x3 ^ 2 * y1 ^ 3 * y2 * y3 ^ 3 + d * x3 ^ 2 * y1 * y2 * y3 ^ 3 + x1 ^ 3 * x2 * x3 ^ 2 * y3 - x1 ^ 3 * x2 * y3 ^ 3 + x1 ^ 3 * x2 * y3 + x1 ^ 3 * x3 ^ 3 * y2 - x1 ^ 3 * x3 * y2 * y3 ^ 2 + x1 ^ 3 * x3 * y2 + x1 ^ 2 * x2 * x3 ^ 3 * y1 - x1 ^ 2 * x2 * x3 * y1 * y3 ^ 2 + x1 ^ 2 * x2 * x3 * y1 + x1 ^ 2 * x3 ^ 2 * y1 * y2 * y3 - x1 ^ 2 * y1 * y2 * y3 ^ 3 + x1 ^ 2 * y1 * y2 * y3 - x1 * x2 * x3 ^ 2 * y1 ^ 2 * y3 + x1 * x2 * x3 ^ 2 * y3 + x1 * x2 * y1 ^ 2 * y3 ^ 3 - x1 * x2 * y1 ^ 2 * y3 - x1 * x2 * y3 ^ 3 + x1 * x2 * y3 - x1 * x3 ^ 3 * y1 ^ 2 * y2 + x1 * x3 ^ 3 * y2 + x1 * x3 * y1 ^ 2 * y2 * y3 ^ 2 - x1 * x3 * y1 ^ 2 * y2 - x1 * x3 * y2 * y3 ^ 2 + x1 * x3 * y2 - x2 * x3 ^ 3 * y1 ^ 3 + x2 * x3 ^ 3 * y1 + x2 * x3 * y1 ^ 3 * y3 ^ 2 - x2 * x3 * y1 ^ 3 - x2 * x3 * y1 * y3 ^ 2 + x2 * x3 * y1 - x3 ^ 2 * y1 ^ 3 * y2 * y3 + x3 ^ 2 * y1 * y2 * y3 + y1 ^ 3 * y2 * y3 ^ 3 - y1 ^ 3 * y2 * y3 - y1 * y2 * y3 ^ 3 + y1 * y2 * y3) * (y2 ^ 2 - x2 ^ 2 - 1 - d * x2 ^ 2 * y2 ^ 2) + (-d * x1 ^ 2 * x2 ^ 2 * y1 * y2 * y3 + d * x1 ^ 2 * x2 * x3 * y1 * y2 ^ 2 + d * x1 * x2 ^ 2 * x3 * y1 ^ 2 * y2 - d * x1 * x2 * y1 ^ 2 * y2 ^ 2 * y3 - x1 ^ 3 * x2 ^ 3 * y3 - x1 ^ 3 * x2 ^ 2 * x3 * y2 + x1 ^ 3 * x2 * y2 ^ 2 * y3 - x1 ^ 3 * x2 * y3 + x1 ^ 3 * x3 * y2 ^ 3 - x1 ^ 3 * x3 * y2 - x1 ^ 2 * x2 ^ 3 * x3 * y1 - x1 ^ 2 * x2 ^ 2 * y1 * y2 * y3 + x1 ^ 2 * x2 * x3 * y1 * y2 ^ 2 - x1 ^ 2 * x2 * x3 * y1 + x1 ^ 2 * y1 * y2 ^ 3 * y3 - x1 ^ 2 * y1 * y2 * y3 + x1 * x2 ^ 3 * y1 ^ 2 * y3 - x1 * x2 ^ 3 * y3 + x1 * x2 ^ 2 * x3 * y1 ^ 2 * y2 - x1 * x2 ^ 2 * x3 * y2 - x1 * x2 * y1 ^ 2 * y2 ^ 2 * y3 + x1 * x2 * y1 ^ 2 * y3 + x1 * x2 * y2 ^ 2 * y3 - x1 * x2 * y3 - x1 * x3 * y1 ^ 2 * y2 ^ 3 + x1 * x3 * y1 ^ 2 * y2 + x1 * x3 * y2 ^ 3 - x1 * x3 * y2 + x2 ^ 3 * x3 * y1 ^ 3 - x2 ^ 3 * x3 * y1 + x2 ^ 2 * y1 ^ 3 * y2 * y3 - x2 ^ 2 * y1 * y2 * y3 - x2 * x3 * y1 ^ 3 * y2 ^ 2 + x2 * x3 * y1 ^ 3 + x2 * x3 * y1 * y2 ^ 2 - x2 * x3 * y1 - y1 ^ 3 * y2 ^ 3 * y3 + y1 ^ 3 * y2 * y3 + y1 * y2 ^ 3 * y3 - y1 * y2 * y3) * (y3 ^ 2 - x3 ^ 2 - 1 - d * x3 ^ 2 * y3 ^ 2) := by grind
end Go.Proofs.Ytjdamgfichlgpaa.Cv

/- Points of the curve y*y - x*x = 1 + d*x*x*y*y modulo 2^255 - 19: that they make a group. Mathematics alone. -/
namespace Go.Proofs.Ytjdamgfichlgpaa.Cv
open Go.Proofs.Ytjdamgfichlgpaa
/-- -121665/121666. -/
def d : Nat := 37095705934669439343138083508754565189542113879843219016388785533085940283555
theorem d_lt : d < F.p := by decide
theorem d_is : F.add (F.mul d 121666) 121665 = 0 := by decide +kernel
theorem d_chi : F.chi d = F.p - 1 := (F.chi_pw d).trans (by decide +kernel)
theorem d_no : ¬ ∃ r, F.mul r r = d % F.p := fun h => by
  have := (F.ok_iff d).2 h
  unfold F.ok at this
  rw [d_chi] at this
  simp at this
/-- A multiple of p. -/
def Z (a : Int) : Prop := (F.p : Int) ∣ a
theorem Z.add {a b : Int} (ha : Z a) (hb : Z b) : Z (a + b) := Int.dvd_add ha hb
theorem Z.sub {a b : Int} (ha : Z a) (hb : Z b) : Z (a - b) := Int.dvd_sub ha hb
theorem Z.neg {a : Int} (ha : Z a) : Z (-a) := (Int.dvd_neg).2 ha
theorem Z.mul (c : Int) {a : Int} (ha : Z a) : Z (c * a) := Int.dvd_trans ha (Int.dvd_mul_left _ _)
theorem Z.zero : Z 0 := Int.dvd_zero _
theorem Z.prime {a b : Int} (h : Z (a * b)) : Z a ∨ Z b := by
  have h2 : F.p ∣ a.natAbs * b.natAbs := by rw [← Int.natAbs_mul]; exact Int.ofNat_dvd_left.1 h
  rcases F.pr.euclid h2 with h | h
  · exact .inl (Int.ofNat_dvd_left.2 h)
  · exact .inr (Int.ofNat_dvd_left.2 h)
theorem Z.of_eq {a b : Int} (h : Z a) (e : b = a) : Z b := by rw [e]; exact h
theorem Z_nat (n : Nat) : Z (n : Int) ↔ n % F.p = 0 := by
  unfold Z
  rw [Int.natCast_dvd_natCast]
  exact Nat.dvd_iff_mod_eq_zero ..
theorem Z_eq {m n : Nat} : Z ((m : Int) - n) ↔ m % F.p = n % F.p := by
  have e : Z ((m : Int) - n) ↔ (m : Int) % F.p = (n : Int) % F.p := (Int.dvd_iff_emod_eq_zero).trans Int.emod_eq_emod_iff_emod_sub_eq_zero.symm
  rw [e, ← Int.natCast_emod, ← Int.natCast_emod]
  exact Int.ofNat_inj
theorem one_no : ¬ Z 1 := fun h => by
  have : Z ((1 : Nat) : Int) := h
  rw [Z_nat] at this
  exact absurd this (by decide)
theorem two_no : ¬ Z 2 := fun h => by
  have : Z ((2 : Nat) : Int) := h
  rw [Z_nat] at this
  exact absurd this (by decide)
/-- Congruence. -/
def K (a b : Int) : Prop := Z (a - b)
theorem K.refl (a : Int) : K a a := by unfold K; rw [Int.sub_self]; exact Z.zero
theorem K.symm {a b : Int} (h : K a b) : K b a := (Z.neg h).of_eq (by omega)
theorem K.trans {a b c : Int} (h : K a b) (h' : K b c) : K a c := (Z.add h h').of_eq (by omega)
theorem K.add {a b a' b' : Int} (h : K a b) (h' : K a' b') : K (a + a') (b + b') := (Z.add h h').of_eq (by omega)
theorem K.sub {a b a' b' : Int} (h : K a b) (h' : K a' b') : K (a - a') (b - b') := (Z.sub h h').of_eq (by omega)
theorem K.mul {a b a' b' : Int} (h : K a b) (h' : K a' b') : K (a * a') (b * b') := (Z.add (Z.mul a' h) (Z.mul b h')).of_eq (by grind)
theorem K.z {a b : Int} (h : K a b) (hb : Z b) : Z a := (Z.add h hb).of_eq (by omega)
theorem K.no {a b : Int} (h : K a b) (hb : ¬ Z b) : ¬ Z a := fun ha => hb (h.symm.z ha)
theorem K_eq {m n : Nat} (hm : m < F.p) (hn : n < F.p) : K (m : Int) n ↔ m = n := by
  unfold K
  rw [Z_eq, Nat.mod_eq_of_lt hm, Nat.mod_eq_of_lt hn]
theorem K_mod (n : Nat) : K ((n % F.p : Nat) : Int) n := Z_eq.2 (Nat.mod_mod _ _)
theorem K_mul (a b : Nat) : K (F.mul a b : Nat) ((a : Int) * b) := by
  have := K_mod (a * b)
  rwa [Int.natCast_mul] at this
theorem K_add (a b : Nat) : K (F.add a b : Nat) ((a : Int) + b) := by
  have := K_mod (a + b)
  rwa [Int.natCast_add] at this
theorem K_sub (a b : Nat) : K (F.sub a b : Nat) ((a : Int) - b) := by
  have h := F.sub_add a b
  have h1 := K_add (F.sub a b) b
  rw [h] at h1
  exact ((K_mod a).symm.trans h1 |>.sub (K.refl (b : Int))).symm.trans (K.refl _) |>.symm |> fun h => (Z.neg h).of_eq (by omega)
theorem K_inv {a : Nat} (h : ¬ Z (a : Int)) : K ((a : Int) * (F.inv a : Nat)) 1 := by
  have h0 : a % F.p ≠ 0 := fun e => h ((Z_nat a).2 e)
  have := K_mul a (F.inv a)
  rw [F.mul_inv h0] at this
  exact this.symm
/-- What is not a multiple of p has an inverse. -/
theorem inv_of {t : Int} (h : ¬ Z t) : ∃ w : Int, K (t * w) 1 := by
  obtain ⟨n, hn⟩ : ∃ n : Nat, K (n : Int) t := by
    have hp : (0 : Int) < F.p := by have := F.p_pos; omega
    refine ⟨(t % F.p).toNat, ?_⟩
    rw [Int.toNat_of_nonneg (Int.emod_nonneg _ (by omega))]
    have e := Int.mul_ediv_add_emod t F.p
    refine ⟨-(t / F.p), ?_⟩
    rw [Int.mul_neg]
    omega
  have hz : ¬ Z (n : Int) := fun hh => h (hn.symm.z hh)
  exact ⟨_, (hn.symm.mul (K.refl _)).trans (K_inv hz)⟩
/-- d is no square. -/
theorem d_sq (r t : Int) (h : Z (r * r - d * (t * t))) : Z t := by
  refine Classical.byContradiction fun ht => ?_
  obtain ⟨w, hw⟩ := inv_of ht
  have h1 : K (r * w * (r * w)) d := (Z.add (Z.mul (w * w) h) (Z.mul (d * (t * w + 1)) hw)).of_eq (by grind)
  have hp : (0 : Int) < F.p := by have := F.p_pos; omega
  obtain ⟨n, hn⟩ : ∃ n : Nat, K (n : Int) (r * w) := by
    refine ⟨(r * w % F.p).toNat, ?_⟩
    rw [Int.toNat_of_nonneg (Int.emod_nonneg _ (by omega))]
    have e := Int.mul_ediv_add_emod (r * w) F.p
    refine ⟨-(r * w / F.p), ?_⟩
    rw [Int.mul_neg]
    generalize r * w = rw' at *
    omega
  refine d_no ⟨n, ?_⟩
  have h2 : K (F.mul n n : Nat) d := (K_mul n n).trans ((hn.mul hn).trans h1)
  have := (K_eq (F.mul_lt n n) d_lt).1 h2
  rw [this, Nat.mod_eq_of_lt d_lt]
theorem im_z : Z ((F.im : Int) * F.im + 1) := by
  have h := K_mul F.im F.im
  rw [F.im_sq] at h
  have h2 : K ((F.p - 1 : Nat) : Int) (-1) := by
    refine ⟨1, ?_⟩
    have := F.p_pos
    omega
  exact (h.symm.trans h2 : Z _).of_eq (by omega)
/-- The left side less the right one. -/
abbrev E (x y : Int) : Int := y ^ 2 - x ^ 2 - 1 - d * x ^ 2 * y ^ 2
/-- What is divided by is never 0. -/
theorem complete {x1 y1 x2 y2 e : Int} (h1 : Z (E x1 y1)) (h2 : Z (E x2 y2)) (he : e * e = 1) : ¬ Z (e - d * x1 * x2 * y1 * y2) := by
  intro hD
  obtain ⟨i, hi⟩ : ∃ i : Int, Z (i * i + 1) := ⟨_, im_z⟩
  have hx : ∀ u, Z (u * (d * x1 * x2 * y1 * y2)) → Z u := fun u hu => by
    have : Z (u * e) := (Z.add (Z.mul u hD) hu).of_eq (by grind)
    have : Z (e * (u * e)) := Z.mul e this
    exact this.of_eq (by rw [← Int.mul_one u, ← he]; grind)
  have no : ∀ u, Z u → Z (d * x1 * x2 * y1 * y2) → False := fun u _ hd => one_no (hx 1 (by rw [Int.one_mul]; exact hd))
  have hxy : ¬ Z (x1 * y1) := fun h => no _ h ((Z.mul (d * x2 * y2) h).of_eq (by grind))
  have hy2 : ¬ Z y2 := fun h => no _ h ((Z.mul (d * x1 * x2 * y1) h).of_eq (by grind))
  have key : ∀ j : Int, Z (j * j + 1) → Z (y2 + j * x2) := fun j hj => by
    have hs : Z ((y1 + e * j * x1) * (y1 + e * j * x1) - d * ((x1 * y1 * (y2 + j * x2)) * (x1 * y1 * (y2 + j * x2)))) := by
      have a1 := Z.sub h1 (Z.mul (d * x1 ^ 2 * y1 ^ 2) h2)
      have a2 := Z.mul (e + d * x1 * x2 * y1 * y2 + 2 * j * x1 * y1) hD
      have a3 := Z.mul (x1 ^ 2 - d * x1 ^ 2 * y1 ^ 2 * x2 ^ 2) hj
      refine ((a1.add a2).add a3).of_eq ?_
      unfold E
      grind
    have := d_sq _ _ hs
    exact (Z.prime this).resolve_left hxy
  have k1 := key i hi
  have k2 := key (-i) (hi.of_eq (by grind))
  have : Z (2 * y2) := (k1.add k2).of_eq (by grind)
  rcases Z.prime this with h | h
  · exact two_no h
  · exact hy2 h
end Go.Proofs.Ytjdamgfichlgpaa.Cv
