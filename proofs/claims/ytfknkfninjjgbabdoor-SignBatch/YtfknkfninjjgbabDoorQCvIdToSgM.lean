/- Texts that were joined: CvId, CMath, CGrp, CAss, CPack, CProj, COrd, SgM. -/
import Derived.Test.YtfknkfninjjgbabDoorRows
import Derived.Test.YtfknkfninjjgbabDoorQFMathToIB
import Derived.Test.YtfknkfninjjgbabDoorQMulWToAdN
/- Three identities of polynomials: that the sum of two points of an Edwards curve lies on it, and that of three it does not matter which two come first. Mathematics alone (the factors were found by a program of algebra; that they fit is shown here). -/
namespace Go.Proofs.YtfknkfninjjgbabDoor.Cv
set_option maxHeartbeats 4000000 in
theorem id_c (x1 y1 x2 y2 d : Int) : (y1 * y2 + x1 * x2) ^ 2 * (1 + d * x1 * x2 * y1 * y2) ^ 2 - (x1 * y2 + y1 * x2) ^ 2 * (1 - d * x1 * x2 * y1 * y2) ^ 2 - (1 + d * x1 * x2 * y1 * y2) ^ 2 * (1 - d * x1 * x2 * y1 * y2) ^ 2 - d * (x1 * y2 + y1 * x2) ^ 2 * (y1 * y2 + x1 * x2) ^ 2 = (d ^ 3 * x1 ^ 2 * x2 ^ 4 * y1 ^ 2 * y2 ^ 4 - d ^ 2 * x1 ^ 2 * x2 ^ 4 * y2 ^ 4 + d ^ 2 * x2 ^ 4 * y1 ^ 2 * y2 ^ 4 - d ^ 2 * x2 ^ 4 * y2 ^ 4 - d * x1 ^ 2 * x2 ^ 4 * y2 ^ 2 + d * x1 ^ 2 * x2 ^ 2 * y2 ^ 4 + d * x2 ^ 4 * y1 ^ 2 * y2 ^ 2 - 2 * d * x2 ^ 4 * y2 ^ 4 - d * x2 ^ 2 * y1 ^ 2 * y2 ^ 4 - 2 * d * x2 ^ 2 * y2 ^ 2 - 2 * x2 ^ 4 * y2 ^ 2 + x2 ^ 4 + 2 * x2 ^ 2 * y2 ^ 4 - 4 * x2 ^ 2 * y2 ^ 2 + y2 ^ 4) * (y1 ^ 2 - x1 ^ 2 - 1 - d * x1 ^ 2 * y1 ^ 2) + (d * x1 ^ 4 * x2 ^ 2 * y2 ^ 2 + 2 * d * x1 ^ 2 * x2 ^ 2 * y2 ^ 2 + d * x2 ^ 2 * y1 ^ 4 * y2 ^ 2 - 2 * d * x2 ^ 2 * y1 ^ 2 * y2 ^ 2 + d * x2 ^ 2 * y2 ^ 2 + 2 * x1 ^ 2 * x2 ^ 2 * y2 ^ 2 - x1 ^ 2 * x2 ^ 2 + x1 ^ 2 * y2 ^ 2 - 2 * x2 ^ 2 * y1 ^ 2 * y2 ^ 2 + x2 ^ 2 * y1 ^ 2 + 2 * x2 ^ 2 * y2 ^ 2 - x2 ^ 2 - y1 ^ 2 * y2 ^ 2 + y2 ^ 2 + 1) * (y2 ^ 2 - x2 ^ 2 - 1 - d * x2 ^ 2 * y2 ^ 2) := by grind
set_option maxHeartbeats 4000000 in
theorem id_x (x1 y1 x2 y2 x3 y3 d : Int) : ((x1 * y2 + y1 * x2) * (1 - d * x1 * x2 * y1 * y2) * y3 + (y1 * y2 + x1 * x2) * (1 + d * x1 * x2 * y1 * y2) * x3) * ((1 + d * x2 * x3 * y2 * y3) * (1 - d * x2 * x3 * y2 * y3) + d * x1 * y1 * (x2 * y3 + y2 * x3) * (y2 * y3 + x2 * x3)) - (x1 * (y2 * y3 + x2 * x3) * (1 + d * x2 * x3 * y2 * y3) + y1 * (x2 * y3 + y2 * x3) * (1 - d * x2 * x3 * y2 * y3)) * ((1 + d * x1 * x2 * y1 * y2) * (1 - d * x1 * x2 * y1 * y2) + d * (x1 * y2 + y1 * x2) * (y1 * y2 + x1 * x2) * x3 * y3) = (-d * x2 * y2 * (d * x1 * x2 ^ 3 * x3 ^ 2 * y2 ^ 2 * y3 + d * x1 * x2 ^ 2 * x3 * y2 ^ 3 * y3 ^ 2 - d * x2 ^ 3 * x3 * y1 * y2 ^ 2 * y3 ^ 2 - d * x2 ^ 2 * x3 ^ 2 * y1 * y2 ^ 3 * y3 + x1 * x2 ^ 3 * x3 ^ 2 * y3 + x1 * x2 ^ 2 * x3 ^ 3 * y2 + x1 * x2 ^ 2 * x3 * y2 - x1 * x2 * y2 ^ 2 * y3 ^ 3 + x1 * x2 * y2 ^ 2 * y3 - x1 * x3 * y2 ^ 3 * y3 ^ 2 - x2 ^ 3 * x3 * y1 * y3 ^ 2 - x2 ^ 2 * y1 * y2 * y3 ^ 3 + x2 ^ 2 * y1 * y2 * y3 + x2 * x3 ^ 3 * y1 * y2 ^ 2 + x2 * x3 * y1 * y2 ^ 2 + x3 ^ 2 * y1 * y2 ^ 3 * y3)) * (y1 ^ 2 - x1 ^ 2 - 1 - d * x1 ^ 2 * y1 ^ 2) + (d ^ 2 * x1 ^ 2 * x2 ^ 2 * x3 ^ 3 * y1 * y2 * y3 ^ 2 - d ^ 2 * x1 ^ 2 * x2 * x3 ^ 2 * y1 * y2 ^ 2 * y3 ^ 3 - d ^ 2 * x1 * x2 ^ 2 * x3 ^ 2 * y1 ^ 2 * y2 * y3 ^ 3 + d ^ 2 * x1 * x2 * x3 ^ 3 * y1 ^ 2 * y2 ^ 2 * y3 ^ 2 + d * x1 ^ 3 * x2 ^ 2 * x3 ^ 2 * y2 * y3 + d * x1 ^ 3 * x2 * x3 ^ 3 * y3 ^ 2 + d * x1 ^ 3 * x2 * x3 * y2 ^ 2 * y3 ^ 2 + d * x1 ^ 3 * x3 ^ 2 * y2 * y3 ^ 3 - d * x1 ^ 2 * x2 ^ 2 * x3 * y1 * y2 * y3 ^ 2 - d * x1 ^ 2 * x2 * x3 ^ 2 * y1 * y2 ^ 2 * y3 + d * x1 ^ 2 * x2 * x3 ^ 2 * y1 * y3 ^ 3 + d * x1 ^ 2 * x3 ^ 3 * y1 * y2 * y3 ^ 2 - d * x1 * x2 ^ 2 * x3 ^ 2 * y1 ^ 2 * y2 * y3 + d * x1 * x2 ^ 2 * x3 ^ 2 * y2 * y3 - d * x1 * x2 * x3 ^ 3 * y1 ^ 2 * y3 ^ 2 + d * x1 * x2 * x3 ^ 3 * y3 ^ 2 - d * x1 * x2 * x3 * y1 ^ 2 * y2 ^ 2 * y3 ^ 2 + d * x1 * x2 * x3 * y2 ^ 2 * y3 ^ 2 - d * x1 * x3 ^ 2 * y1 ^ 2 * y2 * y3 ^ 3 + d * x1 * x3 ^ 2 * y2 * y3 ^ 3 + d * x2 ^ 2 * x3 * y1 ^ 3 * y2 * y3 ^ 2 - d * x2 ^ 2 * x3 * y1 * y2 * y3 ^ 2 + d * x2 * x3 ^ 2 * y1 ^ 3 * y2 ^ 2 * y3 - d * x2 * x3 ^ 2 * y1 ^ 3 * y3 ^ 3 - d * x2 * x3 ^ 2 * y1 * y2 ^ 2 * y3 + d * x2 * x3 ^ 2 * y1 * y3 ^ 3 - d * x3 ^ 3 * y1 ^ 3 * y2 * y3 ^ 2 + d * x3 ^ 3 * y1 * y2 * y3 ^ 2 + x1 ^ 3 * x2 * x3 ^ 3 - x1 ^ 3 * x2 * x3 * y3 ^ 2 + x1 ^ 3 * x2 * x3 + x1 ^ 3 * x3 ^ 2 * y2 * y3 - x1 ^ 3 * y2 * y3 ^ 3 + x1 ^ 3 * y2 * y3 + x1 ^ 2 * x2 * x3 ^ 2 * y1 * y3 - x1 ^ 2 * x2 * y1 * y3 ^ 3 + x1 ^ 2 * x2 * y1 * y3 + x1 ^ 2 * x3 ^ 3 * y1 * y2 - x1 ^ 2 * x3 * y1 * y2 * y3 ^ 2 + x1 ^ 2 * x3 * y1 * y2 - x1 * x2 * x3 ^ 3 * y1 ^ 2 + x1 * x2 * x3 ^ 3 + x1 * x2 * x3 * y1 ^ 2 * y3 ^ 2 - x1 * x2 * x3 * y1 ^ 2 - x1 * x2 * x3 * y3 ^ 2 + x1 * x2 * x3 - x1 * x3 ^ 2 * y1 ^ 2 * y2 * y3 + x1 * x3 ^ 2 * y2 * y3 + x1 * y1 ^ 2 * y2 * y3 ^ 3 - x1 * y1 ^ 2 * y2 * y3 - x1 * y2 * y3 ^ 3 + x1 * y2 * y3 - x2 * x3 ^ 2 * y1 ^ 3 * y3 + x2 * x3 ^ 2 * y1 * y3 + x2 * y1 ^ 3 * y3 ^ 3 - x2 * y1 ^ 3 * y3 - x2 * y1 * y3 ^ 3 + x2 * y1 * y3 - x3 ^ 3 * y1 ^ 3 * y2 + x3 ^ 3 * y1 * y2 + x3 * y1 ^ 3 * y2 * y3 ^ 2 - x3 * y1 ^ 3 * y2 - x3 * y1 * y2 * y3 ^ 2 + x3 * y1 * y2) * (y2 ^ 2 - x2 ^ 2 - 1 - d * x2 ^ 2 * y2 ^ 2) + (-d * x1 ^ 2 * x2 ^ 2 * x3 * y1 * y2 + d * x1 ^ 2 * x2 * y1 * y2 ^ 2 * y3 + d * x1 * x2 ^ 2 * y1 ^ 2 * y2 * y3 - d * x1 * x2 * x3 * y1 ^ 2 * y2 ^ 2 - x1 ^ 3 * x2 ^ 3 * x3 - x1 ^ 3 * x2 ^ 2 * y2 * y3 + x1 ^ 3 * x2 * x3 * y2 ^ 2 - x1 ^ 3 * x2 * x3 + x1 ^ 3 * y2 ^ 3 * y3 - x1 ^ 3 * y2 * y3 - x1 ^ 2 * x2 ^ 3 * y1 * y3 - x1 ^ 2 * x2 ^ 2 * x3 * y1 * y2 + x1 ^ 2 * x2 * y1 * y2 ^ 2 * y3 - x1 ^ 2 * x2 * y1 * y3 + x1 ^ 2 * x3 * y1 * y2 ^ 3 - x1 ^ 2 * x3 * y1 * y2 + x1 * x2 ^ 3 * x3 * y1 ^ 2 - x1 * x2 ^ 3 * x3 + x1 * x2 ^ 2 * y1 ^ 2 * y2 * y3 - x1 * x2 ^ 2 * y2 * y3 - x1 * x2 * x3 * y1 ^ 2 * y2 ^ 2 + x1 * x2 * x3 * y1 ^ 2 + x1 * x2 * x3 * y2 ^ 2 - x1 * x2 * x3 - x1 * y1 ^ 2 * y2 ^ 3 * y3 + x1 * y1 ^ 2 * y2 * y3 + x1 * y2 ^ 3 * y3 - x1 * y2 * y3 + x2 ^ 3 * y1 ^ 3 * y3 - x2 ^ 3 * y1 * y3 + x2 ^ 2 * x3 * y1 ^ 3 * y2 - x2 ^ 2 * x3 * y1 * y2 - x2 * y1 ^ 3 * y2 ^ 2 * y3 + x2 * y1 ^ 3 * y3 + x2 * y1 * y2 ^ 2 * y3 - x2 * y1 * y3 - x3 * y1 ^ 3 * y2 ^ 3 + x3 * y1 ^ 3 * y2 + x3 * y1 * y2 ^ 3 - x3 * y1 * y2) * (y3 ^ 2 - x3 ^ 2 - 1 - d * x3 ^ 2 * y3 ^ 2) := by grind
set_option maxHeartbeats 4000000 in
theorem id_y (x1 y1 x2 y2 x3 y3 d : Int) : ((y1 * y2 + x1 * x2) * (1 + d * x1 * x2 * y1 * y2) * y3 + (x1 * y2 + y1 * x2) * (1 - d * x1 * x2 * y1 * y2) * x3) * ((1 + d * x2 * x3 * y2 * y3) * (1 - d * x2 * x3 * y2 * y3) - d * x1 * y1 * (x2 * y3 + y2 * x3) * (y2 * y3 + x2 * x3)) - (y1 * (y2 * y3 + x2 * x3) * (1 + d * x2 * x3 * y2 * y3) + x1 * (x2 * y3 + y2 * x3) * (1 - d * x2 * x3 * y2 * y3)) * ((1 + d * x1 * x2 * y1 * y2) * (1 - d * x1 * x2 * y1 * y2) - d * (x1 * y2 + y1 * x2) * (y1 * y2 + x1 * x2) * x3 * y3) = (d * x2 * y2 * (d * x1 * x2 ^ 3 * x3 * y2 ^ 2 * y3 ^ 2 + d * x1 * x2 ^ 2 * x3 ^ 2 * y2 ^ 3 * y3 - d * x2 ^ 3 * x3 ^ 2 * y1 * y2 ^ 2 * y3 - d * x2 ^ 2 * x3 * y1 * y2 ^ 3 * y3 ^ 2 + x1 * x2 ^ 3 * x3 * y3 ^ 2 + x1 * x2 ^ 2 * y2 * y3 ^ 3 - x1 * x2 ^ 2 * y2 * y3 - x1 * x2 * x3 ^ 3 * y2 ^ 2 - x1 * x2 * x3 * y2 ^ 2 - x1 * x3 ^ 2 * y2 ^ 3 * y3 - x2 ^ 3 * x3 ^ 2 * y1 * y3 - x2 ^ 2 * x3 ^ 3 * y1 * y2 - x2 ^ 2 * x3 * y1 * y2 + x2 * y1 * y2 ^ 2 * y3 ^ 3 - x2 * y1 * y2 ^ 2 * y3 + x3 * y1 * y2 ^ 3 * y3 ^ 2)) * (y1 ^ 2 - x1 ^ 2 - 1 - d * x1 ^ 2 * y1 ^ 2) + (d ^ 2 * x1 ^ 2 * x2 ^ 2 * x3 ^ 2 * y1 * y2 * y3 ^ 3 - d ^ 2 * x1 ^ 2 * x2 * x3 ^ 3 * y1 * y2 ^ 2 * y3 ^ 2 - d ^ 2 * x1 * x2 ^ 2 * x3 ^ 3 * y1 ^ 2 * y2 * y3 ^ 2 + d ^ 2 * x1 * x2 * x3 ^ 2 * y1 ^ 2 * y2 ^ 2 * y3 ^ 3 - d * x1 ^ 3 * x2 ^ 2 * x3 * y2 * y3 ^ 2 - d * x1 ^ 3 * x2 * x3 ^ 2 * y2 ^ 2 * y3 + d * x1 ^ 3 * x2 * x3 ^ 2 * y3 ^ 3 + d * x1 ^ 3 * x3 ^ 3 * y2 * y3 ^ 2 + d * x1 ^ 2 * x2 ^ 2 * x3 ^ 2 * y1 * y2 * y3 + d * x1 ^ 2 * x2 * x3 ^ 3 * y1 * y3 ^ 2 + d * x1 ^ 2 * x2 * x3 * y1 * y2 ^ 2 * y3 ^ 2 + d * x1 ^ 2 * x3 ^ 2 * y1 * y2 * y3 ^ 3 + d * x1 * x2 ^ 2 * x3 * y1 ^ 2 * y2 * y3 ^ 2 - d * x1 * x2 ^ 2 * x3 * y2 * y3 ^ 2 + d * x1 * x2 * x3 ^ 2 * y1 ^ 2 * y2 ^ 2 * y3 - d * x1 * x2 * x3 ^ 2 * y1 ^ 2 * y3 ^ 3 - d * x1 * x2 * x3 ^ 2 * y2 ^ 2 * y3 + d * x1 * x2 * x3 ^ 2 * y3 ^ 3 - d * x1 * x3 ^ 3 * y1 ^ 2 * y2 * y3 ^ 2 + d * x1 * x3 ^ 3 * y2 * y3 ^ 2 - d * x2 ^ 2 * x3 ^ 2 * y1 ^ 3 * y2 * y3 + d * x2 ^ 2 * x3 ^ 2 * y1 * y2 * y3 - d * x2 * x3 ^ 3 * y1 ^ 3 * y3 ^ 2 + d * x2 * x3 ^ 3 * y1 * y3 ^ 2 - d * x2 * x3 * y1 ^ 3 * y2 ^ 2 * y3 ^ 2 + d * x2 * x3 * y1 * y2 ^ 2 * y3 ^ 2 - d * x3 ^ 2 * y1 ^ 3 * y2 * y3 ^ 3 + d * x3 ^ 2 * y1 * y2 * y3 ^ 3 + x1 ^ 3 * x2 * x3 ^ 2 * y3 - x1 ^ 3 * x2 * y3 ^ 3 + x1 ^ 3 * x2 * y3 + x1 ^ 3 * x3 ^ 3 * y2 - x1 ^ 3 * x3 * y2 * y3 ^ 2 + x1 ^ 3 * x3 * y2 + x1 ^ 2 * x2 * x3 ^ 3 * y1 - x1 ^ 2 * x2 * x3 * y1 * y3 ^ 2 + x1 ^ 2 * x2 * x3 * y1 + x1 ^ 2 * x3 ^ 2 * y1 * y2 * y3 - x1 ^ 2 * y1 * y2 * y3 ^ 3 + x1 ^ 2 * y1 * y2 * y3 - x1 * x2 * x3 ^ 2 * y1 ^ 2 * y3 + x1 * x2 * x3 ^ 2 * y3 + x1 * x2 * y1 ^ 2 * y3 ^ 3 - x1 * x2 * y1 ^ 2 * y3 - x1 * x2 * y3 ^ 3 + x1 * x2 * y3 - x1 * x3 ^ 3 * y1 ^ 2 * y2 + x1 * x3 ^ 3 * y2 + x1 * x3 * y1 ^ 2 * y2 * y3 ^ 2 - x1 * x3 * y1 ^ 2 * y2 - x1 * x3 * y2 * y3 ^ 2 + x1 * x3 * y2 - x2 * x3 ^ 3 * y1 ^ 3 + x2 * x3 ^ 3 * y1 + x2 * x3 * y1 ^ 3 * y3 ^ 2 - x2 * x3 * y1 ^ 3 - x2 * x3 * y1 * y3 ^ 2 + x2 * x3 * y1 - x3 ^ 2 * y1 ^ 3 * y2 * y3 + x3 ^ 2 * y1 * y2 * y3 + y1 ^ 3 * y2 * y3 ^ 3 - y1 ^ 3 * y2 * y3 - y1 * y2 * y3 ^ 3 + y1 * y2 * y3) * (y2 ^ 2 - x2 ^ 2 - 1 - d * x2 ^ 2 * y2 ^ 2) + (-d * x1 ^ 2 * x2 ^ 2 * y1 * y2 * y3 + d * x1 ^ 2 * x2 * x3 * y1 * y2 ^ 2 + d * x1 * x2 ^ 2 * x3 * y1 ^ 2 * y2 - d * x1 * x2 * y1 ^ 2 * y2 ^ 2 * y3 - x1 ^ 3 * x2 ^ 3 * y3 - x1 ^ 3 * x2 ^ 2 * x3 * y2 + x1 ^ 3 * x2 * y2 ^ 2 * y3 - x1 ^ 3 * x2 * y3 + x1 ^ 3 * x3 * y2 ^ 3 - x1 ^ 3 * x3 * y2 - x1 ^ 2 * x2 ^ 3 * x3 * y1 - x1 ^ 2 * x2 ^ 2 * y1 * y2 * y3 + x1 ^ 2 * x2 * x3 * y1 * y2 ^ 2 - x1 ^ 2 * x2 * x3 * y1 + x1 ^ 2 * y1 * y2 ^ 3 * y3 - x1 ^ 2 * y1 * y2 * y3 + x1 * x2 ^ 3 * y1 ^ 2 * y3 - x1 * x2 ^ 3 * y3 + x1 * x2 ^ 2 * x3 * y1 ^ 2 * y2 - x1 * x2 ^ 2 * x3 * y2 - x1 * x2 * y1 ^ 2 * y2 ^ 2 * y3 + x1 * x2 * y1 ^ 2 * y3 + x1 * x2 * y2 ^ 2 * y3 - x1 * x2 * y3 - x1 * x3 * y1 ^ 2 * y2 ^ 3 + x1 * x3 * y1 ^ 2 * y2 + x1 * x3 * y2 ^ 3 - x1 * x3 * y2 + x2 ^ 3 * x3 * y1 ^ 3 - x2 ^ 3 * x3 * y1 + x2 ^ 2 * y1 ^ 3 * y2 * y3 - x2 ^ 2 * y1 * y2 * y3 - x2 * x3 * y1 ^ 3 * y2 ^ 2 + x2 * x3 * y1 ^ 3 + x2 * x3 * y1 * y2 ^ 2 - x2 * x3 * y1 - y1 ^ 3 * y2 ^ 3 * y3 + y1 ^ 3 * y2 * y3 + y1 * y2 ^ 3 * y3 - y1 * y2 * y3) * (y3 ^ 2 - x3 ^ 2 - 1 - d * x3 ^ 2 * y3 ^ 2) := by grind
end Go.Proofs.YtfknkfninjjgbabDoor.Cv

/- Points of the curve y*y - x*x = 1 + d*x*x*y*y modulo 2^255 - 19: that they make a group. Mathematics alone. -/
namespace Go.Proofs.YtfknkfninjjgbabDoor.Cv
open Go.Proofs.YtfknkfninjjgbabDoor
/-- -121665/121666. -/
def d : Nat := 37095705934669439343138083508754565189542113879843219016388785533085940283555
theorem d_lt : d < F.p := by decide
theorem d_chi : F.chi d = F.p - 1 := (F.chi_pw d).trans (by decide +kernel)
theorem d_no : ¬ ∃ r, F.mul r r = d % F.p := fun h => by
  have := (F.ok_iff d).2 h
  unfold F.ok at this
  rw [d_chi] at this
  simp at this
/-- A multiple of p. -/
def Z (a : Int) : Prop := (F.p : Int) ∣ a
theorem Z.add {a b : Int} (ha : Z a) (hb : Z b) : Z (a + b) := Int.dvd_add ha hb
theorem Z.sub {a b : Int} (ha : Z a) (hb : Z b) : Z (a - b) := Int.dvd_sub ha hb
theorem Z.neg {a : Int} (ha : Z a) : Z (-a) := (Int.dvd_neg).2 ha
theorem Z.mul (c : Int) {a : Int} (ha : Z a) : Z (c * a) := Int.dvd_trans ha (Int.dvd_mul_left _ _)
theorem Z.zero : Z 0 := Int.dvd_zero _
theorem Z.prime {a b : Int} (h : Z (a * b)) : Z a ∨ Z b := by
  have h2 : F.p ∣ a.natAbs * b.natAbs := by rw [← Int.natAbs_mul]; exact Int.ofNat_dvd_left.1 h
  rcases F.pr.euclid h2 with h | h
  · exact .inl (Int.ofNat_dvd_left.2 h)
  · exact .inr (Int.ofNat_dvd_left.2 h)
theorem Z.of_eq {a b : Int} (h : Z a) (e : b = a) : Z b := by rw [e]; exact h
theorem Z_nat (n : Nat) : Z (n : Int) ↔ n % F.p = 0 := by
  unfold Z
  rw [Int.natCast_dvd_natCast]
  exact Nat.dvd_iff_mod_eq_zero ..
theorem Z_eq {m n : Nat} : Z ((m : Int) - n) ↔ m % F.p = n % F.p := by
  have e : Z ((m : Int) - n) ↔ (m : Int) % F.p = (n : Int) % F.p := (Int.dvd_iff_emod_eq_zero).trans Int.emod_eq_emod_iff_emod_sub_eq_zero.symm
  rw [e, ← Int.natCast_emod, ← Int.natCast_emod]
  exact Int.ofNat_inj
theorem one_no : ¬ Z 1 := fun h => by
  have : Z ((1 : Nat) : Int) := h
  rw [Z_nat] at this
  exact absurd this (by decide)
theorem two_no : ¬ Z 2 := fun h => by
  have : Z ((2 : Nat) : Int) := h
  rw [Z_nat] at this
  exact absurd this (by decide)
/-- Congruence. -/
def K (a b : Int) : Prop := Z (a - b)
theorem K.refl (a : Int) : K a a := by unfold K; rw [Int.sub_self]; exact Z.zero
theorem K.symm {a b : Int} (h : K a b) : K b a := (Z.neg h).of_eq (by omega)
theorem K.trans {a b c : Int} (h : K a b) (h' : K b c) : K a c := (Z.add h h').of_eq (by omega)
theorem K.add {a b a' b' : Int} (h : K a b) (h' : K a' b') : K (a + a') (b + b') := (Z.add h h').of_eq (by omega)
theorem K.sub {a b a' b' : Int} (h : K a b) (h' : K a' b') : K (a - a') (b - b') := (Z.sub h h').of_eq (by omega)
theorem K.mul {a b a' b' : Int} (h : K a b) (h' : K a' b') : K (a * a') (b * b') := (Z.add (Z.mul a' h) (Z.mul b h')).of_eq (by grind)
theorem K.z {a b : Int} (h : K a b) (hb : Z b) : Z a := (Z.add h hb).of_eq (by omega)
theorem K.no {a b : Int} (h : K a b) (hb : ¬ Z b) : ¬ Z a := fun ha => hb (h.symm.z ha)
theorem K_eq {m n : Nat} (hm : m < F.p) (hn : n < F.p) : K (m : Int) n ↔ m = n := by
  unfold K
  rw [Z_eq, Nat.mod_eq_of_lt hm, Nat.mod_eq_of_lt hn]
theorem K_mod (n : Nat) : K ((n % F.p : Nat) : Int) n := Z_eq.2 (Nat.mod_mod _ _)
theorem K_mul (a b : Nat) : K (F.mul a b : Nat) ((a : Int) * b) := by
  have := K_mod (a * b)
  rwa [Int.natCast_mul] at this
theorem K_add (a b : Nat) : K (F.add a b : Nat) ((a : Int) + b) := by
  have := K_mod (a + b)
  rwa [Int.natCast_add] at this
theorem K_sub (a b : Nat) : K (F.sub a b : Nat) ((a : Int) - b) := by
  have h := F.sub_add a b
  have h1 := K_add (F.sub a b) b
  rw [h] at h1
  exact ((K_mod a).symm.trans h1 |>.sub (K.refl (b : Int))).symm.trans (K.refl _) |>.symm |> fun h => (Z.neg h).of_eq (by omega)
theorem K_inv {a : Nat} (h : ¬ Z (a : Int)) : K ((a : Int) * (F.inv a : Nat)) 1 := by
  have h0 : a % F.p ≠ 0 := fun e => h ((Z_nat a).2 e)
  have := K_mul a (F.inv a)
  rw [F.mul_inv h0] at this
  exact this.symm
/-- What is not a multiple of p has an inverse. -/
theorem inv_of {t : Int} (h : ¬ Z t) : ∃ w : Int, K (t * w) 1 := by
  obtain ⟨n, hn⟩ : ∃ n : Nat, K (n : Int) t := by
    have hp : (0 : Int) < F.p := by have := F.p_pos; omega
    refine ⟨(t % F.p).toNat, ?_⟩
    rw [Int.toNat_of_nonneg (Int.emod_nonneg _ (by omega))]
    have e := Int.mul_ediv_add_emod t F.p
    refine ⟨-(t / F.p), ?_⟩
    rw [Int.mul_neg]
    omega
  have hz : ¬ Z (n : Int) := fun hh => h (hn.symm.z hh)
  exact ⟨_, (hn.symm.mul (K.refl _)).trans (K_inv hz)⟩
/-- d is no square. -/
theorem d_sq (r t : Int) (h : Z (r * r - d * (t * t))) : Z t := by
  refine Classical.byContradiction fun ht => ?_
  obtain ⟨w, hw⟩ := inv_of ht
  have h1 : K (r * w * (r * w)) d := (Z.add (Z.mul (w * w) h) (Z.mul (d * (t * w + 1)) hw)).of_eq (by grind)
  have hp : (0 : Int) < F.p := by have := F.p_pos; omega
  obtain ⟨n, hn⟩ : ∃ n : Nat, K (n : Int) (r * w) := by
    refine ⟨(r * w % F.p).toNat, ?_⟩
    rw [Int.toNat_of_nonneg (Int.emod_nonneg _ (by omega))]
    have e := Int.mul_ediv_add_emod (r * w) F.p
    refine ⟨-(r * w / F.p), ?_⟩
    rw [Int.mul_neg]
    generalize r * w = rw' at *
    omega
  refine d_no ⟨n, ?_⟩
  have h2 : K (F.mul n n : Nat) d := (K_mul n n).trans ((hn.mul hn).trans h1)
  have := (K_eq (F.mul_lt n n) d_lt).1 h2
  rw [this, Nat.mod_eq_of_lt d_lt]
theorem im_z : Z ((F.im : Int) * F.im + 1) := by
  have h := K_mul F.im F.im
  rw [F.im_sq] at h
  have h2 : K ((F.p - 1 : Nat) : Int) (-1) := by
    refine ⟨1, ?_⟩
    have := F.p_pos
    omega
  exact (h.symm.trans h2 : Z _).of_eq (by omega)
/-- The left side less the right one. -/
abbrev E (x y : Int) : Int := y ^ 2 - x ^ 2 - 1 - d * x ^ 2 * y ^ 2
/-- What is divided by is never 0. -/
theorem complete {x1 y1 x2 y2 e : Int} (h1 : Z (E x1 y1)) (h2 : Z (E x2 y2)) (he : e * e = 1) : ¬ Z (e - d * x1 * x2 * y1 * y2) := by
  intro hD
  obtain ⟨i, hi⟩ : ∃ i : Int, Z (i * i + 1) := ⟨_, im_z⟩
  have hx : ∀ u, Z (u * (d * x1 * x2 * y1 * y2)) → Z u := fun u hu => by
    have : Z (u * e) := (Z.add (Z.mul u hD) hu).of_eq (by grind)
    have : Z (e * (u * e)) := Z.mul e this
    exact this.of_eq (by rw [← Int.mul_one u, ← he]; grind)
  have no : ∀ u, Z u → Z (d * x1 * x2 * y1 * y2) → False := fun u _ hd => one_no (hx 1 (by rw [Int.one_mul]; exact hd))
  have hxy : ¬ Z (x1 * y1) := fun h => no _ h ((Z.mul (d * x2 * y2) h).of_eq (by grind))
  have hy2 : ¬ Z y2 := fun h => no _ h ((Z.mul (d * x1 * x2 * y1) h).of_eq (by grind))
  have key : ∀ j : Int, Z (j * j + 1) → Z (y2 + j * x2) := fun j hj => by
    have hs : Z ((y1 + e * j * x1) * (y1 + e * j * x1) - d * ((x1 * y1 * (y2 + j * x2)) * (x1 * y1 * (y2 + j * x2)))) := by
      have a1 := Z.sub h1 (Z.mul (d * x1 ^ 2 * y1 ^ 2) h2)
      have a2 := Z.mul (e + d * x1 * x2 * y1 * y2 + 2 * j * x1 * y1) hD
      have a3 := Z.mul (x1 ^ 2 - d * x1 ^ 2 * y1 ^ 2 * x2 ^ 2) hj
      refine ((a1.add a2).add a3).of_eq ?_
      unfold E
      grind
    have := d_sq _ _ hs
    exact (Z.prime this).resolve_left hxy
  have k1 := key i hi
  have k2 := key (-i) (hi.of_eq (by grind))
  have : Z (2 * y2) := (k1.add k2).of_eq (by grind)
  rcases Z.prime this with h | h
  · exact two_no h
  · exact hy2 h
end Go.Proofs.YtfknkfninjjgbabDoor.Cv

/- Sums of points: closed, in any order, with Zero and Neg; so often. Mathematics alone. -/
namespace Go.Proofs.YtfknkfninjjgbabDoor.Cv
open Go.Proofs.YtfknkfninjjgbabDoor
/-- A pair of numbers. -/
abbrev Pt := Nat × Nat
def On (P : Pt) : Prop := P.1 < F.p ∧ P.2 < F.p ∧ Z (E P.1 P.2)
/-- d times all four. -/
def dd (P Q : Pt) : Nat := F.mul d (F.mul (F.mul P.1 Q.1) (F.mul P.2 Q.2))
def add (P Q : Pt) : Pt := (F.mul (F.add (F.mul P.1 Q.2) (F.mul P.2 Q.1)) (F.inv (F.add 1 (dd P Q))), F.mul (F.add (F.mul P.2 Q.2) (F.mul P.1 Q.1)) (F.inv (F.sub 1 (dd P Q))))
def zero : Pt := (0, 1)
def neg (P : Pt) : Pt := (F.sub 0 P.1, P.2)
theorem K_dd (P Q : Pt) : K (dd P Q) (d * P.1 * Q.1 * P.2 * Q.2) := by
  have h := (K_mul d _).trans ((K.refl (d : Int)).mul ((K_mul (F.mul P.1 Q.1) (F.mul P.2 Q.2)).trans ((K_mul P.1 Q.1).mul (K_mul P.2 Q.2))))
  unfold dd
  exact (h : Z _).of_eq (by grind)
/-- The sum, without a quotient. -/
structure Sum (x1 y1 x2 y2 x y : Int) : Prop where
  x : K (x * (1 + d * x1 * x2 * y1 * y2)) (x1 * y2 + y1 * x2)
  y : K (y * (1 - d * x1 * x2 * y1 * y2)) (y1 * y2 + x1 * x2)
theorem den {P Q : Pt} (hP : On P) (hQ : On Q) : ¬ Z (1 + d * P.1 * Q.1 * P.2 * Q.2) ∧ ¬ Z (1 - d * P.1 * Q.1 * P.2 * Q.2) := by
  refine ⟨fun h => ?_, fun h => complete hP.2.2 hQ.2.2 (e := 1) rfl h⟩
  exact complete hP.2.2 hQ.2.2 (e := -1) rfl ((Z.neg h).of_eq (by grind))
theorem quot {n : Int} {m t : Nat} (hm : K (m : Int) n) (hn : ¬ Z n) : K ((F.mul t (F.inv m) : Nat) * n) t := by
  have h1 := K_inv (hm.no hn)
  have h2 := K_mul t (F.inv m)
  have h3 : K ((t : Int) * (F.inv m : Nat) * m) t := (Z.mul t h1 : Z _).of_eq (by grind)
  exact ((h2.mul hm.symm)).trans h3
theorem add_sum {P Q : Pt} (hP : On P) (hQ : On Q) : Sum P.1 P.2 Q.1 Q.2 (add P Q).1 (add P Q).2 := by
  have hd := den hP hQ
  have k := K_dd P Q
  constructor
  · refine (quot ((K_add 1 (dd P Q)).trans ((K.refl _).add k)) hd.1).trans ?_
    exact (K_add _ _).trans ((K_mul _ _).add (K_mul _ _))
  · refine (quot ((K_sub 1 (dd P Q)).trans ((K.refl _).sub k)) hd.2).trans ?_
    exact (K_add _ _).trans ((K_mul _ _).add (K_mul _ _))
theorem add_lt (P Q : Pt) : (add P Q).1 < F.p ∧ (add P Q).2 < F.p := ⟨F.mul_lt _ _, F.mul_lt _ _⟩
theorem cancel {n a b : Int} (hn : ¬ Z n) (h : K (a * n) (b * n)) : K a b := by
  have : Z (n * (a - b)) := (h : Z _).of_eq (by grind)
  exact (Z.prime this).resolve_left hn
/-- There is one sum. -/
theorem sum_only {P Q R : Pt} (hP : On P) (hQ : On Q) (h1 : R.1 < F.p) (h2 : R.2 < F.p) (h : Sum P.1 P.2 Q.1 Q.2 R.1 R.2) : R = add P Q := by
  have hs := add_sum hP hQ
  have hd := den hP hQ
  have hl := add_lt P Q
  refine Prod.ext ?_ ?_
  · exact (K_eq h1 hl.1).1 (cancel hd.1 (h.x.trans hs.x.symm))
  · exact (K_eq h2 hl.2).1 (cancel hd.2 (h.y.trans hs.y.symm))
theorem sum_closed {x1 y1 x2 y2 x y : Int} (h1 : Z (E x1 y1)) (h2 : Z (E x2 y2)) (h : Sum x1 y1 x2 y2 x y) : Z (E x y) := by
  have n1 : ¬ Z (1 + d * x1 * x2 * y1 * y2) := fun hh => complete h1 h2 (e := -1) rfl ((Z.neg hh).of_eq (by grind))
  have n2 : ¬ Z (1 - d * x1 * x2 * y1 * y2) := complete h1 h2 (e := 1) rfl
  have hx := h.x
  have hy := h.y
  have id := id_c x1 y1 x2 y2 d
  have hz : Z ((y1 * y2 + x1 * x2) ^ 2 * (1 + d * x1 * x2 * y1 * y2) ^ 2 - (x1 * y2 + y1 * x2) ^ 2 * (1 - d * x1 * x2 * y1 * y2) ^ 2 - (1 + d * x1 * x2 * y1 * y2) ^ 2 * (1 - d * x1 * x2 * y1 * y2) ^ 2 - d * (x1 * y2 + y1 * x2) ^ 2 * (y1 * y2 + x1 * x2) ^ 2) := by
    rw [id]
    exact (Z.mul _ h1).add (Z.mul _ h2)
  clear id
  generalize 1 + d * x1 * x2 * y1 * y2 = b at *
  generalize 1 - d * x1 * x2 * y1 * y2 = e at *
  generalize x1 * y2 + y1 * x2 = a at *
  generalize y1 * y2 + x1 * x2 = c at *
  have hx2 := hx.mul hx
  have hy2 := hy.mul hy
  have t1 : K (y * e * (y * e) * (b * b) - x * b * (x * b) * (e * e) - b * b * (e * e) - d * (x * b * (x * b) * (y * e * (y * e)))) (c * c * (b * b) - a * a * (e * e) - b * b * (e * e) - d * (a * a * (c * c))) := (((hy2.mul (K.refl _)).sub (hx2.mul (K.refl _))).sub (K.refl _)).sub ((K.refl _).mul (hx2.mul hy2))
  have t2 : Z (c * c * (b * b) - a * a * (e * e) - b * b * (e * e) - d * (a * a * (c * c))) := hz.of_eq (by grind)
  have t3 : Z (b * (b * (e * (e * E x y)))) := (t1.z t2).of_eq (by unfold E; grind)
  have t4 := (Z.prime t3).resolve_left n1
  have t5 := (Z.prime t4).resolve_left n1
  have t6 := (Z.prime t5).resolve_left n2
  exact (Z.prime t6).resolve_left n2
theorem closed {P Q : Pt} (hP : On P) (hQ : On Q) : On (add P Q) := ⟨(add_lt P Q).1, (add_lt P Q).2, sum_closed hP.2.2 hQ.2.2 (add_sum hP hQ)⟩
theorem add_comm {P Q : Pt} (hP : On P) (hQ : On Q) : add P Q = add Q P := by
  have h := add_sum hP hQ
  refine sum_only hQ hP (add_lt P Q).1 (add_lt P Q).2 ⟨?_, ?_⟩
  · exact (h.x : Z _).of_eq (by grind)
  · exact (h.y : Z _).of_eq (by grind)
theorem zero_on : On zero := ⟨by decide, by decide, by unfold zero E; exact Z.zero⟩
theorem add_zero {P : Pt} (hP : On P) : add P zero = P := by
  refine (sum_only hP zero_on hP.1 hP.2.1 ⟨?_, ?_⟩).symm
  · show K _ _
    unfold zero
    exact (Z.zero).of_eq (by simp)
  · show K _ _
    unfold zero
    exact (Z.zero).of_eq (by simp)
end Go.Proofs.YtfknkfninjjgbabDoor.Cv

/- Of three points it does not matter which two come first; so often, and so often more. Mathematics alone. -/
namespace Go.Proofs.YtfknkfninjjgbabDoor.Cv
open Go.Proofs.YtfknkfninjjgbabDoor
/-- A sum of a sum, with one quotient. -/
theorem sum_left {b e a c X Y x3 y3 U : Int} (hX : K (X * b) a) (hY : K (Y * e) c) (hU : K (U * (1 + d * X * x3 * Y * y3)) (X * y3 + Y * x3)) : K (U * (b * e + d * a * c * x3 * y3)) (a * e * y3 + c * b * x3) := by
  have h1 : K (U * (b * e + d * (X * b) * (Y * e) * x3 * y3)) (X * b * e * y3 + Y * e * b * x3) := (Z.mul (b * e) hU : Z _).of_eq (by grind)
  have h2 : K (U * (b * e + d * (X * b) * (Y * e) * x3 * y3)) (U * (b * e + d * a * c * x3 * y3)) := (K.refl U).mul ((K.refl _).add (((((K.refl (d : Int)).mul hX).mul hY).mul (K.refl x3)).mul (K.refl y3)))
  have h3 : K (X * b * e * y3 + Y * e * b * x3) (a * e * y3 + c * b * x3) := ((hX.mul (K.refl e)).mul (K.refl y3)).add ((hY.mul (K.refl b)).mul (K.refl x3))
  exact h2.symm.trans (h1.trans h3)
theorem sum_leftY {b e a c X Y x3 y3 V : Int} (hX : K (X * b) a) (hY : K (Y * e) c) (hV : K (V * (1 - d * X * x3 * Y * y3)) (Y * y3 + X * x3)) : K (V * (b * e - d * a * c * x3 * y3)) (c * b * y3 + a * e * x3) := by
  have h1 : K (V * (b * e - d * (X * b) * (Y * e) * x3 * y3)) (Y * e * b * y3 + X * b * e * x3) := (Z.mul (b * e) hV : Z _).of_eq (by grind)
  have h2 : K (V * (b * e - d * (X * b) * (Y * e) * x3 * y3)) (V * (b * e - d * a * c * x3 * y3)) := (K.refl V).mul ((K.refl _).sub (((((K.refl (d : Int)).mul hX).mul hY).mul (K.refl x3)).mul (K.refl y3)))
  have h3 : K (Y * e * b * y3 + X * b * e * x3) (c * b * y3 + a * e * x3) := ((hY.mul (K.refl b)).mul (K.refl y3)).add ((hX.mul (K.refl e)).mul (K.refl x3))
  exact h2.symm.trans (h1.trans h3)
theorem no_mul {a b : Int} (ha : ¬ Z a) (hb : ¬ Z b) : ¬ Z (a * b) := fun h => (Z.prime h).elim ha hb
/-- Two that are one quotient are one. -/
theorem same {u v n m q r : Int} (hu : K (u * q) n) (hv : K (v * r) m) (h : Z (n * r - m * q)) (hq : ¬ Z q) (hr : ¬ Z r) : K u v := by
  have : Z (q * r * (u - v)) := ((Z.mul r hu).sub (Z.mul q hv) |>.add h).of_eq (by grind)
  exact (Z.prime this).resolve_left (no_mul hq hr)
set_option maxHeartbeats 1000000 in
theorem add_assoc {P Q R : Pt} (hP : On P) (hQ : On Q) (hR : On R) : add (add P Q) R = add P (add Q R) := by
  have s1 := add_sum hP hQ
  have s2 := add_sum (closed hP hQ) hR
  have s3 := add_sum hQ hR
  have s4 := add_sum hP (closed hQ hR)
  have n1 := den hP hQ
  have n2 := den (closed hP hQ) hR
  have n3 := den hQ hR
  have n4 := den hP (closed hQ hR)
  have l2 := add_lt (add P Q) R
  have l4 := add_lt P (add Q R)
  have ix := id_x P.1 P.2 Q.1 Q.2 R.1 R.2 d
  have iy := id_y P.1 P.2 Q.1 Q.2 R.1 R.2 d
  have e1 := hP.2.2
  have e2 := hQ.2.2
  have e3 := hR.2.2
  have zx := ((Z.mul _ e1).add (Z.mul _ e2)).add (Z.mul _ e3) |>.of_eq ix
  have zy := ((Z.mul _ e1).add (Z.mul _ e2)).add (Z.mul _ e3) |>.of_eq iy
  have ux := sum_left s1.x s1.y s2.x
  have uy := sum_leftY s1.x s1.y s2.y
  have vx : K ((add P (add Q R)).1 * ((1 + d * Q.1 * R.1 * Q.2 * R.2) * (1 - d * Q.1 * R.1 * Q.2 * R.2) + d * (Q.1 * R.2 + Q.2 * R.1) * (Q.2 * R.2 + Q.1 * R.1) * P.1 * P.2)) ((Q.1 * R.2 + Q.2 * R.1) * (1 - d * Q.1 * R.1 * Q.2 * R.2) * P.2 + (Q.2 * R.2 + Q.1 * R.1) * (1 + d * Q.1 * R.1 * Q.2 * R.2) * P.1) := sum_left s3.x s3.y ((s4.x : Z _).of_eq (by grind))
  have vy : K ((add P (add Q R)).2 * ((1 + d * Q.1 * R.1 * Q.2 * R.2) * (1 - d * Q.1 * R.1 * Q.2 * R.2) - d * (Q.1 * R.2 + Q.2 * R.1) * (Q.2 * R.2 + Q.1 * R.1) * P.1 * P.2)) ((Q.2 * R.2 + Q.1 * R.1) * (1 + d * Q.1 * R.1 * Q.2 * R.2) * P.2 + (Q.1 * R.2 + Q.2 * R.1) * (1 - d * Q.1 * R.1 * Q.2 * R.2) * P.1) := sum_leftY s3.x s3.y ((s4.y : Z _).of_eq (by grind))
  have q1 : ¬ Z ((1 + d * P.1 * Q.1 * P.2 * Q.2) * (1 - d * P.1 * Q.1 * P.2 * Q.2) + d * (P.1 * Q.2 + P.2 * Q.1) * (P.2 * Q.2 + P.1 * Q.1) * R.1 * R.2) := by
    refine K.no ?_ (no_mul (no_mul n1.1 n1.2) n2.1)
    have h := (((K.refl (d : Int)).mul s1.x.symm).mul s1.y.symm).mul (K.refl ((R.1 : Int) * R.2))
    exact (h : Z _).of_eq (by grind)
  have q2 : ¬ Z ((1 + d * P.1 * Q.1 * P.2 * Q.2) * (1 - d * P.1 * Q.1 * P.2 * Q.2) - d * (P.1 * Q.2 + P.2 * Q.1) * (P.2 * Q.2 + P.1 * Q.1) * R.1 * R.2) := by
    refine K.no ?_ (no_mul (no_mul n1.1 n1.2) n2.2)
    have h := (((K.refl (-(d : Int))).mul s1.x.symm).mul s1.y.symm).mul (K.refl ((R.1 : Int) * R.2))
    exact (h : Z _).of_eq (by grind)
  have q3 : ¬ Z ((1 + d * Q.1 * R.1 * Q.2 * R.2) * (1 - d * Q.1 * R.1 * Q.2 * R.2) + d * (Q.1 * R.2 + Q.2 * R.1) * (Q.2 * R.2 + Q.1 * R.1) * P.1 * P.2) := by
    refine K.no ?_ (no_mul (no_mul n3.1 n3.2) n4.1)
    have h := (((K.refl (d : Int)).mul s3.x.symm).mul s3.y.symm).mul (K.refl ((P.1 : Int) * P.2))
    exact (h : Z _).of_eq (by grind)
  have q4 : ¬ Z ((1 + d * Q.1 * R.1 * Q.2 * R.2) * (1 - d * Q.1 * R.1 * Q.2 * R.2) - d * (Q.1 * R.2 + Q.2 * R.1) * (Q.2 * R.2 + Q.1 * R.1) * P.1 * P.2) := by
    refine K.no ?_ (no_mul (no_mul n3.1 n3.2) n4.2)
    have h := (((K.refl (-(d : Int))).mul s3.x.symm).mul s3.y.symm).mul (K.refl ((P.1 : Int) * P.2))
    exact (h : Z _).of_eq (by grind)
  refine Prod.ext ?_ ?_
  · refine (K_eq l2.1 l4.1).1 (same ux vx (zx.of_eq ?_) q1 q3)
    clear ix iy zx zy ux uy vx vy q1 q2 q3 q4 s1 s2 s3 s4 n1 n2 n3 n4
    grind
  · refine (K_eq l2.2 l4.2).1 (same uy vy (zy.of_eq ?_) q2 q4)
    clear ix iy zx zy ux uy vx vy q1 q2 q3 q4 s1 s2 s3 s4 n1 n2 n3 n4
    grind
/-- So often. -/
def times : Nat → Pt → Pt
  | 0, _ => zero
  | n + 1, P => add P (times n P)
theorem times_on {P : Pt} (hP : On P) : ∀ n, On (times n P)
  | 0 => zero_on
  | n + 1 => closed hP (times_on hP n)
theorem zero_add {P : Pt} (hP : On P) : add zero P = P := by rw [add_comm zero_on hP, add_zero hP]
theorem times_add {P : Pt} (hP : On P) : ∀ m n, times (m + n) P = add (times m P) (times n P)
  | 0, n => by rw [Nat.zero_add, times, zero_add (times_on hP n)]
  | m + 1, n => by rw [Nat.succ_add, times, times, times_add hP m n, add_assoc hP (times_on hP m) (times_on hP n)]
theorem times_one {P : Pt} (hP : On P) : times 1 P = P := by rw [times, times, add_zero hP]
theorem four {P Q R S : Pt} (hP : On P) (hQ : On Q) (hR : On R) (hS : On S) : add (add P Q) (add R S) = add (add P R) (add Q S) := by
  rw [add_assoc hP hQ (closed hR hS), ← add_assoc hQ hR hS, add_comm hQ hR, add_assoc hR hQ hS, ← add_assoc hP hR (closed hQ hS)]
theorem times_sum {P Q : Pt} (hP : On P) (hQ : On Q) : ∀ n, times n (add P Q) = add (times n P) (times n Q)
  | 0 => by rw [times, times, times, add_zero zero_on]
  | n + 1 => by rw [times, times, times, times_sum hP hQ n, four hP hQ (times_on hP n) (times_on hQ n)]
theorem times_zero : ∀ n, times n zero = zero
  | 0 => rfl
  | n + 1 => by rw [times, times_zero n, add_zero zero_on]
theorem times_mul {P : Pt} (hP : On P) : ∀ m n, times (m * n) P = times m (times n P)
  | 0, n => by rw [Nat.zero_mul, times, times]
  | m + 1, n => by rw [Nat.succ_mul, Nat.add_comm, times_add hP, times_mul hP m n, times]
theorem times_two {P : Pt} (hP : On P) (n : Nat) : times (2 * n) P = add (times n P) (times n P) := by rw [Nat.two_mul, times_add hP]
end Go.Proofs.YtfknkfninjjgbabDoor.Cv

/- A point as one number: Y and whether X is odd; and back. Mathematics alone. -/
namespace Go.Proofs.YtfknkfninjjgbabDoor.Cv
open Go.Proofs.YtfknkfninjjgbabDoor
/-- X's square is never divided by 0. -/
theorem den_y (y : Int) : ¬ Z (1 + d * (y * y)) := fun h => by
  have hi := im_z
  have hs : Z ((F.im : Int) * F.im - d * (y * y)) := (hi.sub h).of_eq (by grind)
  have hy := d_sq _ _ hs
  exact one_no ((h.sub (Z.mul (d * y) hy)).of_eq (by grind))
/-- Two points of one Y are one, or one is the other's Neg. -/
theorem same_y {P Q : Pt} (hP : On P) (hQ : On Q) (h : P.2 = Q.2) : P = Q ∨ P = neg Q := by
  have e1 := hP.2.2
  have e2 := hQ.2.2
  rw [h] at e1
  have hz : Z ((1 + d * ((Q.2 : Int) * Q.2)) * ((P.1 : Int) * P.1 - Q.1 * Q.1)) := (e2.sub e1).of_eq (by unfold E; grind)
  have hx : K ((P.1 : Int) * P.1) ((Q.1 : Int) * Q.1) := (Z.prime hz).resolve_left (den_y _)
  have hm : F.mul P.1 P.1 = F.mul Q.1 Q.1 := (K_eq (F.mul_lt _ _) (F.mul_lt _ _)).1 ((K_mul _ _).trans (hx.trans (K_mul _ _).symm))
  rcases F.sq_eq hP.1 hQ.1 hm with h1 | h1
  · exact .inl (Prod.ext h1 h)
  · exact .inr (Prod.ext h1 h)
/-- A point as a number. -/
def pk (P : Pt) : Nat := P.2 + 2 ^ 255 * (P.1 % 2)
theorem p_255 : F.p < 2 ^ 255 := by decide
theorem pk_lt {P : Pt} (hP : On P) : pk P < 2 ^ 256 := by
  have := hP.2.1
  have := p_255
  unfold pk
  omega
theorem pk_parts {P : Pt} (hP : On P) : pk P % 2 ^ 255 = P.2 ∧ pk P / 2 ^ 255 = P.1 % 2 := by
  have := hP.2.1
  have := p_255
  unfold pk
  omega
theorem neg_is {x : Nat} (h : x < F.p) (h0 : x ≠ 0) : F.sub 0 x = F.p - x := by
  unfold F.sub
  rw [Nat.zero_add, Nat.mod_eq_of_lt h]
  exact Nat.mod_eq_of_lt (by omega)
theorem neg_odd {x : Nat} (h : x < F.p) (h0 : x ≠ 0) : F.sub 0 x % 2 = 1 - x % 2 := by
  have hp : F.p % 2 = 1 := by decide
  rw [neg_is h h0]
  omega
theorem neg_zero : F.sub 0 0 = 0 := F.sub_self 0
/-- Two points have two numbers. -/
theorem pk_inj {P Q : Pt} (hP : On P) (hQ : On Q) (h : pk P = pk Q) : P = Q := by
  have a := pk_parts hP
  have b := pk_parts hQ
  rw [h] at a
  rcases same_y hP hQ (a.1.symm.trans b.1) with e | e
  · exact e
  · by_cases h0 : Q.1 = 0
    · rw [e]
      unfold neg
      rw [h0, neg_zero, ← h0]
    · have h1 := neg_odd hQ.1 h0
      have h2 : P.1 % 2 = Q.1 % 2 := a.2.symm.trans b.2
      rw [e] at h2
      unfold neg at h2
      omega
/-- The number whose square X is. -/
def xx (y : Nat) : Nat := F.mul (F.sub (F.mul y y) 1) (F.inv (F.add (F.mul d (F.mul y y)) 1))
theorem xx_of {x y : Nat} : K ((xx y : Nat) * (1 + d * ((y : Int) * y))) ((y : Int) * y - 1) ∧ (Z (E x y) ↔ F.mul x x = xx y) := by
  have k1 : K (F.add (F.mul d (F.mul y y)) 1 : Nat) (1 + d * ((y : Int) * y)) := by
    have h := (K_add (F.mul d (F.mul y y)) 1).trans (((K_mul d (F.mul y y)).trans ((K.refl (d : Int)).mul (K_mul y y))).add (K.refl ((1 : Nat) : Int)))
    exact (h : Z _).of_eq (by grind)
  have k2 : K ((xx y : Nat) * (1 + d * ((y : Int) * y))) ((y : Int) * y - 1) := by
    refine (quot k1 (den_y _)).trans ?_
    exact (K_sub _ _).trans ((K_mul y y).sub (K.refl _))
  refine ⟨k2, fun h => ?_, fun h => ?_⟩
  · refine (K_eq (F.mul_lt _ _) (F.mul_lt _ _)).1 ((K_mul x x).trans (cancel (den_y y) ?_))
    refine K.trans ?_ k2.symm
    exact (Z.mul (-1) h : Z _).of_eq (by unfold E; grind)
  · have h1 := (K_mul x x).symm.trans (by rw [h]; exact K.refl _)
    have h2 := (h1.mul (K.refl (1 + d * ((y : Int) * y)))).trans k2
    exact (Z.mul (-1) h2 : Z _).of_eq (by unfold E; grind)
/-- There is a point of this Y just if that number has a root; then these two. -/
theorem on_iff {x y : Nat} (hx : x < F.p) (hy : y < F.p) : On (x, y) ↔ F.mul x x = xx y := ⟨fun h => (xx_of).2.1 h.2.2, fun h => ⟨hx, hy, (xx_of).2.2 h⟩⟩
theorem neg_neg {x : Nat} (h : x < F.p) : F.sub 0 (F.sub 0 x) = x := by
  by_cases h0 : x = 0
  · rw [h0, neg_zero, neg_zero]
  · rw [neg_is h h0, neg_is (by omega) (by omega)]
    omega
theorem neg_sq {x : Nat} (h : x < F.p) : F.mul (F.sub 0 x) (F.sub 0 x) = F.mul x x := by
  by_cases h0 : x = 0
  · rw [h0, neg_zero]
  · rw [neg_is h h0, F.neg_mul h]
/-- The point of a number. -/
def unp (n : Nat) : Option Pt :=
  if n % 2 ^ 255 < F.p ∧ F.ok (xx (n % 2 ^ 255)) = true then
    if n / 2 ^ 255 = 0 then some (F.root (xx (n % 2 ^ 255)), n % 2 ^ 255)
    else if F.root (xx (n % 2 ^ 255)) = 0 then none else some (F.sub 0 (F.root (xx (n % 2 ^ 255))), n % 2 ^ 255)
  else none
theorem xx_lt (y : Nat) : xx y < F.p := F.mul_lt _ _
theorem unp_is {n : Nat} {P : Pt} (hP : On P) (h : pk P = n) : unp n = some P := by
  have a := pk_parts hP
  rw [h] at a
  have hx : F.mul P.1 P.1 = xx P.2 := (on_iff hP.1 hP.2.1).1 hP
  have hx' : F.mul P.1 P.1 = xx P.2 % F.p := by rw [Nat.mod_eq_of_lt (xx_lt _)]; exact hx
  have hk : F.ok (xx P.2) = true := (F.ok_iff _).2 ⟨_, hx'⟩
  unfold unp
  rw [a.1, a.2, if_pos ⟨hP.2.1, hk⟩]
  by_cases h2 : P.1 % 2 = 0
  · rw [if_pos h2, ← (F.root_only hP.1 h2 hx').1]
  · have h0 : P.1 ≠ 0 := fun e => h2 (by rw [e])
    have hn := neg_odd hP.1 h0
    have hr := (F.root_only (F.sub_lt 0 P.1) (by omega) (by rw [neg_sq hP.1]; exact hx')).1
    rw [if_neg h2, ← hr, if_neg (by rw [neg_is hP.1 h0]; have := hP.1; omega), neg_neg hP.1]
theorem unp_pk {P : Pt} (hP : On P) : unp (pk P) = some P := unp_is hP rfl
theorem unp_some {n : Nat} {P : Pt} (hn : n < 2 ^ 256) (h : unp n = some P) : On P ∧ pk P = n := by
  unfold unp at h
  by_cases h1 : n % 2 ^ 255 < F.p ∧ F.ok (xx (n % 2 ^ 255)) = true
  · rw [if_pos h1] at h
    have hr := F.root_lt (xx (n % 2 ^ 255))
    have he := F.root_even (xx (n % 2 ^ 255))
    have hs := F.root_sq h1.2
    rw [Nat.mod_eq_of_lt (xx_lt _)] at hs
    by_cases h2 : n / 2 ^ 255 = 0
    · rw [if_pos h2] at h
      obtain rfl := Option.some.inj h
      refine ⟨(on_iff hr h1.1).2 hs, ?_⟩
      unfold pk
      simp only
      omega
    · rw [if_neg h2] at h
      by_cases h3 : F.root (xx (n % 2 ^ 255)) = 0
      · rw [if_pos h3] at h
        cases h
      · rw [if_neg h3] at h
        obtain rfl := Option.some.inj h
        have ho := neg_odd hr h3
        refine ⟨(on_iff (F.sub_lt _ _) h1.1).2 (by rw [neg_sq hr]; exact hs), ?_⟩
        unfold pk
        simp only
        omega
  · rw [if_neg h1] at h
    cases h
theorem unp_no {n : Nat} (hn : n < 2 ^ 256) (h : ¬ ∃ P, On P ∧ pk P = n) : unp n = none := by
  cases e : unp n with
  | none => rfl
  | some P => exact absurd ⟨P, unp_some hn e⟩ h
/-- With the highest bit turned. -/
def turn (n : Nat) : Nat := if n / 2 ^ 255 % 2 = 0 then n + 2 ^ 255 else n - 2 ^ 255
end Go.Proofs.YtfknkfninjjgbabDoor.Cv

/- Points as fractions X/Z, Y/Z: their sums without a quotient; so often, bit by bit; the base and its order. Mathematics alone. -/
namespace Go.Proofs.YtfknkfninjjgbabDoor.Cv
open Go.Proofs.YtfknkfninjjgbabDoor
/-- X/Z and Y/Z are the point P. -/
structure Fr (X Y T : Int) (P : Pt) : Prop where
  nz : ¬ Z T
  x : K X (P.1 * T)
  y : K Y (P.2 * T)
theorem Fr.one (P : Pt) : Fr P.1 P.2 1 P := ⟨one_no, by rw [Int.mul_one]; exact K.refl _, by rw [Int.mul_one]; exact K.refl _⟩
theorem Fr.sum {X1 Y1 T1 X2 Y2 T2 : Int} {P Q : Pt} (hP : On P) (hQ : On Q) (h1 : Fr X1 Y1 T1 P) (h2 : Fr X2 Y2 T2 Q) :
    Fr (T1 * T2 * (T1 * T2 * (T1 * T2) - d * (X1 * X2) * (Y1 * Y2)) * (X1 * Y2 + Y1 * X2)) (T1 * T2 * (T1 * T2 * (T1 * T2) + d * (X1 * X2) * (Y1 * Y2)) * (X1 * X2 + Y1 * Y2)) ((T1 * T2 * (T1 * T2) - d * (X1 * X2) * (Y1 * Y2)) * (T1 * T2 * (T1 * T2) + d * (X1 * X2) * (Y1 * Y2))) (add P Q) := by
  have s := add_sum hP hQ
  have n := den hP hQ
  have nT : ¬ Z (T1 * T2 * (T1 * T2)) := no_mul (no_mul h1.nz h2.nz) (no_mul h1.nz h2.nz)
  have kc := h1.x.mul h2.x
  have kd := h1.y.mul h2.y
  have ke : K (d * (X1 * X2) * (Y1 * Y2)) (T1 * T2 * (T1 * T2) * (d * P.1 * Q.1 * P.2 * Q.2)) := by
    have := ((K.refl (d : Int)).mul kc).mul kd
    exact (this : Z _).of_eq (by grind)
  have kf : K (T1 * T2 * (T1 * T2) - d * (X1 * X2) * (Y1 * Y2)) (T1 * T2 * (T1 * T2) * (1 - d * P.1 * Q.1 * P.2 * Q.2)) := ((K.refl (T1 * T2 * (T1 * T2))).sub ke : Z _).of_eq (by grind)
  have kg : K (T1 * T2 * (T1 * T2) + d * (X1 * X2) * (Y1 * Y2)) (T1 * T2 * (T1 * T2) * (1 + d * P.1 * Q.1 * P.2 * Q.2)) := ((K.refl (T1 * T2 * (T1 * T2))).add ke : Z _).of_eq (by grind)
  have nf := kf.no (no_mul nT n.2)
  have ng := kg.no (no_mul nT n.1)
  have ks : K (X1 * Y2 + Y1 * X2) (T1 * T2 * (P.1 * Q.2 + P.2 * Q.1)) := ((h1.x.mul h2.y).add (h1.y.mul h2.x) : Z _).of_eq (by grind)
  have kt : K (X1 * X2 + Y1 * Y2) (T1 * T2 * (P.2 * Q.2 + P.1 * Q.1)) := (kc.add kd : Z _).of_eq (by grind)
  refine ⟨no_mul nf ng, ?_, ?_⟩
  · generalize T1 * T2 * (T1 * T2) - d * (X1 * X2) * (Y1 * Y2) = f at *
    generalize T1 * T2 * (T1 * T2) + d * (X1 * X2) * (Y1 * Y2) = g at *
    generalize X1 * Y2 + Y1 * X2 = u at *
    have a1 : K (T1 * T2 * f * u) (T1 * T2 * f * (T1 * T2 * (P.1 * Q.2 + P.2 * Q.1))) := (K.refl _).mul ks
    have a2 : K ((add P Q).1 * (f * g)) ((add P Q).1 * (f * (T1 * T2 * (T1 * T2) * (1 + d * P.1 * Q.1 * P.2 * Q.2)))) := (K.refl _).mul ((K.refl _).mul kg)
    have a3 : K ((add P Q).1 * (f * (T1 * T2 * (T1 * T2) * (1 + d * P.1 * Q.1 * P.2 * Q.2)))) (T1 * T2 * f * (T1 * T2 * (P.1 * Q.2 + P.2 * Q.1))) := (Z.mul (f * (T1 * T2 * (T1 * T2))) s.x : Z _).of_eq (by grind)
    exact a1.trans (a2.trans a3).symm
  · generalize T1 * T2 * (T1 * T2) - d * (X1 * X2) * (Y1 * Y2) = f at *
    generalize T1 * T2 * (T1 * T2) + d * (X1 * X2) * (Y1 * Y2) = g at *
    generalize X1 * X2 + Y1 * Y2 = u at *
    have a1 : K (T1 * T2 * g * u) (T1 * T2 * g * (T1 * T2 * (P.2 * Q.2 + P.1 * Q.1))) := (K.refl _).mul kt
    have a2 : K ((add P Q).2 * (f * g)) ((add P Q).2 * (T1 * T2 * (T1 * T2) * (1 - d * P.1 * Q.1 * P.2 * Q.2) * g)) := (K.refl _).mul (kf.mul (K.refl _))
    have a3 : K ((add P Q).2 * (T1 * T2 * (T1 * T2) * (1 - d * P.1 * Q.1 * P.2 * Q.2) * g)) (T1 * T2 * g * (T1 * T2 * (P.2 * Q.2 + P.1 * Q.1))) := (Z.mul (g * (T1 * T2 * (T1 * T2))) s.y : Z _).of_eq (by grind)
    exact a1.trans (a2.trans a3).symm
/-- Three numbers. -/
abbrev Tr := Nat × Nat × Nat
def FrN (t : Tr) (P : Pt) : Prop := Fr t.1 t.2.1 t.2.2 P
/-- The sum of two fractions. -/
def padd (s t : Tr) : Tr :=
  let a := F.mul s.2.2 t.2.2
  let c := F.mul s.1 t.1
  let e' := F.mul s.2.1 t.2.1
  let b := F.mul a a
  let e := F.mul (F.mul d c) e'
  let f := F.sub b e
  let g := F.add b e
  (F.mul (F.mul a f) (F.add (F.mul s.1 t.2.1) (F.mul s.2.1 t.1)), F.mul (F.mul a g) (F.add c e'), F.mul f g)
theorem Fr.congr {X Y T X' Y' T' : Int} {P : Pt} (h : Fr X Y T P) (hx : K X' X) (hy : K Y' Y) (ht : K T' T) : Fr X' Y' T' P :=
  ⟨ht.no h.nz, hx.trans (h.x.trans ((K.refl _).mul ht.symm)), hy.trans (h.y.trans ((K.refl _).mul ht.symm))⟩
theorem padd_fr {s t : Tr} {P Q : Pt} (hP : On P) (hQ : On Q) (h1 : FrN s P) (h2 : FrN t Q) : FrN (padd s t) (add P Q) := by
  have ka := K_mul s.2.2 t.2.2
  have kc := K_mul s.1 t.1
  have ke' := K_mul s.2.1 t.2.1
  have kb := (K_mul (F.mul s.2.2 t.2.2) (F.mul s.2.2 t.2.2)).trans (ka.mul ka)
  have ke := (K_mul (F.mul d (F.mul s.1 t.1)) (F.mul s.2.1 t.2.1)).trans (((K_mul d (F.mul s.1 t.1)).trans ((K.refl (d : Int)).mul kc)).mul ke')
  have kf := (K_sub (F.mul (F.mul s.2.2 t.2.2) (F.mul s.2.2 t.2.2)) (F.mul (F.mul d (F.mul s.1 t.1)) (F.mul s.2.1 t.2.1))).trans (kb.sub ke)
  have kg := (K_add (F.mul (F.mul s.2.2 t.2.2) (F.mul s.2.2 t.2.2)) (F.mul (F.mul d (F.mul s.1 t.1)) (F.mul s.2.1 t.2.1))).trans (kb.add ke)
  refine (Fr.sum hP hQ h1 h2).congr ?_ ?_ ?_
  · exact (K_mul _ _).trans (((K_mul _ _).trans (ka.mul kf)).mul ((K_add _ _).trans ((K_mul _ _).add (K_mul _ _))))
  · exact (K_mul _ _).trans (((K_mul _ _).trans (ka.mul kg)).mul ((K_add _ _).trans (kc.add ke')))
  · exact (K_mul _ _).trans (kf.mul kg)
/-- So often, from the least bit on. -/
def often : Nat → Nat → Tr → Tr → Tr
  | 0, _, acc, _ => acc
  | k + 1, n, acc, t => often k (n / 2) (if n % 2 = 1 then padd acc t else acc) (padd t t)
theorem often_fr : ∀ (k n : Nat) (acc t : Tr) (A P : Pt), n < 2 ^ k → On A → On P → FrN acc A → FrN t P → FrN (often k n acc t) (add A (times n P))
  | 0, n, acc, t, A, P, hn, hA, _, h1, _ => by
    have : n = 0 := by simp at hn; exact hn
    subst this
    rw [often, times, add_zero hA]
    exact h1
  | k + 1, n, acc, t, A, P, hn, hA, hP, h1, h2 => by
    have hn2 : n / 2 < 2 ^ k := by rw [Nat.pow_succ] at hn; omega
    have hd := times_on (closed hP hP) (n / 2)
    have e2 : times (n / 2) (add P P) = times (2 * (n / 2)) P := by rw [times_two hP, times_sum hP hP]
    rw [often]
    by_cases h : n % 2 = 1
    · rw [if_pos h]
      have ih := often_fr k (n / 2) (padd acc t) (padd t t) (add A P) (add P P) hn2 (closed hA hP) (closed hP hP) (padd_fr hA hP h1 h2) (padd_fr hP hP h2 h2)
      rw [add_assoc hA hP hd, e2] at ih
      rw [show n = 2 * (n / 2) + 1 by omega, times]
      rw [show (2 * (n / 2) + 1) / 2 = n / 2 by omega]
      exact ih
    · rw [if_neg h]
      have ih := often_fr k (n / 2) acc (padd t t) A (add P P) hn2 hA (closed hP hP) h1 (padd_fr hP hP h2 h2)
      rw [e2, show 2 * (n / 2) = n by omega] at ih
      exact ih
theorem fr_zero {t : Tr} {P : Pt} (hP : On P) (h : FrN t P) (hx : t.1 % F.p = 0) (hy : t.2.1 % F.p = t.2.2 % F.p) : P = zero := by
  have kx : Z ((P.1 : Int) * t.2.2) := h.x.symm.z ((Z_nat _).2 hx)
  have ky : K ((P.2 : Int) * t.2.2) (1 * t.2.2) := h.y.symm.trans (by rw [Int.one_mul]; exact Z_eq.2 hy)
  have hx0 : Z ((P.1 : Int)) := (Z.prime kx).resolve_right h.nz
  have hy1 : K ((P.2 : Int)) ((1 : Nat) : Int) := cancel h.nz ky
  refine Prod.ext ?_ ((K_eq hP.2.1 (by decide)).1 hy1)
  have := (Z_nat _).1 hx0
  rwa [Nat.mod_eq_of_lt hP.1] at this
/-- The base. -/
def base : Pt := (15112221349535400772501151409588531511454012693041857206046113283949847762202, 46316835694926478169428394003475163141307993866256225615783033603165251855960)
theorem base_on : On base := (on_iff (by decide) (by decide)).2 (by
  show _ = F.mul _ (F.inv _)
  rw [← F.mul_modl]
  have h : ∀ a b c : Nat, b % F.p ≠ 0 → F.mul a b = c → a < F.p → a = F.mul c (F.inv b) := fun a b c hb hc ha => by
    rw [← hc, F.mul_assoc, F.mul_inv hb, F.mul_one, Nat.mod_eq_of_lt ha]
  exact h _ _ _ (by decide +kernel) (by decide +kernel) (F.mul_lt _ _))
theorem base_fr : FrN (base.1, base.2, 1) base := Fr.one base
theorem zero_fr : FrN (0, 1, 1) zero := Fr.one zero
theorem base_ord : times ord base = zero := by
  have h := often_fr 253 ord (0, 1, 1) (base.1, base.2, 1) zero base (by decide) zero_on base_on zero_fr base_fr
  have e : (often 253 ord (0, 1, 1) (base.1, base.2, 1)).1 % F.p = 0 ∧ (often 253 ord (0, 1, 1) (base.1, base.2, 1)).2.1 % F.p = (often 253 ord (0, 1, 1) (base.1, base.2, 1)).2.2 % F.p := by decide +kernel
  rw [zero_add (times_on base_on ord)] at h
  exact fr_zero (times_on base_on ord) h e.1 e.2
end Go.Proofs.YtfknkfninjjgbabDoor.Cv

/- Lagrange: eight times the base's order makes nothing of any point; how often counts modulo the order for the base. Mathematics alone. -/
namespace Go.Proofs.YtfknkfninjjgbabDoor.Cv
open Go.Proofs.YtfknkfninjjgbabDoor
/-- The points. -/
abbrev G := {P : Pt // On P}
/-- A point's place. -/
def idx (g : G) : Nat := 2 * g.1.2 + g.1.1 % 2
theorem idx_inj {g h : G} (e : idx g = idx h) : g = h := by
  refine Subtype.ext (pk_inj g.2 h.2 ?_)
  unfold idx at e
  unfold pk
  rw [show g.1.1 % 2 = h.1.1 % 2 by omega, show g.1.2 = h.1.2 by omega]
theorem all (m : Nat) : ∃ l : List G, l.Nodup ∧ (∀ g, g ∈ l ↔ idx g < m) ∧ l.length ≤ m := by
  induction m with
  | zero => exact ⟨[], List.nodup_nil, fun g => by simp, Nat.le_refl _⟩
  | succ m ih =>
    obtain ⟨l, h1, h2, h3⟩ := ih
    by_cases h : ∃ g, idx g = m
    · obtain ⟨g, hg⟩ := h
      refine ⟨g :: l, List.nodup_cons.2 ⟨fun hm => ?_, h1⟩, fun k => ?_, Nat.succ_le_succ h3⟩
      · have := (h2 g).1 hm
        omega
      · rw [List.mem_cons, h2]
        constructor
        · rintro (rfl | hk)
          · omega
          · omega
        · intro hk
          by_cases he : idx k = m
          · exact .inl (idx_inj (he.trans hg.symm))
          · exact .inr (by omega)
    · refine ⟨l, h1, fun k => ?_, Nat.le_succ_of_le h3⟩
      rw [h2]
      constructor
      · intro hk
        omega
      · intro hk
        by_cases he : idx k = m
        · exact absurd ⟨k, he⟩ h
        · omega
theorem times_mod {P : Pt} (hP : On P) {m : Nat} (h : times m P = zero) (n : Nat) : times (n % m) P = times n P := by
  have e := Nat.div_add_mod n m
  have h1 : times (m * (n / m)) P = zero := by rw [Nat.mul_comm, times_mul hP, h, times_zero]
  have h2 := times_add hP (m * (n / m)) (n % m)
  rw [e, h1, zero_add (times_on hP _)] at h2
  exact h2.symm
theorem times_gcd {P : Pt} (hP : On P) : ∀ m n, times m P = zero → times n P = zero → times (Nat.gcd m n) P = zero := by
  intro m n
  induction m, n using Nat.gcd.induction with
  | H0 n => intro _ h; rwa [Nat.gcd_zero_left]
  | H1 m n _ ih =>
    intro h1 h2
    rw [Nat.gcd_rec]
    exact ih (by rw [times_mod hP h1]; exact h2) h1
theorem base_ne : base ≠ zero := fun e => by
  have := congrArg Prod.fst e
  exact absurd this (by decide)
/-- The base's order. -/
theorem base_iff (n : Nat) : times n base = zero ↔ n % ord = 0 := by
  constructor
  · intro h
    have hg := times_gcd base_on n ord h base_ord
    rcases ord_pr.2 _ (Nat.gcd_dvd_right n ord) with e | e
    · rw [e, times_one base_on] at hg
      exact absurd hg base_ne
    · exact (Nat.dvd_iff_mod_eq_zero ..).1 (e ▸ Nat.gcd_dvd_left n ord)
  · intro h
    rw [← times_mod base_on base_ord n, h, times]
theorem base_mod (n : Nat) : times (n % ord) base = times n base := times_mod base_on base_ord n
end Go.Proofs.YtfknkfninjjgbabDoor.Cv

/- Signatures as numbers and points: what is signed is verified; there is one signature alone; a batch. Mathematics alone. -/
namespace Go.Proofs.YtfknkfninjjgbabDoor.Sg
open Go.Proofs.YtfknkfninjjgbabDoor
/-- What a claim is: the number at its end, and the point that it has to make; or why it is none. -/
def clm (c : Nat → Nat → List Nat → Nat) (A : Nat) (p : List Nat) (R s : Nat) : Except Nat (Nat × Cv.Pt) :=
  match Cv.unp A, Cv.unp R with
  | some a, some r => if s < Cv.ord then .ok (s, Cv.add r (Cv.times (c R A p) a)) else .error 4
  | _, _ => .error 4
/-- What Verify answers. -/
def ver (c : Nat → Nat → List Nat → Nat) (A : Nat) (p : List Nat) (R s : Nat) : Nat :=
  match clm c A p R s with
  | .ok (s, T) => if Cv.times s Cv.base = T then 0 else 5
  | .error e => e
theorem ver_true (c : Nat → Nat → List Nat → Nat) (x r : Nat) (p : List Nat) :
    ver c (Cv.pk (Cv.times x Cv.base)) p (Cv.pk (Cv.times r Cv.base)) ((r + c (Cv.pk (Cv.times r Cv.base)) (Cv.pk (Cv.times x Cv.base)) p * x) % Cv.ord) = 0 := by
  have hx := Cv.times_on Cv.base_on x
  have hr := Cv.times_on Cv.base_on r
  unfold ver clm
  rw [Cv.unp_pk hx, Cv.unp_pk hr]
  simp only []
  rw [if_pos (Nat.mod_lt _ (by decide))]
  simp only []
  rw [if_pos]
  rw [Cv.base_mod, Cv.times_add Cv.base_on, Cv.times_mul Cv.base_on]
theorem clm_ok {c : Nat → Nat → List Nat → Nat} {A R s : Nat} {p : List Nat} {q : Nat × Cv.Pt} (h : clm c A p R s = .ok q) : ∃ a r, Cv.unp A = some a ∧ Cv.unp R = some r ∧ s < Cv.ord ∧ q = (s, Cv.add r (Cv.times (c R A p) a)) := by
  unfold clm at h
  cases ha : Cv.unp A with
  | none => simp [ha] at h
  | some a =>
    cases hr : Cv.unp R with
    | none => simp [ha, hr] at h
    | some r =>
      simp only [ha, hr] at h
      split at h
      · rename_i hs
        exact ⟨a, r, rfl, rfl, hs, by cases h; rfl⟩
      · cases h
end Go.Proofs.YtfknkfninjjgbabDoor.Sg
