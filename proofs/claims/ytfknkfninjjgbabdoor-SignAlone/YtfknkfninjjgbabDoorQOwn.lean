/- Small closed facts on the loaded program that each row's proof asks for. -/
import Derived.Test.YtfknkfninjjgbabDoorRows
import Derived.ProofKit
namespace Go.Proofs.YtfknkfninjjgbabDoor
end Go.Proofs.YtfknkfninjjgbabDoor
