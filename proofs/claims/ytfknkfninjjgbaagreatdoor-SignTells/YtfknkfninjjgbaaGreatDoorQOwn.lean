/- Small closed facts on the loaded program that each row's proof asks for. -/
import Derived.Test.YtfknkfninjjgbaaGreatDoorRows
import Derived.ProofKit
namespace Go.Proofs.YtfknkfninjjgbaaGreatDoor
end Go.Proofs.YtfknkfninjjgbaaGreatDoor
