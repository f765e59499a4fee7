/- Small closed facts on the loaded program that each row's proof asks for. -/
import Derived.Test.YtfknkfninjjgbaaDoorRows
import Derived.ProofKit
namespace Go.Proofs.YtfknkfninjjgbaaDoor
end Go.Proofs.YtfknkfninjjgbaaDoor
