/- Small closed facts on the loaded program that each row's proof asks for. -/
import Derived.Test.YtepaapiflkkghaaRows
import Derived.ProofKit
namespace Go.Proofs.Ytepaapiflkkghaa
end Go.Proofs.Ytepaapiflkkghaa
