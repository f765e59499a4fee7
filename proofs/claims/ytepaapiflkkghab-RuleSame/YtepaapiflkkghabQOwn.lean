/- Small closed facts on the loaded program that each row's proof asks for. -/
import Derived.Test.YtepaapiflkkghabRows
import Derived.ProofKit
namespace Go.Proofs.Ytepaapiflkkghab
end Go.Proofs.Ytepaapiflkkghab
