/- Small closed facts on the loaded program that each row's proof asks for. -/
import Derived.Test.YtohliojdmmbcdabRows
import Derived.ProofKit
namespace Go.Proofs.Ytohliojdmmbcdab
end Go.Proofs.Ytohliojdmmbcdab
