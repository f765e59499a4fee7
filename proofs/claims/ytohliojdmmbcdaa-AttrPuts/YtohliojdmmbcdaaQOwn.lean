/- Small closed facts on the loaded program that each row's proof asks for. -/
import Derived.Test.YtohliojdmmbcdaaRows
import Derived.ProofKit
namespace Go.Proofs.Ytohliojdmmbcdaa
end Go.Proofs.Ytohliojdmmbcdaa
