/- What package mode keeps, over the landed aes. -/
import Derived.Test.YtmfbdacalenfdabAesIs
import Derived.Test.YtmfbdacalenfdabGrp46
import Derived.Test.YtmfbdacalenfdabMoOpen
namespace Go.Proofs.Ytmfbdacalenfdab
theorem modeIs : ModeC (fun _ => True) KyA := mode_of aesIs
end Go.Proofs.Ytmfbdacalenfdab
