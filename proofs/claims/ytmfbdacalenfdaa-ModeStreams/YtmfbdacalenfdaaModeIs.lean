/- What package mode keeps, over the landed aes. -/
import Derived.Test.YtmfbdacalenfdaaGrp28
import Derived.Test.YtmfbdacalenfdaaMoStr
import Derived.Test.YtmfbdacalenfdaaMoOpen
namespace Go.Proofs.Ytmfbdacalenfdaa
/-- Of streams; 11. -/
theorem streamIs : StreamC (fun _ => True) KyA := mstream_of aesIs
theorem modeIs : ModeC (fun _ => True) KyA := mode_of aesIs
end Go.Proofs.Ytmfbdacalenfdaa
