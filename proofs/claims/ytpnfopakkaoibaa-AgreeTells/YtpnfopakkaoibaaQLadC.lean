/- What package ladder must keep: its calls' contracts, each as one premise; the verifier's small calls. -/
import Derived.Test.YtpnfopakkaoibaaQQMathToAdN
import Derived.Test.YtpnfopakkaoibaaQLTwToLSw
namespace Go.Proofs.Ytpnfopakkaoibaa
open Go.RowKit
attribute [local go_sem] World.cell?_alloc_some cell_alloc2 cell_alloc3 cell_alloc4 frozen?_alloc_cells frozen_out
set_option linter.unusedSimpArgs false
def LLadC : Prop := ∀ k u : Nm, k.ok → u.ok → ∀ w, Calls Try.prog 22 #[N k, N u] w fun e w' => e = .returned (N (nm (Cv.lad k.nat u.nat))) ∧ Below w.heap.size w w'
end Go.Proofs.Ytpnfopakkaoibaa
