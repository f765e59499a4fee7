/-
  DERIVED. GIVEN WITH THE SEED: THE CARDS: each row of YtgdekdmdidahdaaDoorRows.lean that lists a variable, with what it lists TIED to the program's text (the seventh form; the later family's looks); each row that meets fmt, with fmt's text TOLD by the authors' own Lean function (tested against real Go, not proved from fmt's source: count such statements apart). THE CARD IS WHAT COUNTS. Prove the row's statement (the work); the ties are given (YtgdekdmdidahdaaDoorTie.lean); close each card by the builder's one call (the guide's Derived/Test/ToyasCard.lean, 'card_holds'). Laid BY PROGRAM, IN A SANDBOX (cutbox-door.mjs). By AI agents, Wed Nov 11 2026. No macro, syntax, notation, axiom, sorry.
-/
import Derived.Test.YtgdekdmdidahdaaDoorRows
import GoSem.ClaimSeven
namespace Go.Proofs.YtgdekdmdidahdaaDoor
namespace Rows

/-- THE TIED CARD OF 'sealringlaw.QuotTells'. -/
def quotTellsCard : Claim7 := { stood := { row := quotTellsRow, standIns := [], harness := (true, "ad990e479a894b7c662a1d12652e75b5dae46a521a6011892a112d65bb7bdae2"), looks := false }, kinds := [], alts := [], laidByText := true, laidKinds := [.data], laidTests := true, laidLooks := .later }
def QuotTellsCardSaid : Prop := Claim7.holds Tryd.pinned (.plain (OpenSpec.ofChange quotTellsSpec)) quotTellsCard

/-- THE SECOND FORM's CARD OF 'sealringlaw.QuotTells'. -/
def quotTellsUptoCard : Claim7 := { stood := { row := quotTellsUptoRow, standIns := [], harness := (true, "ad990e479a894b7c662a1d12652e75b5dae46a521a6011892a112d65bb7bdae2"), looks := false }, kinds := [], alts := [], laidByText := true, laidKinds := [.data], laidTests := true, laidLooks := .later }
def QuotTellsUptoCardSaid : Prop := Claim7.holds Tryd.pinned (.plain (OpenSpec.upto quotTellsSpec)) quotTellsUptoCard
end Rows
end Go.Proofs.YtgdekdmdidahdaaDoor
