/-
  DERIVED. GIVEN WITH THE SEED: THE CARDS: each row of YtkgkdlgoakgnkabDoorRows.lean that lists a variable, with what it lists TIED to the program's text (the seventh form; the later family's looks); each row that meets fmt, with fmt's text TOLD by the authors' own Lean function (tested against real Go, not proved from fmt's source: count such statements apart). THE CARD IS WHAT COUNTS. Prove the row's statement (the work); the ties are given (YtkgkdlgoakgnkabDoorTie.lean); close each card by the builder's one call (the guide's Derived/Test/ToyasCard.lean, 'card_holds'). Laid BY PROGRAM, IN A SANDBOX (cutbox-door.mjs). By AI agents, Wed Nov 11 2026. No macro, syntax, notation, axiom, sorry.
-/
import Derived.Test.YtkgkdlgoakgnkabDoorRows
import GoSem.ClaimSeven
namespace Go.Proofs.YtkgkdlgoakgnkabDoor
namespace Rows

/-- THE TIED CARD OF 'sealringkeep.QuotGcd'. -/
def quotGcdCard : Claim7 := { stood := { row := quotGcdRow, standIns := [], harness := (true, "7a97872cf00092cee63768e000d8ce8e8191a4900d4215e12e37cb0fd0ce173b"), looks := false }, kinds := [], alts := [], laidByText := true, laidKinds := [.data], laidTests := true, laidLooks := .later }
def QuotGcdCardSaid : Prop := Claim7.holds Tryd.pinned (.plain (OpenSpec.ofChange quotGcdSpec)) quotGcdCard

/-- THE TIED CARD OF 'sealringkeep.QuotBezout'. -/
def quotBezoutCard : Claim7 := { stood := { row := quotBezoutRow, standIns := [], harness := (true, "7a97872cf00092cee63768e000d8ce8e8191a4900d4215e12e37cb0fd0ce173b"), looks := false }, kinds := [], alts := [], laidByText := true, laidKinds := [.data], laidTests := true, laidLooks := .later }
def QuotBezoutCardSaid : Prop := Claim7.holds Tryd.pinned (.plain (OpenSpec.ofChange quotBezoutSpec)) quotBezoutCard

/-- THE SECOND FORM's CARD OF 'sealringkeep.QuotGcd'. -/
def quotGcdUptoCard : Claim7 := { stood := { row := quotGcdUptoRow, standIns := [], harness := (true, "7a97872cf00092cee63768e000d8ce8e8191a4900d4215e12e37cb0fd0ce173b"), looks := false }, kinds := [], alts := [], laidByText := true, laidKinds := [.data], laidTests := true, laidLooks := .later }
def QuotGcdUptoCardSaid : Prop := Claim7.holds Tryd.pinned (.plain (OpenSpec.upto quotGcdSpec)) quotGcdUptoCard

/-- THE SECOND FORM's CARD OF 'sealringkeep.QuotBezout'. -/
def quotBezoutUptoCard : Claim7 := { stood := { row := quotBezoutUptoRow, standIns := [], harness := (true, "7a97872cf00092cee63768e000d8ce8e8191a4900d4215e12e37cb0fd0ce173b"), looks := false }, kinds := [], alts := [], laidByText := true, laidKinds := [.data], laidTests := true, laidLooks := .later }
def QuotBezoutUptoCardSaid : Prop := Claim7.holds Tryd.pinned (.plain (OpenSpec.upto quotBezoutSpec)) quotBezoutUptoCard
end Rows
end Go.Proofs.YtkgkdlgoakgnkabDoor
