/-
  DERIVED. GIVEN WITH THE SEED: THE CARDS: each row of YtdcpicbkemmakabDoorRows.lean that lists a variable, with what it lists TIED to the program's text (the seventh form; the later family's looks); each row that meets fmt, with fmt's text TOLD by the authors' own Lean function (tested against real Go, not proved from fmt's source: count such statements apart). THE CARD IS WHAT COUNTS. Prove the row's statement (the work); the ties are given (YtdcpicbkemmakabDoorTie.lean); close each card by the builder's one call (the guide's Derived/Test/ToyasCard.lean, 'card_holds'). Laid BY PROGRAM, IN A SANDBOX (cutbox-door.mjs). By AI agents, Wed Nov 11 2026. No macro, syntax, notation, axiom, sorry.
-/
import Derived.Test.YtdcpicbkemmakabDoorRows
import GoSem.ClaimSeven
namespace Go.Proofs.YtdcpicbkemmakabDoor
namespace Rows

/-- THE TIED CARD OF 'sealringkeep.ShareMore'. -/
def shareMoreCard : Claim7 := { stood := { row := shareMoreRow, standIns := [], harness := (true, "e2c417b033cc4901517f273203c091ca492159674f23578453a0cf7953a94300"), looks := false }, kinds := [], alts := [], laidByText := true, laidKinds := [.data], laidTests := true, laidLooks := .later }
def ShareMoreCardSaid : Prop := Claim7.holds Tryd.pinned (.plain (OpenSpec.ofChange shareMoreSpec)) shareMoreCard

/-- THE SECOND FORM's CARD OF 'sealringkeep.ShareMore'. -/
def shareMoreUptoCard : Claim7 := { stood := { row := shareMoreUptoRow, standIns := [], harness := (true, "e2c417b033cc4901517f273203c091ca492159674f23578453a0cf7953a94300"), looks := false }, kinds := [], alts := [], laidByText := true, laidKinds := [.data], laidTests := true, laidLooks := .later }
def ShareMoreUptoCardSaid : Prop := Claim7.holds Tryd.pinned (.plain (OpenSpec.upto shareMoreSpec)) shareMoreUptoCard
end Rows
end Go.Proofs.YtdcpicbkemmakabDoor
