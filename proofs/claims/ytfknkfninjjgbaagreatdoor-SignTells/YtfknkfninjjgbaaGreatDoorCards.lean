/-
  DERIVED. GIVEN WITH THE SEED: THE CARDS: each row of YtfknkfninjjgbaaGreatDoorRows.lean that lists a variable, with what it lists TIED to the program's text (the seventh form; the later family's looks); each row that meets fmt, with fmt's text TOLD by the authors' own Lean function (tested against real Go, not proved from fmt's source: count such statements apart). THE CARD IS WHAT COUNTS. Prove the row's statement (the work); the ties are given (YtfknkfninjjgbaaGreatDoorTie.lean); close each card by the builder's one call (the guide's Derived/Test/ToyasCard.lean, 'card_holds'). Laid BY PROGRAM, IN A SANDBOX (cutbox-door.mjs). By AI agents, Wed Nov 11 2026. No macro, syntax, notation, axiom, sorry.
-/
import Derived.Test.YtfknkfninjjgbaaGreatDoorRows
import GoSem.ClaimSeven
namespace Go.Proofs.YtfknkfninjjgbaaGreatDoor
namespace Rows

/-- THE TIED CARD OF 'sealringlaw.SignTells'. -/
def signTellsCard : Claim7 := { stood := { row := signTellsRow, standIns := [], harness := (true, "a3ea98138a669bf5f31d64f3e14788bcb7ca71495def7c540021bb8a6cdec67d"), looks := false }, kinds := [], alts := [], laidByText := true, laidKinds := [.data, .data], laidTests := true, laidLooks := .later }
def SignTellsCardSaid : Prop := Claim7.holds Tryz.pinned (.plain (OpenSpec.ofChange signTellsSpec)) signTellsCard

/-- THE TIED CARD OF 'sealringlaw.SignChecks'. -/
def signChecksCard : Claim7 := { stood := { row := signChecksRow, standIns := [], harness := (true, "a3ea98138a669bf5f31d64f3e14788bcb7ca71495def7c540021bb8a6cdec67d"), looks := false }, kinds := [], alts := [], laidByText := true, laidKinds := [.data, .data], laidTests := true, laidLooks := .later }
def SignChecksCardSaid : Prop := Claim7.holds Tryz.pinned (.plain (OpenSpec.ofChange signChecksSpec)) signChecksCard

/-- THE TIED CARD OF 'sealringlaw.SignBatches'. -/
def signBatchesCard : Claim7 := { stood := { row := signBatchesRow, standIns := [], harness := (true, "a3ea98138a669bf5f31d64f3e14788bcb7ca71495def7c540021bb8a6cdec67d"), looks := false }, kinds := [], alts := [], laidByText := true, laidKinds := [.data, .data], laidTests := true, laidLooks := .later }
def SignBatchesCardSaid : Prop := Claim7.holds Tryz.pinned (.plain (OpenSpec.ofChange signBatchesSpec)) signBatchesCard

/-- THE SECOND FORM's CARD OF 'sealringlaw.SignTells'. -/
def signTellsUptoCard : Claim7 := { stood := { row := signTellsUptoRow, standIns := [], harness := (true, "a3ea98138a669bf5f31d64f3e14788bcb7ca71495def7c540021bb8a6cdec67d"), looks := false }, kinds := [], alts := [], laidByText := true, laidKinds := [.data, .data], laidTests := true, laidLooks := .later }
def SignTellsUptoCardSaid : Prop := Claim7.holds Tryz.pinned (.plain (OpenSpec.upto signTellsSpec)) signTellsUptoCard

/-- THE SECOND FORM's CARD OF 'sealringlaw.SignChecks'. -/
def signChecksUptoCard : Claim7 := { stood := { row := signChecksUptoRow, standIns := [], harness := (true, "a3ea98138a669bf5f31d64f3e14788bcb7ca71495def7c540021bb8a6cdec67d"), looks := false }, kinds := [], alts := [], laidByText := true, laidKinds := [.data, .data], laidTests := true, laidLooks := .later }
def SignChecksUptoCardSaid : Prop := Claim7.holds Tryz.pinned (.plain (OpenSpec.upto signChecksSpec)) signChecksUptoCard

/-- THE SECOND FORM's CARD OF 'sealringlaw.SignBatches'. -/
def signBatchesUptoCard : Claim7 := { stood := { row := signBatchesUptoRow, standIns := [], harness := (true, "a3ea98138a669bf5f31d64f3e14788bcb7ca71495def7c540021bb8a6cdec67d"), looks := false }, kinds := [], alts := [], laidByText := true, laidKinds := [.data, .data], laidTests := true, laidLooks := .later }
def SignBatchesUptoCardSaid : Prop := Claim7.holds Tryz.pinned (.plain (OpenSpec.upto signBatchesSpec)) signBatchesUptoCard
end Rows
end Go.Proofs.YtfknkfninjjgbaaGreatDoor
