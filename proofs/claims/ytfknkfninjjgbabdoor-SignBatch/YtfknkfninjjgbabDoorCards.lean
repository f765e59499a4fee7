/-
  DERIVED. GIVEN WITH THE SEED: THE CARDS: each row of YtfknkfninjjgbabDoorRows.lean that lists a variable, with what it lists TIED to the program's text (the seventh form; the later family's looks); each row that meets fmt, with fmt's text TOLD by the authors' own Lean function (tested against real Go, not proved from fmt's source: count such statements apart). THE CARD IS WHAT COUNTS. Prove the row's statement (the work); the ties are given (YtfknkfninjjgbabDoorTie.lean); close each card by the builder's one call (the guide's Derived/Test/ToyasCard.lean, 'card_holds'). Laid BY PROGRAM, IN A SANDBOX (cutbox-door.mjs). By AI agents, Wed Nov 11 2026. No macro, syntax, notation, axiom, sorry.
-/
import Derived.Test.YtfknkfninjjgbabDoorRows
import GoSem.ClaimSeven
namespace Go.Proofs.YtfknkfninjjgbabDoor
namespace Rows

/-- THE TIED CARD OF 'sealringkeep.SignPairs'. -/
def signPairsCard : Claim7 := { stood := { row := signPairsRow, standIns := [], harness := (true, "f65033cda5afa8d8df6178360217e0ca89a66d3eb699dfab25c2313f238e166f"), looks := false }, kinds := [], alts := [], laidByText := true, laidKinds := [.data], laidTests := true, laidLooks := .later }
def SignPairsCardSaid : Prop := Claim7.holds Tryd.pinned (.plain (OpenSpec.ofChange signPairsSpec)) signPairsCard

/-- THE TIED CARD OF 'sealringkeep.SignBatch'. -/
def signBatchCard : Claim7 := { stood := { row := signBatchRow, standIns := [], harness := (true, "f65033cda5afa8d8df6178360217e0ca89a66d3eb699dfab25c2313f238e166f"), looks := false }, kinds := [], alts := [], laidByText := true, laidKinds := [.data], laidTests := true, laidLooks := .later }
def SignBatchCardSaid : Prop := Claim7.holds Tryd.pinned (.plain (OpenSpec.ofChange signBatchSpec)) signBatchCard

/-- THE TIED CARD OF 'sealringkeep.SignAlone'. -/
def signAloneCard : Claim7 := { stood := { row := signAloneRow, standIns := [], harness := (true, "f65033cda5afa8d8df6178360217e0ca89a66d3eb699dfab25c2313f238e166f"), looks := false }, kinds := [], alts := [], laidByText := true, laidKinds := [.data], laidTests := true, laidLooks := .later }
def SignAloneCardSaid : Prop := Claim7.holds Tryd.pinned (.plain (OpenSpec.ofChange signAloneSpec)) signAloneCard

/-- THE SECOND FORM's CARD OF 'sealringkeep.SignPairs'. -/
def signPairsUptoCard : Claim7 := { stood := { row := signPairsUptoRow, standIns := [], harness := (true, "f65033cda5afa8d8df6178360217e0ca89a66d3eb699dfab25c2313f238e166f"), looks := false }, kinds := [], alts := [], laidByText := true, laidKinds := [.data], laidTests := true, laidLooks := .later }
def SignPairsUptoCardSaid : Prop := Claim7.holds Tryd.pinned (.plain (OpenSpec.upto signPairsSpec)) signPairsUptoCard

/-- THE SECOND FORM's CARD OF 'sealringkeep.SignBatch'. -/
def signBatchUptoCard : Claim7 := { stood := { row := signBatchUptoRow, standIns := [], harness := (true, "f65033cda5afa8d8df6178360217e0ca89a66d3eb699dfab25c2313f238e166f"), looks := false }, kinds := [], alts := [], laidByText := true, laidKinds := [.data], laidTests := true, laidLooks := .later }
def SignBatchUptoCardSaid : Prop := Claim7.holds Tryd.pinned (.plain (OpenSpec.upto signBatchSpec)) signBatchUptoCard

/-- THE SECOND FORM's CARD OF 'sealringkeep.SignAlone'. -/
def signAloneUptoCard : Claim7 := { stood := { row := signAloneUptoRow, standIns := [], harness := (true, "f65033cda5afa8d8df6178360217e0ca89a66d3eb699dfab25c2313f238e166f"), looks := false }, kinds := [], alts := [], laidByText := true, laidKinds := [.data], laidTests := true, laidLooks := .later }
def SignAloneUptoCardSaid : Prop := Claim7.holds Tryd.pinned (.plain (OpenSpec.upto signAloneSpec)) signAloneUptoCard
end Rows
end Go.Proofs.YtfknkfninjjgbabDoor
