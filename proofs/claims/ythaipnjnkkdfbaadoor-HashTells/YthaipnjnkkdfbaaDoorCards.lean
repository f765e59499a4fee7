/-
  DERIVED. GIVEN WITH THE SEED: THE CARDS: each row of YthaipnjnkkdfbaaDoorRows.lean that lists a variable, with what it lists TIED to the program's text (the seventh form; the later family's looks); each row that meets fmt, with fmt's text TOLD by the authors' own Lean function (tested against real Go, not proved from fmt's source: count such statements apart). THE CARD IS WHAT COUNTS. Prove the row's statement (the work); the ties are given (YthaipnjnkkdfbaaDoorTie.lean); close each card by the builder's one call (the guide's Derived/Test/ToyasCard.lean, 'card_holds'). Laid BY PROGRAM, IN A SANDBOX (cutbox-door.mjs). By AI agents, Wed Nov 11 2026. No macro, syntax, notation, axiom, sorry.
-/
import Derived.Test.YthaipnjnkkdfbaaDoorRows
import GoSem.ClaimSeven
namespace Go.Proofs.YthaipnjnkkdfbaaDoor
namespace Rows

/-- THE TIED CARD OF 'sealringlaw.HashTells'. -/
def hashTellsCard : Claim7 := { stood := { row := hashTellsRow, standIns := [], harness := (true, "1d3352f334fa93fc7d8a116ca366b883df93ec7065d9558e88011cbe14d38541"), looks := false }, kinds := [], alts := [], laidByText := true, laidKinds := [.data, .data], laidTests := true, laidLooks := .later }
def HashTellsCardSaid : Prop := Claim7.holds Tryd.pinned (.plain (OpenSpec.ofChange hashTellsSpec)) hashTellsCard

/-- THE TIED CARD OF 'sealringlaw.HashResumes'. -/
def hashResumesCard : Claim7 := { stood := { row := hashResumesRow, standIns := [], harness := (true, "1d3352f334fa93fc7d8a116ca366b883df93ec7065d9558e88011cbe14d38541"), looks := false }, kinds := [], alts := [], laidByText := true, laidKinds := [.data, .data], laidTests := true, laidLooks := .later }
def HashResumesCardSaid : Prop := Claim7.holds Tryd.pinned (.plain (OpenSpec.ofChange hashResumesSpec)) hashResumesCard

/-- THE TIED CARD OF 'sealringkeep.HashPieces'. -/
def hashPiecesCard : Claim7 := { stood := { row := hashPiecesRow, standIns := [], harness := (true, "1d3352f334fa93fc7d8a116ca366b883df93ec7065d9558e88011cbe14d38541"), looks := false }, kinds := [], alts := [], laidByText := true, laidKinds := [.data], laidTests := true, laidLooks := .later }
def HashPiecesCardSaid : Prop := Claim7.holds Tryd.pinned (.plain (OpenSpec.ofChange hashPiecesSpec)) hashPiecesCard

/-- THE TIED CARD OF 'sealringkeep.HashCopies'. -/
def hashCopiesCard : Claim7 := { stood := { row := hashCopiesRow, standIns := [], harness := (true, "1d3352f334fa93fc7d8a116ca366b883df93ec7065d9558e88011cbe14d38541"), looks := false }, kinds := [], alts := [], laidByText := true, laidKinds := [.data], laidTests := true, laidLooks := .later }
def HashCopiesCardSaid : Prop := Claim7.holds Tryd.pinned (.plain (OpenSpec.ofChange hashCopiesSpec)) hashCopiesCard

/-- THE TIED CARD OF 'sealringkeep.HashExtends'. -/
def hashExtendsCard : Claim7 := { stood := { row := hashExtendsRow, standIns := [], harness := (true, "1d3352f334fa93fc7d8a116ca366b883df93ec7065d9558e88011cbe14d38541"), looks := false }, kinds := [], alts := [], laidByText := true, laidKinds := [.data], laidTests := true, laidLooks := .later }
def HashExtendsCardSaid : Prop := Claim7.holds Tryd.pinned (.plain (OpenSpec.ofChange hashExtendsSpec)) hashExtendsCard

/-- THE SECOND FORM's CARD OF 'sealringlaw.HashTells'. -/
def hashTellsUptoCard : Claim7 := { stood := { row := hashTellsUptoRow, standIns := [], harness := (true, "1d3352f334fa93fc7d8a116ca366b883df93ec7065d9558e88011cbe14d38541"), looks := false }, kinds := [], alts := [], laidByText := true, laidKinds := [.data, .data], laidTests := true, laidLooks := .later }
def HashTellsUptoCardSaid : Prop := Claim7.holds Tryd.pinned (.plain (OpenSpec.upto hashTellsSpec)) hashTellsUptoCard

/-- THE SECOND FORM's CARD OF 'sealringlaw.HashResumes'. -/
def hashResumesUptoCard : Claim7 := { stood := { row := hashResumesUptoRow, standIns := [], harness := (true, "1d3352f334fa93fc7d8a116ca366b883df93ec7065d9558e88011cbe14d38541"), looks := false }, kinds := [], alts := [], laidByText := true, laidKinds := [.data, .data], laidTests := true, laidLooks := .later }
def HashResumesUptoCardSaid : Prop := Claim7.holds Tryd.pinned (.plain (OpenSpec.upto hashResumesSpec)) hashResumesUptoCard

/-- THE SECOND FORM's CARD OF 'sealringkeep.HashPieces'. -/
def hashPiecesUptoCard : Claim7 := { stood := { row := hashPiecesUptoRow, standIns := [], harness := (true, "1d3352f334fa93fc7d8a116ca366b883df93ec7065d9558e88011cbe14d38541"), looks := false }, kinds := [], alts := [], laidByText := true, laidKinds := [.data], laidTests := true, laidLooks := .later }
def HashPiecesUptoCardSaid : Prop := Claim7.holds Tryd.pinned (.plain (OpenSpec.upto hashPiecesSpec)) hashPiecesUptoCard

/-- THE SECOND FORM's CARD OF 'sealringkeep.HashCopies'. -/
def hashCopiesUptoCard : Claim7 := { stood := { row := hashCopiesUptoRow, standIns := [], harness := (true, "1d3352f334fa93fc7d8a116ca366b883df93ec7065d9558e88011cbe14d38541"), looks := false }, kinds := [], alts := [], laidByText := true, laidKinds := [.data], laidTests := true, laidLooks := .later }
def HashCopiesUptoCardSaid : Prop := Claim7.holds Tryd.pinned (.plain (OpenSpec.upto hashCopiesSpec)) hashCopiesUptoCard

/-- THE SECOND FORM's CARD OF 'sealringkeep.HashExtends'. -/
def hashExtendsUptoCard : Claim7 := { stood := { row := hashExtendsUptoRow, standIns := [], harness := (true, "1d3352f334fa93fc7d8a116ca366b883df93ec7065d9558e88011cbe14d38541"), looks := false }, kinds := [], alts := [], laidByText := true, laidKinds := [.data], laidTests := true, laidLooks := .later }
def HashExtendsUptoCardSaid : Prop := Claim7.holds Tryd.pinned (.plain (OpenSpec.upto hashExtendsSpec)) hashExtendsUptoCard
end Rows
end Go.Proofs.YthaipnjnkkdfbaaDoor
