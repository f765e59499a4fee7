/-
  DERIVED. GIVEN WITH THE SEED: THE CARDS: each row of YtfknkfninjjgbaaDoorRows.lean that lists a variable, with what it lists TIED to the program's text (the seventh form; the later family's looks); each row that meets fmt, with fmt's text TOLD by the authors' own Lean function (tested against real Go, not proved from fmt's source: count such statements apart). THE CARD IS WHAT COUNTS. Prove the row's statement (the work); the ties are given (YtfknkfninjjgbaaDoorTie.lean); close each card by the builder's one call (the guide's Derived/Test/ToyasCard.lean, 'card_holds'). Laid BY PROGRAM, IN A SANDBOX (cutbox-door.mjs). By AI agents, Wed Nov 11 2026. No macro, syntax, notation, axiom, sorry.
-/
import Derived.Test.YtfknkfninjjgbaaDoorRows
import GoSem.ClaimSeven
namespace Go.Proofs.YtfknkfninjjgbaaDoor
namespace Rows

/-- THE TIED CARD OF 'sealringkeep.SignTrue'. -/
def signTrueCard : Claim7 := { stood := { row := signTrueRow, standIns := [], harness := (true, "11ab62d6c7c2c2d0fa04336d2992724c733a4c24dd2ed675afa3153457309508"), looks := false }, kinds := [], alts := [], laidByText := true, laidKinds := [.data], laidTests := true, laidLooks := .later }
def SignTrueCardSaid : Prop := Claim7.holds Tryd.pinned (.plain (OpenSpec.ofChange signTrueSpec)) signTrueCard

/-- THE TIED CARD OF 'sealringkeep.SignOnly'. -/
def signOnlyCard : Claim7 := { stood := { row := signOnlyRow, standIns := [], harness := (true, "11ab62d6c7c2c2d0fa04336d2992724c733a4c24dd2ed675afa3153457309508"), looks := false }, kinds := [], alts := [], laidByText := true, laidKinds := [.data], laidTests := true, laidLooks := .later }
def SignOnlyCardSaid : Prop := Claim7.holds Tryd.pinned (.plain (OpenSpec.ofChange signOnlySpec)) signOnlyCard

/-- THE TIED CARD OF 'sealringkeep.SignAgain'. -/
def signAgainCard : Claim7 := { stood := { row := signAgainRow, standIns := [], harness := (true, "11ab62d6c7c2c2d0fa04336d2992724c733a4c24dd2ed675afa3153457309508"), looks := false }, kinds := [], alts := [], laidByText := true, laidKinds := [.data], laidTests := true, laidLooks := .later }
def SignAgainCardSaid : Prop := Claim7.holds Tryd.pinned (.plain (OpenSpec.ofChange signAgainSpec)) signAgainCard

/-- THE SECOND FORM's CARD OF 'sealringkeep.SignTrue'. -/
def signTrueUptoCard : Claim7 := { stood := { row := signTrueUptoRow, standIns := [], harness := (true, "11ab62d6c7c2c2d0fa04336d2992724c733a4c24dd2ed675afa3153457309508"), looks := false }, kinds := [], alts := [], laidByText := true, laidKinds := [.data], laidTests := true, laidLooks := .later }
def SignTrueUptoCardSaid : Prop := Claim7.holds Tryd.pinned (.plain (OpenSpec.upto signTrueSpec)) signTrueUptoCard

/-- THE SECOND FORM's CARD OF 'sealringkeep.SignOnly'. -/
def signOnlyUptoCard : Claim7 := { stood := { row := signOnlyUptoRow, standIns := [], harness := (true, "11ab62d6c7c2c2d0fa04336d2992724c733a4c24dd2ed675afa3153457309508"), looks := false }, kinds := [], alts := [], laidByText := true, laidKinds := [.data], laidTests := true, laidLooks := .later }
def SignOnlyUptoCardSaid : Prop := Claim7.holds Tryd.pinned (.plain (OpenSpec.upto signOnlySpec)) signOnlyUptoCard

/-- THE SECOND FORM's CARD OF 'sealringkeep.SignAgain'. -/
def signAgainUptoCard : Claim7 := { stood := { row := signAgainUptoRow, standIns := [], harness := (true, "11ab62d6c7c2c2d0fa04336d2992724c733a4c24dd2ed675afa3153457309508"), looks := false }, kinds := [], alts := [], laidByText := true, laidKinds := [.data], laidTests := true, laidLooks := .later }
def SignAgainUptoCardSaid : Prop := Claim7.holds Tryd.pinned (.plain (OpenSpec.upto signAgainSpec)) signAgainUptoCard
end Rows
end Go.Proofs.YtfknkfninjjgbaaDoor
