/-
  DERIVED. GIVEN WITH THE SEED: THE CARDS: each row of YtfanndkhajokcaaDoorRows.lean that lists a variable, with what it lists TIED to the program's text (the seventh form; the later family's looks); each row that meets fmt, with fmt's text TOLD by the authors' own Lean function (tested against real Go, not proved from fmt's source: count such statements apart). THE CARD IS WHAT COUNTS. Prove the row's statement (the work); the ties are given (YtfanndkhajokcaaDoorTie.lean); close each card by the builder's one call (the guide's Derived/Test/ToyasCard.lean, 'card_holds'). Laid BY PROGRAM, IN A SANDBOX (cutbox-door.mjs). By AI agents, Wed Nov 11 2026. No macro, syntax, notation, axiom, sorry.
-/
import Derived.Test.YtfanndkhajokcaaDoorRows
import GoSem.ClaimSeven
namespace Go.Proofs.YtfanndkhajokcaaDoor
namespace Rows

/-- THE TIED CARD OF 'sealringlaw.DrawTells'. -/
def drawTellsCard : Claim7 := { stood := { row := drawTellsRow, standIns := [], harness := (true, "5628182ea0ba552312829a375dbd4a8749845cb60d184c5cc73b4d6d20be04be"), looks := false }, kinds := [], alts := [], laidByText := true, laidKinds := [.data, .data], laidTests := true, laidLooks := .later }
def DrawTellsCardSaid : Prop := Claim7.holds Tryd.pinned (.plain (OpenSpec.ofChange drawTellsSpec)) drawTellsCard

/-- THE TIED CARD OF 'sealringkeep.DrawParts'. -/
def drawPartsCard : Claim7 := { stood := { row := drawPartsRow, standIns := [], harness := (true, "5628182ea0ba552312829a375dbd4a8749845cb60d184c5cc73b4d6d20be04be"), looks := false }, kinds := [], alts := [], laidByText := true, laidKinds := [.data], laidTests := true, laidLooks := .later }
def DrawPartsCardSaid : Prop := Claim7.holds Tryd.pinned (.plain (OpenSpec.ofChange drawPartsSpec)) drawPartsCard

/-- THE TIED CARD OF 'sealringkeep.DrawBelow'. -/
def drawBelowCard : Claim7 := { stood := { row := drawBelowRow, standIns := [], harness := (true, "5628182ea0ba552312829a375dbd4a8749845cb60d184c5cc73b4d6d20be04be"), looks := false }, kinds := [], alts := [], laidByText := true, laidKinds := [.data], laidTests := true, laidLooks := .later }
def DrawBelowCardSaid : Prop := Claim7.holds Tryd.pinned (.plain (OpenSpec.ofChange drawBelowSpec)) drawBelowCard

/-- THE TIED CARD OF 'sealringkeep.DrawKeys'. -/
def drawKeysCard : Claim7 := { stood := { row := drawKeysRow, standIns := [], harness := (true, "5628182ea0ba552312829a375dbd4a8749845cb60d184c5cc73b4d6d20be04be"), looks := false }, kinds := [], alts := [], laidByText := true, laidKinds := [.data], laidTests := true, laidLooks := .later }
def DrawKeysCardSaid : Prop := Claim7.holds Tryd.pinned (.plain (OpenSpec.ofChange drawKeysSpec)) drawKeysCard

/-- THE TIED CARD OF 'sealringkeep.DrawBlocks'. -/
def drawBlocksCard : Claim7 := { stood := { row := drawBlocksRow, standIns := [], harness := (true, "5628182ea0ba552312829a375dbd4a8749845cb60d184c5cc73b4d6d20be04be"), looks := false }, kinds := [], alts := [], laidByText := true, laidKinds := [.data], laidTests := true, laidLooks := .later }
def DrawBlocksCardSaid : Prop := Claim7.holds Tryd.pinned (.plain (OpenSpec.ofChange drawBlocksSpec)) drawBlocksCard

/-- THE SECOND FORM's CARD OF 'sealringlaw.DrawTells'. -/
def drawTellsUptoCard : Claim7 := { stood := { row := drawTellsUptoRow, standIns := [], harness := (true, "5628182ea0ba552312829a375dbd4a8749845cb60d184c5cc73b4d6d20be04be"), looks := false }, kinds := [], alts := [], laidByText := true, laidKinds := [.data, .data], laidTests := true, laidLooks := .later }
def DrawTellsUptoCardSaid : Prop := Claim7.holds Tryd.pinned (.plain (OpenSpec.upto drawTellsSpec)) drawTellsUptoCard

/-- THE SECOND FORM's CARD OF 'sealringkeep.DrawParts'. -/
def drawPartsUptoCard : Claim7 := { stood := { row := drawPartsUptoRow, standIns := [], harness := (true, "5628182ea0ba552312829a375dbd4a8749845cb60d184c5cc73b4d6d20be04be"), looks := false }, kinds := [], alts := [], laidByText := true, laidKinds := [.data], laidTests := true, laidLooks := .later }
def DrawPartsUptoCardSaid : Prop := Claim7.holds Tryd.pinned (.plain (OpenSpec.upto drawPartsSpec)) drawPartsUptoCard

/-- THE SECOND FORM's CARD OF 'sealringkeep.DrawBelow'. -/
def drawBelowUptoCard : Claim7 := { stood := { row := drawBelowUptoRow, standIns := [], harness := (true, "5628182ea0ba552312829a375dbd4a8749845cb60d184c5cc73b4d6d20be04be"), looks := false }, kinds := [], alts := [], laidByText := true, laidKinds := [.data], laidTests := true, laidLooks := .later }
def DrawBelowUptoCardSaid : Prop := Claim7.holds Tryd.pinned (.plain (OpenSpec.upto drawBelowSpec)) drawBelowUptoCard

/-- THE SECOND FORM's CARD OF 'sealringkeep.DrawKeys'. -/
def drawKeysUptoCard : Claim7 := { stood := { row := drawKeysUptoRow, standIns := [], harness := (true, "5628182ea0ba552312829a375dbd4a8749845cb60d184c5cc73b4d6d20be04be"), looks := false }, kinds := [], alts := [], laidByText := true, laidKinds := [.data], laidTests := true, laidLooks := .later }
def DrawKeysUptoCardSaid : Prop := Claim7.holds Tryd.pinned (.plain (OpenSpec.upto drawKeysSpec)) drawKeysUptoCard

/-- THE SECOND FORM's CARD OF 'sealringkeep.DrawBlocks'. -/
def drawBlocksUptoCard : Claim7 := { stood := { row := drawBlocksUptoRow, standIns := [], harness := (true, "5628182ea0ba552312829a375dbd4a8749845cb60d184c5cc73b4d6d20be04be"), looks := false }, kinds := [], alts := [], laidByText := true, laidKinds := [.data], laidTests := true, laidLooks := .later }
def DrawBlocksUptoCardSaid : Prop := Claim7.holds Tryd.pinned (.plain (OpenSpec.upto drawBlocksSpec)) drawBlocksUptoCard
end Rows
end Go.Proofs.YtfanndkhajokcaaDoor
