/-
  DERIVED. GIVEN WITH THE SEED: THE CARDS: each row of YtdcpicbkemmakaaDoorRows.lean that lists a variable, with what it lists TIED to the program's text (the seventh form; the later family's looks); each row that meets fmt, with fmt's text TOLD by the authors' own Lean function (tested against real Go, not proved from fmt's source: count such statements apart). THE CARD IS WHAT COUNTS. Prove the row's statement (the work); the ties are given (YtdcpicbkemmakaaDoorTie.lean); close each card by the builder's one call (the guide's Derived/Test/ToyasCard.lean, 'card_holds'). Laid BY PROGRAM, IN A SANDBOX (cutbox-door.mjs). By AI agents, Wed Nov 11 2026. No macro, syntax, notation, axiom, sorry.
-/
import Derived.Test.YtdcpicbkemmakaaDoorRows
import GoSem.ClaimSeven
namespace Go.Proofs.YtdcpicbkemmakaaDoor
namespace Rows

/-- THE TIED CARD OF 'sealringlaw.ShareSplits'. -/
def shareSplitsCard : Claim7 := { stood := { row := shareSplitsRow, standIns := [], harness := (true, "bdfd18a712e88ccc3af8ce231be33a4de984e0050fcf7be209fc0d05b457c7e4"), looks := false }, kinds := [], alts := [], laidByText := true, laidKinds := [.data, .data], laidTests := true, laidLooks := .later }
def ShareSplitsCardSaid : Prop := Claim7.holds Tryd.pinned (.plain (OpenSpec.ofChange shareSplitsSpec)) shareSplitsCard

/-- THE TIED CARD OF 'sealringkeep.ShareAny'. -/
def shareAnyCard : Claim7 := { stood := { row := shareAnyRow, standIns := [], harness := (true, "bdfd18a712e88ccc3af8ce231be33a4de984e0050fcf7be209fc0d05b457c7e4"), looks := false }, kinds := [], alts := [], laidByText := true, laidKinds := [.data], laidTests := true, laidLooks := .later }
def ShareAnyCardSaid : Prop := Claim7.holds Tryd.pinned (.plain (OpenSpec.ofChange shareAnySpec)) shareAnyCard

/-- THE TIED CARD OF 'sealringkeep.ShareFew'. -/
def shareFewCard : Claim7 := { stood := { row := shareFewRow, standIns := [], harness := (true, "bdfd18a712e88ccc3af8ce231be33a4de984e0050fcf7be209fc0d05b457c7e4"), looks := false }, kinds := [], alts := [], laidByText := true, laidKinds := [.data], laidTests := true, laidLooks := .later }
def ShareFewCardSaid : Prop := Claim7.holds Tryd.pinned (.plain (OpenSpec.ofChange shareFewSpec)) shareFewCard

/-- THE TIED CARD OF 'sealringkeep.ShareSums'. -/
def shareSumsCard : Claim7 := { stood := { row := shareSumsRow, standIns := [], harness := (true, "bdfd18a712e88ccc3af8ce231be33a4de984e0050fcf7be209fc0d05b457c7e4"), looks := false }, kinds := [], alts := [], laidByText := true, laidKinds := [.data], laidTests := true, laidLooks := .later }
def ShareSumsCardSaid : Prop := Claim7.holds Tryd.pinned (.plain (OpenSpec.ofChange shareSumsSpec)) shareSumsCard

/-- THE SECOND FORM's CARD OF 'sealringlaw.ShareSplits'. -/
def shareSplitsUptoCard : Claim7 := { stood := { row := shareSplitsUptoRow, standIns := [], harness := (true, "bdfd18a712e88ccc3af8ce231be33a4de984e0050fcf7be209fc0d05b457c7e4"), looks := false }, kinds := [], alts := [], laidByText := true, laidKinds := [.data, .data], laidTests := true, laidLooks := .later }
def ShareSplitsUptoCardSaid : Prop := Claim7.holds Tryd.pinned (.plain (OpenSpec.upto shareSplitsSpec)) shareSplitsUptoCard

/-- THE SECOND FORM's CARD OF 'sealringkeep.ShareAny'. -/
def shareAnyUptoCard : Claim7 := { stood := { row := shareAnyUptoRow, standIns := [], harness := (true, "bdfd18a712e88ccc3af8ce231be33a4de984e0050fcf7be209fc0d05b457c7e4"), looks := false }, kinds := [], alts := [], laidByText := true, laidKinds := [.data], laidTests := true, laidLooks := .later }
def ShareAnyUptoCardSaid : Prop := Claim7.holds Tryd.pinned (.plain (OpenSpec.upto shareAnySpec)) shareAnyUptoCard

/-- THE SECOND FORM's CARD OF 'sealringkeep.ShareFew'. -/
def shareFewUptoCard : Claim7 := { stood := { row := shareFewUptoRow, standIns := [], harness := (true, "bdfd18a712e88ccc3af8ce231be33a4de984e0050fcf7be209fc0d05b457c7e4"), looks := false }, kinds := [], alts := [], laidByText := true, laidKinds := [.data], laidTests := true, laidLooks := .later }
def ShareFewUptoCardSaid : Prop := Claim7.holds Tryd.pinned (.plain (OpenSpec.upto shareFewSpec)) shareFewUptoCard

/-- THE SECOND FORM's CARD OF 'sealringkeep.ShareSums'. -/
def shareSumsUptoCard : Claim7 := { stood := { row := shareSumsUptoRow, standIns := [], harness := (true, "bdfd18a712e88ccc3af8ce231be33a4de984e0050fcf7be209fc0d05b457c7e4"), looks := false }, kinds := [], alts := [], laidByText := true, laidKinds := [.data], laidTests := true, laidLooks := .later }
def ShareSumsUptoCardSaid : Prop := Claim7.holds Tryd.pinned (.plain (OpenSpec.upto shareSumsSpec)) shareSumsUptoCard
end Rows
end Go.Proofs.YtdcpicbkemmakaaDoor
