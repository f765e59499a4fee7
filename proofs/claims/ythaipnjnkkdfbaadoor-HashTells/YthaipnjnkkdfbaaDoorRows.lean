/-
  NARROWER THAN 'FOR EVERY INPUT', by the rows' own cells (each row's printed sentence says how): HashTells: laid · HashResumes: laid · HashPieces: laid · HashCopies: laid · HashExtends: laid.
  DERIVED. THE GIVEN ROWS OF THIS SEAT. 5 by the template 'for every input the law returns true; each argument reads behind the call as it read before'; 0 by the template 'total and deterministic' (their statements: YthaipnjnkkdfbaaDoorTotals.lean).
  GIVEN WITH THE SEED: the statements are not yours to turn. If you find one false, say at which input.
  Laid BY PROGRAM, IN A SANDBOX (cutbox-rows.mjs): the forced cells as the released guide's own fill.sh prints them over the translation d18e4c973975574b… (all of the seat's roots in one cut). By AI agents, Wed Nov 11 2026. No macro, syntax, notation, axiom, sorry.
-/
import Derived.Test.YthaipnjnkkdfbaaDoorChecked
import GoSem.Claim
import GoSem.ClaimJoined
import GoSem.ClaimMapViews
import Derived.JoinedTies
import Derived.KernelRfl
namespace Go.Proofs.YthaipnjnkkdfbaaDoor
/- THE CELL 'sum', in the pinned program and in every row, IS THE sha256 OF THE DUMP (.gsa) THAT YthaipnjnkkdfbaaDoorProg.lean LOADS. Nothing in Lean hashes anything: it is a label: what it is worth is what the hold of that sum in a sandbox is worth. -/
noncomputable def Tryd.pinned : Pinned := { name := "ythaipnjnkkdfbaadoor", sum := "d18e4c973975574b17540a3f4c05c1ca2c3fe1ef54977d018e1bf4c552acb8d0", checked := Tryd.checked }
namespace Rows
def none {H : Type} : Left H := { results := [], args := [] }

/- WHAT THE LISTED PACKAGE-LEVEL VARIABLES READ AS WHEN THE CALL BEGINS. Each datum BY PROGRAM (the guide's laid-datum.mjs) off the statement by which the dump's own 'gosem.cut.vars' lays the variable. In a bare row this is a premise. The card (YthaipnjnkkdfbaaDoorCards.lean) ties it to the program's text. -/
def laid_sealring_hash_rounds {H : Type} : DataW H := .agg [.lit (.int .u32 1116352408), .lit (.int .u32 1899447441), .lit (.int .u32 3049323471), .lit (.int .u32 3921009573), .lit (.int .u32 961987163), .lit (.int .u32 1508970993), .lit (.int .u32 2453635748), .lit (.int .u32 2870763221), .lit (.int .u32 3624381080), .lit (.int .u32 310598401), .lit (.int .u32 607225278), .lit (.int .u32 1426881987), .lit (.int .u32 1925078388), .lit (.int .u32 2162078206), .lit (.int .u32 2614888103), .lit (.int .u32 3248222580), .lit (.int .u32 3835390401), .lit (.int .u32 4022224774), .lit (.int .u32 264347078), .lit (.int .u32 604807628), .lit (.int .u32 770255983), .lit (.int .u32 1249150122), .lit (.int .u32 1555081692), .lit (.int .u32 1996064986), .lit (.int .u32 2554220882), .lit (.int .u32 2821834349), .lit (.int .u32 2952996808), .lit (.int .u32 3210313671), .lit (.int .u32 3336571891), .lit (.int .u32 3584528711), .lit (.int .u32 113926993), .lit (.int .u32 338241895), .lit (.int .u32 666307205), .lit (.int .u32 773529912), .lit (.int .u32 1294757372), .lit (.int .u32 1396182291), .lit (.int .u32 1695183700), .lit (.int .u32 1986661051), .lit (.int .u32 2177026350), .lit (.int .u32 2456956037), .lit (.int .u32 2730485921), .lit (.int .u32 2820302411), .lit (.int .u32 3259730800), .lit (.int .u32 3345764771), .lit (.int .u32 3516065817), .lit (.int .u32 3600352804), .lit (.int .u32 4094571909), .lit (.int .u32 275423344), .lit (.int .u32 430227734), .lit (.int .u32 506948616), .lit (.int .u32 659060556), .lit (.int .u32 883997877), .lit (.int .u32 958139571), .lit (.int .u32 1322822218), .lit (.int .u32 1537002063), .lit (.int .u32 1747873779), .lit (.int .u32 1955562222), .lit (.int .u32 2024104815), .lit (.int .u32 2227730452), .lit (.int .u32 2361852424), .lit (.int .u32 2428436474), .lit (.int .u32 2756734187), .lit (.int .u32 3204031479), .lit (.int .u32 3329325298)]
def laid_sealring_sealringref_roundNumbers {H : Type} : DataW H := .agg [.lit (.int .u32 1116352408), .lit (.int .u32 1899447441), .lit (.int .u32 3049323471), .lit (.int .u32 3921009573), .lit (.int .u32 961987163), .lit (.int .u32 1508970993), .lit (.int .u32 2453635748), .lit (.int .u32 2870763221), .lit (.int .u32 3624381080), .lit (.int .u32 310598401), .lit (.int .u32 607225278), .lit (.int .u32 1426881987), .lit (.int .u32 1925078388), .lit (.int .u32 2162078206), .lit (.int .u32 2614888103), .lit (.int .u32 3248222580), .lit (.int .u32 3835390401), .lit (.int .u32 4022224774), .lit (.int .u32 264347078), .lit (.int .u32 604807628), .lit (.int .u32 770255983), .lit (.int .u32 1249150122), .lit (.int .u32 1555081692), .lit (.int .u32 1996064986), .lit (.int .u32 2554220882), .lit (.int .u32 2821834349), .lit (.int .u32 2952996808), .lit (.int .u32 3210313671), .lit (.int .u32 3336571891), .lit (.int .u32 3584528711), .lit (.int .u32 113926993), .lit (.int .u32 338241895), .lit (.int .u32 666307205), .lit (.int .u32 773529912), .lit (.int .u32 1294757372), .lit (.int .u32 1396182291), .lit (.int .u32 1695183700), .lit (.int .u32 1986661051), .lit (.int .u32 2177026350), .lit (.int .u32 2456956037), .lit (.int .u32 2730485921), .lit (.int .u32 2820302411), .lit (.int .u32 3259730800), .lit (.int .u32 3345764771), .lit (.int .u32 3516065817), .lit (.int .u32 3600352804), .lit (.int .u32 4094571909), .lit (.int .u32 275423344), .lit (.int .u32 430227734), .lit (.int .u32 506948616), .lit (.int .u32 659060556), .lit (.int .u32 883997877), .lit (.int .u32 958139571), .lit (.int .u32 1322822218), .lit (.int .u32 1537002063), .lit (.int .u32 1747873779), .lit (.int .u32 1955562222), .lit (.int .u32 2024104815), .lit (.int .u32 2227730452), .lit (.int .u32 2361852424), .lit (.int .u32 2428436474), .lit (.int .u32 2756734187), .lit (.int .u32 3204031479), .lit (.int .u32 3329325298)]

/-- 'sealringlaw.HashTells': WHATEVER THE INPUT: true; the input reads as it did. -/
def hashTellsSpec : ChangeSpec := { name := "hashTells", fn := fun _ => fun
  | [d1, d2, d3] => { results := [.lit (.bool true)], args := [d1, d2, d3] }
  | _ => none }
def hashTellsRow : OpenClaim := { program := "ythaipnjnkkdfbaadoor", sum := "d18e4c973975574b17540a3f4c05c1ca2c3fe1ef54977d018e1bf4c552acb8d0", func := "sealring/sealringlaw.HashTells", spec := "hashTells", named := ["sealring/hash.rounds", "sealring/sealringref.roundNumbers"], apart := false, laid := [("sealring/hash.rounds", laid_sealring_hash_rounds), ("sealring/sealringref.roundNumbers", laid_sealring_sealringref_roundNumbers)] }
def HashTellsSaid : Prop := hashTellsRow.holds Tryd.pinned (OpenSpec.ofChange hashTellsSpec)

/-- ITS FALSE NEIGHBOUR: 'it returns false'. Refute it at one input. -/
def hashTellsWrong : ChangeSpec := { name := "hashTells", fn := fun _ => fun
  | [d1, d2, d3] => { results := [.lit (.bool false)], args := [d1, d2, d3] }
  | _ => none }
def HashTellsWrongFalsely : Prop := hashTellsRow.holds Tryd.pinned (OpenSpec.ofChange hashTellsWrong)

/-- 'sealringlaw.HashResumes': WHATEVER THE INPUT: true; the input reads as it did. -/
def hashResumesSpec : ChangeSpec := { name := "hashResumes", fn := fun _ => fun
  | [d1, d2, d3] => { results := [.lit (.bool true)], args := [d1, d2, d3] }
  | _ => none }
def hashResumesRow : OpenClaim := { program := "ythaipnjnkkdfbaadoor", sum := "d18e4c973975574b17540a3f4c05c1ca2c3fe1ef54977d018e1bf4c552acb8d0", func := "sealring/sealringlaw.HashResumes", spec := "hashResumes", named := ["sealring/hash.rounds", "sealring/sealringref.roundNumbers"], apart := false, laid := [("sealring/hash.rounds", laid_sealring_hash_rounds), ("sealring/sealringref.roundNumbers", laid_sealring_sealringref_roundNumbers)] }
def HashResumesSaid : Prop := hashResumesRow.holds Tryd.pinned (OpenSpec.ofChange hashResumesSpec)

/-- ITS FALSE NEIGHBOUR: 'it returns false'. Refute it at one input. -/
def hashResumesWrong : ChangeSpec := { name := "hashResumes", fn := fun _ => fun
  | [d1, d2, d3] => { results := [.lit (.bool false)], args := [d1, d2, d3] }
  | _ => none }
def HashResumesWrongFalsely : Prop := hashResumesRow.holds Tryd.pinned (OpenSpec.ofChange hashResumesWrong)

/-- 'sealringkeep.HashPieces': WHATEVER THE INPUT: true; the input reads as it did. -/
def hashPiecesSpec : ChangeSpec := { name := "hashPieces", fn := fun _ => fun
  | [d1, d2] => { results := [.lit (.bool true)], args := [d1, d2] }
  | _ => none }
def hashPiecesRow : OpenClaim := { program := "ythaipnjnkkdfbaadoor", sum := "d18e4c973975574b17540a3f4c05c1ca2c3fe1ef54977d018e1bf4c552acb8d0", func := "sealring/sealringkeep.HashPieces", spec := "hashPieces", named := ["sealring/hash.rounds"], apart := false, laid := [("sealring/hash.rounds", laid_sealring_hash_rounds)] }
def HashPiecesSaid : Prop := hashPiecesRow.holds Tryd.pinned (OpenSpec.ofChange hashPiecesSpec)

/-- ITS FALSE NEIGHBOUR: 'it returns false'. Refute it at one input. -/
def hashPiecesWrong : ChangeSpec := { name := "hashPieces", fn := fun _ => fun
  | [d1, d2] => { results := [.lit (.bool false)], args := [d1, d2] }
  | _ => none }
def HashPiecesWrongFalsely : Prop := hashPiecesRow.holds Tryd.pinned (OpenSpec.ofChange hashPiecesWrong)

/-- 'sealringkeep.HashCopies': WHATEVER THE INPUT: true; the input reads as it did. -/
def hashCopiesSpec : ChangeSpec := { name := "hashCopies", fn := fun _ => fun
  | [d1, d2, d3] => { results := [.lit (.bool true)], args := [d1, d2, d3] }
  | _ => none }
def hashCopiesRow : OpenClaim := { program := "ythaipnjnkkdfbaadoor", sum := "d18e4c973975574b17540a3f4c05c1ca2c3fe1ef54977d018e1bf4c552acb8d0", func := "sealring/sealringkeep.HashCopies", spec := "hashCopies", named := ["sealring/hash.rounds"], apart := false, laid := [("sealring/hash.rounds", laid_sealring_hash_rounds)] }
def HashCopiesSaid : Prop := hashCopiesRow.holds Tryd.pinned (OpenSpec.ofChange hashCopiesSpec)

/-- ITS FALSE NEIGHBOUR: 'it returns false'. Refute it at one input. -/
def hashCopiesWrong : ChangeSpec := { name := "hashCopies", fn := fun _ => fun
  | [d1, d2, d3] => { results := [.lit (.bool false)], args := [d1, d2, d3] }
  | _ => none }
def HashCopiesWrongFalsely : Prop := hashCopiesRow.holds Tryd.pinned (OpenSpec.ofChange hashCopiesWrong)

/-- 'sealringkeep.HashExtends': WHATEVER THE INPUT: true; the input reads as it did. -/
def hashExtendsSpec : ChangeSpec := { name := "hashExtends", fn := fun _ => fun
  | [d1, d2] => { results := [.lit (.bool true)], args := [d1, d2] }
  | _ => none }
def hashExtendsRow : OpenClaim := { program := "ythaipnjnkkdfbaadoor", sum := "d18e4c973975574b17540a3f4c05c1ca2c3fe1ef54977d018e1bf4c552acb8d0", func := "sealring/sealringkeep.HashExtends", spec := "hashExtends", named := ["sealring/hash.rounds"], apart := false, laid := [("sealring/hash.rounds", laid_sealring_hash_rounds)] }
def HashExtendsSaid : Prop := hashExtendsRow.holds Tryd.pinned (OpenSpec.ofChange hashExtendsSpec)

/-- ITS FALSE NEIGHBOUR: 'it returns false'. Refute it at one input. -/
def hashExtendsWrong : ChangeSpec := { name := "hashExtends", fn := fun _ => fun
  | [d1, d2] => { results := [.lit (.bool false)], args := [d1, d2] }
  | _ => none }
def HashExtendsWrongFalsely : Prop := hashExtendsRow.holds Tryd.pinned (OpenSpec.ofChange hashExtendsWrong)

/- THE SECOND FORM. 'bulk': how many values and letters a reading holds, each counted each time it is reached (what is shared counts as often as it is met; a slice's spare places count too). A statement '..UptoSaid' is the law's where the arguments, and the package variables that the reading takes, are together of bulk at most 1048576: NARROWER than '..Said'. Prove '..Said' where nothing that the law and all that it calls make is longer than what came in: it says more and counts as full. Else prove '..UptoSaid'. A law counts once. -/
mutual
def uptoBulk {H : Type} : DataW H → Nat
  | .lit (.string bytes) => bytes.length + 1
  | .lit _ => 1
  | .nil => 1
  | .ptr d => uptoBulk d + 1
  | .slice elems spare => uptoBulkAll elems + uptoBulkAll spare + 1
  | .agg parts => uptoBulkAll parts + 1
  | .iface _ d => uptoBulk d + 1
  | .map entries => uptoBulkEntries entries + 1
  | .held _ => 1
def uptoBulkAll {H : Type} : List (DataW H) → Nat
  | [] => 0
  | d :: r => uptoBulk d + uptoBulkAll r
def uptoBulkEntries {H : Type} : List (Lit × DataW H) → Nat
  | [] => 0
  | x :: r => uptoBulkEntry x + uptoBulkEntries r
def uptoBulkEntry {H : Type} : Lit × DataW H → Nat
  | (.string bytes, d) => bytes.length + uptoBulk d + 1
  | (_, d) => uptoBulk d + 1
 end
def uptoSmall : (H : Type) → List (DataW H) → Bool := fun _ ds => decide (uptoBulkAll ds ≤ 1048576)
def OpenSpec.upto (s : _root_.Go.ChangeSpec) : _root_.Go.OpenSpec := { _root_.Go.OpenSpec.ofChange s with cond := some uptoSmall }

/-- 'sealringlaw.HashTells', WHERE WHAT IT READS IS OF BULK AT MOST 1048576: true; the input reads as it did. -/
def hashTellsUptoRow : OpenClaim := { program := "ythaipnjnkkdfbaadoor", sum := "d18e4c973975574b17540a3f4c05c1ca2c3fe1ef54977d018e1bf4c552acb8d0", func := "sealring/sealringlaw.HashTells", spec := "hashTells", named := ["sealring/hash.rounds", "sealring/sealringref.roundNumbers"], apart := false, laid := [("sealring/hash.rounds", laid_sealring_hash_rounds), ("sealring/sealringref.roundNumbers", laid_sealring_sealringref_roundNumbers)], narrowed := true }
def HashTellsUptoSaid : Prop := hashTellsUptoRow.holds Tryd.pinned (OpenSpec.upto hashTellsSpec)

/-- 'sealringlaw.HashResumes', WHERE WHAT IT READS IS OF BULK AT MOST 1048576: true; the input reads as it did. -/
def hashResumesUptoRow : OpenClaim := { program := "ythaipnjnkkdfbaadoor", sum := "d18e4c973975574b17540a3f4c05c1ca2c3fe1ef54977d018e1bf4c552acb8d0", func := "sealring/sealringlaw.HashResumes", spec := "hashResumes", named := ["sealring/hash.rounds", "sealring/sealringref.roundNumbers"], apart := false, laid := [("sealring/hash.rounds", laid_sealring_hash_rounds), ("sealring/sealringref.roundNumbers", laid_sealring_sealringref_roundNumbers)], narrowed := true }
def HashResumesUptoSaid : Prop := hashResumesUptoRow.holds Tryd.pinned (OpenSpec.upto hashResumesSpec)

/-- 'sealringkeep.HashPieces', WHERE WHAT IT READS IS OF BULK AT MOST 1048576: true; the input reads as it did. -/
def hashPiecesUptoRow : OpenClaim := { program := "ythaipnjnkkdfbaadoor", sum := "d18e4c973975574b17540a3f4c05c1ca2c3fe1ef54977d018e1bf4c552acb8d0", func := "sealring/sealringkeep.HashPieces", spec := "hashPieces", named := ["sealring/hash.rounds"], apart := false, laid := [("sealring/hash.rounds", laid_sealring_hash_rounds)], narrowed := true }
def HashPiecesUptoSaid : Prop := hashPiecesUptoRow.holds Tryd.pinned (OpenSpec.upto hashPiecesSpec)

/-- 'sealringkeep.HashCopies', WHERE WHAT IT READS IS OF BULK AT MOST 1048576: true; the input reads as it did. -/
def hashCopiesUptoRow : OpenClaim := { program := "ythaipnjnkkdfbaadoor", sum := "d18e4c973975574b17540a3f4c05c1ca2c3fe1ef54977d018e1bf4c552acb8d0", func := "sealring/sealringkeep.HashCopies", spec := "hashCopies", named := ["sealring/hash.rounds"], apart := false, laid := [("sealring/hash.rounds", laid_sealring_hash_rounds)], narrowed := true }
def HashCopiesUptoSaid : Prop := hashCopiesUptoRow.holds Tryd.pinned (OpenSpec.upto hashCopiesSpec)

/-- 'sealringkeep.HashExtends', WHERE WHAT IT READS IS OF BULK AT MOST 1048576: true; the input reads as it did. -/
def hashExtendsUptoRow : OpenClaim := { program := "ythaipnjnkkdfbaadoor", sum := "d18e4c973975574b17540a3f4c05c1ca2c3fe1ef54977d018e1bf4c552acb8d0", func := "sealring/sealringkeep.HashExtends", spec := "hashExtends", named := ["sealring/hash.rounds"], apart := false, laid := [("sealring/hash.rounds", laid_sealring_hash_rounds)], narrowed := true }
def HashExtendsUptoSaid : Prop := hashExtendsUptoRow.holds Tryd.pinned (OpenSpec.upto hashExtendsSpec)

end Rows
end Go.Proofs.YthaipnjnkkdfbaaDoor
