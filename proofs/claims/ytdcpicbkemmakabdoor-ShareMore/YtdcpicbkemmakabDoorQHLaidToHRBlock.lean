/- Texts that were joined: HLaid, HRBlock. -/
import Derived.Test.YtdcpicbkemmakabDoorQHWordToHMix
import Derived.Test.YtdcpicbkemmakabDoorQArrToHOpen
import Derived.Test.YtdcpicbkemmakabDoorCards
import Derived.Test.YtdcpicbkemmakabDoorTie
import Derived.ProofKit
import Derived.LaidMore
import Derived.OpenShut
import Derived.Deep.DeepHandedRow
import Derived.Lib.LaidTab
import Derived.Test.YtdcpicbkemmakabDoorQBsMkToHRd
import Derived.Test.YtdcpicbkemmakabDoorQHRW
import Derived.Test.YtdcpicbkemmakabDoorQUp3
import Derived.Test.YtdcpicbkemmakabDoorQUpMToUpS
import Derived.Deep.RegionWith
/- What the listed variables give: the tables of hash and of sealringref lie in their blocks. -/
namespace Go.Proofs.YtdcpicbkemmakabDoor
open Go.ChangeShapes Go.WideShapes Go.ChangeAt Go.WideMaps Go.WideElems Go.RowKit
theorem gK : Tryd.prog.globalNamed "sealring/hash.rounds" = some 0 := by kernel_rfl
theorem tK : (Tryd.prog.globals[0]?).map (·.type) = some 97 := by kernel_rfl
theorem cellsU32 : Tryd.prog.cellsOf 71 = 1 := by kernel_rfl
theorem cellsW64 : Tryd.prog.cellsOf 97 = 64 := by kernel_rfl
theorem uU32 : Tryd.prog.underlying 71 = some (.int .u32) := by kernel_rfl
theorem laidK : (Rows.laid_sealring_hash_rounds : DataW Unit) = Lib.tabData .u32 (Kt.map U) := rfl
theorem getD_U (j : Nat) (hj : j < 64) : (Kt.map U).getD j 0 = U (Kt.getD j 0) := by
  have hl : j < Kt.length := hj
  simp [List.getD_eq_getElem?_getD, List.getElem?_eq_getElem hl]
theorem ktab_head {W : World} {rest : List (String × DataW Unit)} (h : laidMet Tryd.prog (("sealring/hash.rounds", Rows.laid_sealring_hash_rounds) :: rest) W) : KTab W := by
  rw [laidK] at h
  intro j hj
  have := (Lib.tabIs_of_head gK tK u_w64 uU32 cellsU32 cellsW64 h).cell gK j (by simpa [Kt] using hj)
  rw [this, getD_U j hj]
theorem ktab_one {W : World} (h : laidMetH Tryd.prog [("sealring/hash.rounds", Rows.laid_sealring_hash_rounds)] W) : KTab W := ktab_head (rest := []) h
end Go.Proofs.YtdcpicbkemmakabDoor

/- The contract of sealringref.block: H behind one more block, by the document's answer. -/
namespace Go.Proofs.YtdcpicbkemmakabDoor
open Go.RowKit
set_option linter.unusedSimpArgs false
attribute [local go_sem] YieldsP execOp
attribute [local simp] MP.eq_p
end Go.Proofs.YtdcpicbkemmakabDoor
