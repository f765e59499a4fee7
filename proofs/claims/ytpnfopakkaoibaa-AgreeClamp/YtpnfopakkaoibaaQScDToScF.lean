/- Texts that were joined: ScD, ScF. -/
import Derived.Test.YtpnfopakkaoibaaQMulWToAdN
import Derived.Test.YtpnfopakkaoibaaQPrimeLToCProj
import Derived.Test.YtpnfopakkaoibaaQNumToKn
import Derived.Test.YtpnfopakkaoibaaQUpA
import Derived.Test.YtpnfopakkaoibaaQPick
import Derived.Test.YtpnfopakkaoibaaQHalf
/- What package scalar must keep: its calls' contracts, by numbers modulo the order. -/
namespace Go.Proofs.Ytpnfopakkaoibaa
open Go.RowKit
set_option linter.unusedSimpArgs false
theorem ord_lt : Cv.ord < 2 ^ 256 := by decide
def SLC : Prop := ∀ w, Calls Try.prog 19 #[] w fun e w' => e = .returned (N (nm Cv.ord)) ∧ Below w.heap.size w w'
end Go.Proofs.Ytpnfopakkaoibaa

/- Package scalar, as it landed: L, less, Low, Reduce, Add, Neg, Mul. -/
namespace Go.Proofs.Ytpnfopakkaoibaa
open Go.RowKit
attribute [local go_sem] World.cell?_alloc_some cell_alloc2 cell_alloc3 cell_alloc4 frozen?_alloc_cells frozen_out
set_option linter.unusedSimpArgs false
abbrev lN : Nm := ⟨6346243789798364141, 1503914060200516822, 0, 1152921504606846976⟩
theorem lN_nm : lN = nm Cv.ord := by unfold nm Nm.of; congr 1
set_option maxHeartbeats 1000000 in
theorem sL_walk (w : World) : Calls Try.prog 19 #[] w fun e w' => e = .returned (N lN) ∧ Below w.heap.size w w' := by
  go_enter Try.func19, Try.ntmps19
  have s0 : Hid (Kn (kal4 w (lN)) [(w.heap.size, (c4 (lN)))]) := ((Kn.nil w).al (c4 (lN)) 28 rfl)
  have b0 : Hid (Below w.heap.size w (kal4 w (lN))) := ((Below.refl _ _).alloc (Nat.le_refl _) _)
  go_wp2_with fail
  have urr_0 : (kal4 w (lN)).cell? ⟨w.heap.size, 0, none⟩ = some (.int .u64 (lN).a) := Kn.get s0.out 0 0 rfl rfl
  have urr_1 : (kal4 w (lN)).cell? ⟨w.heap.size, 1, none⟩ = some (.int .u64 (lN).b) := Kn.get s0.out 0 1 rfl rfl
  have urr_2 : (kal4 w (lN)).cell? ⟨w.heap.size, 2, none⟩ = some (.int .u64 (lN).c) := Kn.get s0.out 0 2 rfl rfl
  have urr_3 : (kal4 w (lN)).cell? ⟨w.heap.size, 3, none⟩ = some (.int .u64 (lN).d) := Kn.get s0.out 0 3 rfl rfl
  refine bodyPost_ret (v := N lN) ?_ rfl ⟨rfl, b0.out⟩
  show (results Try.f19 _).run Try.prog (kal4 w (lN)) = .ok _ (kal4 w (lN))
  clear s0 b0
  generalize (kal4 w (lN)) = W9 at *
  simp [results, Try.results19, go_sem, urr_0, urr_1, urr_2, urr_3]
theorem sLC : SLC := fun w => by rw [← lN_nm]; exact sL_walk w
end Go.Proofs.Ytpnfopakkaoibaa
