/- The contracts of limb.Low, limb.High and limb.Wide: the halves of a number of eight words. -/
import Derived.Test.YtdcpicbkemmakabDoorRows
import Derived.Test.YtdcpicbkemmakabDoorQNumToQMath
import Derived.WalkKit
import Derived.WalkSpells
import Derived.WalkLawsBesides
namespace Go.Proofs.YtdcpicbkemmakabDoor
open Go.RowKit

set_option maxHeartbeats 400000 in
theorem low_fun (l h : Nm) (w : World) :
    Calls Tryd.prog 36 #[Wv l h] w fun e w' => e = .returned (N l) ∧ Below w.heap.size w w' := by
  go_enter Tryd.func36, Tryd.ntmps36
  go_wp2
  refine bodyPost_ret (v := N l) (by simp [results, Tryd.results36, go_sem]) rfl ⟨rfl, ?_⟩
  repeat (first | exact Below.refl _ _ | refine Below.drew ?_ | refine Below.setCell ?_ (by simp <;> omega) _ | refine Below.alloc ?_ (by simp <;> omega) _)
set_option maxHeartbeats 400000 in
theorem high_fun (l h : Nm) (w : World) :
    Calls Tryd.prog 34 #[Wv l h] w fun e w' => e = .returned (N h) ∧ Below w.heap.size w w' := by
  go_enter Tryd.func34, Tryd.ntmps34
  go_wp2
  refine bodyPost_ret (v := N h) (by simp [results, Tryd.results34, go_sem]) rfl ⟨rfl, ?_⟩
  repeat (first | exact Below.refl _ _ | refine Below.drew ?_ | refine Below.setCell ?_ (by simp <;> omega) _ | refine Below.alloc ?_ (by simp <;> omega) _)
end Go.Proofs.YtdcpicbkemmakabDoor
