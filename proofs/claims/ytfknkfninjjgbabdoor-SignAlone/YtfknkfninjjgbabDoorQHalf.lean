/- The contracts of limb.Low, limb.High and limb.Wide: the halves of a number of eight words. -/
import Derived.Test.YtfknkfninjjgbabDoorRows
import Derived.Test.YtfknkfninjjgbabDoorQNumToMul
import Derived.WalkKit
import Derived.WalkSpells
import Derived.WalkLawsBesides
namespace Go.Proofs.YtfknkfninjjgbabDoor
open Go.RowKit

set_option maxHeartbeats 400000 in
theorem low_fun (l h : Nm) (w : World) :
    Calls Tryd.prog 66 #[Wv l h] w fun e w' => e = .returned (N l) ∧ Below w.heap.size w w' := by
  go_enter Tryd.func66, Tryd.ntmps66
  go_wp2
  refine bodyPost_ret (v := N l) (by simp [results, Tryd.results66, go_sem]) rfl ⟨rfl, ?_⟩
  repeat (first | exact Below.refl _ _ | refine Below.drew ?_ | refine Below.setCell ?_ (by simp <;> omega) _ | refine Below.alloc ?_ (by simp <;> omega) _)
set_option maxHeartbeats 400000 in
theorem high_fun (l h : Nm) (w : World) :
    Calls Tryd.prog 65 #[Wv l h] w fun e w' => e = .returned (N h) ∧ Below w.heap.size w w' := by
  go_enter Tryd.func65, Tryd.ntmps65
  go_wp2
  refine bodyPost_ret (v := N h) (by simp [results, Tryd.results65, go_sem]) rfl ⟨rfl, ?_⟩
  repeat (first | exact Below.refl _ _ | refine Below.drew ?_ | refine Below.setCell ?_ (by simp <;> omega) _ | refine Below.alloc ?_ (by simp <;> omega) _)
set_option maxHeartbeats 400000 in
theorem wideOf_fun (l h : Nm) (w : World) :
    Calls Tryd.prog 61 #[N l, N h] w fun e w' => e = .returned (Wv l h) ∧ Below w.heap.size w w' := by
  go_enter Tryd.func61, Tryd.ntmps61
  go_wp2
  refine bodyPost_ret (v := Wv l h) (by simp [results, Tryd.results61, go_sem]) rfl ⟨rfl, ?_⟩
  repeat (first | exact Below.refl _ _ | refine Below.drew ?_ | refine Below.setCell ?_ (by simp <;> omega) _ | refine Below.alloc ?_ (by simp <;> omega) _)
end Go.Proofs.YtfknkfninjjgbabDoor
