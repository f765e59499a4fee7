/- The contracts of limb.Low, limb.High and limb.Wide: the halves of a number of eight words. -/
import Derived.Test.YtfknkfninjjgbaaDoorRows
import Derived.Test.YtfknkfninjjgbaaDoorQNumToMul
import Derived.WalkKit
import Derived.WalkSpells
import Derived.WalkLawsBesides
namespace Go.Proofs.YtfknkfninjjgbaaDoor
open Go.RowKit

set_option maxHeartbeats 400000 in
theorem low_fun (l h : Nm) (w : World) :
    Calls Tryd.prog 52 #[Wv l h] w fun e w' => e = .returned (N l) ∧ Below w.heap.size w w' := by
  go_enter Tryd.func52, Tryd.ntmps52
  go_wp2
  refine bodyPost_ret (v := N l) (by simp [results, Tryd.results52, go_sem]) rfl ⟨rfl, ?_⟩
  repeat (first | exact Below.refl _ _ | refine Below.drew ?_ | refine Below.setCell ?_ (by simp <;> omega) _ | refine Below.alloc ?_ (by simp <;> omega) _)
set_option maxHeartbeats 400000 in
theorem high_fun (l h : Nm) (w : World) :
    Calls Tryd.prog 54 #[Wv l h] w fun e w' => e = .returned (N h) ∧ Below w.heap.size w w' := by
  go_enter Tryd.func54, Tryd.ntmps54
  go_wp2
  refine bodyPost_ret (v := N h) (by simp [results, Tryd.results54, go_sem]) rfl ⟨rfl, ?_⟩
  repeat (first | exact Below.refl _ _ | refine Below.drew ?_ | refine Below.setCell ?_ (by simp <;> omega) _ | refine Below.alloc ?_ (by simp <;> omega) _)
set_option maxHeartbeats 400000 in
theorem wideOf_fun (l h : Nm) (w : World) :
    Calls Tryd.prog 45 #[N l, N h] w fun e w' => e = .returned (Wv l h) ∧ Below w.heap.size w w' := by
  go_enter Tryd.func45, Tryd.ntmps45
  go_wp2
  refine bodyPost_ret (v := Wv l h) (by simp [results, Tryd.results45, go_sem]) rfl ⟨rfl, ?_⟩
  repeat (first | exact Below.refl _ _ | refine Below.drew ?_ | refine Below.setCell ?_ (by simp <;> omega) _ | refine Below.alloc ?_ (by simp <;> omega) _)
end Go.Proofs.YtfknkfninjjgbaaDoor
