/- The contracts of limb.Low, limb.High and limb.Wide: the halves of a number of eight words. -/
import Derived.Test.YtgdekdmdidahdaaRows
import Derived.Test.YtgdekdmdidahdaaNum
import Derived.WalkKit
import Derived.WalkSpells
import Derived.WalkLawsBesides
namespace Go.Proofs.Ytgdekdmdidahdaa
open Go.RowKit

set_option maxHeartbeats 400000 in
theorem low_fun (l h : Nm) (w : World) :
    Calls Try.prog 29 #[Wv l h] w fun e w' => e = .returned (N l) ∧ Below w.heap.size w w' := by
  go_enter Try.func29, Try.ntmps29
  go_wp2
  refine bodyPost_ret (v := N l) (by simp [results, Try.results29, go_sem]) rfl ⟨rfl, ?_⟩
  repeat (first | exact Below.refl _ _ | refine Below.drew ?_ | refine Below.setCell ?_ (by simp <;> omega) _ | refine Below.alloc ?_ (by simp <;> omega) _)
set_option maxHeartbeats 400000 in
theorem high_fun (l h : Nm) (w : World) :
    Calls Try.prog 30 #[Wv l h] w fun e w' => e = .returned (N h) ∧ Below w.heap.size w w' := by
  go_enter Try.func30, Try.ntmps30
  go_wp2
  refine bodyPost_ret (v := N h) (by simp [results, Try.results30, go_sem]) rfl ⟨rfl, ?_⟩
  repeat (first | exact Below.refl _ _ | refine Below.drew ?_ | refine Below.setCell ?_ (by simp <;> omega) _ | refine Below.alloc ?_ (by simp <;> omega) _)
set_option maxHeartbeats 400000 in
theorem wideOf_fun (l h : Nm) (w : World) :
    Calls Try.prog 26 #[N l, N h] w fun e w' => e = .returned (Wv l h) ∧ Below w.heap.size w w' := by
  go_enter Try.func26, Try.ntmps26
  go_wp2
  refine bodyPost_ret (v := Wv l h) (by simp [results, Try.results26, go_sem]) rfl ⟨rfl, ?_⟩
  repeat (first | exact Below.refl _ _ | refine Below.drew ?_ | refine Below.setCell ?_ (by simp <;> omega) _ | refine Below.alloc ?_ (by simp <;> omega) _)
end Go.Proofs.Ytgdekdmdidahdaa
