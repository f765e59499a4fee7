/- The contract of limb.Cmp: which of two numbers of four words is greater. -/
import Derived.Test.YtfknkfninjjgbabDoorRows
import Derived.Test.YtfknkfninjjgbabDoorQNumToMul
import Derived.WalkKit
import Derived.WalkSpells
import Derived.WalkLawsBesides
import Derived.LoopN
namespace Go.Proofs.YtfknkfninjjgbabDoor
open Go.RowKit

/-- -1, 0 or 1. -/
def cmpV (x y : Nm) : Int := if x.val < y.val then -1 else if y.val < x.val then 1 else 0
theorem cmp_lt {x y : Nm} (hx : x.ok) (hy : y.ok) (h : x.d < y.d ∨ x.d = y.d ∧ (x.c < y.c ∨ x.c = y.c ∧ (x.b < y.b ∨ x.b = y.b ∧ x.a < y.a))) : cmpV x y = -1 := by
  obtain ⟨⟨_, _⟩, ⟨_, _⟩, ⟨_, _⟩, ⟨_, _⟩⟩ := hx
  obtain ⟨⟨_, _⟩, ⟨_, _⟩, ⟨_, _⟩, ⟨_, _⟩⟩ := hy
  unfold cmpV
  rw [if_pos]
  unfold Nm.val
  omega
theorem cmp_gt {x y : Nm} (hx : x.ok) (hy : y.ok) (h : y.d < x.d ∨ x.d = y.d ∧ (y.c < x.c ∨ x.c = y.c ∧ (y.b < x.b ∨ x.b = y.b ∧ y.a < x.a))) : cmpV x y = 1 := by
  obtain ⟨⟨_, _⟩, ⟨_, _⟩, ⟨_, _⟩, ⟨_, _⟩⟩ := hx
  obtain ⟨⟨_, _⟩, ⟨_, _⟩, ⟨_, _⟩, ⟨_, _⟩⟩ := hy
  unfold cmpV
  have hv : y.val < x.val := by unfold Nm.val; omega
  rw [if_neg (by omega), if_pos hv]
theorem cmp_eq {x y : Nm} (h : x.d = y.d ∧ x.c = y.c ∧ x.b = y.b ∧ x.a = y.a) : cmpV x y = 0 := by
  unfold cmpV
  have hv : x.val = y.val := by unfold Nm.val; omega
  rw [if_neg (by omega), if_neg (by omega)]
theorem ret_i {k : IntKind} {a b : Int} (h : a = b) : Ending.returned (.int k a) = .returned (.int k b) := by rw [h]

set_option maxHeartbeats 2000000 in
theorem cmp_fun (x y : Nm) (hx : x.ok) (hy : y.ok) (w : World) :
    Calls Tryd.prog 10 #[N x, N y] w fun e w' => e = .returned (.int .i64 (cmpV x y)) ∧ Below w.heap.size w w' := by
  go_enter Tryd.func10, Tryd.ntmps10
  go_wp2
  refine wp_loop_rounds 5 ?_
  rw [rounds_succ]
  go_wp2
  by_cases ld : x.d < y.d
  · go_region
    go_wp2
    go_ret
    refine ⟨ret_i (cmp_lt hx hy (by omega)).symm, ?_⟩
    repeat (first | exact Below.refl _ _ | refine Below.drew ?_ | refine Below.alloc ?_ (by simp <;> omega) _)
  go_region
  go_wp2
  by_cases gd : y.d < x.d
  · go_region
    go_wp2
    go_ret
    refine ⟨ret_i (cmp_gt hx hy (by omega)).symm, ?_⟩
    repeat (first | exact Below.refl _ _ | refine Below.drew ?_ | refine Below.alloc ?_ (by simp <;> omega) _)
  go_region
  go_wp2
  rw [rounds_succ]
  go_wp2
  by_cases lc : x.c < y.c
  · go_region
    go_wp2
    go_ret
    refine ⟨ret_i (cmp_lt hx hy (by omega)).symm, ?_⟩
    repeat (first | exact Below.refl _ _ | refine Below.drew ?_ | refine Below.alloc ?_ (by simp <;> omega) _)
  go_region
  go_wp2
  by_cases gc : y.c < x.c
  · go_region
    go_wp2
    go_ret
    refine ⟨ret_i (cmp_gt hx hy (by omega)).symm, ?_⟩
    repeat (first | exact Below.refl _ _ | refine Below.drew ?_ | refine Below.alloc ?_ (by simp <;> omega) _)
  go_region
  go_wp2
  rw [rounds_succ]
  go_wp2
  by_cases lb : x.b < y.b
  · go_region
    go_wp2
    go_ret
    refine ⟨ret_i (cmp_lt hx hy (by omega)).symm, ?_⟩
    repeat (first | exact Below.refl _ _ | refine Below.drew ?_ | refine Below.alloc ?_ (by simp <;> omega) _)
  go_region
  go_wp2
  by_cases gb : y.b < x.b
  · go_region
    go_wp2
    go_ret
    refine ⟨ret_i (cmp_gt hx hy (by omega)).symm, ?_⟩
    repeat (first | exact Below.refl _ _ | refine Below.drew ?_ | refine Below.alloc ?_ (by simp <;> omega) _)
  go_region
  go_wp2
  rw [rounds_succ]
  go_wp2
  by_cases la : x.a < y.a
  · go_region
    go_wp2
    go_ret
    refine ⟨ret_i (cmp_lt hx hy (by omega)).symm, ?_⟩
    repeat (first | exact Below.refl _ _ | refine Below.drew ?_ | refine Below.alloc ?_ (by simp <;> omega) _)
  go_region
  go_wp2
  by_cases ga : y.a < x.a
  · go_region
    go_wp2
    go_ret
    refine ⟨ret_i (cmp_gt hx hy (by omega)).symm, ?_⟩
    repeat (first | exact Below.refl _ _ | refine Below.drew ?_ | refine Below.alloc ?_ (by simp <;> omega) _)
  go_region
  go_wp2
  rw [rounds_succ]
  go_wp2
  go_ret
  refine ⟨ret_i (cmp_eq (by omega)).symm, ?_⟩
  repeat (first | exact Below.refl _ _ | refine Below.drew ?_ | refine Below.alloc ?_ (by simp <;> omega) _)
end Go.Proofs.YtfknkfninjjgbabDoor
