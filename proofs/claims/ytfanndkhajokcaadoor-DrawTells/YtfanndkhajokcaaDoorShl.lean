/- The walks of limb.shiftLeft and limb.shiftRight, word by word. -/
import Derived.Test.YtfanndkhajokcaaDoorRows
import Derived.Test.YtfanndkhajokcaaDoorNum
import Derived.WalkKit
import Derived.WalkSpells
import Derived.WalkLawsBesides
import Derived.LoopN
namespace Go.Proofs.YtfanndkhajokcaaDoor
open Go.RowKit

set_option maxHeartbeats 1000000 in
theorem shl_walk0 (x : Nm) (n s : Nat) (h1 : n / 64 = 0) (h2 : n % 64 = s) (_hs : s < 64) (w : World) :
    Calls Tryd.prog 39 #[N x, .int .i64 n] w fun e w' => e = .returned (N ⟨IntKind.u64.wrap (x.a * 2 ^ s), bits .or .u64 (IntKind.u64.wrap (x.b * 2 ^ s)) (x.a / 2 ^ (64 - s)), bits .or .u64 (IntKind.u64.wrap (x.c * 2 ^ s)) (x.b / 2 ^ (64 - s)), bits .or .u64 (IntKind.u64.wrap (x.d * 2 ^ s)) (x.c / 2 ^ (64 - s))⟩) ∧ Below w.heap.size w w' := by
  have h3 : (n : Int) / 64 = 0 := by omega
  have h4 : (n : Int) % 64 = s := by omega
  go_enter Tryd.func39, Tryd.ntmps39
  go_wp2
  refine wp_loop_rounds 5 ?_
  rw [rounds_succ]
  go_wp2
  rw [rounds_succ]
  go_wp2
  go_region
  go_wp2
  rw [rounds_succ]
  go_wp2
  go_region
  go_wp2
  rw [rounds_succ]
  go_wp2
  go_region
  go_wp2
  rw [rounds_succ]
  go_wp2
  refine bodyPost_ret (v := N ⟨IntKind.u64.wrap (x.a * 2 ^ s), bits .or .u64 (IntKind.u64.wrap (x.b * 2 ^ s)) (x.a / 2 ^ (64 - s)), bits .or .u64 (IntKind.u64.wrap (x.c * 2 ^ s)) (x.b / 2 ^ (64 - s)), bits .or .u64 (IntKind.u64.wrap (x.d * 2 ^ s)) (x.c / 2 ^ (64 - s))⟩) (by simp [results, Tryd.results39, go_sem]) rfl ⟨rfl, ?_⟩
  repeat (first | exact Below.refl _ _ | refine Below.drew ?_ | refine Below.setCell ?_ (by simp <;> omega) _ | refine Below.alloc ?_ (by simp <;> omega) _)
set_option maxHeartbeats 1000000 in
theorem shl_walk1 (x : Nm) (n s : Nat) (h1 : n / 64 = 1) (h2 : n % 64 = s) (_hs : s < 64) (w : World) :
    Calls Tryd.prog 39 #[N x, .int .i64 n] w fun e w' => e = .returned (N ⟨0, IntKind.u64.wrap (x.a * 2 ^ s), bits .or .u64 (IntKind.u64.wrap (x.b * 2 ^ s)) (x.a / 2 ^ (64 - s)), bits .or .u64 (IntKind.u64.wrap (x.c * 2 ^ s)) (x.b / 2 ^ (64 - s))⟩) ∧ Below w.heap.size w w' := by
  have h3 : (n : Int) / 64 = 1 := by omega
  have h4 : (n : Int) % 64 = s := by omega
  go_enter Tryd.func39, Tryd.ntmps39
  go_wp2
  refine wp_loop_rounds 5 ?_
  rw [rounds_succ]
  go_wp2
  rw [rounds_succ]
  go_wp2
  go_region
  go_wp2
  rw [rounds_succ]
  go_wp2
  go_region
  go_wp2
  rw [rounds_succ]
  go_wp2
  refine bodyPost_ret (v := N ⟨0, IntKind.u64.wrap (x.a * 2 ^ s), bits .or .u64 (IntKind.u64.wrap (x.b * 2 ^ s)) (x.a / 2 ^ (64 - s)), bits .or .u64 (IntKind.u64.wrap (x.c * 2 ^ s)) (x.b / 2 ^ (64 - s))⟩) (by simp [results, Tryd.results39, go_sem]) rfl ⟨rfl, ?_⟩
  repeat (first | exact Below.refl _ _ | refine Below.drew ?_ | refine Below.setCell ?_ (by simp <;> omega) _ | refine Below.alloc ?_ (by simp <;> omega) _)
set_option maxHeartbeats 1000000 in
theorem shl_walk2 (x : Nm) (n s : Nat) (h1 : n / 64 = 2) (h2 : n % 64 = s) (_hs : s < 64) (w : World) :
    Calls Tryd.prog 39 #[N x, .int .i64 n] w fun e w' => e = .returned (N ⟨0, 0, IntKind.u64.wrap (x.a * 2 ^ s), bits .or .u64 (IntKind.u64.wrap (x.b * 2 ^ s)) (x.a / 2 ^ (64 - s))⟩) ∧ Below w.heap.size w w' := by
  have h3 : (n : Int) / 64 = 2 := by omega
  have h4 : (n : Int) % 64 = s := by omega
  go_enter Tryd.func39, Tryd.ntmps39
  go_wp2
  refine wp_loop_rounds 5 ?_
  rw [rounds_succ]
  go_wp2
  rw [rounds_succ]
  go_wp2
  go_region
  go_wp2
  rw [rounds_succ]
  go_wp2
  refine bodyPost_ret (v := N ⟨0, 0, IntKind.u64.wrap (x.a * 2 ^ s), bits .or .u64 (IntKind.u64.wrap (x.b * 2 ^ s)) (x.a / 2 ^ (64 - s))⟩) (by simp [results, Tryd.results39, go_sem]) rfl ⟨rfl, ?_⟩
  repeat (first | exact Below.refl _ _ | refine Below.drew ?_ | refine Below.setCell ?_ (by simp <;> omega) _ | refine Below.alloc ?_ (by simp <;> omega) _)
set_option maxHeartbeats 1000000 in
theorem shl_walk3 (x : Nm) (n s : Nat) (h1 : n / 64 = 3) (h2 : n % 64 = s) (_hs : s < 64) (w : World) :
    Calls Tryd.prog 39 #[N x, .int .i64 n] w fun e w' => e = .returned (N ⟨0, 0, 0, IntKind.u64.wrap (x.a * 2 ^ s)⟩) ∧ Below w.heap.size w w' := by
  have h3 : (n : Int) / 64 = 3 := by omega
  have h4 : (n : Int) % 64 = s := by omega
  go_enter Tryd.func39, Tryd.ntmps39
  go_wp2
  refine wp_loop_rounds 5 ?_
  rw [rounds_succ]
  go_wp2
  rw [rounds_succ]
  go_wp2
  refine bodyPost_ret (v := N ⟨0, 0, 0, IntKind.u64.wrap (x.a * 2 ^ s)⟩) (by simp [results, Tryd.results39, go_sem]) rfl ⟨rfl, ?_⟩
  repeat (first | exact Below.refl _ _ | refine Below.drew ?_ | refine Below.setCell ?_ (by simp <;> omega) _ | refine Below.alloc ?_ (by simp <;> omega) _)
set_option maxHeartbeats 1000000 in
theorem shr_walk0 (x : Nm) (n s : Nat) (h1 : n / 64 = 0) (h2 : n % 64 = s) (_hs : s < 64) (w : World) :
    Calls Tryd.prog 38 #[N x, .int .i64 n] w fun e w' => e = .returned (N ⟨bits .or .u64 (x.a / 2 ^ s) (IntKind.u64.wrap (x.b * 2 ^ (64 - s))), bits .or .u64 (x.b / 2 ^ s) (IntKind.u64.wrap (x.c * 2 ^ (64 - s))), bits .or .u64 (x.c / 2 ^ s) (IntKind.u64.wrap (x.d * 2 ^ (64 - s))), x.d / 2 ^ s⟩) ∧ Below w.heap.size w w' := by
  have h3 : (n : Int) / 64 = 0 := by omega
  have h4 : (n : Int) % 64 = s := by omega
  go_enter Tryd.func38, Tryd.ntmps38
  go_wp2
  refine wp_loop_rounds 5 ?_
  rw [rounds_succ]
  go_wp2
  go_region
  go_wp2
  rw [rounds_succ]
  go_wp2
  go_region
  go_wp2
  rw [rounds_succ]
  go_wp2
  go_region
  go_wp2
  rw [rounds_succ]
  go_wp2
  rw [rounds_succ]
  go_wp2
  refine bodyPost_ret (v := N ⟨bits .or .u64 (x.a / 2 ^ s) (IntKind.u64.wrap (x.b * 2 ^ (64 - s))), bits .or .u64 (x.b / 2 ^ s) (IntKind.u64.wrap (x.c * 2 ^ (64 - s))), bits .or .u64 (x.c / 2 ^ s) (IntKind.u64.wrap (x.d * 2 ^ (64 - s))), x.d / 2 ^ s⟩) (by simp [results, Tryd.results38, go_sem]) rfl ⟨rfl, ?_⟩
  repeat (first | exact Below.refl _ _ | refine Below.drew ?_ | refine Below.setCell ?_ (by simp <;> omega) _ | refine Below.alloc ?_ (by simp <;> omega) _)
set_option maxHeartbeats 1000000 in
theorem shr_walk1 (x : Nm) (n s : Nat) (h1 : n / 64 = 1) (h2 : n % 64 = s) (_hs : s < 64) (w : World) :
    Calls Tryd.prog 38 #[N x, .int .i64 n] w fun e w' => e = .returned (N ⟨bits .or .u64 (x.b / 2 ^ s) (IntKind.u64.wrap (x.c * 2 ^ (64 - s))), bits .or .u64 (x.c / 2 ^ s) (IntKind.u64.wrap (x.d * 2 ^ (64 - s))), x.d / 2 ^ s, 0⟩) ∧ Below w.heap.size w w' := by
  have h3 : (n : Int) / 64 = 1 := by omega
  have h4 : (n : Int) % 64 = s := by omega
  go_enter Tryd.func38, Tryd.ntmps38
  go_wp2
  refine wp_loop_rounds 5 ?_
  rw [rounds_succ]
  go_wp2
  go_region
  go_wp2
  rw [rounds_succ]
  go_wp2
  go_region
  go_wp2
  rw [rounds_succ]
  go_wp2
  rw [rounds_succ]
  go_wp2
  refine bodyPost_ret (v := N ⟨bits .or .u64 (x.b / 2 ^ s) (IntKind.u64.wrap (x.c * 2 ^ (64 - s))), bits .or .u64 (x.c / 2 ^ s) (IntKind.u64.wrap (x.d * 2 ^ (64 - s))), x.d / 2 ^ s, 0⟩) (by simp [results, Tryd.results38, go_sem]) rfl ⟨rfl, ?_⟩
  repeat (first | exact Below.refl _ _ | refine Below.drew ?_ | refine Below.setCell ?_ (by simp <;> omega) _ | refine Below.alloc ?_ (by simp <;> omega) _)
set_option maxHeartbeats 1000000 in
theorem shr_walk2 (x : Nm) (n s : Nat) (h1 : n / 64 = 2) (h2 : n % 64 = s) (_hs : s < 64) (w : World) :
    Calls Tryd.prog 38 #[N x, .int .i64 n] w fun e w' => e = .returned (N ⟨bits .or .u64 (x.c / 2 ^ s) (IntKind.u64.wrap (x.d * 2 ^ (64 - s))), x.d / 2 ^ s, 0, 0⟩) ∧ Below w.heap.size w w' := by
  have h3 : (n : Int) / 64 = 2 := by omega
  have h4 : (n : Int) % 64 = s := by omega
  go_enter Tryd.func38, Tryd.ntmps38
  go_wp2
  refine wp_loop_rounds 5 ?_
  rw [rounds_succ]
  go_wp2
  go_region
  go_wp2
  rw [rounds_succ]
  go_wp2
  rw [rounds_succ]
  go_wp2
  refine bodyPost_ret (v := N ⟨bits .or .u64 (x.c / 2 ^ s) (IntKind.u64.wrap (x.d * 2 ^ (64 - s))), x.d / 2 ^ s, 0, 0⟩) (by simp [results, Tryd.results38, go_sem]) rfl ⟨rfl, ?_⟩
  repeat (first | exact Below.refl _ _ | refine Below.drew ?_ | refine Below.setCell ?_ (by simp <;> omega) _ | refine Below.alloc ?_ (by simp <;> omega) _)
set_option maxHeartbeats 1000000 in
theorem shr_walk3 (x : Nm) (n s : Nat) (h1 : n / 64 = 3) (h2 : n % 64 = s) (_hs : s < 64) (w : World) :
    Calls Tryd.prog 38 #[N x, .int .i64 n] w fun e w' => e = .returned (N ⟨x.d / 2 ^ s, 0, 0, 0⟩) ∧ Below w.heap.size w w' := by
  have h3 : (n : Int) / 64 = 3 := by omega
  have h4 : (n : Int) % 64 = s := by omega
  go_enter Tryd.func38, Tryd.ntmps38
  go_wp2
  refine wp_loop_rounds 5 ?_
  rw [rounds_succ]
  go_wp2
  rw [rounds_succ]
  go_wp2
  refine bodyPost_ret (v := N ⟨x.d / 2 ^ s, 0, 0, 0⟩) (by simp [results, Tryd.results38, go_sem]) rfl ⟨rfl, ?_⟩
  repeat (first | exact Below.refl _ _ | refine Below.drew ?_ | refine Below.setCell ?_ (by simp <;> omega) _ | refine Below.alloc ?_ (by simp <;> omega) _)
end Go.Proofs.YtfanndkhajokcaaDoor
