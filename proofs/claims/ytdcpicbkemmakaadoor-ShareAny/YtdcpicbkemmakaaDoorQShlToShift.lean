/- Texts that were joined: Shl, ShMath, Sh, Shift. -/
import Derived.Test.YtdcpicbkemmakaaDoorRows
import Derived.Test.YtdcpicbkemmakaaDoorQNumToDTimes
import Derived.WalkKit
import Derived.WalkSpells
import Derived.WalkLawsBesides
import Derived.LoopN
import Derived.Laws.Bits64b
import Derived.Deep.RegionHeld
/- The walks of limb.shiftLeft and limb.shiftRight, word by word. -/
namespace Go.Proofs.YtdcpicbkemmakaaDoor
open Go.RowKit

set_option maxHeartbeats 1000000 in
theorem shl_walk0 (x : Nm) (n s : Nat) (h1 : n / 64 = 0) (h2 : n % 64 = s) (_hs : s < 64) (w : World) :
    Calls Tryd.prog 84 #[N x, .int .i64 n] w fun e w' => e = .returned (N ⟨IntKind.u64.wrap (x.a * 2 ^ s), bits .or .u64 (IntKind.u64.wrap (x.b * 2 ^ s)) (x.a / 2 ^ (64 - s)), bits .or .u64 (IntKind.u64.wrap (x.c * 2 ^ s)) (x.b / 2 ^ (64 - s)), bits .or .u64 (IntKind.u64.wrap (x.d * 2 ^ s)) (x.c / 2 ^ (64 - s))⟩) ∧ Below w.heap.size w w' := by
  have h3 : (n : Int) / 64 = 0 := by omega
  have h4 : (n : Int) % 64 = s := by omega
  go_enter Tryd.func84, Tryd.ntmps84
  go_wp2
  refine wp_loop_rounds 5 ?_
  rw [rounds_succ]
  go_wp2
  rw [rounds_succ]
  go_wp2
  go_region
  go_wp2
  rw [rounds_succ]
  go_wp2
  go_region
  go_wp2
  rw [rounds_succ]
  go_wp2
  go_region
  go_wp2
  rw [rounds_succ]
  go_wp2
  refine bodyPost_ret (v := N ⟨IntKind.u64.wrap (x.a * 2 ^ s), bits .or .u64 (IntKind.u64.wrap (x.b * 2 ^ s)) (x.a / 2 ^ (64 - s)), bits .or .u64 (IntKind.u64.wrap (x.c * 2 ^ s)) (x.b / 2 ^ (64 - s)), bits .or .u64 (IntKind.u64.wrap (x.d * 2 ^ s)) (x.c / 2 ^ (64 - s))⟩) (by simp [results, Tryd.results84, go_sem]) rfl ⟨rfl, ?_⟩
  repeat (first | exact Below.refl _ _ | refine Below.drew ?_ | refine Below.setCell ?_ (by simp <;> omega) _ | refine Below.alloc ?_ (by simp <;> omega) _)
set_option maxHeartbeats 1000000 in
theorem shl_walk1 (x : Nm) (n s : Nat) (h1 : n / 64 = 1) (h2 : n % 64 = s) (_hs : s < 64) (w : World) :
    Calls Tryd.prog 84 #[N x, .int .i64 n] w fun e w' => e = .returned (N ⟨0, IntKind.u64.wrap (x.a * 2 ^ s), bits .or .u64 (IntKind.u64.wrap (x.b * 2 ^ s)) (x.a / 2 ^ (64 - s)), bits .or .u64 (IntKind.u64.wrap (x.c * 2 ^ s)) (x.b / 2 ^ (64 - s))⟩) ∧ Below w.heap.size w w' := by
  have h3 : (n : Int) / 64 = 1 := by omega
  have h4 : (n : Int) % 64 = s := by omega
  go_enter Tryd.func84, Tryd.ntmps84
  go_wp2
  refine wp_loop_rounds 5 ?_
  rw [rounds_succ]
  go_wp2
  rw [rounds_succ]
  go_wp2
  go_region
  go_wp2
  rw [rounds_succ]
  go_wp2
  go_region
  go_wp2
  rw [rounds_succ]
  go_wp2
  refine bodyPost_ret (v := N ⟨0, IntKind.u64.wrap (x.a * 2 ^ s), bits .or .u64 (IntKind.u64.wrap (x.b * 2 ^ s)) (x.a / 2 ^ (64 - s)), bits .or .u64 (IntKind.u64.wrap (x.c * 2 ^ s)) (x.b / 2 ^ (64 - s))⟩) (by simp [results, Tryd.results84, go_sem]) rfl ⟨rfl, ?_⟩
  repeat (first | exact Below.refl _ _ | refine Below.drew ?_ | refine Below.setCell ?_ (by simp <;> omega) _ | refine Below.alloc ?_ (by simp <;> omega) _)
set_option maxHeartbeats 1000000 in
theorem shl_walk2 (x : Nm) (n s : Nat) (h1 : n / 64 = 2) (h2 : n % 64 = s) (_hs : s < 64) (w : World) :
    Calls Tryd.prog 84 #[N x, .int .i64 n] w fun e w' => e = .returned (N ⟨0, 0, IntKind.u64.wrap (x.a * 2 ^ s), bits .or .u64 (IntKind.u64.wrap (x.b * 2 ^ s)) (x.a / 2 ^ (64 - s))⟩) ∧ Below w.heap.size w w' := by
  have h3 : (n : Int) / 64 = 2 := by omega
  have h4 : (n : Int) % 64 = s := by omega
  go_enter Tryd.func84, Tryd.ntmps84
  go_wp2
  refine wp_loop_rounds 5 ?_
  rw [rounds_succ]
  go_wp2
  rw [rounds_succ]
  go_wp2
  go_region
  go_wp2
  rw [rounds_succ]
  go_wp2
  refine bodyPost_ret (v := N ⟨0, 0, IntKind.u64.wrap (x.a * 2 ^ s), bits .or .u64 (IntKind.u64.wrap (x.b * 2 ^ s)) (x.a / 2 ^ (64 - s))⟩) (by simp [results, Tryd.results84, go_sem]) rfl ⟨rfl, ?_⟩
  repeat (first | exact Below.refl _ _ | refine Below.drew ?_ | refine Below.setCell ?_ (by simp <;> omega) _ | refine Below.alloc ?_ (by simp <;> omega) _)
set_option maxHeartbeats 1000000 in
theorem shl_walk3 (x : Nm) (n s : Nat) (h1 : n / 64 = 3) (h2 : n % 64 = s) (_hs : s < 64) (w : World) :
    Calls Tryd.prog 84 #[N x, .int .i64 n] w fun e w' => e = .returned (N ⟨0, 0, 0, IntKind.u64.wrap (x.a * 2 ^ s)⟩) ∧ Below w.heap.size w w' := by
  have h3 : (n : Int) / 64 = 3 := by omega
  have h4 : (n : Int) % 64 = s := by omega
  go_enter Tryd.func84, Tryd.ntmps84
  go_wp2
  refine wp_loop_rounds 5 ?_
  rw [rounds_succ]
  go_wp2
  rw [rounds_succ]
  go_wp2
  refine bodyPost_ret (v := N ⟨0, 0, 0, IntKind.u64.wrap (x.a * 2 ^ s)⟩) (by simp [results, Tryd.results84, go_sem]) rfl ⟨rfl, ?_⟩
  repeat (first | exact Below.refl _ _ | refine Below.drew ?_ | refine Below.setCell ?_ (by simp <;> omega) _ | refine Below.alloc ?_ (by simp <;> omega) _)
set_option maxHeartbeats 1000000 in
theorem shr_walk0 (x : Nm) (n s : Nat) (h1 : n / 64 = 0) (h2 : n % 64 = s) (_hs : s < 64) (w : World) :
    Calls Tryd.prog 83 #[N x, .int .i64 n] w fun e w' => e = .returned (N ⟨bits .or .u64 (x.a / 2 ^ s) (IntKind.u64.wrap (x.b * 2 ^ (64 - s))), bits .or .u64 (x.b / 2 ^ s) (IntKind.u64.wrap (x.c * 2 ^ (64 - s))), bits .or .u64 (x.c / 2 ^ s) (IntKind.u64.wrap (x.d * 2 ^ (64 - s))), x.d / 2 ^ s⟩) ∧ Below w.heap.size w w' := by
  have h3 : (n : Int) / 64 = 0 := by omega
  have h4 : (n : Int) % 64 = s := by omega
  go_enter Tryd.func83, Tryd.ntmps83
  go_wp2
  refine wp_loop_rounds 5 ?_
  rw [rounds_succ]
  go_wp2
  go_region
  go_wp2
  rw [rounds_succ]
  go_wp2
  go_region
  go_wp2
  rw [rounds_succ]
  go_wp2
  go_region
  go_wp2
  rw [rounds_succ]
  go_wp2
  rw [rounds_succ]
  go_wp2
  refine bodyPost_ret (v := N ⟨bits .or .u64 (x.a / 2 ^ s) (IntKind.u64.wrap (x.b * 2 ^ (64 - s))), bits .or .u64 (x.b / 2 ^ s) (IntKind.u64.wrap (x.c * 2 ^ (64 - s))), bits .or .u64 (x.c / 2 ^ s) (IntKind.u64.wrap (x.d * 2 ^ (64 - s))), x.d / 2 ^ s⟩) (by simp [results, Tryd.results83, go_sem]) rfl ⟨rfl, ?_⟩
  repeat (first | exact Below.refl _ _ | refine Below.drew ?_ | refine Below.setCell ?_ (by simp <;> omega) _ | refine Below.alloc ?_ (by simp <;> omega) _)
set_option maxHeartbeats 1000000 in
theorem shr_walk1 (x : Nm) (n s : Nat) (h1 : n / 64 = 1) (h2 : n % 64 = s) (_hs : s < 64) (w : World) :
    Calls Tryd.prog 83 #[N x, .int .i64 n] w fun e w' => e = .returned (N ⟨bits .or .u64 (x.b / 2 ^ s) (IntKind.u64.wrap (x.c * 2 ^ (64 - s))), bits .or .u64 (x.c / 2 ^ s) (IntKind.u64.wrap (x.d * 2 ^ (64 - s))), x.d / 2 ^ s, 0⟩) ∧ Below w.heap.size w w' := by
  have h3 : (n : Int) / 64 = 1 := by omega
  have h4 : (n : Int) % 64 = s := by omega
  go_enter Tryd.func83, Tryd.ntmps83
  go_wp2
  refine wp_loop_rounds 5 ?_
  rw [rounds_succ]
  go_wp2
  go_region
  go_wp2
  rw [rounds_succ]
  go_wp2
  go_region
  go_wp2
  rw [rounds_succ]
  go_wp2
  rw [rounds_succ]
  go_wp2
  refine bodyPost_ret (v := N ⟨bits .or .u64 (x.b / 2 ^ s) (IntKind.u64.wrap (x.c * 2 ^ (64 - s))), bits .or .u64 (x.c / 2 ^ s) (IntKind.u64.wrap (x.d * 2 ^ (64 - s))), x.d / 2 ^ s, 0⟩) (by simp [results, Tryd.results83, go_sem]) rfl ⟨rfl, ?_⟩
  repeat (first | exact Below.refl _ _ | refine Below.drew ?_ | refine Below.setCell ?_ (by simp <;> omega) _ | refine Below.alloc ?_ (by simp <;> omega) _)
set_option maxHeartbeats 1000000 in
theorem shr_walk2 (x : Nm) (n s : Nat) (h1 : n / 64 = 2) (h2 : n % 64 = s) (_hs : s < 64) (w : World) :
    Calls Tryd.prog 83 #[N x, .int .i64 n] w fun e w' => e = .returned (N ⟨bits .or .u64 (x.c / 2 ^ s) (IntKind.u64.wrap (x.d * 2 ^ (64 - s))), x.d / 2 ^ s, 0, 0⟩) ∧ Below w.heap.size w w' := by
  have h3 : (n : Int) / 64 = 2 := by omega
  have h4 : (n : Int) % 64 = s := by omega
  go_enter Tryd.func83, Tryd.ntmps83
  go_wp2
  refine wp_loop_rounds 5 ?_
  rw [rounds_succ]
  go_wp2
  go_region
  go_wp2
  rw [rounds_succ]
  go_wp2
  rw [rounds_succ]
  go_wp2
  refine bodyPost_ret (v := N ⟨bits .or .u64 (x.c / 2 ^ s) (IntKind.u64.wrap (x.d * 2 ^ (64 - s))), x.d / 2 ^ s, 0, 0⟩) (by simp [results, Tryd.results83, go_sem]) rfl ⟨rfl, ?_⟩
  repeat (first | exact Below.refl _ _ | refine Below.drew ?_ | refine Below.setCell ?_ (by simp <;> omega) _ | refine Below.alloc ?_ (by simp <;> omega) _)
set_option maxHeartbeats 1000000 in
theorem shr_walk3 (x : Nm) (n s : Nat) (h1 : n / 64 = 3) (h2 : n % 64 = s) (_hs : s < 64) (w : World) :
    Calls Tryd.prog 83 #[N x, .int .i64 n] w fun e w' => e = .returned (N ⟨x.d / 2 ^ s, 0, 0, 0⟩) ∧ Below w.heap.size w w' := by
  have h3 : (n : Int) / 64 = 3 := by omega
  have h4 : (n : Int) % 64 = s := by omega
  go_enter Tryd.func83, Tryd.ntmps83
  go_wp2
  refine wp_loop_rounds 5 ?_
  rw [rounds_succ]
  go_wp2
  rw [rounds_succ]
  go_wp2
  refine bodyPost_ret (v := N ⟨x.d / 2 ^ s, 0, 0, 0⟩) (by simp [results, Tryd.results83, go_sem]) rfl ⟨rfl, ?_⟩
  repeat (first | exact Below.refl _ _ | refine Below.drew ?_ | refine Below.setCell ?_ (by simp <;> omega) _ | refine Below.alloc ?_ (by simp <;> omega) _)
end Go.Proofs.YtdcpicbkemmakaaDoor

/- Shifts of numbers of four words, as plain mathematics. -/
namespace Go.Proofs.YtdcpicbkemmakaaDoor
open Go.RowKit

theorem pq {s : Nat} (h : s < 64) : 2 ^ s * 2 ^ (64 - s) = 18446744073709551616 := by
  rw [← Nat.pow_add, show s + (64 - s) = 64 by omega]
theorem nat_split (v P Q : Nat) : v * P = v % Q * P + P * Q * (v / Q) := by
  have h := Nat.mod_add_div v Q
  have e : (v % Q + Q * (v / Q)) * P = v % Q * P + P * Q * (v / Q) := by
    rw [Nat.add_mul, Nat.mul_comm (Q * (v / Q)) P, Nat.mul_assoc]
  rw [← e, h]
theorem word_nat {v : Int} (h : Word v) : ∃ n : Nat, v = n ∧ n < 18446744073709551616 := by
  obtain ⟨n, rfl⟩ := Int.eq_ofNat_of_zero_le h.1
  exact ⟨n, rfl, by have := h.2; omega⟩
/-- v * 2^s in two words. -/
theorem shl_split {v : Int} {s : Nat} (hv : Word v) (hs : s < 64) : IntKind.u64.wrap (v * 2 ^ s) + 18446744073709551616 * (v / 2 ^ (64 - s)) = v * 2 ^ s ∧ Word (IntKind.u64.wrap (v * 2 ^ s)) := by
  obtain ⟨n, rfl, hn⟩ := word_nat hv
  rw [IntKind.wrap_u64]
  have h := nat_split n (2 ^ s) (2 ^ (64 - s))
  rw [pq hs] at h
  have hlt : n % 2 ^ (64 - s) * 2 ^ s < 18446744073709551616 := by
    have := Nat.mul_lt_mul_of_pos_right (Nat.mod_lt n (Nat.two_pow_pos (64 - s))) (Nat.two_pow_pos s)
    rw [Nat.mul_comm (2 ^ (64 - s)), pq hs] at this
    exact this
  have c1 : (n : Int) * 2 ^ s = ((n * 2 ^ s : Nat) : Int) := by simp
  have c2 : (n : Int) / 2 ^ (64 - s) = ((n / 2 ^ (64 - s) : Nat) : Int) := by simp
  rw [c1, c2]
  exact ⟨by omega, by omega, by omega⟩
/-- Its words don't meet those of its neighbour. -/
theorem shl_or {v u : Int} {s : Nat} (hv : Word v) (hu : Word u) (hs : s < 64) : bits .or .u64 (IntKind.u64.wrap (v * 2 ^ s)) (u / 2 ^ (64 - s)) = IntKind.u64.wrap (v * 2 ^ s) + u / 2 ^ (64 - s) ∧ Word (IntKind.u64.wrap (v * 2 ^ s) + u / 2 ^ (64 - s)) := by
  obtain ⟨n, rfl, hn⟩ := word_nat hv
  obtain ⟨k, rfl, hk⟩ := word_nat hu
  have hp1 := Nat.two_pow_pos s
  have hp2 := Nat.two_pow_pos (64 - s)
  have h := nat_split n (2 ^ s) (2 ^ (64 - s))
  rw [pq hs] at h
  have hm : n % 2 ^ (64 - s) ≤ 2 ^ (64 - s) - 1 := by have := Nat.mod_lt n (Nat.two_pow_pos (64 - s)); omega
  have hlt : n % 2 ^ (64 - s) * 2 ^ s + 2 ^ s ≤ 18446744073709551616 := by
    have h1 : (n % 2 ^ (64 - s) + 1) * 2 ^ s ≤ 2 ^ (64 - s) * 2 ^ s := Nat.mul_le_mul_right _ (by have := Nat.two_pow_pos (64 - s); omega)
    rw [Nat.add_mul, Nat.one_mul, Nat.mul_comm (2 ^ (64 - s)), pq hs] at h1
    exact h1
  have hd : k / 2 ^ (64 - s) < 2 ^ s := Nat.div_lt_of_lt_mul (by rw [Nat.mul_comm, pq hs]; exact hk)
  have e1 : IntKind.u64.wrap ((n : Int) * 2 ^ s) = ((n % 2 ^ (64 - s) * 2 ^ s : Nat) : Int) := by
    rw [IntKind.wrap_u64]
    have c1 : (n : Int) * 2 ^ s = ((n * 2 ^ s : Nat) : Int) := by simp
    rw [c1]
    have := Nat.two_pow_pos s
    omega
  have e2 : (k : Int) / 2 ^ (64 - s) = ((k / 2 ^ (64 - s) : Nat) : Int) := by simp
  rw [e1, e2, bits_or_u64_nat _ _ (by omega) (by omega)]
  have e3 : n % 2 ^ (64 - s) * 2 ^ s ||| k / 2 ^ (64 - s) = n % 2 ^ (64 - s) * 2 ^ s + k / 2 ^ (64 - s) := by
    have := Nat.shiftLeft_add_eq_or_of_lt hd (n % 2 ^ (64 - s))
    rw [Nat.shiftLeft_eq] at this
    exact this.symm
  rw [e3]
  exact ⟨by simp, by omega, by omega⟩
/-- v by s to the right, its neighbour u's lowest bits above. -/
theorem shr_or {v u : Int} {s : Nat} (hv : Word v) (hu : Word u) (hs : s < 64) : bits .or .u64 (v / 2 ^ s) (IntKind.u64.wrap (u * 2 ^ (64 - s))) = v / 2 ^ s + u % 2 ^ s * 2 ^ (64 - s) ∧ Word (v / 2 ^ s + u % 2 ^ s * 2 ^ (64 - s)) := by
  obtain ⟨n, rfl, hn⟩ := word_nat hv
  obtain ⟨k, rfl, hk⟩ := word_nat hu
  have hp1 := Nat.two_pow_pos s
  have hp2 := Nat.two_pow_pos (64 - s)
  have h := nat_split k (2 ^ (64 - s)) (2 ^ s)
  rw [Nat.mul_comm (2 ^ (64 - s)) (2 ^ s), pq hs] at h
  have hlt : k % 2 ^ s * 2 ^ (64 - s) + 2 ^ (64 - s) ≤ 18446744073709551616 := by
    have h1 : (k % 2 ^ s + 1) * 2 ^ (64 - s) ≤ 2 ^ s * 2 ^ (64 - s) := Nat.mul_le_mul_right _ (Nat.mod_lt k (Nat.two_pow_pos s))
    rw [Nat.add_mul, Nat.one_mul, pq hs] at h1
    exact h1
  have hd : n / 2 ^ s < 2 ^ (64 - s) := Nat.div_lt_of_lt_mul (by rw [pq hs]; exact hn)
  have e1 : IntKind.u64.wrap ((k : Int) * 2 ^ (64 - s)) = ((k % 2 ^ s * 2 ^ (64 - s) : Nat) : Int) := by
    rw [IntKind.wrap_u64]
    have c1 : (k : Int) * 2 ^ (64 - s) = ((k * 2 ^ (64 - s) : Nat) : Int) := by simp
    rw [c1]
    have := Nat.two_pow_pos (64 - s)
    omega
  have e2 : (n : Int) / 2 ^ s = ((n / 2 ^ s : Nat) : Int) := by simp
  have e4 : (k : Int) % 2 ^ s * 2 ^ (64 - s) = ((k % 2 ^ s * 2 ^ (64 - s) : Nat) : Int) := by simp
  rw [e1, e2, e4, bits_or_u64_nat _ _ (by omega) (by omega)]
  have e3 : n / 2 ^ s ||| k % 2 ^ s * 2 ^ (64 - s) = n / 2 ^ s + k % 2 ^ s * 2 ^ (64 - s) := by
    have := Nat.shiftLeft_add_eq_or_of_lt hd (k % 2 ^ s)
    rw [Nat.shiftLeft_eq] at this
    rw [Nat.or_comm, ← this, Nat.add_comm]
  rw [e3]
  exact ⟨by simp, by omega, by omega⟩

theorem pqI {s : Nat} (h : s < 64) : (2 : Int) ^ s * 2 ^ (64 - s) = 18446744073709551616 := by
  have := pq h
  have c : ((2 ^ s * 2 ^ (64 - s) : Nat) : Int) = (2 : Int) ^ s * 2 ^ (64 - s) := by simp
  rw [← c, this]; rfl
theorem shr_val (y : Nm) {s : Nat} (hs : s < 64) : (⟨y.a / 2 ^ s + y.b % 2 ^ s * 2 ^ (64 - s), y.b / 2 ^ s + y.c % 2 ^ s * 2 ^ (64 - s), y.c / 2 ^ s + y.d % 2 ^ s * 2 ^ (64 - s), y.d / 2 ^ s⟩ : Nm).val = y.val / 2 ^ s := by
  have hP : (0 : Int) < 2 ^ s := Int.pow_pos (by decide)
  have hPQ := pqI hs
  generalize (2 : Int) ^ s = P at *
  generalize (2 : Int) ^ (64 - s) = Q at *
  have e0 := Int.mul_ediv_add_emod y.a P
  have e1 := Int.mul_ediv_add_emod y.b P
  have e2 := Int.mul_ediv_add_emod y.c P
  have e3 := Int.mul_ediv_add_emod y.d P
  have m0 := Int.emod_nonneg y.a (Int.ne_of_gt hP)
  have m0' := Int.emod_lt_of_pos y.a hP
  have q : ∀ m : Int, P * (m * Q) = 18446744073709551616 * m := fun m => by rw [Int.mul_left_comm, hPQ, Int.mul_comm]
  have key : y.val = y.a % P + P * (⟨y.a / P + y.b % P * Q, y.b / P + y.c % P * Q, y.c / P + y.d % P * Q, y.d / P⟩ : Nm).val := by
    simp only [Nm.val, Int.mul_add, Int.mul_left_comm P]
    have r1 := q (y.b % P); have r2 := q (y.c % P); have r3 := q (y.d % P)
    simp only [Int.mul_left_comm P] at r1 r2 r3
    omega
  rw [key, Int.add_mul_ediv_left _ _ (Int.ne_of_gt hP), Int.ediv_eq_zero_of_lt m0 m0', Int.zero_add]
theorem shl_val {y : Nm} (hy : y.ok) {s : Nat} (hs : s < 64) : ∃ t, (⟨IntKind.u64.wrap (y.a * 2 ^ s), IntKind.u64.wrap (y.b * 2 ^ s) + y.a / 2 ^ (64 - s), IntKind.u64.wrap (y.c * 2 ^ s) + y.b / 2 ^ (64 - s), IntKind.u64.wrap (y.d * 2 ^ s) + y.c / 2 ^ (64 - s)⟩ : Nm).val + M * t = y.val * 2 ^ s := by
  have h0 := (shl_split hy.a hs).1
  have h1 := (shl_split hy.b hs).1
  have h2 := (shl_split hy.c hs).1
  have h3 := (shl_split hy.d hs).1
  refine ⟨y.d / 2 ^ (64 - s), ?_⟩
  generalize (2 : Int) ^ s = P at *
  generalize (2 : Int) ^ (64 - s) = Q at *
  simp only [Nm.val, M, Int.add_mul, Int.mul_assoc]
  omega
theorem of_mod {r : Nm} (hr : r.ok) {z t : Int} (e : r.val + M * t = z) : r = Nm.of (z % M) := by
  have h0 := Nm.val_nonneg hr; have h1 := Nm.val_lt hr
  refine Nm.eq_of hr ?_
  rw [← e, Int.add_mul_emod_self_left, Int.emod_eq_of_lt h0 h1]
theorem shl_of {x y r : Nm} {s n q : Nat} {t t' : Int} (hr : r.ok) (h1 : r.val + M * t = y.val * 2 ^ s) (h2 : y.val + M * t' = x.val * 2 ^ (64 * q)) (hn : n = 64 * q + s) : r = Nm.of (x.val * 2 ^ n % M) := by
  refine of_mod hr (t := t + t' * 2 ^ s) ?_
  rw [hn, Int.pow_add, ← Int.mul_assoc, ← h2, Int.add_mul, ← h1, Int.mul_add, Int.mul_assoc, Int.add_assoc]
theorem shr_of {x y r : Nm} {s n q : Nat} (hr : r.ok) (h1 : r.val = y.val / 2 ^ s) (h2 : y.val = x.val / 2 ^ (64 * q)) (hn : n = 64 * q + s) : r = Nm.of (x.val / 2 ^ n) := by
  refine Nm.eq_of hr ?_
  have hp : (0 : Int) < 2 ^ (64 * q) := Int.pow_pos (by decide)
  rw [h1, h2, hn, Int.pow_add, Int.ediv_ediv, if_neg (by omega), Int.sub_zero]
end Go.Proofs.YtdcpicbkemmakaaDoor

/- The contracts of limb.shiftLeft, limb.shiftRight and limb.Shift, by what they are worth. -/
namespace Go.Proofs.YtdcpicbkemmakaaDoor
open Go.RowKit
attribute [local go_sem] World.cell?_alloc_some

theorem ret_n {x y : Nm} (h : x = y) : Ending.returned (N x) = .returned (N y) := by rw [h]
theorem zw : Word 0 := ⟨by decide, by decide⟩
theorem wrap0 (s : Nat) : IntKind.u64.wrap (0 * 2 ^ s) = 0 := by rw [Int.zero_mul, IntKind.wrap_u64]; rfl

theorem shl_fun (x : Nm) (hx : x.ok) (n : Nat) (hn : n < 256) (w : World) :
    Calls Tryd.prog 84 #[N x, .int .i64 n] w fun e w' => e = .returned (N (Nm.of (x.val * 2 ^ n % M))) ∧ Below w.heap.size w w' := by
  have hs : n % 64 < 64 := by omega
  have hq : n / 64 = 0 ∨ n / 64 = 1 ∨ n / 64 = 2 ∨ n / 64 = 3 := by omega
  rcases hq with h | h | h | h
  · refine (shl_walk0 x n (n % 64) h rfl hs w).mono ?_
    rintro e w' ⟨rfl, hb⟩
    refine ⟨ret_n ?_, hb⟩
    rw [(shl_or hx.b hx.a hs).1, (shl_or hx.c hx.b hs).1, (shl_or hx.d hx.c hs).1]
    obtain ⟨t, ht⟩ := shl_val (y := ⟨x.a, x.b, x.c, x.d⟩) ⟨hx.a, hx.b, hx.c, hx.d⟩ hs
    refine shl_of (q := 0) (t := t) (t' := 0) ⟨(shl_split hx.a hs).2, (shl_or hx.b hx.a hs).2, (shl_or hx.c hx.b hs).2, (shl_or hx.d hx.c hs).2⟩ ht ?_ (by omega)
    simp only [Nm.val, M]
    have : (2 : Int) ^ (64 * 0) = 1 := rfl
    omega
  · refine (shl_walk1 x n (n % 64) h rfl hs w).mono ?_
    rintro e w' ⟨rfl, hb⟩
    refine ⟨ret_n ?_, hb⟩
    rw [(shl_or hx.b hx.a hs).1, (shl_or hx.c hx.b hs).1]
    obtain ⟨t, ht⟩ := shl_val (y := ⟨0, x.a, x.b, x.c⟩) ⟨zw, hx.a, hx.b, hx.c⟩ hs
    simp only [wrap0, Int.zero_ediv, Int.add_zero] at ht
    refine shl_of (q := 1) (t := t) (t' := 1 * x.d) ⟨zw, (shl_split hx.a hs).2, (shl_or hx.b hx.a hs).2, (shl_or hx.c hx.b hs).2⟩ ht ?_ (by omega)
    simp only [Nm.val, M]
    have : (2 : Int) ^ (64 * 1) = 18446744073709551616 := rfl
    omega
  · refine (shl_walk2 x n (n % 64) h rfl hs w).mono ?_
    rintro e w' ⟨rfl, hb⟩
    refine ⟨ret_n ?_, hb⟩
    rw [(shl_or hx.b hx.a hs).1]
    obtain ⟨t, ht⟩ := shl_val (y := ⟨0, 0, x.a, x.b⟩) ⟨zw, zw, hx.a, hx.b⟩ hs
    simp only [wrap0, Int.zero_ediv, Int.add_zero] at ht
    refine shl_of (q := 2) (t := t) (t' := 1 * x.c + 18446744073709551616 * x.d) ⟨zw, zw, (shl_split hx.a hs).2, (shl_or hx.b hx.a hs).2⟩ ht ?_ (by omega)
    simp only [Nm.val, M]
    have : (2 : Int) ^ (64 * 2) = 340282366920938463463374607431768211456 := rfl
    omega
  · refine (shl_walk3 x n (n % 64) h rfl hs w).mono ?_
    rintro e w' ⟨rfl, hb⟩
    refine ⟨ret_n ?_, hb⟩
    obtain ⟨t, ht⟩ := shl_val (y := ⟨0, 0, 0, x.a⟩) ⟨zw, zw, zw, hx.a⟩ hs
    simp only [wrap0, Int.zero_ediv, Int.add_zero] at ht
    refine shl_of (q := 3) (t := t) (t' := 1 * x.b + 18446744073709551616 * x.c + 340282366920938463463374607431768211456 * x.d) ⟨zw, zw, zw, (shl_split hx.a hs).2⟩ ht ?_ (by omega)
    simp only [Nm.val, M]
    have : (2 : Int) ^ (64 * 3) = 6277101735386680763835789423207666416102355444464034512896 := rfl
    omega
theorem shr_fun (x : Nm) (hx : x.ok) (n : Nat) (hn : n < 256) (w : World) :
    Calls Tryd.prog 83 #[N x, .int .i64 n] w fun e w' => e = .returned (N (Nm.of (x.val / 2 ^ n))) ∧ Below w.heap.size w w' := by
  have hs : n % 64 < 64 := by omega
  have hq : n / 64 = 0 ∨ n / 64 = 1 ∨ n / 64 = 2 ∨ n / 64 = 3 := by omega
  have hd := shr_or hx.d zw hs
  simp only [Int.zero_emod, Int.zero_mul, Int.add_zero] at hd
  rcases hq with h | h | h | h
  · refine (shr_walk0 x n (n % 64) h rfl hs w).mono ?_
    rintro e w' ⟨rfl, hb⟩
    refine ⟨ret_n ?_, hb⟩
    rw [(shr_or hx.a hx.b hs).1, (shr_or hx.b hx.c hs).1, (shr_or hx.c hx.d hs).1]
    have ht := shr_val ⟨x.a, x.b, x.c, x.d⟩ hs
    refine shr_of (q := 0) ⟨(shr_or hx.a hx.b hs).2, (shr_or hx.b hx.c hs).2, (shr_or hx.c hx.d hs).2, hd.2⟩ ht ?_ (by omega)
    obtain ⟨⟨_, _⟩, ⟨_, _⟩, ⟨_, _⟩, ⟨_, _⟩⟩ := hx
    simp only [Nm.val]
    have : (2 : Int) ^ (64 * 0) = 1 := rfl
    rw [this]
    omega
  · refine (shr_walk1 x n (n % 64) h rfl hs w).mono ?_
    rintro e w' ⟨rfl, hb⟩
    refine ⟨ret_n ?_, hb⟩
    rw [(shr_or hx.b hx.c hs).1, (shr_or hx.c hx.d hs).1]
    have ht := shr_val ⟨x.b, x.c, x.d, 0⟩ hs
    simp only [Int.zero_ediv, Int.zero_emod, Int.zero_mul, Int.add_zero] at ht
    refine shr_of (q := 1) ⟨(shr_or hx.b hx.c hs).2, (shr_or hx.c hx.d hs).2, hd.2, zw⟩ ht ?_ (by omega)
    obtain ⟨⟨_, _⟩, ⟨_, _⟩, ⟨_, _⟩, ⟨_, _⟩⟩ := hx
    simp only [Nm.val]
    have : (2 : Int) ^ (64 * 1) = 18446744073709551616 := rfl
    rw [this]
    omega
  · refine (shr_walk2 x n (n % 64) h rfl hs w).mono ?_
    rintro e w' ⟨rfl, hb⟩
    refine ⟨ret_n ?_, hb⟩
    rw [(shr_or hx.c hx.d hs).1]
    have ht := shr_val ⟨x.c, x.d, 0, 0⟩ hs
    simp only [Int.zero_ediv, Int.zero_emod, Int.zero_mul, Int.add_zero] at ht
    refine shr_of (q := 2) ⟨(shr_or hx.c hx.d hs).2, hd.2, zw, zw⟩ ht ?_ (by omega)
    obtain ⟨⟨_, _⟩, ⟨_, _⟩, ⟨_, _⟩, ⟨_, _⟩⟩ := hx
    simp only [Nm.val]
    have : (2 : Int) ^ (64 * 2) = 340282366920938463463374607431768211456 := rfl
    rw [this]
    omega
  · refine (shr_walk3 x n (n % 64) h rfl hs w).mono ?_
    rintro e w' ⟨rfl, hb⟩
    refine ⟨ret_n ?_, hb⟩
    have ht := shr_val ⟨x.d, 0, 0, 0⟩ hs
    simp only [Int.zero_ediv, Int.zero_emod, Int.zero_mul, Int.add_zero] at ht
    refine shr_of (q := 3) ⟨hd.2, zw, zw, zw⟩ ht ?_ (by omega)
    obtain ⟨⟨_, _⟩, ⟨_, _⟩, ⟨_, _⟩, ⟨_, _⟩⟩ := hx
    simp only [Nm.val]
    have : (2 : Int) ^ (64 * 3) = 6277101735386680763835789423207666416102355444464034512896 := rfl
    rw [this]
    omega
end Go.Proofs.YtdcpicbkemmakaaDoor

/- The contract of limb.Shift, for the distances that a number of 256 bits has. -/
namespace Go.Proofs.YtdcpicbkemmakaaDoor
open Go.RowKit
attribute [local go_sem] World.cell?_alloc_some

set_option maxHeartbeats 400000 in
theorem shift_pos (x : Nm) (hx : x.ok) (n : Nat) (hn : n < 256) (w : World) :
    Calls Tryd.prog 77 #[N x, .int .i64 n] w fun e w' => e = .returned (N (Nm.of (x.val * 2 ^ n % M))) ∧ Below w.heap.size w w' := by
  have hs := shl_fun x hx n hn
  generalize Nm.of (x.val * 2 ^ n % M) = r at *
  have h1 : ¬ ((n : Int) ≤ -256) := by omega
  have h2 : ¬ ((n : Int) ≥ 256) := by omega
  have h3 : ¬ ((n : Int) < 0) := by omega
  go_enter Tryd.func77, Tryd.ntmps77
  go_wp2_with fail
  refine (hs _).mono ?_
  rintro e w1 ⟨rfl, hb1⟩
  have b1 : Hid (Below w.heap.size w w1) := by
    refine Below.trans ?_ (hb1.mono (by first | omega | (simp <;> omega)))
    repeat (first | exact Below.refl _ _ | refine Below.alloc ?_ (by first | omega | (simp <;> omega)) _)
  obtain ⟨c0, c1, c2, c3, cz⟩ := Cells4.up (W := _) (k := w.heap.size + 1) (a := .int .u64 0) (b := .int .u64 0) (c := .int .u64 0) (d := .int .u64 0) (by constructor <;> simp [go_sem]) hb1
  clear hb1
  go_wp2_with fail
  refine bodyPost_ret (v := N r) ?_ rfl ⟨rfl, below_st4 (x := r) b1.out (by omega)⟩
  obtain ⟨r0, r1, r2, r3, rz⟩ := Cells4.st4_self (x := r) ⟨c0, c1, c2, c3, cz⟩
  show (results Tryd.f77 _).run Tryd.prog (st4 w1 (w.heap.size + 1) r) = .ok _ (st4 w1 (w.heap.size + 1) r)
  generalize st4 w1 (w.heap.size + 1) r = W5 at *
  simp [results, Tryd.results77, go_sem, r0, r1, r2, r3]

set_option maxHeartbeats 400000 in
theorem shift_neg (x : Nm) (hx : x.ok) (n : Nat) (h0 : 0 < n) (hn : n < 256) (w : World) :
    Calls Tryd.prog 77 #[N x, .int .i64 (-(n : Int))] w fun e w' => e = .returned (N (Nm.of (x.val / 2 ^ n))) ∧ Below w.heap.size w w' := by
  have hs := shr_fun x hx n hn
  generalize Nm.of (x.val / 2 ^ n) = r at *
  have h1 : ¬ (-(n : Int) ≤ -256) := by omega
  have h2 : ¬ (-(n : Int) ≥ 256) := by omega
  have h3 : -(n : Int) < 0 := by omega
  go_enter Tryd.func77, Tryd.ntmps77
  go_wp2_with fail
  refine (hs _).mono ?_
  rintro e w1 ⟨rfl, hb1⟩
  have b1 : Hid (Below w.heap.size w w1) := by
    refine Below.trans ?_ (hb1.mono (by first | omega | (simp <;> omega)))
    repeat (first | exact Below.refl _ _ | refine Below.alloc ?_ (by first | omega | (simp <;> omega)) _)
  obtain ⟨c0, c1, c2, c3, cz⟩ := Cells4.up (W := _) (k := w.heap.size + 1) (a := .int .u64 0) (b := .int .u64 0) (c := .int .u64 0) (d := .int .u64 0) (by constructor <;> simp [go_sem]) hb1
  clear hb1
  go_wp2_with fail
  refine bodyPost_ret (v := N r) ?_ rfl ⟨rfl, below_st4 (x := r) b1.out (by omega)⟩
  obtain ⟨r0, r1, r2, r3, rz⟩ := Cells4.st4_self (x := r) ⟨c0, c1, c2, c3, cz⟩
  show (results Tryd.f77 _).run Tryd.prog (st4 w1 (w.heap.size + 1) r) = .ok _ (st4 w1 (w.heap.size + 1) r)
  generalize st4 w1 (w.heap.size + 1) r = W5 at *
  simp [results, Tryd.results77, go_sem, r0, r1, r2, r3]
end Go.Proofs.YtdcpicbkemmakaaDoor
