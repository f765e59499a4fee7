/- The contract of limb.Shift, for the distances that a number of 256 bits has. -/
import Derived.Test.YtkgfeacednomfaaSh
import Derived.Test.YtkgfeacednomfaaStore
namespace Go.Proofs.Ytkgfeacednomfaa
open Go.RowKit
attribute [local go_sem] World.cell?_alloc_some

set_option maxHeartbeats 400000 in
theorem shift_pos (x : Nm) (hx : x.ok) (n : Nat) (hn : n < 256) (w : World) :
    Calls Try.prog 24 #[N x, .int .i64 n] w fun e w' => e = .returned (N (Nm.of (x.val * 2 ^ n % M))) ∧ Below w.heap.size w w' := by
  have hs := shl_fun x hx n hn
  generalize Nm.of (x.val * 2 ^ n % M) = r at *
  have h1 : ¬ ((n : Int) ≤ -256) := by omega
  have h2 : ¬ ((n : Int) ≥ 256) := by omega
  have h3 : ¬ ((n : Int) < 0) := by omega
  go_enter Try.func24, Try.ntmps24
  go_wp2_with fail
  refine (hs _).mono ?_
  rintro e w1 ⟨rfl, hb1⟩
  have b1 : Hid (Below w.heap.size w w1) := by
    refine Below.trans ?_ (hb1.mono (by first | omega | (simp <;> omega)))
    repeat (first | exact Below.refl _ _ | refine Below.alloc ?_ (by first | omega | (simp <;> omega)) _)
  obtain ⟨c0, c1, c2, c3, cz⟩ := Cells4.up (W := _) (k := w.heap.size + 1) (a := .int .u64 0) (b := .int .u64 0) (c := .int .u64 0) (d := .int .u64 0) (by constructor <;> simp [go_sem]) hb1
  clear hb1
  go_wp2_with fail
  refine bodyPost_ret (v := N r) ?_ rfl ⟨rfl, below_st4 (x := r) b1.out (by omega)⟩
  obtain ⟨r0, r1, r2, r3, rz⟩ := Cells4.st4_self (x := r) ⟨c0, c1, c2, c3, cz⟩
  show (results Try.f24 _).run Try.prog (st4 w1 (w.heap.size + 1) r) = .ok _ (st4 w1 (w.heap.size + 1) r)
  generalize st4 w1 (w.heap.size + 1) r = W5 at *
  simp [results, Try.results24, go_sem, r0, r1, r2, r3]

set_option maxHeartbeats 400000 in
theorem shift_neg (x : Nm) (hx : x.ok) (n : Nat) (h0 : 0 < n) (hn : n < 256) (w : World) :
    Calls Try.prog 24 #[N x, .int .i64 (-(n : Int))] w fun e w' => e = .returned (N (Nm.of (x.val / 2 ^ n))) ∧ Below w.heap.size w w' := by
  have hs := shr_fun x hx n hn
  generalize Nm.of (x.val / 2 ^ n) = r at *
  have h1 : ¬ (-(n : Int) ≤ -256) := by omega
  have h2 : ¬ (-(n : Int) ≥ 256) := by omega
  have h3 : -(n : Int) < 0 := by omega
  go_enter Try.func24, Try.ntmps24
  go_wp2_with fail
  refine (hs _).mono ?_
  rintro e w1 ⟨rfl, hb1⟩
  have b1 : Hid (Below w.heap.size w w1) := by
    refine Below.trans ?_ (hb1.mono (by first | omega | (simp <;> omega)))
    repeat (first | exact Below.refl _ _ | refine Below.alloc ?_ (by first | omega | (simp <;> omega)) _)
  obtain ⟨c0, c1, c2, c3, cz⟩ := Cells4.up (W := _) (k := w.heap.size + 1) (a := .int .u64 0) (b := .int .u64 0) (c := .int .u64 0) (d := .int .u64 0) (by constructor <;> simp [go_sem]) hb1
  clear hb1
  go_wp2_with fail
  refine bodyPost_ret (v := N r) ?_ rfl ⟨rfl, below_st4 (x := r) b1.out (by omega)⟩
  obtain ⟨r0, r1, r2, r3, rz⟩ := Cells4.st4_self (x := r) ⟨c0, c1, c2, c3, cz⟩
  show (results Try.f24 _).run Try.prog (st4 w1 (w.heap.size + 1) r) = .ok _ (st4 w1 (w.heap.size + 1) r)
  generalize st4 w1 (w.heap.size + 1) r = W5 at *
  simp [results, Try.results24, go_sem, r0, r1, r2, r3]
end Go.Proofs.Ytkgfeacednomfaa
