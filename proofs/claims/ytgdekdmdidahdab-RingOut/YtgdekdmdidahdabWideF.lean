/- The contract of sealringkeep.wide. -/
import Derived.Test.YtgdekdmdidahdabAddSub
import Derived.Test.YtgdekdmdidahdabEq
import Derived.Deep.RegionHeld
import Derived.Test.YtgdekdmdidahdabHalf
import Derived.Test.YtgdekdmdidahdabUpA
import Derived.Test.YtgdekdmdidahdabStore
namespace Go.Proofs.Ytgdekdmdidahdab
open Go.RowKit
attribute [local go_sem] World.cell?_alloc_some

set_option maxHeartbeats 400000 in
theorem wide_fun (x : Nm) (w : World) :
    Calls Try.prog 12 #[N x] w fun e w' => e = .returned (Wv x ⟨0, 0, 0, 0⟩) ∧ Below w.heap.size w w' := by
  go_enter Try.func12, Try.ntmps12
  go_wp2_with fail
  refine (wideOf_fun x ⟨0, 0, 0, 0⟩ _).mono ?_
  rintro e w1 ⟨rfl, hb1⟩
  have b1 : Hid (Below w.heap.size w w1) := by
    refine Below.trans ?_ (hb1.mono (by first | omega | (simp <;> omega)))
    repeat (first | exact Below.refl _ _ | refine Below.alloc ?_ (by first | omega | (simp <;> omega)) _)
  obtain ⟨c0, c1, c2, c3, c4, c5, c6, c7, cz⟩ := Cells8.up (W := _) (k := w.heap.size + 1) (a := .int .u64 0) (b := .int .u64 0) (c := .int .u64 0) (d := .int .u64 0) (e := .int .u64 0) (f := .int .u64 0) (g := .int .u64 0) (i := .int .u64 0) (by constructor <;> simp [go_sem]) hb1
  clear hb1
  go_wp2_with fail
  refine bodyPost_ret (v := Wv x ⟨0, 0, 0, 0⟩) ?_ rfl ⟨rfl, below_st8 (l := x) (x := ⟨0, 0, 0, 0⟩) b1.out (by omega)⟩
  obtain ⟨r0, r1, r2, r3, r4, r5, r6, r7⟩ := Cells8.st8_self (l := x) (h := ⟨0, 0, 0, 0⟩) ⟨c0, c1, c2, c3, c4, c5, c6, c7, cz⟩
  show (results Try.f12 _).run Try.prog (st8 w1 (w.heap.size + 1) x ⟨0, 0, 0, 0⟩) = .ok _ (st8 w1 (w.heap.size + 1) x ⟨0, 0, 0, 0⟩)
  generalize st8 w1 (w.heap.size + 1) x ⟨0, 0, 0, 0⟩ = W5 at *
  simp [results, Try.results12, go_sem, r0, r1, r2, r3, r4, r5, r6, r7]
end Go.Proofs.Ytgdekdmdidahdab
