/- The contract of bytes.Equal. -/
import Derived.Test.YtmfbdacalenfdaaBs
namespace Go.Proofs.Ytmfbdacalenfdaa
open Go.RowKit
set_option linter.unusedSimpArgs false
set_option maxHeartbeats 1000000 in
theorem equal_fun (u v : Value) (xs ys : List Nat) (hx : ∀ x ∈ xs, x < 256) (hy : ∀ y ∈ ys, y < 256) (w : World) (hu : By w u xs) (hv : By w v ys) :
    Calls Try.prog 17 #[u, v] w fun e w' => e = .returned (.bool (decide (xs = ys))) ∧ Below w.heap.size w w' := by
  have HU : Hid (By w u xs) := hu
  have HV : Hid (By w v ys) := hv
  have HE : Hid _ := sOf_beq hx hy
  clear hu hv hx hy
  go_enter Try.func17, Try.ntmps17
  go_wp2_with (first | (refine wp_conv rfl (.tmp 5) rfl _ xs rfl HU.out ?_) | (refine wp_conv rfl (.tmp 7) rfl _ ys rfl HV.out ?_))
  rw [HE.out]
  go_ret
  exact ⟨rfl, Below.refl _ _⟩
end Go.Proofs.Ytmfbdacalenfdaa
