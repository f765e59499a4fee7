/- The contracts of sealringref.grid and ungrid: a block as rows of columns, and back. -/
import Derived.Test.YtmfbdacalenfdabAMath
import Derived.Test.YtmfbdacalenfdabRCol
namespace Go.Proofs.Ytmfbdacalenfdab
open Go.RowKit
set_option linter.unusedSimpArgs false
namespace A
/-- Rows for columns. -/
def tp (p : Nat) : Nat := 4 * (p % 4) + p / 4
theorem tps : ∀ p < 16, tp p < 16 ∧ tp (tp p) = p := by decide
def gridL (b : List Nat) : List Nat := by_ 16 fun p => b.getD (tp p) 0
theorem gridL_ok {b : List Nat} (h : ok 16 b) : ok 16 (gridL b) := by_ok fun _ _ => h.at _
theorem grid_grid {b : List Nat} (h : ok 16 b) : gridL (gridL b) = b := by
  refine Eq.trans (by_congr fun p hp => ?_) (by_self h.1)
  unfold gridL
  rw [by_get (tps p hp).1, (tps p hp).2]
end A
theorem u_a16 : Try.prog.underlying 23 = some (.array 16 5) := by kernel_rfl
theorem info_a16 : (Try.prog.info? 23).map (·.size) = some 16 := by kernel_rfl
theorem zero_a16 (w : World) : (zeroValue 23).run Try.prog w = .ok (.agg (zB 16).toArray) w := zero_of (by kernel_rfl) w
end Go.Proofs.Ytmfbdacalenfdab
