/- The contracts of limb.shiftLeft, limb.shiftRight and limb.Shift, by what they are worth. -/
import Derived.Test.YtjcnfffmciahiaaShl
import Derived.Test.YtjcnfffmciahiaaShMath
import Derived.Test.YtjcnfffmciahiaaStore
import Derived.Deep.RegionHeld
namespace Go.Proofs.Ytjcnfffmciahiaa
open Go.RowKit
attribute [local go_sem] World.cell?_alloc_some

theorem ret_n {x y : Nm} (h : x = y) : Ending.returned (N x) = .returned (N y) := by rw [h]
theorem zw : Word 0 := ⟨by decide, by decide⟩
theorem wrap0 (s : Nat) : IntKind.u64.wrap (0 * 2 ^ s) = 0 := by rw [Int.zero_mul, IntKind.wrap_u64]; rfl

end Go.Proofs.Ytjcnfffmciahiaa
