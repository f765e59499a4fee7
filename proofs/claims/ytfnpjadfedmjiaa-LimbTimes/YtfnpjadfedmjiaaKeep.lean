/- The contract of sealringkeep.limbs: Add and Mul answer at the two places that it looks at. -/
import Derived.Test.YtfnpjadfedmjiaaMulW
import Derived.Test.YtfnpjadfedmjiaaEq
import Derived.Deep.RegionHeld
namespace Go.Proofs.Ytfnpjadfedmjiaa
open Go.RowKit
attribute [local go_sem] World.cell?_alloc_some

theorem small_ok {a b c d : Int} (ha : Word a) (hb : Word b) (hc : Word c) (hd : Word d) : (⟨a, b, c, d⟩ : Nm).ok := ⟨ha, hb, hc, hd⟩
theorem addS_1 : addS ⟨18446744073709551615, 0, 0, 0⟩ ⟨2, 0, 0, 0⟩ = ⟨1, 1, 0, 0⟩ := by simp [addS, Nm.of, Nm.val, M]
theorem addC_1 : addC ⟨18446744073709551615, 0, 0, 0⟩ ⟨2, 0, 0, 0⟩ = 0 := by simp [addC, Nm.val, M]
theorem mulL_1 : mulL ⟨3, 0, 0, 0⟩ ⟨5, 0, 0, 0⟩ = ⟨15, 0, 0, 0⟩ := by simp [mulL, Nm.of, Nm.val, M]
theorem mulH_1 : mulH ⟨3, 0, 0, 0⟩ ⟨5, 0, 0, 0⟩ = ⟨0, 0, 0, 0⟩ := by simp [mulH, Nm.of, Nm.val, M]

set_option maxHeartbeats 400000 in
theorem limbs_any (w : World) : Calls Try.prog 32 #[] w fun e w' => e = .returned (.bool true) ∧ Below w.heap.size w w' := by
  have z : Word 0 := ⟨by decide, by decide⟩
  go_enter Try.func32, Try.ntmps32
  go_wp2_with fail
  refine (add_fun ⟨18446744073709551615, 0, 0, 0⟩ ⟨2, 0, 0, 0⟩ ⟨⟨by decide, by decide⟩, z, z, z⟩ ⟨⟨by decide, by decide⟩, z, z, z⟩ _).mono ?_
  rintro e w1 ⟨rfl, hb1⟩
  rw [addS_1, addC_1]
  have he := eqN ⟨1, 1, 0, 0⟩ ⟨1, 1, 0, 0⟩
  have hr := Nm.beq_self ⟨1, 1, 0, 0⟩
  have b1 : Hid (Below w.heap.size w w1) := hb1
  clear hb1
  go_wp2_with fail
  refine (mul_fun ⟨3, 0, 0, 0⟩ ⟨5, 0, 0, 0⟩ ⟨⟨by decide, by decide⟩, z, z, z⟩ ⟨⟨by decide, by decide⟩, z, z, z⟩ _).mono ?_
  rintro e w2 ⟨rfl, hb2⟩
  rw [mulL_1, mulH_1]
  have hw := eqW ⟨15, 0, 0, 0⟩ ⟨0, 0, 0, 0⟩ ⟨15, 0, 0, 0⟩ ⟨0, 0, 0, 0⟩
  have hr2 := Nm.beq_self ⟨15, 0, 0, 0⟩
  have hr3 := Nm.beq_self ⟨0, 0, 0, 0⟩
  have b2 : Hid (Below w.heap.size w w2) := by
    have z1 := b1.out.size
    refine Below.trans ?_ (hb2.mono (by first | omega | (simp <;> omega)))
    repeat (first | exact b1.out | refine Below.drew ?_ | refine Below.alloc ?_ (by first | omega | (simp <;> omega)) _)
  clear hb2 b1
  go_wp2_with fail
  go_ret
  refine ⟨rfl, ?_⟩
  have z1 := b2.out.size
  repeat (first | exact b2.out | refine Below.drew ?_ | refine Below.alloc ?_ (by first | omega | (simp <;> omega)) _)
end Go.Proofs.Ytfnpjadfedmjiaa
