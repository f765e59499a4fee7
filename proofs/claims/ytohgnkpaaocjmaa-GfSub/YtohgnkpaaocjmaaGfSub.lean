/- GfSub returns true for every two bytes. -/
import Derived.Test.YtohgnkpaaocjmaaGC
namespace Go.Proofs.Ytohgnkpaaocjmaa
open Go.RowKit
set_option linter.unusedSimpArgs false
set_option maxRecDepth 20000 in
set_option maxHeartbeats 4000000 in
theorem gfSub_of {Tb : World → Prop} (C : GfC Tb) (a : Nat) (ha : a < 256) (b : Nat) (hb : b < 256) (w : World) (hT : Tb w) :
    Calls Try.prog 6 #[b8 a, b8 b] w fun e w' => e = .returned (.bool true) ∧ Below w.heap.size w w' := by
  have TB : Hid (∀ W, Below w.heap.size w W → Tb W) := C.all hT
  have D0 : Hid (Below w.heap.size w w) := Below.refl _ _
  have S1 : Hid _ := C.sub a ha
  have S2 : Hid _ := C.unsub (G.sub a) (G.sub_lt a)
  rw [G.unsub_sub ha] at S2
  have S3 : Hid _ := C.unsub a ha
  have S4 : Hid _ := C.sub (G.unsub a) (G.unsub_lt a)
  rw [G.sub_unsub ha] at S4
  have S5 : Hid _ := C.sub b hb
  have n1 : ¬ ((G.sub a : Nat) : Int) = (a : Int) := fun h => (G.sub_ne ha).1 (Int.ofNat.inj h)
  have nx := g_not ha
  obtain ⟨y, hy⟩ : ∃ y, y = 255 - a := ⟨_, rfl⟩
  rw [← hy] at nx
  have n2 : ¬ ((G.sub a : Nat) : Int) = (y : Int) := fun h => (G.sub_ne ha).2 (by omega)
  clear hy
  have IJ : Hid _ := G.sub_inj ha hb
  clear hT C
  generalize G.sub a = s1 at *
  generalize G.unsub a = s3 at *
  generalize G.sub b = s5 at *
  go_enter Try.func6, Try.ntmps6
  go_wp2_with fail
  refine Calls.mono (S1.out _ (TB.out _ D0.out)) ?_
  rintro e w1 ⟨rfl, hb1⟩
  have D1 : Hid (Below w.heap.size w w1) := D0.out.trans (hb1.mono D0.out.size)
  clear hb1 D0
  go_wp2_with fail
  refine Calls.mono (S2.out _ (TB.out _ D1.out)) ?_
  rintro e w2 ⟨rfl, hb2⟩
  have D2 : Hid (Below w.heap.size w w2) := D1.out.trans (hb2.mono D1.out.size)
  clear hb2 D1
  go_wp2_with fail
  refine Calls.mono (S3.out _ (TB.out _ D2.out)) ?_
  rintro e w3 ⟨rfl, hb3⟩
  have D3 : Hid (Below w.heap.size w w3) := D2.out.trans (hb3.mono D2.out.size)
  clear hb3 D2
  go_wp2_with fail
  refine Calls.mono (S4.out _ (TB.out _ D3.out)) ?_
  rintro e w4 ⟨rfl, hb4⟩
  have D4 : Hid (Below w.heap.size w w4) := D3.out.trans (hb4.mono D3.out.size)
  clear hb4 D3
  go_wp2_with fail
  refine Calls.mono (S1.out _ (TB.out _ D4.out)) ?_
  rintro e w5 ⟨rfl, hb5⟩
  have D5 : Hid (Below w.heap.size w w5) := D4.out.trans (hb5.mono D4.out.size)
  clear hb5 D4
  go_wp2_with fail
  refine Calls.mono (S1.out _ (TB.out _ D5.out)) ?_
  rintro e w6 ⟨rfl, hb6⟩
  have D6 : Hid (Below w.heap.size w w6) := D5.out.trans (hb6.mono D5.out.size)
  clear hb6 D5
  go_wp2_with fail
  refine Calls.mono (S1.out _ (TB.out _ D6.out)) ?_
  rintro e w7 ⟨rfl, hb7⟩
  have D7 : Hid (Below w.heap.size w w7) := D6.out.trans (hb7.mono D6.out.size)
  clear hb7 D6
  go_wp2_with fail
  refine Calls.mono (S5.out _ (TB.out _ D7.out)) ?_
  rintro e w8 ⟨rfl, hb8⟩
  have D8 : Hid (Below w.heap.size w w8) := D7.out.trans (hb8.mono D7.out.size)
  clear hb8 D7
  have IK : (((s1 : Nat) : Int) = (s5 : Int)) = ((a : Int) = (b : Int)) := propext ⟨fun h => by rw [IJ.out.1 (Int.ofNat.inj h)], fun h => by rw [IJ.out.2 (Int.ofNat.inj h)]⟩
  go_wp2_with fail
  go_ret
  refine ⟨?_, D8.out⟩
  simp [IK]
  exact ⟨⟨n1, n2⟩, by rw [Bool.eq_iff_iff, beq_iff_eq, beq_iff_eq, IK]⟩
end Go.Proofs.Ytohgnkpaaocjmaa
