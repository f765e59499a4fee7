/- GfFrobenius returns true for every two bytes. -/
import Derived.Test.YtohgnkpaaocjmaaGC
namespace Go.Proofs.Ytohgnkpaaocjmaa
open Go.RowKit
set_option linter.unusedSimpArgs false
set_option maxRecDepth 20000 in
set_option maxHeartbeats 4000000 in
theorem gfFrobenius_of {Tb : World → Prop} (C : GfC Tb) (a : Nat) (ha : a < 256) (b : Nat) (hb : b < 256) (w : World) (hT : Tb w) :
    Calls Try.prog 7 #[b8 a, b8 b] w fun e w' => e = .returned (.bool true) ∧ Below w.heap.size w w' := by
  have TB : Hid (∀ W, Below w.heap.size w W → Tb W) := C.all hT
  have D0 : Hid (Below w.heap.size w w) := Below.refl _ _
  have xb := g_xor ha hb
  have l1 := G.pow_lt256 (a := a) 2
  have l2 := G.pow_lt256 (a := b) 2
  have xm := g_xor l1 l2
  have P1 : Hid _ := C.pow (a ^^^ b) 2 (G.xor_lt ha hb) (by decide)
  have P2 : Hid _ := C.pow a 2 ha (by decide)
  have P3 : Hid _ := C.pow b 2 hb (by decide)
  have P4 : Hid _ := C.pow a 256 ha (by decide)
  have P5 : Hid _ := C.pow a 16 ha (by decide)
  have P6 : Hid _ := C.pow (G.pow a 16) 16 (G.pow_lt256 16) (by decide)
  rw [G.frob ha hb] at P1
  rw [G.pow256 ha] at P4
  rw [← G.pow_mul ha, G.pow256 ha] at P6
  clear hT C
  generalize G.pow a 16 = p5 at *
  generalize G.pow a 2 = p2 at *
  generalize G.pow b 2 = p3 at *
  generalize hx1 : a ^^^ b = x1 at *
  generalize hx2 : p2 ^^^ p3 = x2 at *
  clear hx1 hx2
  go_enter Try.func7, Try.ntmps7
  go_wp2_with fail
  refine Calls.mono (P1.out _ (TB.out _ D0.out)) ?_
  rintro e w1 ⟨rfl, hb1⟩
  have D1 : Hid (Below w.heap.size w w1) := D0.out.trans (hb1.mono D0.out.size)
  clear hb1 D0
  go_wp2_with fail
  refine Calls.mono (P2.out _ (TB.out _ D1.out)) ?_
  rintro e w2 ⟨rfl, hb2⟩
  have D2 : Hid (Below w.heap.size w w2) := D1.out.trans (hb2.mono D1.out.size)
  clear hb2 D1
  go_wp2_with fail
  refine Calls.mono (P3.out _ (TB.out _ D2.out)) ?_
  rintro e w3 ⟨rfl, hb3⟩
  have D3 : Hid (Below w.heap.size w w3) := D2.out.trans (hb3.mono D2.out.size)
  clear hb3 D2
  go_wp2_with fail
  refine Calls.mono (P4.out _ (TB.out _ D3.out)) ?_
  rintro e w4 ⟨rfl, hb4⟩
  have D4 : Hid (Below w.heap.size w w4) := D3.out.trans (hb4.mono D3.out.size)
  clear hb4 D3
  go_wp2_with fail
  refine Calls.mono (P5.out _ (TB.out _ D4.out)) ?_
  rintro e w5 ⟨rfl, hb5⟩
  have D5 : Hid (Below w.heap.size w w5) := D4.out.trans (hb5.mono D4.out.size)
  clear hb5 D4
  go_wp2_with fail
  refine Calls.mono (P6.out _ (TB.out _ D5.out)) ?_
  rintro e w6 ⟨rfl, hb6⟩
  have D6 : Hid (Below w.heap.size w w6) := D5.out.trans (hb6.mono D5.out.size)
  clear hb6 D5
  go_wp2_with fail
  go_ret
  exact ⟨rfl, D6.out⟩
end Go.Proofs.Ytohgnkpaaocjmaa
