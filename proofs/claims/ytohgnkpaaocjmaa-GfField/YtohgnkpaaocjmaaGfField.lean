/- GfField returns true for every three bytes. -/
import Derived.Test.YtohgnkpaaocjmaaGC
namespace Go.Proofs.Ytohgnkpaaocjmaa
open Go.RowKit
set_option linter.unusedSimpArgs false
set_option maxRecDepth 20000 in
set_option maxHeartbeats 4000000 in
theorem gfField_of {Tb : World → Prop} (C : GfC Tb) (a : Nat) (ha : a < 256) (b : Nat) (hb : b < 256) (c : Nat) (hc : c < 256) (w : World) (hT : Tb w) :
    Calls Try.prog 4 #[b8 a, b8 b, b8 c] w fun e w' => e = .returned (.bool true) ∧ Below w.heap.size w w' := by
  have TB : Hid (∀ W, Below w.heap.size w W → Tb W) := C.all hT
  have D0 : Hid (Below w.heap.size w w) := Below.refl _ _
  have xb := g_xor hb hc
  have l1 := G.mul_lt b ha
  have l2 := G.mul_lt c ha
  have l4 := G.mul_lt c hb
  have xm := g_xor l1 l2
  have M1 : Hid _ := C.mul a b ha hb
  have M2 : Hid _ := C.mul b a hb ha
  rw [G.mul_comm hb ha] at M2
  have M3 : Hid _ := C.mul (G.mul a b) c l1 hc
  have M4 : Hid _ := C.mul b c hb hc
  have M5 : Hid _ := C.mul a (G.mul b c) ha l4
  rw [← G.mul_assoc ha hb hc] at M5
  have M6 : Hid _ := C.mul a (b ^^^ c) ha (G.xor_lt hb hc)
  rw [G.mul_right] at M6
  have M7 : Hid _ := C.mul a c ha hc
  have M8 : Hid _ := C.mul a 1 ha (by decide)
  rw [G.mul_one ha] at M8
  have M9 : Hid _ := C.mul a 0 ha (by decide)
  rw [G.mul_zero] at M9
  have I1 : Hid _ := C.inv a ha
  have I2 : Hid _ := C.inv (G.inv a) (G.inv_lt a)
  rw [G.inv_inv ha] at I2
  have NZ : Hid (¬ G.mul a b = 0 ∨ a = 0 ∨ b = 0) := by
    by_cases h : G.mul a b = 0
    · exact .inr (G.no_zero ha hb h)
    · exact .inl h
  have MI : Hid (a ≠ 0 → ∀ w, Tb w → Calls Try.prog 10 #[b8 a, b8 (G.inv a)] w fun e w' => e = .returned (b8 1) ∧ Below w.heap.size w w') := fun h0 => by
    have := C.mul a (G.inv a) ha (G.inv_lt a)
    rw [G.mul_inv ha h0] at this
    exact this
  clear hT C
  generalize G.mul (G.mul a b) c = m3 at *
  generalize G.mul b c = m4 at *
  generalize G.mul a c = m7 at *
  generalize G.inv a = i1 at *
  generalize G.mul a b = m1 at *
  generalize hx1 : b ^^^ c = x1 at *
  generalize hx2 : m1 ^^^ m7 = x2 at *
  clear hx1 hx2
  go_enter Try.func4, Try.ntmps4
  go_wp2_with fail
  refine Calls.mono (M1.out _ (TB.out _ D0.out)) ?_
  rintro e w1 ⟨rfl, hb1⟩
  have D1 : Hid (Below w.heap.size w w1) := D0.out.trans (hb1.mono D0.out.size)
  clear hb1 D0
  go_wp2_with fail
  refine Calls.mono (M2.out _ (TB.out _ D1.out)) ?_
  rintro e w2 ⟨rfl, hb2⟩
  have D2 : Hid (Below w.heap.size w w2) := D1.out.trans (hb2.mono D1.out.size)
  clear hb2 D1
  go_wp2_with fail
  refine Calls.mono (M1.out _ (TB.out _ D2.out)) ?_
  rintro e w3 ⟨rfl, hb3⟩
  have D3 : Hid (Below w.heap.size w w3) := D2.out.trans (hb3.mono D2.out.size)
  clear hb3 D2
  go_wp2_with fail
  refine Calls.mono (M3.out _ (TB.out _ D3.out)) ?_
  rintro e w4 ⟨rfl, hb4⟩
  have D4 : Hid (Below w.heap.size w w4) := D3.out.trans (hb4.mono D3.out.size)
  clear hb4 D3
  go_wp2_with fail
  refine Calls.mono (M4.out _ (TB.out _ D4.out)) ?_
  rintro e w5 ⟨rfl, hb5⟩
  have D5 : Hid (Below w.heap.size w w5) := D4.out.trans (hb5.mono D4.out.size)
  clear hb5 D4
  go_wp2_with fail
  refine Calls.mono (M5.out _ (TB.out _ D5.out)) ?_
  rintro e w6 ⟨rfl, hb6⟩
  have D6 : Hid (Below w.heap.size w w6) := D5.out.trans (hb6.mono D5.out.size)
  clear hb6 D5
  go_wp2_with fail
  refine Calls.mono (M6.out _ (TB.out _ D6.out)) ?_
  rintro e w7 ⟨rfl, hb7⟩
  have D7 : Hid (Below w.heap.size w w7) := D6.out.trans (hb7.mono D6.out.size)
  clear hb7 D6
  go_wp2_with fail
  refine Calls.mono (M1.out _ (TB.out _ D7.out)) ?_
  rintro e w8 ⟨rfl, hb8⟩
  have D8 : Hid (Below w.heap.size w w8) := D7.out.trans (hb8.mono D7.out.size)
  clear hb8 D7
  go_wp2_with fail
  refine Calls.mono (M7.out _ (TB.out _ D8.out)) ?_
  rintro e w9 ⟨rfl, hb9⟩
  have D9 : Hid (Below w.heap.size w w9) := D8.out.trans (hb9.mono D8.out.size)
  clear hb9 D8
  go_wp2_with fail
  refine Calls.mono (M8.out _ (TB.out _ D9.out)) ?_
  rintro e w10 ⟨rfl, hb10⟩
  have D10 : Hid (Below w.heap.size w w10) := D9.out.trans (hb10.mono D9.out.size)
  clear hb10 D9
  go_wp2_with fail
  refine Calls.mono (M9.out _ (TB.out _ D10.out)) ?_
  rintro e w11 ⟨rfl, hb11⟩
  have D11 : Hid (Below w.heap.size w w11) := D10.out.trans (hb11.mono D10.out.size)
  clear hb11 D10
  by_cases h0 : a = 0
  · subst h0
    go_wp2_with fail
    refine Calls.mono (I1.out _ (TB.out _ D11.out)) ?_
    rintro e w12 ⟨rfl, hb12⟩
    have D12 : Hid (Below w.heap.size w w12) := D11.out.trans (hb12.mono D11.out.size)
    clear hb12 D11
    go_wp2_with fail
    refine Calls.mono (I2.out _ (TB.out _ D12.out)) ?_
    rintro e w13 ⟨rfl, hb13⟩
    have D13 : Hid (Below w.heap.size w w13) := D12.out.trans (hb13.mono D12.out.size)
    clear hb13 D12
    go_wp2_with fail
    refine Calls.mono (M1.out _ (TB.out _ D13.out)) ?_
    rintro e w14 ⟨rfl, hb14⟩
    have D14 : Hid (Below w.heap.size w w14) := D13.out.trans (hb14.mono D13.out.size)
    clear hb14 D13
    by_cases hm : m1 = 0
    · subst hm
      go_wp2_with fail
      go_ret
      exact ⟨rfl, D14.out⟩
    · have hm1 : ¬ (m1 : Int) = 0 := by omega
      go_wp2_with fail
      go_ret
      exact ⟨rfl, D14.out⟩
  · have ha0 : ¬ (a : Int) = 0 := by omega
    have MJ : Hid _ := MI.out h0
    go_wp2_with fail
    refine Calls.mono (I1.out _ (TB.out _ D11.out)) ?_
    rintro e w12 ⟨rfl, hb12⟩
    have D12 : Hid (Below w.heap.size w w12) := D11.out.trans (hb12.mono D11.out.size)
    clear hb12 D11
    go_wp2_with fail
    refine Calls.mono (MJ.out _ (TB.out _ D12.out)) ?_
    rintro e w13 ⟨rfl, hb13⟩
    have D13 : Hid (Below w.heap.size w w13) := D12.out.trans (hb13.mono D12.out.size)
    clear hb13 D12
    go_wp2_with fail
    refine Calls.mono (I1.out _ (TB.out _ D13.out)) ?_
    rintro e w14 ⟨rfl, hb14⟩
    have D14 : Hid (Below w.heap.size w w14) := D13.out.trans (hb14.mono D13.out.size)
    clear hb14 D13
    go_wp2_with fail
    refine Calls.mono (I2.out _ (TB.out _ D14.out)) ?_
    rintro e w15 ⟨rfl, hb15⟩
    have D15 : Hid (Below w.heap.size w w15) := D14.out.trans (hb15.mono D14.out.size)
    clear hb15 D14
    go_wp2_with fail
    refine Calls.mono (M1.out _ (TB.out _ D15.out)) ?_
    rintro e w16 ⟨rfl, hb16⟩
    have D16 : Hid (Below w.heap.size w w16) := D15.out.trans (hb16.mono D15.out.size)
    clear hb16 D15
    by_cases hm : m1 = 0
    · have hb0 : b = 0 := (NZ.out.resolve_left (fun h => h hm)).resolve_left h0
      subst hm hb0
      go_wp2_with fail
      go_ret
      exact ⟨rfl, D16.out⟩
    · have hm1 : ¬ (m1 : Int) = 0 := by omega
      go_wp2_with fail
      go_ret
      exact ⟨rfl, D16.out⟩
end Go.Proofs.Ytohgnkpaaocjmaa
