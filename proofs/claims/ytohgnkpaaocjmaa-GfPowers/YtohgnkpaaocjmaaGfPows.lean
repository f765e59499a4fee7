/- GfPowers returns true for every byte and every two numbers. -/
import Derived.Test.YtohgnkpaaocjmaaGC
namespace Go.Proofs.Ytohgnkpaaocjmaa
open Go.RowKit
set_option linter.unusedSimpArgs false
set_option maxRecDepth 20000 in
set_option maxHeartbeats 1000000 in
theorem gfPowers_of {Tb : World → Prop} (C : GfC Tb) (a : Nat) (ha : a < 256) (i : Nat) (hi : i < 18446744073709551616) (j : Nat) (hj : j < 18446744073709551616) (w : World) (hT : Tb w) :
    Calls Try.prog 5 #[b8 a, .int .u64 (i : Int), .int .u64 (j : Int)] w fun e w' => e = .returned (.bool true) ∧ Below w.heap.size w w' := by
  have TB : Hid (∀ W, Below w.heap.size w W → Tb W) := C.all hT
  have D0 : Hid (Below w.heap.size w w) := Below.refl _ _
  by_cases ci : 2147483648 < i
  · have ci' : (2147483648 : Int) < (i : Int) := by omega
    go_enter Try.func5, Try.ntmps5
    go_wp2_with fail
    go_ret
    exact ⟨rfl, D0.out⟩
  have ci' : ¬ (2147483648 : Int) < (i : Int) := by omega
  by_cases cj : 2147483648 < j
  · have cj' : (2147483648 : Int) < (j : Int) := by omega
    go_enter Try.func5, Try.ntmps5
    go_wp2_with fail
    go_ret
    exact ⟨rfl, D0.out⟩
  have cj' : ¬ (2147483648 : Int) < (j : Int) := by omega
  have wij : IntKind.u64.wrap ((i : Int) + (j : Int)) = (i : Int) + (j : Int) := by rw [IntKind.wrap_u64]; omega
  have P1 : Hid _ := C.pow a (i + j) ha (by omega)
  rw [G.pow_add ha, Int.natCast_add] at P1
  have P2 : Hid _ := C.pow a i ha hi
  have P3 : Hid _ := C.pow a j ha hj
  have P4 : Hid _ := C.mul (G.pow a i) (G.pow a j) (G.pow_lt256 i) (G.pow_lt256 j)
  have P5 : Hid (a ≠ 0 → ∀ w, Tb w → Calls Try.prog 12 #[b8 a, .int .u64 255] w fun e w' => e = .returned (b8 1) ∧ Below w.heap.size w w') := fun h0 => by
    have := C.pow a 255 ha (by decide)
    rw [G.pow255 a ha h0] at this
    exact this
  obtain ⟨T, hT3⟩ : ∃ T : Nat → Nat, ∀ n, T n = G.pow 3 n := ⟨_, fun _ => rfl⟩
  have PT : Hid (∀ n : Nat, n < 255 → ∀ w, Tb w → Calls Try.prog 12 #[.int .u8 3, .int .u64 (n : Int)] w fun e w' => e = .returned (b8 (T n)) ∧ Below w.heap.size w w') := fun n hn => by
    rw [hT3]
    exact C.pow 3 n (by decide) (by omega)
  have TH : Hid (a ≠ 0 → ∃ n, n < 255 ∧ T n = a) := fun h => by
    obtain ⟨n, hn, e⟩ := G.three a ha h
    exact ⟨n, hn, (hT3 n).trans e⟩
  have TN : Hid (∀ n, T n ≠ 0) := fun n => by
    rw [hT3]
    exact G.pow_ne (by decide) (by decide) n
  clear hT C hT3 ci cj
  generalize G.mul (G.pow a i) (G.pow a j) = m1 at *
  generalize G.pow a i = p2 at *
  generalize G.pow a j = p3 at *
  go_enter Try.func5, Try.ntmps5
  go_wp2_with fail
  refine Calls.mono (P1.out _ (TB.out _ D0.out)) ?_
  rintro e w1 ⟨rfl, hb1⟩
  have D1 : Hid (Below w.heap.size w w1) := D0.out.trans (hb1.mono D0.out.size)
  clear hb1 D0
  go_wp2_with fail
  refine Calls.mono (P2.out _ (TB.out _ D1.out)) ?_
  rintro e w2 ⟨rfl, hb2⟩
  have D2 : Hid (Below w.heap.size w w2) := D1.out.trans (hb2.mono D1.out.size)
  clear hb2 D1
  go_wp2_with fail
  refine Calls.mono (P3.out _ (TB.out _ D2.out)) ?_
  rintro e w3 ⟨rfl, hb3⟩
  have D3 : Hid (Below w.heap.size w w3) := D2.out.trans (hb3.mono D2.out.size)
  clear hb3 D2
  go_wp2_with fail
  refine Calls.mono (P4.out _ (TB.out _ D3.out)) ?_
  rintro e w4 ⟨rfl, hb4⟩
  have D4 : Hid (Below w.heap.size w w4) := D3.out.trans (hb4.mono D3.out.size)
  clear hb4 D3
  by_cases h0 : a = 0
  · subst h0
    go_wp2_with fail
    go_loopw [7] (fun x wr => ∃ n : Nat, n ≤ 255 ∧ x = .int .u64 (n : Int) ∧ Hid (∀ t, t < n → ¬ T t = 0) ∧ Hid (Below w.heap.size w wr)) (fun x _ => 255 - (intOf x).toNat)
    case atStart => exact ⟨0, by omega, rfl, fun t ht => absurd ht (Nat.not_lt_zero _), D4⟩
    case round =>
      clear D4
      obtain ⟨n, hn, rfl, no, D⟩ := hrel
      by_cases hn1 : n < 255
      · have n1 : (n : Int) < 255 := by omega
        have wn : IntKind.u64.wrap ((n : Int) + 1) = (n : Int) + 1 := by rw [IntKind.wrap_u64]; omega
        have PN : Hid _ := PT.out n hn1
        have TZ : Hid _ := TN.out n
        obtain ⟨y, hy⟩ : ∃ y, T n = y := ⟨_, rfl⟩
        rw [hy] at PN TZ
        have HY : Hid (T n = y) := hy
        clear hy
        go_wp2_with fail
        refine Calls.mono (PN.out _ (TB.out _ D.out)) ?_
        rintro e w7 ⟨rfl, hb7⟩
        have D7 : Hid (Below w.heap.size w w7) := D.out.trans (hb7.mono D.out.size)
        clear hb7 D PN
        by_cases he : y = 0
        · first
          | exact absurd he TZ.out
          | (have z0 : ¬ (0 : Nat) = 0 := by rw [← he]; exact TZ.out
             subst he
             have z1 : ¬ ((y : Nat) : Int) = 0 := by omega
             have zb : (((y : Nat) : Int) != 0) = true := by simpa using z1
             go_wp2_with fail
             go_ret
             exact ⟨by simp [zb], D7.out⟩)
        · have he1 : ¬ (y : Int) = ((0 : Nat) : Int) := by omega
          have NE : Hid (¬ y = 0) := he
          clear he
          go_wp2_with fail
          go_roundw
          case rel =>
            refine ⟨n + 1, by omega, by first | rfl | go_num, fun t ht => ?_, D7⟩
            rcases Nat.lt_succ_iff_lt_or_eq.1 ht with h | rfl
            · exact no.out t h
            · rw [HY.out]; exact NE.out
          case measure =>
            simp [intOf]
            omega
      · obtain rfl : n = 255 := by omega
        have hz : 0 = 0 := by
          apply Classical.byContradiction
          intro h
          obtain ⟨t, ht, e⟩ := TH.out h
          exact no.out t ht e
        have hz1 : ((0 : Nat) : Int) = 0 := by rw [hz]; rfl
        go_wp2_with fail
        go_ret
        exact ⟨rfl, D.out⟩
  · have a0 : ¬ (a : Int) = 0 := by omega
    have P6 : Hid _ := P5.out h0
    go_wp2_with fail
    refine Calls.mono (P6.out _ (TB.out _ D4.out)) ?_
    rintro e w5 ⟨rfl, hb5⟩
    have D5 : Hid (Below w.heap.size w w5) := D4.out.trans (hb5.mono D4.out.size)
    clear hb5 D4
    go_wp2_with fail
    go_loopw [7] (fun x wr => ∃ n : Nat, n ≤ 255 ∧ x = .int .u64 (n : Int) ∧ Hid (∀ t, t < n → ¬ T t = a) ∧ Hid (Below w.heap.size w wr)) (fun x _ => 255 - (intOf x).toNat)
    case atStart => exact ⟨0, by omega, rfl, fun t ht => absurd ht (Nat.not_lt_zero _), D5⟩
    case round =>
      clear D5
      obtain ⟨n, hn, rfl, no, D⟩ := hrel
      by_cases hn1 : n < 255
      · have n1 : (n : Int) < 255 := by omega
        have wn : IntKind.u64.wrap ((n : Int) + 1) = (n : Int) + 1 := by rw [IntKind.wrap_u64]; omega
        have PN : Hid _ := PT.out n hn1
        have TZ : Hid _ := TN.out n
        obtain ⟨y, hy⟩ : ∃ y, T n = y := ⟨_, rfl⟩
        rw [hy] at PN TZ
        have HY : Hid (T n = y) := hy
        clear hy
        go_wp2_with fail
        refine Calls.mono (PN.out _ (TB.out _ D.out)) ?_
        rintro e w7 ⟨rfl, hb7⟩
        have D7 : Hid (Below w.heap.size w w7) := D.out.trans (hb7.mono D.out.size)
        clear hb7 D PN
        by_cases he : y = a
        · first
          | exact absurd he TZ.out
          | (have z0 : ¬ (a : Nat) = 0 := by rw [← he]; exact TZ.out
             subst he
             have z1 : ¬ ((y : Nat) : Int) = 0 := by omega
             have zb : (((y : Nat) : Int) != 0) = true := by simpa using z1
             go_wp2_with fail
             go_ret
             exact ⟨by simp [zb], D7.out⟩)
        · have he1 : ¬ (y : Int) = ((a : Nat) : Int) := by omega
          have NE : Hid (¬ y = a) := he
          clear he
          go_wp2_with fail
          go_roundw
          case rel =>
            refine ⟨n + 1, by omega, by first | rfl | go_num, fun t ht => ?_, D7⟩
            rcases Nat.lt_succ_iff_lt_or_eq.1 ht with h | rfl
            · exact no.out t h
            · rw [HY.out]; exact NE.out
          case measure =>
            simp [intOf]
            omega
      · obtain rfl : n = 255 := by omega
        have hz : a = 0 := by
          apply Classical.byContradiction
          intro h
          obtain ⟨t, ht, e⟩ := TH.out h
          exact no.out t ht e
        have hz1 : ((a : Nat) : Int) = 0 := by rw [hz]; rfl
        go_wp2_with fail
        go_ret
        exact ⟨rfl, D.out⟩
end Go.Proofs.Ytohgnkpaaocjmaa
