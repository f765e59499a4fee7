/- The contracts of sealringref.GfInv and GfPow. -/
import Derived.Test.YtohgnkpaaocjmaaRGf
namespace Go.Proofs.Ytohgnkpaaocjmaa
open Go.RowKit
set_option linter.unusedSimpArgs false
set_option maxRecDepth 20000 in
set_option maxHeartbeats 1000000 in
theorem rginv_fun (a : Nat) (ha : a < 256) (w : World) : Calls Try.prog 15 #[b8 a] w fun e w' => e = .returned (b8 (G.inv a)) ∧ w' = w := by
  have RG : Hid (∀ b, b < 256 → ∀ W, Calls Try.prog 11 #[b8 a, b8 b] W fun e w' => e = .returned (b8 (G.mul a b)) ∧ w' = W) := fun b hb W => rgf_fun a b ha hb W
  have ON : Hid (∀ b, b < 256 → G.mul a b = 1 → b = G.inv a) := fun b hb h => G.inv_only ha hb h
  have NO : Hid ((∀ b, b < 256 → ¬ G.mul a b = 1) → G.inv a = 0) := fun h => by
    by_cases h0 : a = 0
    · subst h0; exact G.inv_zero
    · exact absurd (G.mul_inv ha h0) (h _ (G.inv_lt a))
  obtain ⟨m, hm⟩ : ∃ m : Nat → Nat, ∀ b, m b = G.mul a b := ⟨_, fun _ => rfl⟩
  simp only [← hm] at RG ON NO
  generalize G.inv a = v at *
  clear hm ha
  go_enter Try.func15, Try.ntmps15
  go_wp2_with fail
  go_loopw [4] (fun i wr => ∃ j : Nat, j ≤ 256 ∧ i = .int .i64 (j : Int) ∧ Hid (∀ b, b < j → ¬ m b = 1) ∧ Hid (wr = w)) (fun i _ => 256 - (intOf i).toNat)
  case atStart => exact ⟨0, by omega, rfl, fun b hb => absurd hb (Nat.not_lt_zero _), rfl⟩
  case round =>
    obtain ⟨j, hj, rfl, no, hw⟩ := hrel
    by_cases hj1 : j < 256
    · have j1 : (j : Int) < 256 := by omega
      have wj : IntKind.i64.wrap ((j : Int) + 1) = (j : Int) + 1 := by rw [IntKind.wrap_i64]; omega
      have w8 : IntKind.u8.wrap (j : Int) = (j : Int) := by rw [IntKind.wrap_u8]; omega
      have CJ : Hid _ := RG.out j hj1 wr
      have VJ : Hid _ := ON.out j hj1
      obtain ⟨y, hy⟩ : ∃ y, m j = y := ⟨_, rfl⟩
      rw [hy] at CJ VJ
      have HY : Hid (m j = y) := hy
      clear hy
      go_wp2_with fail
      refine Calls.mono CJ.out ?_
      rintro e w1 ⟨rfl, hw1⟩
      have HW : Hid (w1 = w) := hw1.trans hw.out
      clear hw1 CJ
      by_cases h1 : y = 1
      · have e := VJ.out h1
        subst h1 e
        go_wp2_with fail
        go_ret
        exact ⟨by simp, HW.out⟩
      · have h2 : ¬ (y : Int) = 1 := by omega
        have NE : Hid (¬ y = 1) := h1
        clear h1
        go_wp2_with fail
        go_roundw
        case rel =>
          refine ⟨j + 1, by omega, by first | rfl | go_num, fun t ht => ?_, HW⟩
          rcases Nat.lt_succ_iff_lt_or_eq.1 ht with h | rfl
          · exact no.out t h
          · rw [HY.out]; exact NE.out
        case measure => simp [intOf]; omega
    · obtain rfl : j = 256 := by omega
      have hv := NO.out no.out
      subst hv
      go_wp2_with fail
      go_ret
      exact ⟨rfl, hw.out⟩
set_option maxRecDepth 20000 in
set_option maxHeartbeats 1000000 in
theorem rgpow_fun (a n : Nat) (ha : a < 256) (hn : n < 18446744073709551616) (w : World) : Calls Try.prog 13 #[b8 a, .int .u64 (n : Int)] w fun e w' => e = .returned (b8 (G.pow a n)) ∧ w' = w := by
  by_cases h0 : a = 0 ∧ 0 < n
  · obtain ⟨rfl, hp⟩ := h0
    have p1 : (0 : Int) < (n : Int) := by omega
    have PZ : Hid (G.pow 0 n = 0) := G.pow_zero_pos hp
    rw [PZ.out]
    go_enter Try.func13, Try.ntmps13
    go_wp2_with fail
    go_ret
    exact ⟨rfl, rfl⟩
  · have PM : Hid (G.pow a n = G.pow a (n % 255)) := by
      by_cases ha0 : a = 0
      · have : n = 0 := by
          apply Classical.byContradiction
          intro h
          exact h0 ⟨ha0, by omega⟩
        rw [this]
        exact rfl
      · exact G.pow_mod ha ha0 n
    rw [PM.out]
    obtain ⟨q, hq⟩ : ∃ q, q = n % 255 := ⟨_, rfl⟩
    rw [← hq]
    have e1 : (n : Int) % 255 = (q : Int) := by omega
    have e2 : (n : Int).tmod 255 = (q : Int) := by rw [Int.tmod_eq_emod_of_nonneg (by omega)]; exact e1
    have q255 : q < 255 := by omega
    have RG : Hid (∀ k W, Calls Try.prog 11 #[b8 (G.pow a k), b8 a] W fun e w' => e = .returned (b8 (G.pow a (k + 1))) ∧ w' = W) := fun k W => rgf_fun (G.pow a k) a (G.pow_lt256 k) ha W
    obtain ⟨T, hT⟩ : ∃ T : Nat → Nat, ∀ k, T k = G.pow a k := ⟨_, fun _ => rfl⟩
    simp only [← hT] at RG ⊢
    have T0 : Hid (T 0 = 1) := by rw [hT]; exact rfl
    have CC : (a = 0 ∧ n = 0) ∨ ¬ a = 0 := by omega
    have LP : Hid (∀ wx : World, wx = wx) := fun _ => rfl
    clear hT PM hq LP
    rcases CC with ⟨rfl, rfl⟩ | ha0
    · obtain rfl : q = 0 := by omega
      rw [T0.out]
      go_enter Try.func13, Try.ntmps13
      go_wp2_with fail
      go_loopw [14, 5] (fun i x wr => i = .int .u64 0 ∧ x = .int .u8 1 ∧ Hid (wr = w)) (fun _ _ _ => 0)
      case atStart => exact ⟨rfl, rfl, rfl⟩
      case round =>
        obtain ⟨rfl, rfl, hw⟩ := hrel
        go_wp2_with fail
        go_ret
        exact ⟨rfl, hw.out⟩
    · have a0 : ¬ (a : Int) = 0 := by omega
      go_enter Try.func13, Try.ntmps13
      go_wp2_with fail
      go_loopw [14, 5] (fun i x wr => ∃ k : Nat, k ≤ q ∧ i = .int .u64 (k : Int) ∧ x = b8 (T k) ∧ Hid (wr = w)) (fun i _ _ => q - (intOf i).toNat)
      case atStart => exact ⟨0, by omega, rfl, by rw [T0.out]; rfl, rfl⟩
      case round =>
        obtain ⟨k, hk, rfl, rfl, hw⟩ := hrel
        by_cases hk1 : k < q
        · have k1 : (k : Int) < (q : Int) := by omega
          have wk : IntKind.u64.wrap ((k : Int) + 1) = (k : Int) + 1 := by rw [IntKind.wrap_u64]; omega
          have CK : Hid _ := RG.out k wr
          go_wp2_with fail
          refine Calls.mono CK.out ?_
          rintro e w1 ⟨rfl, hw1⟩
          have HW : Hid (w1 = w) := hw1.trans hw.out
          clear hw1 CK
          go_wp2_with fail
          go_roundw
          case rel => exact ⟨k + 1, by omega, by first | rfl | go_num, rfl, HW⟩
          case measure => simp [intOf]; omega
        · obtain rfl : k = q := by omega
          go_wp2_with fail
          go_ret
          exact ⟨rfl, hw.out⟩
end Go.Proofs.Ytohgnkpaaocjmaa
