/- Texts that were joined: RGf, RGfI. -/
import Derived.Test.YtejabkmhpiabnaaGrp0
/- The contract of sealringref.Gf: the product of polynomials, worked out in two steps. -/
namespace Go.Proofs.Ytejabkmhpiabnaa
open Go.RowKit
set_option linter.unusedSimpArgs false
namespace G
/-- The product without a rest taken: the first k bits of b. -/
def clF : Nat → Nat → Nat → Nat
  | 0, _, _ => 0
  | k + 1, a, b => if b / 2 ^ k % 2 = 1 then clF k a b ^^^ a * 2 ^ k else clF k a b
def redS (i x : Nat) : Nat := if x / 2 ^ i % 2 = 1 then x ^^^ 283 * 2 ^ (i - 8) else x
/-- k steps, from 14 on. -/
def redF : Nat → Nat → Nat
  | 0, x => x
  | k + 1, x => redS (14 - k) (redF k x)
theorem bit_iff (x i : Nat) : x / 2 ^ i % 2 = 1 ↔ x.testBit i = true := by
  rw [Nat.testBit_eq_decide_div_mod_eq, decide_eq_true_iff]
/-- What is put to it where a bit is set goes with xor. -/
theorem lin_if (x y i p : Nat) : (if (x ^^^ y) / 2 ^ i % 2 = 1 then p else 0) = (if x / 2 ^ i % 2 = 1 then p else 0) ^^^ (if y / 2 ^ i % 2 = 1 then p else 0) := by
  simp only [bit_iff, Nat.testBit_xor]
  cases x.testBit i <;> cases y.testBit i <;> simp
theorem redS_eq (i x : Nat) : redS i x = x ^^^ (if x / 2 ^ i % 2 = 1 then 283 * 2 ^ (i - 8) else 0) := by
  unfold redS
  split <;> simp
theorem redS_xor (i x y : Nat) : redS i (x ^^^ y) = redS i x ^^^ redS i y := by
  rw [redS_eq, redS_eq, redS_eq, lin_if, xor4]
theorem redF_xor : ∀ k x y, redF k (x ^^^ y) = redF k x ^^^ redF k y
  | 0, _, _ => rfl
  | k + 1, x, y => by rw [redF, redF, redF, redF_xor k, redS_xor]
theorem clF_eq (k a b : Nat) : clF (k + 1) a b = clF k a b ^^^ (if b / 2 ^ k % 2 = 1 then a * 2 ^ k else 0) := by
  rw [clF]
  split <;> simp
theorem clF_xor (a : Nat) : ∀ k b c, clF k a (b ^^^ c) = clF k a b ^^^ clF k a c
  | 0, _, _ => by simp [clF]
  | k + 1, b, c => by rw [clF_eq, clF_eq, clF_eq, clF_xor a k, lin_if, xor4]
theorem gf_bits : ∀ a < 256, ∀ i < 8, redF 7 (clF 8 a (2 ^ i)) % 256 = mul a (2 ^ i) := by decide +kernel
theorem gf_eq {a b : Nat} (ha : a < 256) (hb : b < 256) : redF 7 (clF 8 a b) % 256 = mul a b := by
  refine lin_ext (F := fun b => redF 7 (clF 8 a b) % 256) (H := fun b => mul a b) (fun x y _ _ => ?_) (fun x y _ _ => mul_right a x y) (fun i hi => gf_bits a ha i hi) b hb
  show redF 7 (clF 8 a (x ^^^ y)) % 256 = _
  rw [clF_xor, redF_xor]
  exact Nat.xor_mod_two_pow (n := 8)
theorem clF_lt {a b : Nat} (ha : a < 256) : ∀ k, k ≤ 8 → clF k a b < 2 ^ 16
  | 0, _ => by rw [clF]; decide
  | k + 1, hk => by
    have ih := clF_lt (b := b) ha k (by omega)
    have h2 : a * 2 ^ k < 2 ^ 16 := by
      have : 2 ^ k ≤ 2 ^ 8 := Nat.pow_le_pow_right (by decide) (by omega)
      calc a * 2 ^ k ≤ a * 2 ^ 8 := Nat.mul_le_mul_left _ this
        _ < 256 * 2 ^ 8 := Nat.mul_lt_mul_of_pos_right ha (by decide)
        _ = 2 ^ 16 := by decide
    rw [clF]
    split
    · exact Nat.xor_lt_two_pow ih h2
    · exact ih
theorem redF_lt {x : Nat} (hx : x < 2 ^ 16) : ∀ k, k ≤ 7 → redF k x < 2 ^ 16
  | 0, _ => hx
  | k + 1, hk => by
    have ih := redF_lt hx k (by omega)
    have h2 : 283 * 2 ^ (14 - k - 8) < 2 ^ 16 := by
      have : 2 ^ (14 - k - 8) ≤ 2 ^ 6 := Nat.pow_le_pow_right (by decide) (by omega)
      omega
    rw [redF, redS]
    split
    · exact Nat.xor_lt_two_pow ih h2
    · exact ih
end G
theorem g_and1 (n : Nat) : bits .and .u8 (n : Int) 1 = ((n % 2 : Nat) : Int) := by
  show IntKind.u8.wrap (((BitVec.ofInt 8 (n : Int) &&& BitVec.ofInt 8 1).toNat : Nat) : Int) = _
  rw [BitVec.toNat_and, BitVec.toNat_ofInt, BitVec.toNat_ofInt]
  have e : ((1 : Int) % ((2 ^ 8 : Nat) : Int)).toNat = 1 := by decide
  rw [e, Nat.and_one_is_mod, IntKind.wrap_u8]
  omega
theorem g64_and1 (n : Nat) : bits .and .i64 (n : Int) 1 = ((n % 2 : Nat) : Int) := by
  show IntKind.i64.wrap (((BitVec.ofInt 64 (n : Int) &&& BitVec.ofInt 64 1).toNat : Nat) : Int) = _
  rw [BitVec.toNat_and, BitVec.toNat_ofInt, BitVec.toNat_ofInt]
  have e : ((1 : Int) % ((2 ^ 64 : Nat) : Int)).toNat = 1 := by decide
  rw [e, Nat.and_one_is_mod, IntKind.wrap_i64]
  omega
theorem g64_xor {x y : Nat} (hx : x < 2 ^ 16) (hy : y < 2 ^ 16) : bits .xor .i64 (x : Int) (y : Int) = ((x ^^^ y : Nat) : Int) := by
  have o64 : ∀ x : Nat, x < 2 ^ 16 → (BitVec.ofInt 64 (x : Int)).toNat = x := fun x h => by rw [BitVec.toNat_ofInt]; omega
  have h1 := Nat.xor_lt_two_pow hx hy
  show IntKind.i64.wrap (((BitVec.ofInt 64 (x : Int) ^^^ BitVec.ofInt 64 (y : Int)).toNat : Nat) : Int) = _
  rw [BitVec.toNat_xor, o64 _ hx, o64 _ hy, IntKind.wrap_i64]
  omega
set_option maxRecDepth 20000 in
set_option maxHeartbeats 1000000 in
theorem rgf_fun (a b : Nat) (ha : a < 256) (hb : b < 256) (w : World) : Calls Try.prog 19 #[b8 a, b8 b] w fun e w' => e = .returned (b8 (G.mul a b)) ∧ w' = w := by
  have FE : Hid (G.redF 7 (G.clF 8 a b) % 256 = G.mul a b) := G.gf_eq ha hb
  have HA : Hid (a < 256) := ha
  clear ha
  go_enter Try.func19, Try.ntmps19
  go_wp2_with fail
  go_loopw [5, 8] (fun x i wr => ∃ j : Nat, j ≤ 8 ∧ x = .int .i64 ((G.clF j a b : Nat) : Int) ∧ i = .int .i64 (j : Int) ∧ Hid (wr = w)) (fun _ i _ => 8 - (intOf i).toNat)
  case atStart => exact ⟨0, by omega, rfl, rfl, rfl⟩
  case round =>
    obtain ⟨j, hj, rfl, rfl, hw⟩ := hrel
    by_cases hj8 : j < 8
    · have j1 : (j : Int) < 8 := by omega
      have wj : IntKind.i64.wrap ((j : Int) + 1) = (j : Int) + 1 := by rw [IntKind.wrap_i64]; omega
      obtain ⟨q, hq⟩ : ∃ q, q = b / 2 ^ j := ⟨_, rfl⟩
      have e1 : (b : Int) / 2 ^ j = (q : Int) := by rw [hq]; simp
      have q8 : q < 256 := by rw [hq]; exact Nat.lt_of_le_of_lt (Nat.div_le_self _ _) hb
      have L1 := G.clF_lt (b := b) HA.out j (by omega)
      have L2 : a * 2 ^ j < 2 ^ 16 := by
        have h1 : 2 ^ j ≤ 2 ^ 8 := Nat.pow_le_pow_right (by decide) (by omega)
        have h2 := Nat.mul_le_mul_left a h1
        have := HA.out
        omega
      have A1 := g_and1 q
      have CE : Hid _ := G.clF_eq j a b
      rw [← hq] at CE
      by_cases hbit : q % 2 = 1
      · rw [hbit] at A1
        rw [if_pos hbit] at CE
        have XE := g64_xor L1 L2
        rw [← CE.out] at XE
        have wa : wrap64 (a : Int) = (a : Int) := by have := HA.out; unfold wrap64; omega
        have ws : wrap64 ((a : Int) * 2 ^ j) = ((a * 2 ^ j : Nat) : Int) := by
          rw [show (a : Int) * 2 ^ j = ((a * 2 ^ j : Nat) : Int) by simp]
          unfold wrap64
          omega
        obtain ⟨Y, hY⟩ : ∃ Y, Y = a * 2 ^ j := ⟨_, rfl⟩
        rw [← hY] at XE ws
        obtain ⟨Z, hZ⟩ : ∃ Z, Z = G.clF (j + 1) a b := ⟨_, rfl⟩
        rw [← hZ] at XE
        have HZ : Hid (Z = G.clF (j + 1) a b) := hZ
        generalize G.clF j a b = X at *
        clear hbit hq L1 L2 hY hZ CE
        go_wp2_with fail
        go_roundw
        case rel => exact ⟨j + 1, by omega, by rw [HZ.out], by first | rfl | go_num, hw⟩
        case measure => simp [intOf]; omega
      · have hb0 : q % 2 = 0 := by omega
        rw [hb0] at A1
        rw [if_neg hbit, Nat.xor_zero] at CE
        clear hbit hb0 hq L1 L2
        go_wp2_with fail
        go_roundw
        case rel => exact ⟨j + 1, by omega, by rw [CE.out], by first | rfl | go_num, hw⟩
        case measure => simp [intOf]; omega
    · obtain rfl : j = 8 := by omega
      have LX : Hid _ := G.clF_lt (b := b) HA.out 8 (by omega)
      generalize G.clF 8 a b = X at *
      clear hj8 hj
      go_wp2_with fail
      go_loopw [5, 7] (fun x i wr => ∃ k n : Nat, k ≤ 7 ∧ n + k = 14 ∧ x = .int .i64 ((G.redF k X : Nat) : Int) ∧ i = .int .i64 (n : Int) ∧ Hid (wr = w)) (fun _ i _ => (intOf i).toNat)
      case atStart => exact ⟨0, 14, by omega, rfl, rfl, rfl, hw⟩
      case round =>
        clear hw
        obtain ⟨k, n, hk, hnk, rfl, rfl, hw⟩ := hrel
        by_cases hk7 : k < 7
        · have n8 : (8 : Int) ≤ (n : Int) := by omega
          have wn : IntKind.i64.wrap ((n : Int) - 1) = ((n - 1 : Nat) : Int) := by rw [IntKind.wrap_i64]; omega
          obtain ⟨m, hm⟩ : ∃ m, m = n - 1 := ⟨_, rfl⟩
          rw [← hm] at wn
          obtain ⟨d, hd⟩ : ∃ d, d = n - 8 := ⟨_, rfl⟩
          have wd : IntKind.i64.wrap ((n : Int) - 8) = (d : Int) := by rw [IntKind.wrap_i64]; omega
          have n14 : n ≤ 14 := by omega
          have d6 : d ≤ 6 := by omega
          have LK := G.redF_lt LX.out k (by omega)
          have RE : Hid (G.redF (k + 1) X = G.redS n (G.redF k X)) := by
            show G.redS (14 - k) (G.redF k X) = _
            rw [show 14 - k = n by omega]
          obtain ⟨Y, hY⟩ : ∃ Y, Y = G.redF k X := ⟨_, rfl⟩
          rw [← hY] at LK RE ⊢
          obtain ⟨q, hq⟩ : ∃ q, q = Y / 2 ^ n := ⟨_, rfl⟩
          have e1 : (Y : Int) / 2 ^ n = (q : Int) := by rw [hq]; simp
          have A1 := g64_and1 q
          have ws : wrap64 (283 * 2 ^ d) = ((283 * 2 ^ d : Nat) : Int) := by
            have : 2 ^ d ≤ 2 ^ 6 := Nat.pow_le_pow_right (by decide) (by omega)
            rw [show (283 : Int) * 2 ^ d = ((283 * 2 ^ d : Nat) : Int) by simp]
            unfold wrap64
            omega
          have LD : 283 * 2 ^ d < 2 ^ 16 := by
            have : 2 ^ d ≤ 2 ^ 6 := Nat.pow_le_pow_right (by decide) (by omega)
            omega
          by_cases hbit : q % 2 = 1
          · rw [hbit] at A1
            have XE := g64_xor LK LD
            have RE2 : Hid (G.redF (k + 1) X = Y ^^^ 283 * 2 ^ d) := by
              rw [RE.out]
              unfold G.redS
              rw [← hq, if_pos hbit, ← hd]
              exact rfl
            obtain ⟨V, hV⟩ : ∃ V, V = Y ^^^ 283 * 2 ^ d := ⟨_, rfl⟩
            rw [← hV] at XE RE2
            generalize 283 * 2 ^ d = U at *
            have KM : Hid (k < 7 ∧ m + (k + 1) = 14 ∧ n = m + 1) := by show _ ∧ _; omega
            clear hbit hq hY hV hd hm LD LK RE hnk hk
            go_wp2_with fail
            go_roundw
            case rel => exact ⟨k + 1, m, KM.out.1, KM.out.2.1, by rw [RE2.out], rfl, hw⟩
            case measure => have := KM.out; simp [intOf]; omega
          · have hb0 : q % 2 = 0 := by omega
            rw [hb0] at A1
            have RE2 : Hid (G.redF (k + 1) X = Y) := by
              rw [RE.out]
              unfold G.redS
              rw [← hq, if_neg hbit]
              exact rfl
            have KM : Hid (k < 7 ∧ m + (k + 1) = 14 ∧ n = m + 1) := by show _ ∧ _; omega
            clear hbit hq hY hd hm LD LK RE hnk hk hb0 ws
            go_wp2_with fail
            go_roundw
            case rel => exact ⟨k + 1, m, KM.out.1, KM.out.2.1, by rw [RE2.out], rfl, hw⟩
            case measure => have := KM.out; simp [intOf]; omega
        · obtain rfl : k = 7 := by omega
          obtain rfl : n = 7 := by omega
          have wv : IntKind.u8.wrap ((G.redF 7 X : Nat) : Int) = ((G.mul a b : Nat) : Int) := by
            rw [← FE.out, IntKind.wrap_u8]
            omega
          go_wp2_with fail
          go_ret
          exact ⟨by simp [wv], hw.out⟩
end Go.Proofs.Ytejabkmhpiabnaa

/- The contracts of sealringref.GfInv and GfPow. -/
namespace Go.Proofs.Ytejabkmhpiabnaa
open Go.RowKit
set_option linter.unusedSimpArgs false
end Go.Proofs.Ytejabkmhpiabnaa
