/- Texts that were joined: GMul, GSub. -/
import Derived.Test.YtejabkmhpiabnaaGrp9
/- The contracts of gf.double, gf.Mul, gf.Pow and gf.Inv. -/
namespace Go.Proofs.Ytejabkmhpiabnaa
open Go.RowKit
set_option linter.unusedSimpArgs false
namespace G
theorem xt_bits : ∀ a < 256, 2 * a % 256 ^^^ a / 128 * 27 = xt a := by decide +kernel
/-- The product from the greatest bit on: behind j steps. -/
def hn (a b : Nat) : Nat → Nat
  | 0 => 0
  | j + 1 => xt (hn a b j) ^^^ (if b / 2 ^ (7 - j) % 2 = 1 then a else 0)
theorem hn_lt {a : Nat} (ha : a < 256) (b : Nat) : ∀ j, hn a b j < 256
  | 0 => by rw [hn]; decide
  | j + 1 => by
    rw [hn]
    refine xor_lt (xt_lt (hn_lt ha b j)) ?_
    split
    · exact ha
    · decide
theorem hn_xor {a : Nat} (ha : a < 256) (b c : Nat) : ∀ j, hn a (b ^^^ c) j = hn a b j ^^^ hn a c j
  | 0 => by simp [hn]
  | j + 1 => by rw [hn, hn, hn, hn_xor ha b c j, xt_xor (hn_lt ha b j) (hn_lt ha c j), lin_if, xor4]
theorem hn_bits : ∀ a < 256, ∀ i < 8, hn a (2 ^ i) 8 = mul a (2 ^ i) := by decide +kernel
theorem hn_eq {a b : Nat} (ha : a < 256) (hb : b < 256) : hn a b 8 = mul a b :=
  lin_ext (F := fun b => hn a b 8) (H := fun b => mul a b) (fun x y _ _ => hn_xor ha x y 8) (fun x y _ _ => mul_right a x y) (fun i hi => hn_bits a ha i hi) b hb
theorem top_table : ∀ b < 256, ∀ j < 8, b * 2 ^ j % 256 / 128 = b / 2 ^ (7 - j) % 2 := by decide +kernel
theorem next_table : ∀ b < 256, ∀ j < 8, b * 2 ^ j % 256 * 2 % 256 = b * 2 ^ (j + 1) % 256 := by decide +kernel
end G
set_option maxRecDepth 20000 in
set_option maxHeartbeats 1000000 in
theorem gdouble_fun (a : Nat) (ha : a < 256) (w : World) : Calls Try.prog 55 #[b8 a] w fun e w' => e = .returned (b8 (G.xt a)) ∧ w' = w := by
  have XB := G.xt_bits a ha
  have d1 : (a : Int) / 128 = ((a / 128 : Nat) : Int) := by simp
  obtain ⟨q, hq⟩ : ∃ q, q = a / 128 := ⟨_, rfl⟩
  obtain ⟨s, hs⟩ : ∃ s, s = 2 * a % 256 := ⟨_, rfl⟩
  rw [← hq] at XB d1
  have s1 : IntKind.u8.wrap ((a : Int) * 2) = (s : Int) := by rw [IntKind.wrap_u8]; omega
  have m1 : IntKind.u8.wrap ((q : Int) * 27) = ((q * 27 : Nat) : Int) := by rw [IntKind.wrap_u8]; omega
  have X1 := g_xor (x := s) (y := q * 27) (by omega) (by omega)
  rw [← hs] at XB
  rw [XB] at X1
  obtain ⟨r, hr⟩ : ∃ r, r = q * 27 := ⟨_, rfl⟩
  rw [← hr] at m1 X1
  obtain ⟨v, hv⟩ : ∃ v, v = G.xt a := ⟨_, rfl⟩
  rw [← hv] at X1 ⊢
  clear hv hr XB hq hs
  go_enter Try.func55, Try.ntmps55
  go_wp2_with fail
  go_ret
  exact ⟨rfl, rfl⟩
set_option maxRecDepth 20000 in
set_option maxHeartbeats 1000000 in
theorem gmul_fun (a b : Nat) (ha : a < 256) (hb : b < 256) (w : World) : Calls Try.prog 50 #[b8 a, b8 b] w fun e w' => e = .returned (b8 (G.mul a b)) ∧ w' = w := by
  obtain ⟨T, hT⟩ : ∃ T : Nat → Nat, ∀ j, T j = G.hn a b j := ⟨_, fun _ => rfl⟩
  obtain ⟨S, hS⟩ : ∃ S : Nat → Nat, ∀ j, S j = b * 2 ^ j % 256 := ⟨_, fun _ => rfl⟩
  have T0 : Hid (T 0 = 0) := by rw [hT]; exact rfl
  have S0 : Hid (S 0 = b) := by rw [hS]; show b * 1 % 256 = b; omega
  have T8 : Hid (T 8 = G.mul a b) := by rw [hT]; exact G.hn_eq ha hb
  have ST : Hid (∀ j, j < 8 → ∃ q, q ≤ 1 ∧ S j / 128 = q ∧ T j < 256 ∧ S j < 256 ∧ S j * 2 % 256 = S (j + 1) ∧ G.xt (T j) < 256 ∧ G.xt (T j) ^^^ a * q = T (j + 1)) := fun j hj => by
    refine ⟨S j / 128, ?_, rfl, ?_, ?_, ?_, ?_, ?_⟩
    · rw [hS, G.top_table b hb j hj]; omega
    · rw [hT]; exact G.hn_lt ha b j
    · rw [hS]; exact Nat.mod_lt _ (by decide)
    · rw [hS, hS]; exact G.next_table b hb j hj
    · rw [hT]; exact G.xt_lt (G.hn_lt ha b j)
    · rw [hS, G.top_table b hb j hj, hT, hT, G.hn]
      congr 1
      rcases Nat.mod_two_eq_zero_or_one (b / 2 ^ (7 - j)) with h | h <;> rw [h] <;> simp
  have HA : Hid (a < 256) := ha
  rw [← T8.out]
  clear hT hS T8 hb ha
  rw [← S0.out]
  go_enter Try.func50, Try.ntmps50
  go_wp2_with fail
  go_loopw [1, 5, 6] (fun s p i wr => ∃ j : Nat, j ≤ 8 ∧ s = b8 (S j) ∧ p = b8 (T j) ∧ i = .int .i64 (j : Int) ∧ Hid (wr = w)) (fun _ _ i _ => 8 - (intOf i).toNat)
  case atStart => exact ⟨0, by omega, rfl, by rw [T0.out]; rfl, rfl, rfl⟩
  case round =>
    obtain ⟨j, hj, rfl, rfl, rfl, hw⟩ := hrel
    by_cases hj8 : j < 8
    · have j1 : (j : Int) < 8 := by omega
      have wj : IntKind.i64.wrap ((j : Int) + 1) = (j : Int) + 1 := by rw [IntKind.wrap_i64]; omega
      obtain ⟨q, q1, sq, tl, sl, sn, xl, tn⟩ := ST.out j hj8
      have d1 : ((S j : Nat) : Int) / 128 = (q : Int) := by omega
      have HAo := HA.out
      have ql : a * q < 256 := by rcases (show q = 0 ∨ q = 1 by omega) with rfl | rfl <;> omega
      have m1 : IntKind.u8.wrap ((a : Int) * (q : Int)) = ((a * q : Nat) : Int) := by rw [IntKind.wrap_u8, ← Int.natCast_mul]; omega
      have s1 : IntKind.u8.wrap (((S j : Nat) : Int) * 2) = ((S (j + 1) : Nat) : Int) := by rw [IntKind.wrap_u8]; omega
      have X1 := g_xor xl ql
      rw [tn] at X1
      have CD : Hid _ := gdouble_fun (T j) tl wr
      have JJ : Hid (j < 8) := hj8
      generalize a * q = m at *
      generalize G.xt (T j) = xv at *
      generalize T j = tj at *
      generalize S j = sj at *
      clear q1 sq tl sl sn xl tn HAo ql hj hj8
      go_wp2_with fail
      refine Calls.mono CD.out ?_
      rintro e w1 ⟨rfl, hw1⟩
      have HW : Hid (w1 = w) := hw1.trans hw.out
      clear hw1 CD
      go_wp2_with fail
      go_roundw
      case rel => exact ⟨j + 1, JJ.out, rfl, rfl, by first | rfl | go_num, HW⟩
      case measure => have := JJ.out; simp [intOf]; omega
    · obtain rfl : j = 8 := by omega
      go_wp2_with fail
      go_ret
      exact ⟨rfl, hw.out⟩
namespace G
theorem pow_two {a : Nat} (ha : a < 256) (m : Nat) : pow a (2 * m) = pow (mul a a) m := by
  have e : pow a 2 = mul a a := by rw [show 2 = 1 + 1 from rfl, pow_add ha, show pow a 1 = a from one_mul ha]
  rw [pow_mul ha, e]
/-- A step of the power: what is still to be taken. -/
theorem pow_even {p a n : Nat} (_ : p < 256) (ha : a < 256) (h : n % 2 = 0) : mul p (pow a n) = mul p (pow (mul a a) (n / 2)) := by
  rw [← pow_two ha, show 2 * (n / 2) = n by omega]
theorem pow_odd {p a n : Nat} (hp : p < 256) (ha : a < 256) (h : n % 2 = 1) : mul p (pow a n) = mul (mul p a) (pow (mul a a) (n / 2)) := by
  rw [← pow_two ha, mul_assoc hp ha (pow_lt256 _), mul_comm ha (pow_lt256 _)]
  have e : n = 2 * (n / 2) + 1 := by omega
  conv => lhs; rw [e]
  rfl
end G
theorem u64_and1 (n : Nat) : bits .and .u64 (n : Int) 1 = ((n % 2 : Nat) : Int) := by
  show IntKind.u64.wrap (((BitVec.ofInt 64 (n : Int) &&& BitVec.ofInt 64 1).toNat : Nat) : Int) = _
  rw [BitVec.toNat_and, BitVec.toNat_ofInt, BitVec.toNat_ofInt]
  have e : ((1 : Int) % ((2 ^ 64 : Nat) : Int)).toNat = 1 := by decide
  rw [e, Nat.and_one_is_mod, IntKind.wrap_u64]
  omega
set_option maxRecDepth 20000 in
set_option maxHeartbeats 1000000 in
theorem gpow_fun (a n : Nat) (ha : a < 256) (hn : n < 18446744073709551616) (w : World) : Calls Try.prog 36 #[b8 a, .int .u64 (n : Int)] w fun e w' => e = .returned (b8 (G.pow a n)) ∧ w' = w := by
  obtain ⟨V, hV⟩ : ∃ V, V = G.pow a n := ⟨_, rfl⟩
  rw [← hV]
  have V1 : Hid (1 < 256 ∧ a < 256 ∧ n < 18446744073709551616 ∧ G.mul 1 (G.pow a n) = V) := ⟨by decide, ha, hn, by rw [hV, G.one_mul (G.pow_lt256 n)]⟩
  clear hV ha hn
  go_enter Try.func36, Try.ntmps36
  go_wp2_with fail
  go_loopw [0, 1, 5] (fun x i p wr => ∃ a n q : Nat, Hid (q < 256 ∧ a < 256 ∧ n < 18446744073709551616 ∧ G.mul q (G.pow a n) = V) ∧ x = b8 a ∧ i = .int .u64 (n : Int) ∧ p = b8 q ∧ Hid (wr = w)) (fun _ i _ _ => (intOf i).toNat)
  case atStart => exact ⟨a, n, 1, V1, rfl, rfl, rfl, rfl⟩
  case round =>
    clear V1
    obtain ⟨a, n, q, V1, rfl, rfl, rfl, hw⟩ := hrel
    by_cases h0 : n = 0
    · subst h0
      have e : q = V := by
        have := V1.out.2.2.2
        rw [G.pow, G.mul_one V1.out.1] at this
        exact this
      subst e
      go_wp2_with fail
      go_ret
      exact ⟨rfl, hw.out⟩
    · have p1 : (0 : Int) < (n : Int) := by omega
      have A1 := u64_and1 n
      have d1 : (n : Int) / 2 = ((n / 2 : Nat) : Int) := by simp
      have LT : Hid (n / 2 < n ∧ n / 2 < 18446744073709551616) := by
        have := V1.out.2.2.1
        show _ ∧ _
        omega
      obtain ⟨m, hm⟩ : ∃ m, m = n / 2 := ⟨_, rfl⟩
      have CA : Hid _ := gmul_fun a a V1.out.2.1 V1.out.2.1
      have CQ : Hid _ := gmul_fun q a V1.out.1 V1.out.2.1
      by_cases h1 : n % 2 = 1
      · have V2 : Hid (G.mul q a < 256 ∧ G.mul a a < 256 ∧ n / 2 < 18446744073709551616 ∧ G.mul (G.mul q a) (G.pow (G.mul a a) (n / 2)) = V) := ⟨G.mul_lt _ V1.out.1, G.mul_lt _ V1.out.2.1, LT.out.2, by rw [← G.pow_odd V1.out.1 V1.out.2.1 h1]; exact V1.out.2.2.2⟩
        rw [h1] at A1
        rw [← hm] at d1 LT V2
        generalize G.mul q a = qa at *
        generalize G.mul a a = aa at *
        clear hm h1 h0 V1
        go_wp2_with fail
        refine Calls.mono (CQ.out _) ?_
        rintro e w1 ⟨rfl, hw1⟩
        go_wp2_with fail
        refine Calls.mono (CA.out _) ?_
        rintro e w2 ⟨rfl, hw2⟩
        have HW : Hid (w2 = w) := hw2.trans hw.out
        clear hw1 hw2 CA CQ
        go_wp2_with fail
        go_roundw
        case rel => exact ⟨aa, m, qa, V2, rfl, rfl, rfl, HW⟩
        case measure => have := LT.out; simp [intOf]; omega
      · have hz : n % 2 = 0 := by omega
        have V2 : Hid (q < 256 ∧ G.mul a a < 256 ∧ n / 2 < 18446744073709551616 ∧ G.mul q (G.pow (G.mul a a) (n / 2)) = V) := ⟨V1.out.1, G.mul_lt _ V1.out.2.1, LT.out.2, by rw [← G.pow_even V1.out.1 V1.out.2.1 hz]; exact V1.out.2.2.2⟩
        rw [hz] at A1
        rw [← hm] at d1 LT V2
        generalize G.mul a a = aa at *
        clear hm h1 h0 hz V1 CQ
        go_wp2_with fail
        refine Calls.mono (CA.out _) ?_
        rintro e w2 ⟨rfl, hw2⟩
        have HW : Hid (w2 = w) := hw2.trans hw.out
        clear hw2 CA
        go_wp2_with fail
        go_roundw
        case rel => exact ⟨aa, m, q, V2, rfl, rfl, rfl, HW⟩
        case measure => have := LT.out; simp [intOf]; omega
theorem ginv_fun (a : Nat) (ha : a < 256) (w : World) : Calls Try.prog 51 #[b8 a] w fun e w' => e = .returned (b8 (G.inv a)) ∧ w' = w := by
  have CP : Hid _ := gpow_fun a 254 ha (by decide) w
  show Calls _ _ _ _ fun e w' => e = .returned (b8 (G.pow a 254)) ∧ w' = w
  generalize G.pow a 254 = v at *
  go_enter Try.func51, Try.ntmps51
  go_wp2_with fail
  refine Calls.mono CP.out ?_
  rintro e w1 ⟨rfl, hw1⟩
  go_wp2_with fail
  go_ret
  exact ⟨rfl, rfl⟩
end Go.Proofs.Ytejabkmhpiabnaa

/- The contracts of gf.turned, gf.Sub and gf.Unsub. -/
namespace Go.Proofs.Ytejabkmhpiabnaa
open Go.RowKit
set_option linter.unusedSimpArgs false
theorem g_or {x y : Nat} (hx : x < 256) (hy : y < 256) : bits .or .u8 (x : Int) (y : Int) = ((x ||| y : Nat) : Int) := by
  have o8 : ∀ x : Nat, x < 256 → (BitVec.ofInt 8 (x : Int)).toNat = x := fun x h => by rw [BitVec.toNat_ofInt]; omega
  have h1 : x ||| y < 256 := Nat.or_lt_two_pow (n := 8) hx hy
  show IntKind.u8.wrap (((BitVec.ofInt 8 (x : Int) ||| BitVec.ofInt 8 (y : Int)).toNat : Nat) : Int) = _
  rw [BitVec.toNat_or, o8 _ hx, o8 _ hy, IntKind.wrap_u8]
  omega
theorem rot_table : ∀ b < 256, ∀ k < 8, (b * 2 ^ k % 256) ||| (b / 2 ^ (8 - k)) = G.rot b k := by decide +kernel
theorem and7_table : ∀ k < 8, bits .and .u64 ((k : Nat) : Int) 7 = (k : Int) := by decide +kernel
set_option maxRecDepth 20000 in
set_option maxHeartbeats 1000000 in
theorem rotl_fun (b k : Nat) (hb : b < 256) (hk : k < 8) (w : World) : Calls Try.prog 56 #[b8 b, .int .i64 (k : Int)] w fun e w' => e = .returned (b8 (G.rot b k)) ∧ w' = w := by
  have RT := rot_table b hb k hk
  have A7 := and7_table k hk
  have wk : IntKind.u64.wrap (k : Int) = (k : Int) := by rw [IntKind.wrap_u64]; omega
  have ws : IntKind.u64.wrap (8 - (k : Int)) = ((8 - k : Nat) : Int) := by rw [IntKind.wrap_u64]; omega
  have l1 : b * 2 ^ k % 256 < 256 := Nat.mod_lt _ (by decide)
  have l2 : b / 2 ^ (8 - k) < 256 := Nat.lt_of_le_of_lt (Nat.div_le_self _ _) hb
  have O1 := g_or l1 l2
  rw [RT] at O1
  have s1 : IntKind.u8.wrap ((b : Int) * 2 ^ k) = ((b * 2 ^ k % 256 : Nat) : Int) := by
    rw [show (b : Int) * 2 ^ k = ((b * 2 ^ k : Nat) : Int) by simp, IntKind.wrap_u8]
    omega
  obtain ⟨m, hm⟩ : ∃ m, m = 8 - k := ⟨_, rfl⟩
  rw [← hm] at ws l2 O1
  have d1 : (b : Int) / 2 ^ m = ((b / 2 ^ m : Nat) : Int) := by simp
  generalize b * 2 ^ k % 256 = x at *
  generalize b / 2 ^ m = y at *
  generalize G.rot b k = v at *
  have k8 : (k : Int) < 8 := by omega
  have m8 : (m : Int) ≤ 8 := by omega
  clear RT hm l1 l2 hb
  go_enter Try.func56, Try.ntmps56
  go_wp2_with fail
  go_ret
  exact ⟨rfl, rfl⟩
theorem turned_fun (b k : Nat) (hb : b < 256) (hk : k < 8) (w : World) : Calls Try.prog 52 #[b8 b, .int .i64 (k : Int)] w fun e w' => e = .returned (b8 (G.rot b k)) ∧ w' = w := by
  have CR : Hid _ := rotl_fun b k hb hk w
  generalize G.rot b k = v at *
  go_enter Try.func52, Try.ntmps52
  go_wp2_with fail
  refine Calls.mono CR.out ?_
  rintro e w1 ⟨rfl, hw1⟩
  go_wp2_with fail
  go_ret
  exact ⟨rfl, rfl⟩
set_option maxRecDepth 20000 in
set_option maxHeartbeats 1000000 in
theorem gsub_fun (a : Nat) (ha : a < 256) (w : World) : Calls Try.prog 40 #[b8 a] w fun e w' => e = .returned (b8 (G.sub a)) ∧ w' = w := by
  have CI : Hid _ := ginv_fun a ha w
  have hb := G.inv_lt a
  show Calls _ _ _ _ fun e w' => e = .returned (b8 (G.aff (G.inv a))) ∧ w' = w
  generalize G.inv a = b at *
  have C1 : Hid _ := turned_fun b 1 hb (by decide)
  have C2 : Hid _ := turned_fun b 2 hb (by decide)
  have C3 : Hid _ := turned_fun b 3 hb (by decide)
  have C4 : Hid _ := turned_fun b 4 hb (by decide)
  have l1 := G.rot_lt hb 1 (by decide)
  have l2 := G.rot_lt hb 2 (by decide)
  have l3 := G.rot_lt hb 3 (by decide)
  have l4 := G.rot_lt hb 4 (by decide)
  unfold G.aff
  generalize G.rot b 1 = r1 at *
  generalize G.rot b 2 = r2 at *
  generalize G.rot b 3 = r3 at *
  generalize G.rot b 4 = r4 at *
  have x1 := g_xor hb l1
  have y1 := G.xor_lt hb l1
  generalize b ^^^ r1 = s1 at *
  have x2 := g_xor y1 l2
  have y2 := G.xor_lt y1 l2
  generalize s1 ^^^ r2 = s2 at *
  have x3 := g_xor y2 l3
  have y3 := G.xor_lt y2 l3
  generalize s2 ^^^ r3 = s3 at *
  have x4 := g_xor y3 l4
  have y4 := G.xor_lt y3 l4
  generalize s3 ^^^ r4 = s4 at *
  have x5 : bits .xor .u8 (s4 : Int) 99 = _ := g_xor y4 (y := 99) (by decide)
  generalize s4 ^^^ 99 = s5 at *
  clear hb l1 l2 l3 l4 y1 y2 y3 y4
  go_enter Try.func40, Try.ntmps40
  go_wp2_with fail
  refine Calls.mono CI.out ?_
  rintro e w1 ⟨rfl, hw1⟩
  go_wp2_with fail
  refine Calls.mono (C1.out _) ?_
  rintro e w2 ⟨rfl, hw2⟩
  go_wp2_with fail
  refine Calls.mono (C2.out _) ?_
  rintro e w3 ⟨rfl, hw3⟩
  go_wp2_with fail
  refine Calls.mono (C3.out _) ?_
  rintro e w4 ⟨rfl, hw4⟩
  go_wp2_with fail
  refine Calls.mono (C4.out _) ?_
  rintro e w5 ⟨rfl, hw5⟩
  go_wp2_with fail
  go_ret
  exact ⟨rfl, rfl⟩
set_option maxRecDepth 20000 in
set_option maxHeartbeats 1000000 in
theorem gunsub_fun (b : Nat) (hb : b < 256) (w : World) : Calls Try.prog 49 #[b8 b] w fun e w' => e = .returned (b8 (G.unsub b)) ∧ w' = w := by
  have C1 : Hid _ := turned_fun b 1 hb (by decide)
  have C2 : Hid _ := turned_fun b 3 hb (by decide)
  have C3 : Hid _ := turned_fun b 6 hb (by decide)
  have CI : Hid _ := ginv_fun (G.unaff b) (G.unaff_lt hb)
  have l1 := G.rot_lt hb 1 (by decide)
  have l2 := G.rot_lt hb 3 (by decide)
  have l3 := G.rot_lt hb 6 (by decide)
  unfold G.unsub
  generalize G.inv (G.unaff b) = iv at *
  unfold G.unaff at CI
  generalize G.rot b 1 = r1 at *
  generalize G.rot b 3 = r2 at *
  generalize G.rot b 6 = r3 at *
  have x1 := g_xor l1 l2
  have y1 := G.xor_lt l1 l2
  generalize r1 ^^^ r2 = s1 at *
  have x2 := g_xor y1 l3
  have y2 := G.xor_lt y1 l3
  generalize s1 ^^^ r3 = s2 at *
  have x3 : bits .xor .u8 (s2 : Int) 5 = _ := g_xor y2 (y := 5) (by decide)
  generalize s2 ^^^ 5 = s3 at *
  clear hb l1 l2 l3 y1 y2
  go_enter Try.func49, Try.ntmps49
  go_wp2_with fail
  refine Calls.mono (C1.out _) ?_
  rintro e w2 ⟨rfl, hw2⟩
  go_wp2_with fail
  refine Calls.mono (C2.out _) ?_
  rintro e w3 ⟨rfl, hw3⟩
  go_wp2_with fail
  refine Calls.mono (C3.out _) ?_
  rintro e w4 ⟨rfl, hw4⟩
  go_wp2_with fail
  refine Calls.mono (CI.out _) ?_
  rintro e w5 ⟨rfl, hw5⟩
  go_wp2_with fail
  go_ret
  exact ⟨rfl, rfl⟩
end Go.Proofs.Ytejabkmhpiabnaa
