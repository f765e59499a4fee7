/- The contracts of gf.turned, gf.Sub and gf.Unsub. -/
import Derived.Test.YtmfbdacalenfdaaGMul
namespace Go.Proofs.Ytmfbdacalenfdaa
open Go.RowKit
set_option linter.unusedSimpArgs false
theorem g_or {x y : Nat} (hx : x < 256) (hy : y < 256) : bits .or .u8 (x : Int) (y : Int) = ((x ||| y : Nat) : Int) := by
  have o8 : ∀ x : Nat, x < 256 → (BitVec.ofInt 8 (x : Int)).toNat = x := fun x h => by rw [BitVec.toNat_ofInt]; omega
  have h1 : x ||| y < 256 := Nat.or_lt_two_pow (n := 8) hx hy
  show IntKind.u8.wrap (((BitVec.ofInt 8 (x : Int) ||| BitVec.ofInt 8 (y : Int)).toNat : Nat) : Int) = _
  rw [BitVec.toNat_or, o8 _ hx, o8 _ hy, IntKind.wrap_u8]
  omega
theorem rot_table : ∀ b < 256, ∀ k < 8, (b * 2 ^ k % 256) ||| (b / 2 ^ (8 - k)) = G.rot b k := by decide +kernel
theorem and7_table : ∀ k < 8, bits .and .u64 ((k : Nat) : Int) 7 = (k : Int) := by decide +kernel
set_option maxRecDepth 20000 in
set_option maxHeartbeats 1000000 in
theorem rotl_fun (b k : Nat) (hb : b < 256) (hk : k < 8) (w : World) : Calls Try.prog 67 #[b8 b, .int .i64 (k : Int)] w fun e w' => e = .returned (b8 (G.rot b k)) ∧ w' = w := by
  have RT := rot_table b hb k hk
  have A7 := and7_table k hk
  have wk : IntKind.u64.wrap (k : Int) = (k : Int) := by rw [IntKind.wrap_u64]; omega
  have ws : IntKind.u64.wrap (8 - (k : Int)) = ((8 - k : Nat) : Int) := by rw [IntKind.wrap_u64]; omega
  have l1 : b * 2 ^ k % 256 < 256 := Nat.mod_lt _ (by decide)
  have l2 : b / 2 ^ (8 - k) < 256 := Nat.lt_of_le_of_lt (Nat.div_le_self _ _) hb
  have O1 := g_or l1 l2
  rw [RT] at O1
  have s1 : IntKind.u8.wrap ((b : Int) * 2 ^ k) = ((b * 2 ^ k % 256 : Nat) : Int) := by
    rw [show (b : Int) * 2 ^ k = ((b * 2 ^ k : Nat) : Int) by simp, IntKind.wrap_u8]
    omega
  obtain ⟨m, hm⟩ : ∃ m, m = 8 - k := ⟨_, rfl⟩
  rw [← hm] at ws l2 O1
  have d1 : (b : Int) / 2 ^ m = ((b / 2 ^ m : Nat) : Int) := by simp
  generalize b * 2 ^ k % 256 = x at *
  generalize b / 2 ^ m = y at *
  generalize G.rot b k = v at *
  have k8 : (k : Int) < 8 := by omega
  have m8 : (m : Int) ≤ 8 := by omega
  clear RT hm l1 l2 hb
  go_enter Try.func67, Try.ntmps67
  go_wp2_with fail
  go_ret
  exact ⟨rfl, rfl⟩
theorem turned_fun (b k : Nat) (hb : b < 256) (hk : k < 8) (w : World) : Calls Try.prog 63 #[b8 b, .int .i64 (k : Int)] w fun e w' => e = .returned (b8 (G.rot b k)) ∧ w' = w := by
  have CR : Hid _ := rotl_fun b k hb hk w
  generalize G.rot b k = v at *
  go_enter Try.func63, Try.ntmps63
  go_wp2_with fail
  refine Calls.mono CR.out ?_
  rintro e w1 ⟨rfl, hw1⟩
  go_wp2_with fail
  go_ret
  exact ⟨rfl, rfl⟩
set_option maxRecDepth 20000 in
set_option maxHeartbeats 1000000 in
theorem gsub_fun (a : Nat) (ha : a < 256) (w : World) : Calls Try.prog 47 #[b8 a] w fun e w' => e = .returned (b8 (G.sub a)) ∧ w' = w := by
  have CI : Hid _ := ginv_fun a ha w
  have hb := G.inv_lt a
  show Calls _ _ _ _ fun e w' => e = .returned (b8 (G.aff (G.inv a))) ∧ w' = w
  generalize G.inv a = b at *
  have C1 : Hid _ := turned_fun b 1 hb (by decide)
  have C2 : Hid _ := turned_fun b 2 hb (by decide)
  have C3 : Hid _ := turned_fun b 3 hb (by decide)
  have C4 : Hid _ := turned_fun b 4 hb (by decide)
  have l1 := G.rot_lt hb 1 (by decide)
  have l2 := G.rot_lt hb 2 (by decide)
  have l3 := G.rot_lt hb 3 (by decide)
  have l4 := G.rot_lt hb 4 (by decide)
  unfold G.aff
  generalize G.rot b 1 = r1 at *
  generalize G.rot b 2 = r2 at *
  generalize G.rot b 3 = r3 at *
  generalize G.rot b 4 = r4 at *
  have x1 := g_xor hb l1
  have y1 := G.xor_lt hb l1
  generalize b ^^^ r1 = s1 at *
  have x2 := g_xor y1 l2
  have y2 := G.xor_lt y1 l2
  generalize s1 ^^^ r2 = s2 at *
  have x3 := g_xor y2 l3
  have y3 := G.xor_lt y2 l3
  generalize s2 ^^^ r3 = s3 at *
  have x4 := g_xor y3 l4
  have y4 := G.xor_lt y3 l4
  generalize s3 ^^^ r4 = s4 at *
  have x5 : bits .xor .u8 (s4 : Int) 99 = _ := g_xor y4 (y := 99) (by decide)
  generalize s4 ^^^ 99 = s5 at *
  clear hb l1 l2 l3 l4 y1 y2 y3 y4
  go_enter Try.func47, Try.ntmps47
  go_wp2_with fail
  refine Calls.mono CI.out ?_
  rintro e w1 ⟨rfl, hw1⟩
  go_wp2_with fail
  refine Calls.mono (C1.out _) ?_
  rintro e w2 ⟨rfl, hw2⟩
  go_wp2_with fail
  refine Calls.mono (C2.out _) ?_
  rintro e w3 ⟨rfl, hw3⟩
  go_wp2_with fail
  refine Calls.mono (C3.out _) ?_
  rintro e w4 ⟨rfl, hw4⟩
  go_wp2_with fail
  refine Calls.mono (C4.out _) ?_
  rintro e w5 ⟨rfl, hw5⟩
  go_wp2_with fail
  go_ret
  exact ⟨rfl, rfl⟩
set_option maxRecDepth 20000 in
set_option maxHeartbeats 1000000 in
theorem gunsub_fun (b : Nat) (hb : b < 256) (w : World) : Calls Try.prog 61 #[b8 b] w fun e w' => e = .returned (b8 (G.unsub b)) ∧ w' = w := by
  have C1 : Hid _ := turned_fun b 1 hb (by decide)
  have C2 : Hid _ := turned_fun b 3 hb (by decide)
  have C3 : Hid _ := turned_fun b 6 hb (by decide)
  have CI : Hid _ := ginv_fun (G.unaff b) (G.unaff_lt hb)
  have l1 := G.rot_lt hb 1 (by decide)
  have l2 := G.rot_lt hb 3 (by decide)
  have l3 := G.rot_lt hb 6 (by decide)
  unfold G.unsub
  generalize G.inv (G.unaff b) = iv at *
  unfold G.unaff at CI
  generalize G.rot b 1 = r1 at *
  generalize G.rot b 3 = r2 at *
  generalize G.rot b 6 = r3 at *
  have x1 := g_xor l1 l2
  have y1 := G.xor_lt l1 l2
  generalize r1 ^^^ r2 = s1 at *
  have x2 := g_xor y1 l3
  have y2 := G.xor_lt y1 l3
  generalize s1 ^^^ r3 = s2 at *
  have x3 : bits .xor .u8 (s2 : Int) 5 = _ := g_xor y2 (y := 5) (by decide)
  generalize s2 ^^^ 5 = s3 at *
  clear hb l1 l2 l3 y1 y2
  go_enter Try.func61, Try.ntmps61
  go_wp2_with fail
  refine Calls.mono (C1.out _) ?_
  rintro e w2 ⟨rfl, hw2⟩
  go_wp2_with fail
  refine Calls.mono (C2.out _) ?_
  rintro e w3 ⟨rfl, hw3⟩
  go_wp2_with fail
  refine Calls.mono (C3.out _) ?_
  rintro e w4 ⟨rfl, hw4⟩
  go_wp2_with fail
  refine Calls.mono (CI.out _) ?_
  rintro e w5 ⟨rfl, hw5⟩
  go_wp2_with fail
  go_ret
  exact ⟨rfl, rfl⟩
end Go.Proofs.Ytmfbdacalenfdaa
