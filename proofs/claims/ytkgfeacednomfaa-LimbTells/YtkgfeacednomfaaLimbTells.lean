/- LimbTells returns true for every a, b, i and c: whatever is handed in, each call of limb answers what the document says. -/
import Derived.Test.YtkgfeacednomfaaLimbTellsW00
import Derived.Test.YtkgfeacednomfaaLimbTellsW01
import Derived.Test.YtkgfeacednomfaaLimbTellsW10
import Derived.Test.YtkgfeacednomfaaLimbTellsW11
import Derived.Test.YtkgfeacednomfaaLTMath
import Derived.Test.YtkgfeacednomfaaBit
import Derived.Test.YtkgfeacednomfaaShift
import Derived.Test.YtkgfeacednomfaaPick
import Derived.Test.YtkgfeacednomfaaCmp
import Derived.Test.YtkgfeacednomfaaAddSub
namespace Go.Proofs.Ytkgfeacednomfaa
open Go.RowKit
open Go.ChangeShapes Go.WideShapes Go.ChangeAt
set_option linter.unusedSimpArgs false
set_option maxHeartbeats 400000 in
theorem shift_far (x : Nm) (i : Int) (h : i ≤ -256 ∨ 256 ≤ i) (w : World) :
    Calls Try.prog 24 #[N x, .int .i64 i] w fun e w' => e = .returned (N ⟨0, 0, 0, 0⟩) ∧ Below w.heap.size w w' := by
  by_cases h' : i ≤ -256
  · go_enter Try.func24, Try.ntmps24
    go_wp2_with fail
    refine bodyPost_ret (v := N ⟨0, 0, 0, 0⟩) (by simp (maxDischargeDepth := 8) [results, Try.results24, go_sem]) rfl ⟨rfl, ?_⟩
    exact ((Below.refl _ _).alloc (Nat.le_refl _) _).alloc (by simp) _
  · have h'' : i ≥ 256 := by omega
    go_enter Try.func24, Try.ntmps24
    go_wp2_with fail
    refine bodyPost_ret (v := N ⟨0, 0, 0, 0⟩) (by simp (maxDischargeDepth := 8) [results, Try.results24, go_sem]) rfl ⟨rfl, ?_⟩
    exact ((Below.refl _ _).alloc (Nat.le_refl _) _).alloc (by simp) _
theorem dg_len256 {n : Nat} (h : n < 2 ^ 256 * 2 ^ 256) : (P.dg n).length < 1048576 := Nat.lt_of_le_of_lt (P.dg_len 32 (Nat.lt_of_lt_of_le h (by decide))) (by decide)
theorem dg_len257 {n : Nat} (h : n < 2 ^ 256 * 2 ^ 256) : (P.dg n).length < 1073741824 := Nat.lt_trans (dg_len256 h) (by decide)
theorem shift_Z (a : Nm) (oa : a.ok) (i : Int) (w : World) :
    Calls Try.prog 24 #[N a, .int .i64 i] w fun e w' => e = .returned (N (Nm.of ((Zf a.nat i : Nat) : Int))) ∧ Below w.heap.size w w' := by
  by_cases h : -255 ≤ i ∧ i ≤ 255
  · by_cases h0 : 0 ≤ i
    · obtain ⟨n, rfl⟩ : ∃ n : Nat, i = (n : Int) := ⟨i.toNat, by omega⟩
      have e : Nm.of ((Zf a.nat (n : Int) : Nat) : Int) = Nm.of (a.val * 2 ^ n % M) := by
        rw [Zf, if_pos h, if_pos h0, show ((n : Int)).toNat = n by omega, ← Nm.nat_cast oa, M_cast, Int.natCast_emod, Int.natCast_mul, Int.natCast_pow]
        rfl
      rw [e]
      exact shift_pos a oa n (by omega) w
    · obtain ⟨n, rfl⟩ : ∃ n : Nat, i = -(n : Int) := ⟨(-i).toNat, by omega⟩
      have e : Nm.of ((Zf a.nat (-(n : Int)) : Nat) : Int) = Nm.of (a.val / 2 ^ n) := by
        rw [Zf, if_pos h, if_neg h0, show (-(-(n : Int))).toNat = n by omega, ← Nm.nat_cast oa, Int.natCast_ediv, Int.natCast_pow]
        rfl
      rw [e]
      exact shift_neg a oa n (by omega) (by omega) w
  · have e : Nm.of ((Zf a.nat i : Nat) : Int) = ⟨0, 0, 0, 0⟩ := by
      rw [Zf, if_neg h]
      rfl
    rw [e]
    exact shift_far a i (by omega) w
theorem bit_Z (a : Nm) (oa : a.ok) (i : Int) (w : World) :
    Calls Try.prog 22 #[N a, .int .i64 i] w fun e w' => e = .returned (.int .u64 ((BVf a.nat i 256 : Nat) : Int)) ∧ Below w.heap.size w w' := by
  by_cases h : 0 ≤ i ∧ i < 256
  · obtain ⟨n, rfl⟩ : ∃ n : Nat, i = (n : Int) := ⟨i.toNat, by omega⟩
    have e : ((BVf a.nat (n : Int) 256 : Nat) : Int) = a.val / 2 ^ n % 2 := by
      rw [BVf, if_pos (show 0 ≤ (n : Int) ∧ (n : Int) < ((256 : Nat) : Int) by omega), show ((n : Int)).toNat = n by omega, ← Nm.nat_cast oa, Int.natCast_emod, Int.natCast_ediv, Int.natCast_pow]
      rfl
    rw [e]
    exact bit_fun a oa n (by omega) w
  · have e : ((BVf a.nat i 256 : Nat) : Int) = 0 := by
      rw [BVf, if_neg (by omega)]
      rfl
    rw [e]
    exact bit_out a i (by omega) w
set_option maxHeartbeats 1000000 in
theorem limbTells_law (a b : Nm) (i c : Int) (oa : a.ok) (ob : b.ok) (hi : -9223372036854775808 ≤ i ∧ i ≤ 9223372036854775807) (wc : Word c) (w : World) :
    Calls Try.prog 3 #[N a, N b, .int .i64 i, .int .u64 c] w fun e w' => e = .returned (.bool true) ∧ Below w.heap.size w w' := by
  have la := Nm.nat_lt oa
  have lb := Nm.nat_lt ob
  have va := Nm.nat_cast oa
  have vb := Nm.nat_cast ob
  have l512 : ∀ n, n < 2 ^ 256 + 2 ^ 256 → n < 2 ^ 256 * 2 ^ 256 := fun n h => Nat.lt_trans h (by decide)
  have lab : a.nat * b.nat < 2 ^ 256 * 2 ^ 256 := Nat.mul_lt_mul'' la lb
  have lz := Zf_lt a.nat i la
  have OA : Hid (∀ w, Calls Try.prog 9 #[N a] w fun e w' => (∃ v', e = .returned v' ∧ Sl w' v' (P.dg a.nat)) ∧ Below w.heap.size w w') := by
    intro w
    exact ofNum_fun a oa w
  have OB : Hid (∀ w, Calls Try.prog 9 #[N b] w fun e w' => (∃ v', e = .returned v' ∧ Sl w' v' (P.dg b.nat)) ∧ Below w.heap.size w w') := by
    intro w
    exact ofNum_fun b ob w
  have PS : Hid (∀ u0 u1 w, Sl w u0 (P.dg a.nat) → Sl w u1 (P.dg b.nat) → Calls Try.prog 10 #[u0, u1] w fun e w' => (∃ v', e = .returned v' ∧ Sl w' v' (P.dg (a.nat + b.nat))) ∧ Below w.heap.size w w') := by
    intro u0 u1 w h0 h1
    have := dplus_fun u0 u1 _ _ (P.dg_Dg a.nat) (P.dg_Dg b.nat) (dg_len257 (l512 _ (by omega))) (dg_len257 (l512 _ (by omega))) w h0 h1
    rwa [P.dv_dg, P.dv_dg] at this
  have O1 : Hid (∀ u0 u1 w, Sl w u0 (P.dg (a.nat + b.nat)) → Sl w u1 (P.dg (2 ^ 256)) → Calls Try.prog 11 #[u0, u1] w fun e w' => e = .returned (.int .i64 (cmpN (a.nat + b.nat) (2 ^ 256))) ∧ Below w.heap.size w w') := by
    intro u0 u1 w h0 h1
    have := order_fun u0 u1 _ _ (P.dg_Dg (a.nat + b.nat)) (P.dg_Dg (2 ^ 256)) (dg_len257 (l512 _ (by omega))) (dg_len257 (l512 _ (by omega))) w h0 h1
    rwa [P.dv_dg, P.dv_dg] at this
  have O2 : Hid (∀ u0 u1 w, Sl w u0 (P.dg a.nat) → Sl w u1 (P.dg b.nat) → Calls Try.prog 11 #[u0, u1] w fun e w' => e = .returned (.int .i64 (cmpN a.nat b.nat)) ∧ Below w.heap.size w w') := by
    intro u0 u1 w h0 h1
    have := order_fun u0 u1 _ _ (P.dg_Dg a.nat) (P.dg_Dg b.nat) (dg_len257 (l512 _ (by omega))) (dg_len257 (l512 _ (by omega))) w h0 h1
    rwa [P.dv_dg, P.dv_dg] at this
  have TS : Hid (∀ u0 w, Sl w u0 (P.dg (a.nat + b.nat)) → Calls Try.prog 15 #[u0] w fun e w' => e = .returned (N (addS a b)) ∧ Below w.heap.size w w') := by
    intro u0 w h0
    have := toNum_fun u0 _ (P.dg_Dg (a.nat + b.nat)) (dg_len256 (l512 _ (by omega))) w h0
    rw [P.dv_dg] at this
    have e : addS a b = Nm.of (((a.nat + b.nat) % 2 ^ 256 : Nat) : Int) := by
      rw [addS, ← va, ← vb, M_cast, Int.natCast_emod, Int.natCast_add]
    rw [e]
    exact this
  have PX : Hid (∀ u0 u1 w, Sl w u0 (P.dg a.nat) → Sl w u1 (P.dg (2 ^ 256)) → Calls Try.prog 10 #[u0, u1] w fun e w' => (∃ v', e = .returned v' ∧ Sl w' v' (P.dg (a.nat + 2 ^ 256))) ∧ Below w.heap.size w w') := by
    intro u0 u1 w h0 h1
    have := dplus_fun u0 u1 _ _ (P.dg_Dg a.nat) (P.dg_Dg (2 ^ 256)) (dg_len257 (l512 _ (by omega))) (dg_len257 (l512 _ (by omega))) w h0 h1
    rwa [P.dv_dg, P.dv_dg] at this
  have MN : Hid (∀ u0 u1 w, Sl w u0 (P.dg (a.nat + 2 ^ 256)) → Sl w u1 (P.dg b.nat) → Calls Try.prog 16 #[u0, u1] w fun e w' => (∃ v', e = .returned v' ∧ Sl w' v' (P.dg (a.nat + 2 ^ 256 - b.nat))) ∧ Below w.heap.size w w') := by
    intro u0 u1 w h0 h1
    have := dminus_fun u0 u1 _ _ (P.dg_Dg (a.nat + 2 ^ 256)) (P.dg_Dg b.nat) (dg_len257 (l512 _ (by omega))) (by rw [P.dv_dg, P.dv_dg]; omega) w h0 h1
    rwa [P.dv_dg, P.dv_dg] at this
  have TD : Hid (∀ u0 w, Sl w u0 (P.dg (a.nat + 2 ^ 256 - b.nat)) → Calls Try.prog 15 #[u0] w fun e w' => e = .returned (N (subS a b)) ∧ Below w.heap.size w w') := by
    intro u0 w h0
    have := toNum_fun u0 _ (P.dg_Dg (a.nat + 2 ^ 256 - b.nat)) (dg_len256 (l512 _ (by omega))) w h0
    rw [P.dv_dg] at this
    have e : subS a b = Nm.of (((a.nat + 2 ^ 256 - b.nat) % 2 ^ 256 : Nat) : Int) := by
      rw [subS, ← va, ← vb, M_cast, Int.natCast_emod, Int.natCast_sub (by omega), Int.natCast_add]
      congr 1
      generalize ((2 ^ 256 : Nat) : Int) = T
      rw [show ((a.nat : Nat) : Int) + T - ((b.nat : Nat) : Int) = ((a.nat : Nat) : Int) - ((b.nat : Nat) : Int) + T by omega, Int.add_emod_right]
    rw [e]
    exact this
  have MU : Hid (∀ w, Calls Try.prog 17 #[N a, N b] w fun e w' => e = .returned (Wv (WL (a.nat * b.nat)) (WH (a.nat * b.nat))) ∧ Below w.heap.size w w') := by
    intro w
    exact mul_V a b oa ob w
  have TI : Hid (∀ u0 u1 w, Sl w u0 (P.dg a.nat) → Sl w u1 (P.dg b.nat) → Calls Try.prog 19 #[u0, u1] w fun e w' => (∃ v', e = .returned v' ∧ Sl w' v' (P.dg (a.nat * b.nat))) ∧ Below w.heap.size w w') := by
    intro u0 u1 w h0 h1
    have := dtimes_fun u0 u1 _ _ (P.dg_Dg a.nat) (P.dg_Dg b.nat) (dg_len257 (l512 _ (by omega))) (dg_len257 (l512 _ (by omega))) w h0 h1
    rwa [P.dv_dg, P.dv_dg] at this
  have TW : Hid (∀ u0 w, Sl w u0 (P.dg (a.nat * b.nat)) → Calls Try.prog 18 #[u0] w fun e w' => e = .returned (Wv (WL (a.nat * b.nat)) (WH (a.nat * b.nat))) ∧ Below w.heap.size w w') := by
    intro u0 w h0
    have := toWide_fun u0 _ (P.dg_Dg (a.nat * b.nat)) (dg_len256 lab) (by rw [P.dv_dg, pow512']; exact lab) w h0
    rwa [P.dv_dg] at this
  have CM : Hid (∀ w, Calls Try.prog 20 #[N a, N b] w fun e w' => e = .returned (.int .i64 (cmpN a.nat b.nat)) ∧ Below w.heap.size w w') := by
    intro w
    have := cmp_fun a b oa ob w
    have e : cmpV a b = cmpN a.nat b.nat := by
      unfold cmpV cmpN
      rw [← va, ← vb]
      by_cases h : a.nat < b.nat
      · rw [if_pos (by omega), if_pos h]
      · rw [if_neg (by omega), if_neg h]
        by_cases h2 : b.nat < a.nat
        · rw [if_pos (by omega), if_pos h2]
        · rw [if_neg (by omega), if_neg h2]
    rwa [e] at this
  have BI : Hid (∀ w, Calls Try.prog 22 #[N a, .int .i64 i] w fun e w' => e = .returned (.int .u64 ((BVf a.nat i 256 : Nat) : Int)) ∧ Below w.heap.size w w') := by
    intro w
    exact bit_Z a oa i w
  have LG : Hid (∀ w, Calls Try.prog 23 #[N a] w fun e w' => e = .returned (.int .i64 ((LNf a.nat 256 : Nat) : Int)) ∧ Below w.heap.size w w') := by
    intro w
    have := len_fun a oa w
    rw [LNf, Nat.mod_eq_of_lt la]
    exact this
  have B1 : Hid (∀ k : Nat, k < 256 → (i = (k : Int) → BVf a.nat i (k + 1) = a.nat / 2 ^ k % 2) ∧ (i ≠ (k : Int) → BVf a.nat i (k + 1) = BVf a.nat i k)) := by
    intro k _
    exact ⟨BVf_hit a.nat i k, BVf_miss a.nat i k⟩
  have L1 : Hid (∀ k : Nat, k < 256 → (a.nat / 2 ^ k % 2 = 1 → LNf a.nat (k + 1) = k + 1) ∧ (a.nat / 2 ^ k % 2 ≠ 1 → LNf a.nat (k + 1) = LNf a.nat k)) := by
    intro k _
    exact ⟨LNf_hit a.nat k, LNf_miss a.nat k⟩
  have S1 : Hid (∀ k j : Nat, k < 256 → j < 256 → -255 ≤ i → i ≤ 255 → (k : Int) + i = (j : Int) → ∀ m, m < 256 → SVf a.nat i (k + 1) m = if m = j then a.nat / 2 ^ k % 2 else SVf a.nat i k m) := by
    intro k j _ _ h1 h2 h m _
    exact SVf_hit a.nat i k j h1 h2 h m
  have S2 : Hid (∀ k : Nat, k < 256 → ¬ (-255 ≤ i ∧ i ≤ 255 ∧ 0 ≤ (k : Int) + i ∧ (k : Int) + i < 256) → ∀ m, m < 256 → SVf a.nat i (k + 1) m = SVf a.nat i k m) := by
    intro k _ h m hm
    exact SVf_miss a.nat i k h m hm
  have OF : Hid (∀ B (bs : List Nat) w, (∀ m, m < 256 → bs.getD m 0 = SVf a.nat i 256 m) → (∀ j, j < 256 → w.cell? ⟨B, j, none⟩ = some (.int .i64 ((bs.getD j 0 : Nat) : Int))) → Calls Try.prog 25 #[.slice (some ⟨B, 0, none⟩) 256 256] w fun e w' => (∃ v', e = .returned v' ∧ Sl w' v' (P.dg (Zf a.nat i))) ∧ Below w.heap.size w w') := by
    intro B bs w hbs hc
    have := ofBits_fun B bs (fun k => Zf a.nat i / 2 ^ k) (Nat.div_eq_of_lt lz) (fun k hk => ?_) (fun k hk => ?_) w hc
    · simp only [Nat.pow_zero, Nat.div_one] at this
      exact this
    · rw [hbs k hk, Zf_bits a.nat i la k hk, Nat.pow_succ, ← Nat.div_div_eq_div_mul]
      omega
    · rw [hbs k hk, Zf_bits a.nat i la k hk]
      have := Nat.mod_lt (Zf a.nat i / 2 ^ k) (show 0 < 2 by decide)
      omega
  have TZ : Hid (∀ u0 w, Sl w u0 (P.dg (Zf a.nat i)) → Calls Try.prog 15 #[u0] w fun e w' => e = .returned (N (Nm.of ((Zf a.nat i : Nat) : Int))) ∧ Below w.heap.size w w') := by
    intro u0 w h0
    have := toNum_fun u0 _ (P.dg_Dg (Zf a.nat i)) (dg_len256 (l512 _ (by omega))) w h0
    rwa [P.dv_dg, Nat.mod_eq_of_lt lz] at this
  have SH : Hid (∀ w, Calls Try.prog 24 #[N a, .int .i64 i] w fun e w' => e = .returned (N (Nm.of ((Zf a.nat i : Nat) : Int))) ∧ Below w.heap.size w w') := by
    intro w
    exact shift_Z a oa i w
  have PK : Hid (∀ w, Calls Try.prog 26 #[.int .u64 c, N a, N b] w fun e w' => e = .returned (N (pick c a b)) ∧ Below w.heap.size w w') := by
    intro w
    exact pick_fun c a b wc oa ob w
  have PE : Hid (pick c a b = if c % 2 = 1 then b else a) := by
    show pick c a b = if c % 2 = 1 then b else a
    unfold pick
    by_cases h : c % 2 = 0
    · rw [if_pos h, if_neg (by omega)]
    · rw [if_neg h, if_pos (by omega)]
  have BT : Hid (∀ u w, Sl w u (P.dg a.nat) → Calls Try.prog 21 #[u, .int .i64 256] w fun e w' => (e = .returned (.slice (some ⟨w.heap.size, 0, none⟩) 256 256) ∧ ∀ j, j < 256 → w'.cell? ⟨w.heap.size, j, none⟩ = some (.int .i64 ((a.nat / 2 ^ j % 2 : Nat) : Int))) ∧ Below w.heap.size w w') := by
    intro u w h0
    have := bits_fun u _ (P.dg_Dg a.nat) 256 (by decide) w h0
    refine this.mono ?_
    rintro e w' ⟨⟨rfl, bs, hb1, hb2, ho⟩, hb⟩
    refine ⟨⟨rfl, fun j hj => ?_⟩, hb⟩
    have := (Ow.cell ho hb1.symm j (by omega)).1
    rw [this, hb2 j hj, P.dv_dg]
  have c1 : (2 ^ 256 : Nat) ≤ a.nat + b.nat → addC a b = 1 := fun h => by
    rw [addC, ← va, ← vb, M_cast]
    have : ((a.nat : Nat) : Int) + ((b.nat : Nat) : Int) = ((a.nat + b.nat - 2 ^ 256 : Nat) : Int) + ((2 ^ 256 : Nat) : Int) * 1 := by omega
    rw [this, Int.add_mul_ediv_left _ _ (by decide), Int.ediv_eq_zero_of_lt (by omega) (by omega)]
    rfl
  have c2 : ¬ (2 ^ 256 : Nat) ≤ a.nat + b.nat → addC a b = 0 := fun h => by
    rw [addC, ← va, ← vb, M_cast]
    exact Int.ediv_eq_zero_of_lt (by omega) (by omega)
  have c3 : a.nat < b.nat → subC a b = 1 := fun h => by
    rw [subC, ← va, ← vb, M_cast]
    have : ((a.nat : Nat) : Int) - ((b.nat : Nat) : Int) = ((a.nat + 2 ^ 256 - b.nat : Nat) : Int) + ((2 ^ 256 : Nat) : Int) * (-1) := by omega
    rw [this, Int.add_mul_ediv_left _ _ (by decide), Int.ediv_eq_zero_of_lt (by omega) (by omega)]
    rfl
  have c4 : ¬ a.nat < b.nat → subC a b = 0 := fun h => by
    rw [subC, ← va, ← vb, M_cast, Int.ediv_eq_zero_of_lt (by omega) (by omega)]
    rfl
  by_cases h1 : (2 ^ 256 : Nat) ≤ a.nat + b.nat
  · have g1 : cmpN (a.nat + b.nat) (2 ^ 256) ≥ 0 := by
      unfold cmpN
      rw [if_neg (by omega)]
      split <;> omega
    by_cases h2 : a.nat < b.nat
    · have g2 : cmpN a.nat b.nat < 0 := by unfold cmpN; rw [if_pos h2]; decide
      refine limbTells_walk11 a b (addS a b) (subS a b) (WL (a.nat * b.nat)) (WH (a.nat * b.nat)) (Nm.of ((Zf a.nat i : Nat) : Int)) (pick c a b) a.nat b.nat (Zf a.nat i) (SVf a.nat i) (SVf_zero a.nat i) (BVf a.nat i) (LNf a.nat) (BVf_zero a.nat i) (LNf_zero a.nat) (BVf_le a.nat i 256) i c (cmpN (a.nat + b.nat) (2 ^ 256)) (cmpN a.nat b.nat) wc.1 hi.1 hi.2 ?g1 ?g2
        OA OB PS O1 O2 ?AD ?SB TS PX MN TD MU TI TW CM BI LG B1 L1 S1 S2 OF TZ SH PK PE BT w
      case g1 => exact g1
      case g2 => exact g2
      case AD =>
        have := add_fun a b oa ob
        rw [c1 h1] at this
        exact this
      case SB =>
        have := sub_fun a b oa ob
        rw [c3 h2] at this
        exact this
    · have g2 : ¬ cmpN a.nat b.nat < 0 := by
        unfold cmpN
        rw [if_neg h2]
        split <;> omega
      refine limbTells_walk10 a b (addS a b) (subS a b) (WL (a.nat * b.nat)) (WH (a.nat * b.nat)) (Nm.of ((Zf a.nat i : Nat) : Int)) (pick c a b) a.nat b.nat (Zf a.nat i) (SVf a.nat i) (SVf_zero a.nat i) (BVf a.nat i) (LNf a.nat) (BVf_zero a.nat i) (LNf_zero a.nat) (BVf_le a.nat i 256) i c (cmpN (a.nat + b.nat) (2 ^ 256)) (cmpN a.nat b.nat) wc.1 hi.1 hi.2 ?g1 ?g2
        OA OB PS O1 O2 ?AD ?SB TS PX MN TD MU TI TW CM BI LG B1 L1 S1 S2 OF TZ SH PK PE BT w
      case g1 => exact g1
      case g2 => exact g2
      case AD =>
        have := add_fun a b oa ob
        rw [c1 h1] at this
        exact this
      case SB =>
        have := sub_fun a b oa ob
        rw [c4 h2] at this
        exact this
  · have g1 : ¬ cmpN (a.nat + b.nat) (2 ^ 256) ≥ 0 := by
      unfold cmpN
      rw [if_pos (by omega)]
      decide
    by_cases h2 : a.nat < b.nat
    · have g2 : cmpN a.nat b.nat < 0 := by unfold cmpN; rw [if_pos h2]; decide
      refine limbTells_walk01 a b (addS a b) (subS a b) (WL (a.nat * b.nat)) (WH (a.nat * b.nat)) (Nm.of ((Zf a.nat i : Nat) : Int)) (pick c a b) a.nat b.nat (Zf a.nat i) (SVf a.nat i) (SVf_zero a.nat i) (BVf a.nat i) (LNf a.nat) (BVf_zero a.nat i) (LNf_zero a.nat) (BVf_le a.nat i 256) i c (cmpN (a.nat + b.nat) (2 ^ 256)) (cmpN a.nat b.nat) wc.1 hi.1 hi.2 ?g1 ?g2
        OA OB PS O1 O2 ?AD ?SB TS PX MN TD MU TI TW CM BI LG B1 L1 S1 S2 OF TZ SH PK PE BT w
      case g1 => exact g1
      case g2 => exact g2
      case AD =>
        have := add_fun a b oa ob
        rw [c2 h1] at this
        exact this
      case SB =>
        have := sub_fun a b oa ob
        rw [c3 h2] at this
        exact this
    · have g2 : ¬ cmpN a.nat b.nat < 0 := by
        unfold cmpN
        rw [if_neg h2]
        split <;> omega
      refine limbTells_walk00 a b (addS a b) (subS a b) (WL (a.nat * b.nat)) (WH (a.nat * b.nat)) (Nm.of ((Zf a.nat i : Nat) : Int)) (pick c a b) a.nat b.nat (Zf a.nat i) (SVf a.nat i) (SVf_zero a.nat i) (BVf a.nat i) (LNf a.nat) (BVf_zero a.nat i) (LNf_zero a.nat) (BVf_le a.nat i 256) i c (cmpN (a.nat + b.nat) (2 ^ 256)) (cmpN a.nat b.nat) wc.1 hi.1 hi.2 ?g1 ?g2
        OA OB PS O1 O2 ?AD ?SB TS PX MN TD MU TI TW CM BI LG B1 L1 S1 S2 OF TZ SH PK PE BT w
      case g1 => exact g1
      case g2 => exact g2
      case AD =>
        have := add_fun a b oa ob
        rw [c2 h1] at this
        exact this
      case SB =>
        have := sub_fun a b oa ob
        rw [c4 h2] at this
        exact this
set_option maxRecDepth 100000 in
theorem limbTells_lifted (os : Os) (started : os.Started) (H : Type) (enc : TypeId × Value → H) :
    ReturnsInHanded {} Try.checked os 3 .any (Rows.limbTellsSpec.pre6 enc Try.prog Try.f3 Rows.limbTellsRow.domain false) (Rows.limbTellsSpec.post enc Try.prog Try.f3 false true false false) := by
  refine returnsInHanded_of_change (C := Try.checked) Try.own started (by kernel_rfl) Try.func3
    (ChangeSpec.witness6 (enc := enc) (C := Try.checked) false ⟨#[], #[.agg #[.int .u64 0, .int .u64 0, .int .u64 0, .int .u64 0], .agg #[.int .u64 0, .int .u64 0, .int .u64 0, .int .u64 0], .int .i64 0, .int .u64 0], []⟩ 8 (by kernel_rfl) (by kernel_rfl) (by kernel_rfl) (by kernel_rfl)) ?_
  intro W base args ds gs before hval0 hW hcnd _
  have hval : ∀ (j : Nat) t v, Try.f3.params[j]? = some t → args[j]? = some v → Value.okWide Try.prog W .any base t v := hval0
  have hW' := hW
  obtain ⟨p, q, hA0, hV, rfl, hfz, hnd⟩ := hW
  have hA : DataW.TrodAll enc Try.prog W 0 (fun _ => true) true Try.f3.params.toList args.toList ds p := hA0
  rw [Try.params3] at hA hval
  obtain ⟨v0, v1, v2, v3, d0, d1, d2, d3, p0, p1, p2, p3, rfl, rfl, rfl, h0, h1, h2, h3⟩ := trodAll_four hA
  obtain ⟨rfl, rfl⟩ := trodVars_none hV
  obtain ⟨xs0, l0, rfl, rfl, rfl, w0⟩ := open_arr Try.underlying24 Try.underlying22 Try.cellsU64 Try.cellsNum (hval 0 24 v0 rfl rfl) h0
  obtain ⟨xs1, l1, rfl, rfl, rfl, w1⟩ := open_arr Try.underlying24 Try.underlying22 Try.cellsU64 Try.cellsNum (hval 1 24 v1 rfl rfl) h1
  obtain ⟨x2, rfl, rfl, rfl, w2⟩ := open_int Try.underlying3 (hval 2 3 v2 rfl rfl) h2
  obtain ⟨x3, rfl, rfl, rfl, w3⟩ := open_int Try.underlying22 (hval 3 22 v3 rfl rfl) h3
  clear hA0 hval0 hval hA h0 h1 h2 h3
  obtain ⟨a0, b0, c0, d0, rfl⟩ := list4 xs0 l0
  have ok0 : (⟨a0, b0, c0, d0⟩ : Nm).ok := ⟨word_of_wf (w0 _ (by simp)), word_of_wf (w0 _ (by simp)), word_of_wf (w0 _ (by simp)), word_of_wf (w0 _ (by simp))⟩
  obtain ⟨a1, b1, c1, d1, rfl⟩ := list4 xs1 l1
  have ok1 : (⟨a1, b1, c1, d1⟩ : Nm).ok := ⟨word_of_wf (w1 _ (by simp)), word_of_wf (w1 _ (by simp)), word_of_wf (w1 _ (by simp)), word_of_wf (w1 _ (by simp))⟩
  simp only [List.append_nil] at hW'
  refine (limbTells_law ⟨a0, b0, c0, d0⟩ ⟨a1, b1, c1, d1⟩ x2 x3 ok0 ok1 (int_of_wf w2) (word_of_wf w3) W).mono fun e W' ⟨he, hg⟩ => ?_
  subst he
  exact ⟨_, rfl, _, _, _, [], [], [], hW', trodAll_mk1 (shut_bool Try.underlying4 _), trodAll_mk4 (shut_arr Try.underlying24 Try.underlying22 Try.cellsU64 Try.cellsNum l0 w0) (shut_arr Try.underlying24 Try.underlying22 Try.cellsU64 Try.cellsNum l1 w1) (shut_int Try.underlying3 w2) (shut_int Try.underlying22 w3), rfl, hg.frame _, fun h => by cases h⟩

theorem limbTells_holds : Rows.LimbTellsSaid :=
  OpenClaim.holds_of_wide 3 Try.f3 rfl rfl rfl rfl rfl rfl rfl ⟨rfl, rfl, rfl, rfl, rfl⟩ rfl rfl rfl rfl rfl (by kernel_rfl) Try.func3 (by kernel_rfl)
    (of_decide_eq_true (by kernel_rfl)) (by unfold Func.isWrapper; first | (rw [if_pos (by decide +kernel)]; kernel_rfl) | (rw [if_neg (by decide +kernel)]; exact ⟨rfl, rfl⟩))
    (fun os started H enc _ => limbTells_lifted os started H enc)
#print axioms limbTells_holds
end Go.Proofs.Ytkgfeacednomfaa
