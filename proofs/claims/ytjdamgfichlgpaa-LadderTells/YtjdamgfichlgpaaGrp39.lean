/- Texts that were joined: DRest, DBits, DPow, DPlus, DNumP. -/
import Derived.Test.YtjdamgfichlgpaaGrp38
import Derived.Test.YtjdamgfichlgpaaDTimes
import Derived.Laws.Bits64
import Derived.Laws.Bits64b
import Derived.Test.YtjdamgfichlgpaaGrp31
/- The contract of sealringref.Rest. -/
namespace Go.Proofs.Ytjdamgfichlgpaa
open Go.RowKit
set_option maxHeartbeats 400000 in
theorem drest_fun (u v : Value) (xs ys : List Nat) (hx : P.Dg xs) (hy : P.Dg ys) (hM : 0 < P.dv ys) (lx : xs.length < 1048576) (ly : ys.length < 1048576) (w : World) (su : Sl w u xs) (sv : Sl w v ys) :
    Calls Try.prog 45 #[u, v] w fun e w' => (∃ v', e = .returned v' ∧ Sl w' v' (P.dg (P.dv xs % P.dv ys))) ∧ Below w.heap.size w w' := by
  have D : Hid _ := dparts_fun u v xs ys hx hy hM lx ly w su sv
  clear su sv
  go_enter Try.func45, Try.ntmps45
  go_wp2_with fail
  refine Calls.mono D.out ?_
  rintro e w1 ⟨⟨v1, v2, rfl, h1, h2⟩, hb1⟩
  have H2 : Hid _ := h2
  have B1 : Hid _ := hb1
  clear h1 h2 hb1
  go_wp2_with fail
  go_ret
  exact ⟨⟨v2, rfl, H2.out⟩, B1.out⟩
end Go.Proofs.Ytjdamgfichlgpaa

/- The contracts of sealringref.TwoTo (at 256) and Bits. -/
namespace Go.Proofs.Ytjdamgfichlgpaa
open Go.RowKit
theorem dg_two256 : (List.replicate 17 0).set 16 1 = P.dg (2 ^ 256) := by
  have h : P.dv ((List.replicate 17 0).set 16 1) = 2 ^ 256 := by decide
  rw [← h]
  refine P.eq_dg _ (fun x hx => ?_) (.inr (by decide))
  have : x = 0 ∨ x = 1 := by simpa using hx
  omega
set_option maxHeartbeats 1000000 in
theorem twoTo_fun (w : World) :
    Calls Try.prog 67 #[.int .i64 256] w fun e w' => (∃ v', e = .returned v' ∧ Sl w' v' (P.dg (2 ^ 256))) ∧ Below w.heap.size w w' := by
  go_enter Try.func67, Try.ntmps67
  go_wp2_with (at_make; refine wp_mk rfl _ _ rfl w.heap.size 17 _ _ rfl rfl (by decide) (by decide) (by decide) (Nat.le_refl _) ?_)
  intro w1 o1 hb1
  have s1 : Hid (Ow w1 w.heap.size (.slice (some ⟨w.heap.size, 0, none⟩) 17 17) (List.replicate 17 0)) := o1
  have b1 : Hid (Below w.heap.size w w1) := hb1
  clear o1 hb1
  obtain ⟨c3, c4⟩ := Ow.cell s1.out (by simp) 16 (by simp)
  have SS : Hid _ := Ow.set s1.out (by simp) (Nat.le_refl _) 16 1 1 rfl
  go_wp2_with fail
  go_ret
  refine ⟨⟨_, rfl, ?_⟩, b1.out.trans SS.out.2⟩
  rw [← dg_two256]
  exact Ow.sl SS.out.1
theorem i64_and1 (n : Int) : bits .and .i64 n 1 = n % 2 := by
  have h1 : (BitVec.ofInt 64 1).toNat = 2 ^ 1 - 1 := by decide
  have key : (BitVec.ofInt 64 n &&& BitVec.ofInt 64 1).toNat = (n % ((2 ^ 64 : Nat) : Int)).toNat % 2 ^ 1 := by
    rw [BitVec.toNat_and, BitVec.toNat_ofInt, h1, Nat.and_two_pow_sub_one_eq_mod]
  show IntKind.i64.wrap ((BitVec.ofInt 64 n &&& BitVec.ofInt 64 1).toNat : Nat) = n % 2
  rw [key, IntKind.wrap_i64]
  omega
/-- The bit at a place. -/
theorem bit_dig (X i : Nat) : X / 65536 ^ (i / 16) % 65536 / 2 ^ (i % 16) % 2 = X / 2 ^ i % 2 := by
  have e : (2 : Nat) ^ i = 65536 ^ (i / 16) * 2 ^ (i % 16) := by
    rw [show (65536 : Nat) = 2 ^ 16 from rfl, ← Nat.pow_mul, ← Nat.pow_add, Nat.div_add_mod]
  have e2 : (65536 : Nat) = 2 ^ (i % 16) * 2 ^ (16 - i % 16) := by
    rw [← Nat.pow_add, show i % 16 + (16 - i % 16) = 16 by omega]
  rw [e, ← Nat.div_div_eq_div_mul]
  generalize X / 65536 ^ (i / 16) = Z
  rw [e2, Nat.mod_mul_right_div_self]
  have e3 : (2 : Nat) ^ (16 - i % 16) = 2 * 2 ^ (15 - i % 16) := by rw [show 16 - i % 16 = 15 - i % 16 + 1 by omega, Nat.pow_succ, Nat.mul_comm]
  rw [e3, Nat.mod_mul_right_mod]
set_option maxHeartbeats 2000000 in
theorem bits_fun (u : Value) (xs : List Nat) (hx : P.Dg xs) (n : Nat) (hn : n < 65536) (w : World) (su : Sl w u xs) :
    Calls Try.prog 68 #[u, .int .i64 ((n : Nat) : Int)] w fun e w' => (e = .returned (.slice (some ⟨w.heap.size, 0, none⟩) n n) ∧ ∃ bs : List Nat, bs.length = n ∧ (∀ j, j < n → bs.getD j 0 = P.dv xs / 2 ^ j % 2) ∧ Ow w' w.heap.size (.slice (some ⟨w.heap.size, 0, none⟩) n n) bs) ∧ Below w.heap.size w w' := by
  have SU : Hid (Sl w u xs) := su
  clear su
  have n1 : (n : Int) < 65536 := by omega
  have n0 : (0 : Int) ≤ (n : Int) := by omega
  go_enter Try.func68, Try.ntmps68
  go_wp2_with (at_make; refine wp_mk rfl _ _ rfl w.heap.size n _ _ rfl rfl rfl rfl (by omega) (Nat.le_refl _) ?_)
  intro w1 o1 hb1
  have s1 : Hid (Ow w1 w.heap.size (.slice (some ⟨w.heap.size, 0, none⟩) n n) (List.replicate n 0)) := o1
  have b1 : Hid (Below w.heap.size w w1) := hb1
  clear o1 hb1
  go_wp2_with fail
  go_loopw [11] (fun i wr => ∃ (k : Nat) (os : List Nat), k ≤ n ∧ i = .int .i64 k ∧ os.length = n ∧ Hid (∀ j, j < k → os.getD j 0 = P.dv xs / 2 ^ j % 2) ∧ Hid (Ow wr w.heap.size (.slice (some ⟨w.heap.size, 0, none⟩) n n) os) ∧ Hid (Below w.heap.size w wr)) (fun i _ => n - (intOf i).toNat)
  case atStart => exact ⟨0, List.replicate n 0, by omega, rfl, by simp, (fun j hj => absurd hj (by omega) : ∀ j, j < 0 → (List.replicate n 0).getD j 0 = P.dv xs / 2 ^ j % 2), s1, b1⟩
  case round =>
    clear s1 b1
    obtain ⟨k, os, hk, rfl, hlen, HV, ho, hb⟩ := hrel
    by_cases h1 : k < n
    · have i1 : (k : Int) < (n : Int) := by omega
      have i0 : (0 : Int) ≤ (k : Int) := by omega
      have xl := P.dig_lt hx (k / 16)
      have BD : Hid _ := bit_dig (P.dv xs) k
      have dx := P.dig hx (k / 16)
      rw [← dx] at BD
      have DX : Hid _ := fun w' h => digit_fun u xs (k / 16) w' h
      clear dx
      generalize xs.getD (k / 16) 0 = x at *
      obtain ⟨q, hq⟩ : ∃ q, q = k / 16 := ⟨_, rfl⟩
      obtain ⟨r, hr⟩ : ∃ r, r = k % 16 := ⟨_, rfl⟩
      rw [← hr] at BD
      rw [← hq] at DX
      have r1 : r < 16 := by omega
      have KQ : (k : Int) / 16 = (q : Int) := by omega
      have KR : (k : Int) % 16 = (r : Int) := by omega
      have r2 : (r : Int) < 16 := by omega
      have r0 : (0 : Int) ≤ (r : Int) := by omega
      clear hq hr
      have x0 : (0 : Int) ≤ (x : Int) := by omega
      have x1 : (x : Int) ≤ 65535 := by omega
      go_wp2_with fail
      refine (DX.out _ (Sl.up (xs := xs) SU.out hb.out)).mono ?_
      rintro e w1 ⟨rfl, hb1⟩
      have o2 : Hid (Ow w1 w.heap.size (.slice (some ⟨w.heap.size, 0, none⟩) n n) os) := Ow.up ho.out hb1
      have b2 : Hid (Below w.heap.size w w1) := hb.out.trans (hb1.mono hb.out.size)
      clear hb1 hb ho
      obtain ⟨d3, d4⟩ := Ow.cell o2.out hlen.symm k (by omega)
      go_wp2_with fail
      go_roundw
      case rel =>
        have hz : bits .and .i64 ((x : Int) / 2 ^ r) 1 = ((x / 2 ^ r % 2 : Nat) : Int) := by
          rw [i64_and1, Int.natCast_emod, Int.natCast_ediv, Int.natCast_pow]
          rfl
        have SS := Ow.set o2.out hlen.symm (Nat.le_refl _) k (x / 2 ^ r % 2) _ hz
        refine ⟨k + 1, os.set k (x / 2 ^ r % 2), by omega, by go_num, by rw [List.length_set]; exact hlen, ?_, SS.1, b2.out.trans SS.2⟩
        refine (fun j hj => ?_ : ∀ j, j < k + 1 → (os.set k (x / 2 ^ r % 2)).getD j 0 = P.dv xs / 2 ^ j % 2)
        by_cases e : j = k
        · subst e
          rw [List.getD_eq_getElem?_getD, List.getElem?_set_self (by omega)]
          exact BD.out
        · rw [List.getD_eq_getElem?_getD, List.getElem?_set_ne (Ne.symm e), ← List.getD_eq_getElem?_getD]
          exact HV.out j (by omega)
      case measure => simp [intOf]; omega
    · have i1 : ¬ (k : Int) < (n : Int) := by omega
      have e : k = n := by omega
      subst e
      go_wp2_with fail
      go_ret
      exact ⟨⟨rfl, os, hlen, HV.out, ho.out⟩, hb.out⟩
end Go.Proofs.Ytjdamgfichlgpaa

/- The contract of sealringref.Power. -/
namespace Go.Proofs.Ytjdamgfichlgpaa
open Go.RowKit
set_option linter.unusedSimpArgs false
theorem dshort {n : Nat} (h : n < 65536 ^ 64) : (P.dg n).length < 1048576 := Nat.lt_of_le_of_lt (P.dg_len 64 h) (by decide)
theorem rest_n (X M : Nat) (hX : X < 65536 ^ 64) (hM : 0 < M) (hM2 : M < 65536 ^ 64) (u v : Value) (w : World) (su : Sl w u (P.dg X)) (sv : Sl w v (P.dg M)) :
    Calls Try.prog 45 #[u, v] w fun e w' => (∃ v', e = .returned v' ∧ Sl w' v' (P.dg (X % M))) ∧ Below w.heap.size w w' := by
  have := drest_fun u v _ _ (P.dg_Dg X) (P.dg_Dg M) (by rw [P.dv_dg]; exact hM) (dshort hX) (dshort hM2) w su sv
  rwa [P.dv_dg, P.dv_dg] at this
theorem times_n (X Y : Nat) (hX : X < 65536 ^ 64) (hY : Y < 65536 ^ 64) (u v : Value) (w : World) (su : Sl w u (P.dg X)) (sv : Sl w v (P.dg Y)) :
    Calls Try.prog 79 #[u, v] w fun e w' => (∃ v', e = .returned v' ∧ Sl w' v' (P.dg (X * Y))) ∧ Below w.heap.size w w' := by
  have := dtimes_fun u v _ _ (P.dg_Dg X) (P.dg_Dg Y) (Nat.lt_trans (dshort hX) (by decide)) (Nat.lt_trans (dshort hY) (by decide)) w su sv
  rwa [P.dv_dg, P.dv_dg] at this
theorem dg_one : P.dg 1 = [1] := by rw [P.dg_pos (by decide), show 1 / 65536 = 0 from rfl, P.dg_zero]
theorem mod_two_succ (Y k : Nat) : Y % 2 ^ (k + 1) = Y % 2 ^ k + 2 ^ k * (Y / 2 ^ k % 2) := by
  rw [Nat.pow_succ, Nat.mod_mul]
theorem pow_on (X Y M k : Nat) (h : Y / 2 ^ k % 2 = 1) : X ^ (Y % 2 ^ k) % M * (X ^ 2 ^ k % M) % M = X ^ (Y % 2 ^ (k + 1)) % M := by
  rw [mod_two_succ, h, Nat.mul_one, Nat.pow_add, ← Nat.mul_mod]
theorem pow_off (Y k : Nat) (h : Y / 2 ^ k % 2 = 0) : Y % 2 ^ (k + 1) = Y % 2 ^ k := by
  rw [mod_two_succ, h, Nat.mul_zero, Nat.add_zero]
theorem pow_sq (X M k : Nat) : X ^ 2 ^ k % M * (X ^ 2 ^ k % M) % M = X ^ 2 ^ (k + 1) % M := by
  rw [← Nat.mul_mod, ← Nat.pow_add, Nat.pow_succ, Nat.mul_two]
theorem prod_short {a b : Nat} (ha : a < 2 ^ 256) (hb : b < 2 ^ 256) : a * b < 65536 ^ 64 :=
  Nat.lt_of_lt_of_le (Nat.mul_lt_mul'' ha hb) (by decide)
end Go.Proofs.Ytjdamgfichlgpaa

/- The contract of sealringref.Plus: the sum. -/
namespace Go.Proofs.Ytjdamgfichlgpaa
open Go.RowKit
theorem sum_step {X Y o k cy x y : Nat} (h : o + 65536 ^ k * cy = X % 65536 ^ k + Y % 65536 ^ k) (hx : x = X / 65536 ^ k % 65536) (hy : y = Y / 65536 ^ k % 65536) :
    o + 65536 ^ k * ((cy + (x + y)) % 65536) + 65536 ^ (k + 1) * ((cy + (x + y)) / 65536) = X % 65536 ^ (k + 1) + Y % 65536 ^ (k + 1) := by
  rw [P.mod_pow_succ' X, P.mod_pow_succ' Y, ← hx, ← hy, Nat.pow_succ]
  have := Nat.div_add_mod (cy + (x + y)) 65536
  generalize (cy + (x + y)) / 65536 = q at *
  generalize (cy + (x + y)) % 65536 = r at *
  generalize 65536 ^ k = B at *
  generalize X % B = u at *
  generalize Y % B = v at *
  have e : B * 65536 * q + B * r = B * cy + B * x + B * y := by rw [Nat.mul_assoc, ← Nat.mul_add, this]; grind
  omega
end Go.Proofs.Ytjdamgfichlgpaa

/- The contracts of sealringref's numbers, told by numbers; TwoTo at whatever place. -/
namespace Go.Proofs.Ytjdamgfichlgpaa
open Go.RowKit
set_option linter.unusedSimpArgs false
theorem order_n (X Y : Nat) (hX : X < 65536 ^ 64) (hY : Y < 65536 ^ 64) (u v : Value) (w : World) (su : Sl w u (P.dg X)) (sv : Sl w v (P.dg Y)) :
    Calls Try.prog 78 #[u, v] w fun e w' => e = .returned (.int .i64 (cmpN X Y)) ∧ Below w.heap.size w w' := by
  have := order_fun u v _ _ (P.dg_Dg X) (P.dg_Dg Y) (Nat.lt_trans (dshort hX) (by decide)) (Nat.lt_trans (dshort hY) (by decide)) w su sv
  rwa [P.dv_dg, P.dv_dg] at this
theorem dg_twoTo (n : Nat) : (List.replicate (n / 16 + 1) 0).set (n / 16) (2 ^ (n % 16)) = P.dg (2 ^ n) := by
  have e : (List.replicate (n / 16 + 1) 0).set (n / 16) (2 ^ (n % 16)) = List.replicate (n / 16) 0 ++ [2 ^ (n % 16)] := by
    rw [List.replicate_succ', List.set_append_right _ _ (by simp)]
    simp
  have lt : 2 ^ (n % 16) < 65536 := Nat.pow_lt_pow_right (a := 2) (n := 16) (by decide) (Nat.mod_lt _ (by decide))
  have hv : P.dv (List.replicate (n / 16) 0 ++ [2 ^ (n % 16)]) = 2 ^ n := by
    rw [P.dv_append, P.dv_zeros, Nat.zero_add, List.length_replicate]
    show 65536 ^ (n / 16) * (2 ^ (n % 16) + 65536 * 0) = _
    rw [Nat.mul_zero, Nat.add_zero, show (65536 : Nat) = 2 ^ 16 from rfl, ← Nat.pow_mul, ← Nat.pow_add, Nat.div_add_mod]
  rw [e, ← hv]
  refine P.eq_dg _ (fun x hx => ?_) (.inr ?_)
  · rcases List.mem_append.1 hx with h | h
    · rw [(List.mem_replicate.1 h).2]; decide
    · rw [List.mem_singleton.1 h]; exact lt
  · have : 0 < 2 ^ (n % 16) := Nat.two_pow_pos _
    simp [List.getD_eq_getElem?_getD]
set_option maxHeartbeats 1000000 in
theorem twoTo_n (n : Nat) (hn : n ≤ 100000) (w : World) :
    Calls Try.prog 67 #[.int .i64 (n : Int)] w fun e w' => (∃ v', e = .returned v' ∧ Sl w' v' (P.dg (2 ^ n))) ∧ Below w.heap.size w w' := by
  have HD : Hid _ := dg_twoTo n
  obtain ⟨q, hq⟩ : ∃ q, q = n / 16 := ⟨_, rfl⟩
  obtain ⟨r, hr⟩ : ∃ r, r = n % 16 := ⟨_, rfl⟩
  rw [← hq, ← hr] at HD
  have wq : (n : Int).tdiv 16 = (q : Int) := by rw [Int.tdiv_eq_ediv_of_nonneg (by omega)]; omega
  have wq' : (n : Int) / 16 = (q : Int) := by omega
  have wr : (n : Int).tmod 16 = (r : Int) := by rw [Int.tmod_eq_emod_of_nonneg (by omega)]; omega
  have wr' : (n : Int) % 16 = (r : Int) := by omega
  have wz : IntKind.i64.wrap (q : Int) = (q : Int) := by rw [IntKind.wrap_i64]; omega
  have r16 : r < 16 := by omega
  have q1 : q ≤ 6250 := by omega
  have hw : wrap64 ((2 : Int) ^ r) = ((2 ^ r : Nat) : Int) := by
    have := Nat.pow_le_pow_right (n := 2) (by decide) (show r ≤ 16 by omega)
    rw [show ((2 : Int) ^ r) = ((2 ^ r : Nat) : Int) by simp]
    generalize 2 ^ r = z at *
    unfold wrap64
    omega
  clear hq hr
  go_enter Try.func67, Try.ntmps67
  go_wp2_with (at_make; refine wp_mk rfl _ _ rfl w.heap.size (q + 1) _ _ rfl rfl (by omega) (by omega) (by omega) (Nat.le_refl _) ?_)
  intro w1 o1 hb1
  have s1 : Hid (Ow w1 w.heap.size (.slice (some ⟨w.heap.size, 0, none⟩) (q + 1) (q + 1)) (List.replicate (q + 1) 0)) := o1
  have b1 : Hid (Below w.heap.size w w1) := hb1
  clear o1 hb1
  obtain ⟨c3, c4⟩ := Ow.cell s1.out (by simp) q (by simp)
  have SS : Hid _ := Ow.set s1.out (by simp) (Nat.le_refl _) q (2 ^ r) ((2 ^ r : Nat) : Int) rfl
  have i1 : (q : Int) < (q : Int) + 1 := by omega
  generalize hz : 2 ^ r = z at *
  go_wp2_with fail
  go_ret
  refine ⟨⟨_, rfl, ?_⟩, b1.out.trans SS.out.2⟩
  rw [← HD.out]
  exact Ow.sl SS.out.1
end Go.Proofs.Ytjdamgfichlgpaa
