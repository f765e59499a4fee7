/- Texts that were joined: DRest, DBits, DPow. -/
import Derived.Test.YtdcpicbkemmakaaQDParts
import Derived.Test.YtdcpicbkemmakaaQDTimes
import Derived.Laws.Bits64
import Derived.Laws.Bits64b
/- The contract of sealringref.Rest. -/
namespace Go.Proofs.Ytdcpicbkemmakaa
open Go.RowKit
set_option maxHeartbeats 400000 in
theorem drest_fun (u v : Value) (xs ys : List Nat) (hx : P.Dg xs) (hy : P.Dg ys) (hM : 0 < P.dv ys) (lx : xs.length < 1048576) (ly : ys.length < 1048576) (w : World) (su : Sl w u xs) (sv : Sl w v ys) :
    Calls Try.prog 22 #[u, v] w fun e w' => (∃ v', e = .returned v' ∧ Sl w' v' (P.dg (P.dv xs % P.dv ys))) ∧ Below w.heap.size w w' := by
  have D : Hid _ := dparts_fun u v xs ys hx hy hM lx ly w su sv
  clear su sv
  go_enter Try.func22, Try.ntmps22
  go_wp2_with fail
  refine Calls.mono D.out ?_
  rintro e w1 ⟨⟨v1, v2, rfl, h1, h2⟩, hb1⟩
  have H2 : Hid _ := h2
  have B1 : Hid _ := hb1
  clear h1 h2 hb1
  go_wp2_with fail
  go_ret
  exact ⟨⟨v2, rfl, H2.out⟩, B1.out⟩
end Go.Proofs.Ytdcpicbkemmakaa

/- The contracts of sealringref.TwoTo (at 256) and Bits. -/
namespace Go.Proofs.Ytdcpicbkemmakaa
open Go.RowKit
theorem i64_and1 (n : Int) : bits .and .i64 n 1 = n % 2 := by
  have h1 : (BitVec.ofInt 64 1).toNat = 2 ^ 1 - 1 := by decide
  have key : (BitVec.ofInt 64 n &&& BitVec.ofInt 64 1).toNat = (n % ((2 ^ 64 : Nat) : Int)).toNat % 2 ^ 1 := by
    rw [BitVec.toNat_and, BitVec.toNat_ofInt, h1, Nat.and_two_pow_sub_one_eq_mod]
  show IntKind.i64.wrap ((BitVec.ofInt 64 n &&& BitVec.ofInt 64 1).toNat : Nat) = n % 2
  rw [key, IntKind.wrap_i64]
  omega
/-- The bit at a place. -/
theorem bit_dig (X i : Nat) : X / 65536 ^ (i / 16) % 65536 / 2 ^ (i % 16) % 2 = X / 2 ^ i % 2 := by
  have e : (2 : Nat) ^ i = 65536 ^ (i / 16) * 2 ^ (i % 16) := by
    rw [show (65536 : Nat) = 2 ^ 16 from rfl, ← Nat.pow_mul, ← Nat.pow_add, Nat.div_add_mod]
  have e2 : (65536 : Nat) = 2 ^ (i % 16) * 2 ^ (16 - i % 16) := by
    rw [← Nat.pow_add, show i % 16 + (16 - i % 16) = 16 by omega]
  rw [e, ← Nat.div_div_eq_div_mul]
  generalize X / 65536 ^ (i / 16) = Z
  rw [e2, Nat.mod_mul_right_div_self]
  have e3 : (2 : Nat) ^ (16 - i % 16) = 2 * 2 ^ (15 - i % 16) := by rw [show 16 - i % 16 = 15 - i % 16 + 1 by omega, Nat.pow_succ, Nat.mul_comm]
  rw [e3, Nat.mod_mul_right_mod]
set_option maxHeartbeats 2000000 in
theorem bits_fun (u : Value) (xs : List Nat) (hx : P.Dg xs) (n : Nat) (hn : n < 65536) (w : World) (su : Sl w u xs) :
    Calls Try.prog 40 #[u, .int .i64 ((n : Nat) : Int)] w fun e w' => (e = .returned (.slice (some ⟨w.heap.size, 0, none⟩) n n) ∧ ∃ bs : List Nat, bs.length = n ∧ (∀ j, j < n → bs.getD j 0 = P.dv xs / 2 ^ j % 2) ∧ Ow w' w.heap.size (.slice (some ⟨w.heap.size, 0, none⟩) n n) bs) ∧ Below w.heap.size w w' := by
  have SU : Hid (Sl w u xs) := su
  clear su
  have n1 : (n : Int) < 65536 := by omega
  have n0 : (0 : Int) ≤ (n : Int) := by omega
  go_enter Try.func40, Try.ntmps40
  go_wp2_with (at_make; refine wp_mk rfl _ _ rfl w.heap.size n _ _ rfl rfl rfl rfl (by omega) (Nat.le_refl _) ?_)
  intro w1 o1 hb1
  have s1 : Hid (Ow w1 w.heap.size (.slice (some ⟨w.heap.size, 0, none⟩) n n) (List.replicate n 0)) := o1
  have b1 : Hid (Below w.heap.size w w1) := hb1
  clear o1 hb1
  go_wp2_with fail
  go_loopw [11] (fun i wr => ∃ (k : Nat) (os : List Nat), k ≤ n ∧ i = .int .i64 k ∧ os.length = n ∧ Hid (∀ j, j < k → os.getD j 0 = P.dv xs / 2 ^ j % 2) ∧ Hid (Ow wr w.heap.size (.slice (some ⟨w.heap.size, 0, none⟩) n n) os) ∧ Hid (Below w.heap.size w wr)) (fun i _ => n - (intOf i).toNat)
  case atStart => exact ⟨0, List.replicate n 0, by omega, rfl, by simp, (fun j hj => absurd hj (by omega) : ∀ j, j < 0 → (List.replicate n 0).getD j 0 = P.dv xs / 2 ^ j % 2), s1, b1⟩
  case round =>
    clear s1 b1
    obtain ⟨k, os, hk, rfl, hlen, HV, ho, hb⟩ := hrel
    by_cases h1 : k < n
    · have i1 : (k : Int) < (n : Int) := by omega
      have i0 : (0 : Int) ≤ (k : Int) := by omega
      have xl := P.dig_lt hx (k / 16)
      have BD : Hid _ := bit_dig (P.dv xs) k
      have dx := P.dig hx (k / 16)
      rw [← dx] at BD
      have DX : Hid _ := fun w' h => digit_fun u xs (k / 16) w' h
      clear dx
      generalize xs.getD (k / 16) 0 = x at *
      obtain ⟨q, hq⟩ : ∃ q, q = k / 16 := ⟨_, rfl⟩
      obtain ⟨r, hr⟩ : ∃ r, r = k % 16 := ⟨_, rfl⟩
      rw [← hr] at BD
      rw [← hq] at DX
      have r1 : r < 16 := by omega
      have KQ : (k : Int) / 16 = (q : Int) := by omega
      have KR : (k : Int) % 16 = (r : Int) := by omega
      have r2 : (r : Int) < 16 := by omega
      have r0 : (0 : Int) ≤ (r : Int) := by omega
      clear hq hr
      have x0 : (0 : Int) ≤ (x : Int) := by omega
      have x1 : (x : Int) ≤ 65535 := by omega
      go_wp2_with fail
      refine (DX.out _ (Sl.up (xs := xs) SU.out hb.out)).mono ?_
      rintro e w1 ⟨rfl, hb1⟩
      have o2 : Hid (Ow w1 w.heap.size (.slice (some ⟨w.heap.size, 0, none⟩) n n) os) := Ow.up ho.out hb1
      have b2 : Hid (Below w.heap.size w w1) := hb.out.trans (hb1.mono hb.out.size)
      clear hb1 hb ho
      obtain ⟨d3, d4⟩ := Ow.cell o2.out hlen.symm k (by omega)
      go_wp2_with fail
      go_roundw
      case rel =>
        have hz : bits .and .i64 ((x : Int) / 2 ^ r) 1 = ((x / 2 ^ r % 2 : Nat) : Int) := by
          rw [i64_and1, Int.natCast_emod, Int.natCast_ediv, Int.natCast_pow]
          rfl
        have SS := Ow.set o2.out hlen.symm (Nat.le_refl _) k (x / 2 ^ r % 2) _ hz
        refine ⟨k + 1, os.set k (x / 2 ^ r % 2), by omega, by go_num, by rw [List.length_set]; exact hlen, ?_, SS.1, b2.out.trans SS.2⟩
        refine (fun j hj => ?_ : ∀ j, j < k + 1 → (os.set k (x / 2 ^ r % 2)).getD j 0 = P.dv xs / 2 ^ j % 2)
        by_cases e : j = k
        · subst e
          rw [List.getD_eq_getElem?_getD, List.getElem?_set_self (by omega)]
          exact BD.out
        · rw [List.getD_eq_getElem?_getD, List.getElem?_set_ne (Ne.symm e), ← List.getD_eq_getElem?_getD]
          exact HV.out j (by omega)
      case measure => simp [intOf]; omega
    · have i1 : ¬ (k : Int) < (n : Int) := by omega
      have e : k = n := by omega
      subst e
      go_wp2_with fail
      go_ret
      exact ⟨⟨rfl, os, hlen, HV.out, ho.out⟩, hb.out⟩
end Go.Proofs.Ytdcpicbkemmakaa

/- The contract of sealringref.Power. -/
namespace Go.Proofs.Ytdcpicbkemmakaa
open Go.RowKit
set_option linter.unusedSimpArgs false
theorem dshort {n : Nat} (h : n < 65536 ^ 64) : (P.dg n).length < 1048576 := Nat.lt_of_le_of_lt (P.dg_len 64 h) (by decide)
theorem rest_n (X M : Nat) (hX : X < 65536 ^ 64) (hM : 0 < M) (hM2 : M < 65536 ^ 64) (u v : Value) (w : World) (su : Sl w u (P.dg X)) (sv : Sl w v (P.dg M)) :
    Calls Try.prog 22 #[u, v] w fun e w' => (∃ v', e = .returned v' ∧ Sl w' v' (P.dg (X % M))) ∧ Below w.heap.size w w' := by
  have := drest_fun u v _ _ (P.dg_Dg X) (P.dg_Dg M) (by rw [P.dv_dg]; exact hM) (dshort hX) (dshort hM2) w su sv
  rwa [P.dv_dg, P.dv_dg] at this
theorem times_n (X Y : Nat) (hX : X < 65536 ^ 64) (hY : Y < 65536 ^ 64) (u v : Value) (w : World) (su : Sl w u (P.dg X)) (sv : Sl w v (P.dg Y)) :
    Calls Try.prog 23 #[u, v] w fun e w' => (∃ v', e = .returned v' ∧ Sl w' v' (P.dg (X * Y))) ∧ Below w.heap.size w w' := by
  have := dtimes_fun u v _ _ (P.dg_Dg X) (P.dg_Dg Y) (Nat.lt_trans (dshort hX) (by decide)) (Nat.lt_trans (dshort hY) (by decide)) w su sv
  rwa [P.dv_dg, P.dv_dg] at this
theorem dg_one : P.dg 1 = [1] := by rw [P.dg_pos (by decide), show 1 / 65536 = 0 from rfl, P.dg_zero]
theorem mod_two_succ (Y k : Nat) : Y % 2 ^ (k + 1) = Y % 2 ^ k + 2 ^ k * (Y / 2 ^ k % 2) := by
  rw [Nat.pow_succ, Nat.mod_mul]
theorem pow_on (X Y M k : Nat) (h : Y / 2 ^ k % 2 = 1) : X ^ (Y % 2 ^ k) % M * (X ^ 2 ^ k % M) % M = X ^ (Y % 2 ^ (k + 1)) % M := by
  rw [mod_two_succ, h, Nat.mul_one, Nat.pow_add, ← Nat.mul_mod]
theorem pow_off (Y k : Nat) (h : Y / 2 ^ k % 2 = 0) : Y % 2 ^ (k + 1) = Y % 2 ^ k := by
  rw [mod_two_succ, h, Nat.mul_zero, Nat.add_zero]
theorem pow_sq (X M k : Nat) : X ^ 2 ^ k % M * (X ^ 2 ^ k % M) % M = X ^ 2 ^ (k + 1) % M := by
  rw [← Nat.mul_mod, ← Nat.pow_add, Nat.pow_succ, Nat.mul_two]
theorem prod_short {a b : Nat} (ha : a < 2 ^ 256) (hb : b < 2 ^ 256) : a * b < 65536 ^ 64 :=
  Nat.lt_of_lt_of_le (Nat.mul_lt_mul'' ha hb) (by decide)
set_option maxRecDepth 20000 in
set_option maxHeartbeats 2000000 in
theorem power_fun (X Y M : Nat) (hX : X < 65536 ^ 64) (hY : Y < 2 ^ 256) (hM : 0 < M) (hM2 : M < 2 ^ 256) (u v t : Value) (w : World) (su : Sl w u (P.dg X)) (sv : Sl w v (P.dg Y)) (st : Sl w t (P.dg M)) :
    Calls Try.prog 20 #[u, v, t] w fun e w' => (∃ v', e = .returned v' ∧ Sl w' v' (P.dg (X ^ Y % M))) ∧ Below w.heap.size w w' := by
  have m1 : M < 65536 ^ 64 := Nat.lt_trans hM2 (by decide)
  have lt : ∀ Z, Z % M < 2 ^ 256 := fun Z => Nat.lt_trans (Nat.mod_lt _ hM) hM2
  have R1 : Hid _ := rest_n 1 M (by decide) hM m1
  rw [dg_one] at R1
  have RX : Hid _ := rest_n X M hX hM m1
  have RM : Hid (∀ a b, a < 2 ^ 256 → b < 2 ^ 256 → ∀ u v w, Sl w u (P.dg (a * b)) → Sl w v (P.dg M) → Calls Try.prog 22 #[u, v] w fun e w' => (∃ v', e = .returned v' ∧ Sl w' v' (P.dg (a * b % M))) ∧ Below w.heap.size w w') := (fun a b ha hb => rest_n (a * b) M (prod_short ha hb) hM m1 : ∀ a b, a < 2 ^ 256 → b < 2 ^ 256 → ∀ u v w, Sl w u (P.dg (a * b)) → Sl w v (P.dg M) → Calls Try.prog 22 #[u, v] w fun e w' => (∃ v', e = .returned v' ∧ Sl w' v' (P.dg (a * b % M))) ∧ Below w.heap.size w w')
  have TM : Hid (∀ a b, a < 2 ^ 256 → b < 2 ^ 256 → ∀ u v w, Sl w u (P.dg a) → Sl w v (P.dg b) → Calls Try.prog 23 #[u, v] w fun e w' => (∃ v', e = .returned v' ∧ Sl w' v' (P.dg (a * b))) ∧ Below w.heap.size w w') := (fun a b ha hb => times_n a b (Nat.lt_trans ha (by decide)) (Nat.lt_trans hb (by decide)) : ∀ a b, a < 2 ^ 256 → b < 2 ^ 256 → ∀ u v w, Sl w u (P.dg a) → Sl w v (P.dg b) → Calls Try.prog 23 #[u, v] w fun e w' => (∃ v', e = .returned v' ∧ Sl w' v' (P.dg (a * b))) ∧ Below w.heap.size w w')
  obtain ⟨av, cv, rfl⟩ := sv.parts
  obtain ⟨L, hL⟩ : ∃ L, L = (P.dg Y).length := ⟨_, rfl⟩
  have L16 : L ≤ 16 := by rw [hL]; exact P.dg_len 16 (Nat.lt_of_lt_of_le hY (by decide))
  obtain ⟨n, hn⟩ : ∃ n, n = 16 * L := ⟨_, rfl⟩
  have YN : Hid (Y % 2 ^ n = Y) := by
    have h1 := P.dv_lt _ (P.dg_Dg Y)
    rw [P.dv_dg, ← hL, show (65536 : Nat) = 2 ^ 16 from rfl, ← Nat.pow_mul, ← hn] at h1
    exact (Nat.mod_eq_of_lt h1 : Y % 2 ^ n = Y)
  have BF : Hid (∀ v w, Sl w v (P.dg Y) → Calls Try.prog 40 #[v, .int .i64 ((n : Nat) : Int)] w fun e w' => (e = .returned (.slice (some ⟨w.heap.size, 0, none⟩) n n) ∧ ∃ bs : List Nat, bs.length = n ∧ (∀ j, j < n → bs.getD j 0 = Y / 2 ^ j % 2) ∧ Ow w' w.heap.size (.slice (some ⟨w.heap.size, 0, none⟩) n n) bs) ∧ Below w.heap.size w w') := by
    refine (fun v w h => ?_ : ∀ v w, Sl w v (P.dg Y) → _)
    have := bits_fun v _ (P.dg_Dg Y) n (by omega) w h
    rwa [P.dv_dg] at this
  rw [← hL] at sv ⊢
  have SU : Hid (Sl w u (P.dg X)) := su
  have SV : Hid (Sl w (.slice av L cv) (P.dg Y)) := sv
  have ST : Hid (Sl w t (P.dg M)) := st
  have LT : Hid (∀ Z, Z % M < 2 ^ 256) := lt
  have e16 : (16 : Int) * (L : Int) = (n : Int) := by omega
  have n0 : (0 : Int) ≤ (n : Int) := by omega
  have n1 : (n : Int) ≤ 256 := by omega
  have ML : Hid (1 % M = X ^ (Y % 2 ^ 0) % M ∧ X % M = X ^ 2 ^ 0 % M) := (⟨by rw [Nat.pow_zero, Nat.mod_one, Nat.pow_zero], by rw [Nat.pow_zero, Nat.pow_one]⟩ : 1 % M = X ^ (Y % 2 ^ 0) % M ∧ X % M = X ^ 2 ^ 0 % M)
  clear su sv st lt hX hY hM hM2 m1 hL hn
  go_enter Try.func20, Try.ntmps20
  go_wp2_with fail
  refine (R1.out _ _ _ (Sl.one w 1 1 rfl) (Sl.up (xs := P.dg M) ST.out ((Below.refl _ _).alloc (Nat.le_refl _) _))).mono ?_
  rintro e w1 ⟨⟨o1, rfl, s1⟩, hb⟩
  have B1 : Hid (Below w.heap.size w w1) := ((Below.refl _ _).alloc (Nat.le_refl _) _).trans (hb.mono (by simp))
  have O1 : Hid (Sl w1 o1 (P.dg (1 % M))) := s1
  clear hb s1 R1
  go_wp2_with fail
  refine (RX.out _ _ _ (Sl.up (xs := P.dg X) SU.out B1.out) (Sl.up (xs := P.dg M) ST.out B1.out)).mono ?_
  rintro e w2 ⟨⟨a2, rfl, s2⟩, hb⟩
  have B2 : Hid (Below w.heap.size w w2) := B1.out.trans (hb.mono B1.out.size)
  have O2 : Hid (Sl w2 o1 (P.dg (1 % M))) := Sl.up (xs := P.dg (1 % M)) O1.out hb
  have A2 : Hid (Sl w2 a2 (P.dg (X % M))) := s2
  clear hb s2 RX O1 B1
  go_wp2_with fail
  refine (BF.out _ _ (Sl.up (xs := P.dg Y) SV.out B2.out)).mono ?_
  rintro e w3 ⟨⟨rfl, bs, lb, hbs, ob⟩, hb⟩
  have B3 : Hid (Below w.heap.size w w3) := B2.out.trans (hb.mono B2.out.size)
  have O3 : Hid (Sl w3 o1 (P.dg (X ^ (Y % 2 ^ 0) % M))) := by rw [← ML.out.1]; exact Sl.up (xs := P.dg (1 % M)) O2.out hb
  have A3 : Hid (Sl w3 a2 (P.dg (X ^ 2 ^ 0 % M))) := by rw [← ML.out.2]; exact Sl.up (xs := P.dg (X % M)) A2.out hb
  have HC : Hid (∀ j, j < n → w3.cell? ⟨w2.heap.size, j, none⟩ = some (.int .i64 ((Y / 2 ^ j % 2 : Nat) : Int))) := (fun j hj => by rw [← hbs j hj]; exact (Ow.cell ob lb.symm j (by omega)).1 : ∀ j, j < n → w3.cell? ⟨w2.heap.size, j, none⟩ = some (.int .i64 ((Y / 2 ^ j % 2 : Nat) : Int)))
  clear hb ob hbs lb bs BF SU SV O2 A2 B2 ML
  generalize w2.heap.size = g at *
  go_wp2_with fail
  go_loopw [0, 7, 22] (fun av ov i wr => ∃ (k : Nat), k ≤ n ∧ i = .int .i64 k ∧ Hid (Sl wr av (P.dg (X ^ 2 ^ k % M))) ∧ Hid (Sl wr ov (P.dg (X ^ (Y % 2 ^ k) % M))) ∧ Hid (Below w3.heap.size w3 wr)) (fun _ _ i _ => n - (intOf i).toNat)
  case atStart => exact ⟨0, by omega, rfl, A3, O3, Below.refl _ _⟩
  case round =>
    clear A3 O3
    obtain ⟨k, hk, rfl, sa, so, hb⟩ := hrel
    by_cases h1 : k < n
    · have i1 : (k : Int) < (n : Int) := by omega
      have k0 : (0 : Int) ≤ (k : Int) := by omega
      have c0 := HC.out k h1
      have C0 : Hid (wr.cell? ⟨g, k, none⟩ = _) := (hb.out.cell (p := ⟨g, k, none⟩) (lt_of_cell c0)).trans c0
      have TR : Hid (Sl wr t (P.dg M)) := Sl.up (xs := P.dg M) ST.out (B3.out.trans (hb.out.mono B3.out.size))
      clear c0
      rcases Nat.mod_two_eq_zero_or_one (Y / 2 ^ k) with hz | hz
      · have C1 := C0.out
        rw [hz] at C1
        have PO : Hid (X ^ (Y % 2 ^ (k + 1)) % M = X ^ (Y % 2 ^ k) % M) := (by rw [pow_off Y k hz] : X ^ (Y % 2 ^ (k + 1)) % M = X ^ (Y % 2 ^ k) % M)
        clear hz C0
        go_wp2_with fail
        refine (TM.out _ _ (LT.out _) (LT.out _) _ _ _ sa.out sa.out).mono ?_
        rintro e w5 ⟨⟨v5, rfl, s5⟩, hb5⟩
        have S5 : Hid (Sl w5 v5 (P.dg (X ^ 2 ^ k % M * (X ^ 2 ^ k % M)))) := s5
        have T5 : Hid (Sl w5 t (P.dg M)) := Sl.up (xs := P.dg M) TR.out hb5
        have O5 : Hid (Sl w5 u7 (P.dg (X ^ (Y % 2 ^ k) % M))) := Sl.up (xs := P.dg (X ^ (Y % 2 ^ k) % M)) so.out hb5
        have B5 : Hid (Below w3.heap.size w3 w5) := hb.out.trans (hb5.mono hb.out.size)
        clear s5 hb5
        go_wp2_with fail
        refine (RM.out _ _ (LT.out _) (LT.out _) _ _ _ S5.out T5.out).mono ?_
        rintro e w6 ⟨⟨v6, rfl, s6⟩, hb6⟩
        rw [pow_sq] at s6
        have A6 : Hid (Sl w6 v6 (P.dg (X ^ 2 ^ (k + 1) % M))) := s6
        have O6 : Hid (Sl w6 u7 (P.dg (X ^ (Y % 2 ^ k) % M))) := Sl.up (xs := P.dg (X ^ (Y % 2 ^ k) % M)) O5.out hb6
        have B6 : Hid (Below w3.heap.size w3 w6) := B5.out.trans (hb6.mono B5.out.size)
        clear s6 hb6 S5 T5 O5 B5
        go_wp2_with fail
        go_roundw
        case rel => exact ⟨k + 1, by omega, by go_num, A6, by rw [PO.out]; exact O6, B6⟩
        case measure => simp [intOf]; omega
      · have C1 := C0.out
        rw [hz] at C1
        have PO : Hid (X ^ (Y % 2 ^ k) % M * (X ^ 2 ^ k % M) % M = X ^ (Y % 2 ^ (k + 1)) % M) := pow_on X Y M k hz
        clear hz C0
        go_wp2_with fail
        refine (TM.out _ _ (LT.out _) (LT.out _) _ _ _ so.out sa.out).mono ?_
        rintro e w7 ⟨⟨v7, rfl, s7⟩, hb7⟩
        have S7 : Hid (Sl w7 v7 (P.dg (X ^ (Y % 2 ^ k) % M * (X ^ 2 ^ k % M)))) := s7
        have T7 : Hid (Sl w7 t (P.dg M)) := Sl.up (xs := P.dg M) TR.out hb7
        have A7 : Hid (Sl w7 u0 (P.dg (X ^ 2 ^ k % M))) := Sl.up (xs := P.dg (X ^ 2 ^ k % M)) sa.out hb7
        have B7 : Hid (Below w3.heap.size w3 w7) := hb.out.trans (hb7.mono hb.out.size)
        clear s7 hb7 so sa hb TR
        go_wp2_with fail
        refine (RM.out _ _ (LT.out _) (LT.out _) _ _ _ S7.out T7.out).mono ?_
        rintro e w8 ⟨⟨v8, rfl, s8⟩, hb8⟩
        rw [PO.out] at s8
        have S8 : Hid (Sl w8 v8 (P.dg (X ^ (Y % 2 ^ (k + 1)) % M))) := s8
        have T8 : Hid (Sl w8 t (P.dg M)) := Sl.up (xs := P.dg M) T7.out hb8
        have A8 : Hid (Sl w8 u0 (P.dg (X ^ 2 ^ k % M))) := Sl.up (xs := P.dg (X ^ 2 ^ k % M)) A7.out hb8
        have B8 : Hid (Below w3.heap.size w3 w8) := B7.out.trans (hb8.mono B7.out.size)
        clear s8 hb8 S7 T7 A7 B7
        go_wp2_with fail
        refine (TM.out _ _ (LT.out _) (LT.out _) _ _ _ A8.out A8.out).mono ?_
        rintro e w5 ⟨⟨v5, rfl, s5⟩, hb5⟩
        have S5 : Hid (Sl w5 v5 (P.dg (X ^ 2 ^ k % M * (X ^ 2 ^ k % M)))) := s5
        have T5 : Hid (Sl w5 t (P.dg M)) := Sl.up (xs := P.dg M) T8.out hb5
        have O5 : Hid (Sl w5 v8 (P.dg (X ^ (Y % 2 ^ (k + 1)) % M))) := Sl.up (xs := P.dg (X ^ (Y % 2 ^ (k + 1)) % M)) S8.out hb5
        have B5 : Hid (Below w3.heap.size w3 w5) := B8.out.trans (hb5.mono B8.out.size)
        clear s5 hb5
        go_wp2_with fail
        refine (RM.out _ _ (LT.out _) (LT.out _) _ _ _ S5.out T5.out).mono ?_
        rintro e w6 ⟨⟨v6, rfl, s6⟩, hb6⟩
        rw [pow_sq] at s6
        have A6 : Hid (Sl w6 v6 (P.dg (X ^ 2 ^ (k + 1) % M))) := s6
        have O6 : Hid (Sl w6 v8 (P.dg (X ^ (Y % 2 ^ (k + 1)) % M))) := Sl.up (xs := P.dg (X ^ (Y % 2 ^ (k + 1)) % M)) O5.out hb6
        have B6 : Hid (Below w3.heap.size w3 w6) := B5.out.trans (hb6.mono B5.out.size)
        clear s6 hb6 S5 T5 O5 B5
        go_wp2_with fail
        go_roundw
        case rel => exact ⟨k + 1, by omega, by go_num, A6, O6, B6⟩
        case measure => simp [intOf]; omega
    · have i1 : ¬ (k : Int) < (n : Int) := by omega
      have e : k = n := by omega
      subst e
      rw [YN.out] at so
      go_wp2_with fail
      go_ret
      exact ⟨⟨_, rfl, so.out⟩, B3.out.trans (hb.out.mono B3.out.size)⟩
end Go.Proofs.Ytdcpicbkemmakaa
