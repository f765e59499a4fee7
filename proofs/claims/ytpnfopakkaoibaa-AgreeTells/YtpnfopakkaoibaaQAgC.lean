/- Package agree, as it landed: its contracts. -/
import Derived.Test.YtpnfopakkaoibaaQPrimeLToAgM
import Derived.Test.YtpnfopakkaoibaaQLdLToLadderIs
import Derived.Test.YtpnfopakkaoibaaQOctToCurvePk
namespace Go.Proofs.Ytpnfopakkaoibaa
open Go.RowKit
attribute [local go_sem] World.cell?_alloc_some cell_alloc2 cell_alloc3 cell_alloc4 frozen?_alloc_cells frozen_out
set_option linter.unusedSimpArgs false
theorem and_n8 (x : Nat) (hx : x < 18446744073709551616) : x &&& 18446744073709551608 = x / 8 * 8 := by
  have e : x / 8 * 8 = (x >>> 3) <<< 3 := by rw [Nat.shiftRight_eq_div_pow, Nat.shiftLeft_eq]
  have m : 18446744073709551608 = (2 ^ 61 - 1) <<< 3 := by decide
  rw [e, m]
  apply Nat.eq_of_testBit_eq
  intro i
  rw [Nat.testBit_and, Nat.testBit_shiftLeft, Nat.testBit_shiftLeft, Nat.testBit_two_pow_sub_one, Nat.testBit_shiftRight]
  by_cases h : 3 ≤ i
  · rw [show 3 + (i - 3) = i by omega]
    by_cases h2 : i - 3 < 61
    · simp [h, h2]
    · have : x.testBit i = false := Nat.testBit_lt_two_pow (Nat.lt_of_lt_of_le hx (by
        have : 2 ^ 64 ≤ 2 ^ i := Nat.pow_le_pow_right (by omega) (by omega)
        exact this))
      simp [this]
  · simp [h]
theorem not_7 {a : Int} (h : Word a) : bits .andNot .u64 a 7 = a / 8 * 8 := by
  obtain ⟨a, rfl⟩ := Int.eq_ofNat_of_zero_le h.1
  have ha : a < 18446744073709551616 := by have := h.2; omega
  have := u64_andNot_nat a 7 ha (by decide)
  rw [show ((7 : Nat) : Int) = 7 from rfl] at this
  rw [this, show 18446744073709551615 - 7 = 18446744073709551608 from rfl, and_n8 a ha]
  rfl
theorem not_63 {d : Int} (h : Word d) : bits .andNot .u64 d 9223372036854775808 = d % 9223372036854775808 := by
  obtain ⟨d, rfl⟩ := Int.eq_ofNat_of_zero_le h.1
  have hd : d < 18446744073709551616 := by have := h.2; omega
  have := u64_andNot_nat d 9223372036854775808 hd (by decide)
  rw [show ((9223372036854775808 : Nat) : Int) = 9223372036854775808 from rfl] at this
  rw [this, show 18446744073709551615 - 9223372036854775808 = 2 ^ 63 - 1 from rfl, Nat.and_two_pow_sub_one_eq_mod]
  rfl
theorem or_n62 (x : Nat) (hx : x < 9223372036854775808) : x ||| 4611686018427387904 = 4611686018427387904 + x % 4611686018427387904 := by
  have j : ∀ r, r < 4611686018427387904 → 4611686018427387904 ||| r = 4611686018427387904 + r := fun r hr => nat_join 62 4611686018427387904 r (by decide) hr
  have hr : x % 4611686018427387904 < 4611686018427387904 := Nat.mod_lt _ (by decide)
  have hc : x = x % 4611686018427387904 ∨ x = 4611686018427387904 + x % 4611686018427387904 := by omega
  rcases hc with e | e
  · rw [← e, Nat.or_comm]
    exact j x (by omega)
  · conv => lhs; rw [e, ← j _ hr]
    rw [Nat.or_comm, ← Nat.or_assoc, Nat.or_self, j _ hr]
theorem or_62 {d : Int} (h : 0 ≤ d) (h2 : d < 9223372036854775808) : bits .or .u64 d 4611686018427387904 = 4611686018427387904 + d % 4611686018427387904 := by
  obtain ⟨d, rfl⟩ := Int.eq_ofNat_of_zero_le h
  have hd : d < 9223372036854775808 := by omega
  have := u64_or_nat d 4611686018427387904 (by omega) (by decide)
  rw [show ((4611686018427387904 : Nat) : Int) = 4611686018427387904 from rfl] at this
  rw [this, or_n62 d hd]
  rfl
abbrev clR (s : Nm) : Nm := ⟨bits .andNot .u64 s.a 7, s.b, s.c, bits .or .u64 (bits .andNot .u64 s.d 9223372036854775808) 4611686018427387904⟩
abbrev foN (s : Nm) : Nm := ⟨s.a, s.b, s.c, bits .andNot .u64 s.d 9223372036854775808⟩
theorem foN_nat {x : Nm} (ox : x.ok) : (foN x).ok ∧ (foN x).nat = x.nat % 2 ^ 255 := by
  have hd := not_63 ox.d
  have oA : (foN x).ok := ⟨ox.a, ox.b, ox.c, by show Word (bits .andNot .u64 x.d 9223372036854775808); rw [hd]; constructor <;> omega⟩
  refine ⟨oA, ?_⟩
  have e1 := Nm.nat_cast oA
  have e2 := Nm.nat_cast ox
  have e3 : (foN x).val = x.a + 18446744073709551616 * (x.b + 18446744073709551616 * (x.c + 18446744073709551616 * (x.d % 9223372036854775808))) := by
    show x.a + _ * (x.b + _ * (x.c + _ * (bits .andNot .u64 x.d 9223372036854775808))) = _
    rw [hd]
  have e4 : x.val = x.a + 18446744073709551616 * (x.b + 18446744073709551616 * (x.c + 18446744073709551616 * x.d)) := rfl
  have p255 : (2 : Nat) ^ 255 = 57896044618658097711785492504343953926634992332820282019728792003956564819968 := by decide
  rw [p255]
  obtain ⟨⟨_, _⟩, ⟨_, _⟩, ⟨_, _⟩, ⟨_, _⟩⟩ := ox
  omega
theorem clR_nat {x : Nm} (ox : x.ok) : (clR x).ok ∧ (clR x).nat = Ag.cl x.nat := by
  have ha := not_7 ox.a
  have hd := not_63 ox.d
  have hm : 0 ≤ x.d % 9223372036854775808 ∧ x.d % 9223372036854775808 < 9223372036854775808 := by omega
  have hd2 := or_62 hm.1 hm.2
  rw [← hd] at hd2
  have oA : (clR x).ok := ⟨by show Word (bits .andNot .u64 x.a 7); rw [ha]; have := ox.a.1; have := ox.a.2; constructor <;> omega, ox.b, ox.c, by show Word (bits .or .u64 (bits .andNot .u64 x.d 9223372036854775808) 4611686018427387904); rw [hd2, hd]; constructor <;> omega⟩
  refine ⟨oA, ?_⟩
  have e1 := Nm.nat_cast oA
  have e2 := Nm.nat_cast ox
  have e3 : (clR x).val = x.a / 8 * 8 + 18446744073709551616 * (x.b + 18446744073709551616 * (x.c + 18446744073709551616 * (4611686018427387904 + x.d % 9223372036854775808 % 4611686018427387904))) := by
    show bits .andNot .u64 x.a 7 + _ * (x.b + _ * (x.c + _ * (bits .or .u64 (bits .andNot .u64 x.d 9223372036854775808) 4611686018427387904))) = _
    rw [hd2, ha, hd]
  have e4 : x.val = x.a + 18446744073709551616 * (x.b + 18446744073709551616 * (x.c + 18446744073709551616 * x.d)) := rfl
  unfold Ag.cl
  rw [Ag.p254_is]
  obtain ⟨⟨_, _⟩, ⟨_, _⟩, ⟨_, _⟩, ⟨_, _⟩⟩ := ox
  omega
set_option maxRecDepth 20000 in
set_option maxHeartbeats 1000000 in
theorem clamp_walk (n : Nat) (s : Nm)
    (F1 : ∀ w, Calls Try.prog 21 #[.agg (bR (n)).toArray] w fun e w' => e = .returned (N s) ∧ Below w.heap.size w w')
    (w : World) :
    Calls Try.prog 10 #[bV n] w fun e w' => e = .returned (N (clR s)) ∧ Below w.heap.size w w' := by
  go_enter Try.func10, Try.ntmps10
  have s0 : Hid (Kn (kz4 (w.alloc (.cells (bR (n)).toArray 22))) [(w.heap.size + 1, zz4), (w.heap.size, (bR (n)))]) := (((Kn.nil w).al (bR (n)) 22 rfl).al zz4 28 (by simp))
  have b0 : Hid (Below w.heap.size w (kz4 (w.alloc (.cells (bR (n)).toArray 22)))) := (((Below.refl _ _).alloc (Nat.le_refl _) _).alloc (by simp <;> omega) _)
  go_wp2_with (first | refine wp_ldW rfl 22 _ rfl (w.heap.size) 0 rfl (bR (n)) _ (Kn.rng s0.out 1 rfl) Try.underlying22 rfl (info_bR (n)) ?_)
  refine (F1 _).mono ?_
  rintro e w1 ⟨rfl, hb1⟩
  have s1 : Hid (Kn w1 [(w.heap.size + 1, zz4), (w.heap.size, (bR (n)))]) := s0.out.up hb1
  have b1 : Hid (Below w.heap.size w w1) := b0.out.trans (hb1.mono b0.out.size)
  have z1 := b1.out.size
  clear hb1 s0 b0
  have s2 : Hid (Kn (kal4 w1 (clR s)) [(w1.heap.size, (c4 (clR s))), (w.heap.size + 1, zz4), (w.heap.size, (bR (n)))]) := s1.out.al (c4 (clR s)) 28 rfl
  have b2 : Hid (Below w.heap.size w (kal4 w1 (clR s))) := b1.out.alloc b1.out.size _
  have z2 := b1.out.size
  clear s1 b1
  have uro_0 : (kal4 w1 (clR s)).cell? ⟨w.heap.size + 1, 0, none⟩ = some (.int .u64 0) := Kn.get s2.out 1 0 rfl rfl
  have uro_1 : (kal4 w1 (clR s)).cell? ⟨w.heap.size + 1, 1, none⟩ = some (.int .u64 0) := Kn.get s2.out 1 1 rfl rfl
  have uro_2 : (kal4 w1 (clR s)).cell? ⟨w.heap.size + 1, 2, none⟩ = some (.int .u64 0) := Kn.get s2.out 1 2 rfl rfl
  have uro_3 : (kal4 w1 (clR s)).cell? ⟨w.heap.size + 1, 3, none⟩ = some (.int .u64 0) := Kn.get s2.out 1 3 rfl rfl
  have uro_z : ∀ j, (kal4 w1 (clR s)).frozen? ⟨w.heap.size + 1, j, none⟩ = false := Kn.fz s2.out 1 rfl
  have s3 : Hid (Kn (st4 (kal4 w1 (clR s)) (w.heap.size + 1) (clR s)) [(w.heap.size + 1, (c4 (clR s))), (w1.heap.size, (c4 (clR s))), (w.heap.size, (bR (n)))]) := Kn.st4 (L := [(w1.heap.size, (c4 (clR s))), (w.heap.size, (bR (n)))]) (s2.out.front 1 rfl) (clR s)
  have b3 : Hid (Below w.heap.size w (st4 (kal4 w1 (clR s)) (w.heap.size + 1) (clR s))) := below_st4 b2.out (by omega)
  clear s2 b2
  go_wp2_with fail
  clear uro_0 uro_1 uro_2 uro_3 uro_z
  have urr_0 : (st4 (kal4 w1 (clR s)) (w.heap.size + 1) (clR s)).cell? ⟨w.heap.size + 1, 0, none⟩ = some (.int .u64 (clR s).a) := Kn.get s3.out 0 0 rfl rfl
  have urr_1 : (st4 (kal4 w1 (clR s)) (w.heap.size + 1) (clR s)).cell? ⟨w.heap.size + 1, 1, none⟩ = some (.int .u64 (clR s).b) := Kn.get s3.out 0 1 rfl rfl
  have urr_2 : (st4 (kal4 w1 (clR s)) (w.heap.size + 1) (clR s)).cell? ⟨w.heap.size + 1, 2, none⟩ = some (.int .u64 (clR s).c) := Kn.get s3.out 0 2 rfl rfl
  have urr_3 : (st4 (kal4 w1 (clR s)) (w.heap.size + 1) (clR s)).cell? ⟨w.heap.size + 1, 3, none⟩ = some (.int .u64 (clR s).d) := Kn.get s3.out 0 3 rfl rfl
  refine bodyPost_ret (v := N (clR s)) ?_ rfl ⟨rfl, b3.out⟩
  show (results Try.f10 _).run Try.prog (st4 (kal4 w1 (clR s)) (w.heap.size + 1) (clR s)) = .ok _ (st4 (kal4 w1 (clR s)) (w.heap.size + 1) (clR s))
  clear s3 b3
  generalize (st4 (kal4 w1 (clR s)) (w.heap.size + 1) (clR s)) = W9 at *
  simp [results, Try.results10, go_sem, urr_0, urr_1, urr_2, urr_3]
theorem clamp_fun (n : Nat) (hn : n < 2 ^ 256) (w : World) : Calls Try.prog 10 #[bV n] w fun e w' => e = .returned (N (nm (Ag.cl n))) ∧ Below w.heap.size w w' := by
  have h := clR_nat (nm_ok n)
  rw [nm_nat hn] at h
  have := clamp_walk n (nm n) (of_n n hn) w
  rwa [Nm.eq_nm h.1 h.2] at this
set_option maxRecDepth 20000 in
set_option maxHeartbeats 1000000 in
theorem public_walk (n m : Nat) (c l : Nm)
    (CL : ∀ w, Calls Try.prog 10 #[.agg (bR (n)).toArray] w fun e w' => e = .returned (N c) ∧ Below w.heap.size w w')
    (LA : ∀ w, Calls Try.prog 22 #[N c, N ⟨9,0,0,0⟩] w fun e w' => e = .returned (N l) ∧ Below w.heap.size w w')
    (BY : ∀ w, Calls Try.prog 16 #[N l] w fun e w' => e = .returned (.agg (bR (m)).toArray) ∧ Below w.heap.size w w')
    (w : World) :
    Calls Try.prog 12 #[bV n] w fun e w' => e = .returned (bV m) ∧ Below w.heap.size w w' := by
  go_enter Try.func12, Try.ntmps12
  have s0 : Hid (Kn ((w.alloc (.cells (bR (n)).toArray 22)).alloc (.cells #[Value.int IntKind.u8 0, Value.int IntKind.u8 0, Value.int IntKind.u8 0, Value.int IntKind.u8 0, Value.int IntKind.u8 0, Value.int IntKind.u8 0, Value.int IntKind.u8 0, Value.int IntKind.u8 0, Value.int IntKind.u8 0, Value.int IntKind.u8 0, Value.int IntKind.u8 0, Value.int IntKind.u8 0, Value.int IntKind.u8 0, Value.int IntKind.u8 0, Value.int IntKind.u8 0, Value.int IntKind.u8 0, Value.int IntKind.u8 0, Value.int IntKind.u8 0, Value.int IntKind.u8 0, Value.int IntKind.u8 0, Value.int IntKind.u8 0, Value.int IntKind.u8 0, Value.int IntKind.u8 0, Value.int IntKind.u8 0, Value.int IntKind.u8 0, Value.int IntKind.u8 0, Value.int IntKind.u8 0, Value.int IntKind.u8 0, Value.int IntKind.u8 0, Value.int IntKind.u8 0, Value.int IntKind.u8 0, Value.int IntKind.u8 0] 22)) [(w.heap.size + 1, bZ), (w.heap.size, (bR (n)))]) := (((Kn.nil w).al (bR (n)) 22 rfl).al bZ 22 (by simp))
  have b0 : Hid (Below w.heap.size w ((w.alloc (.cells (bR (n)).toArray 22)).alloc (.cells #[Value.int IntKind.u8 0, Value.int IntKind.u8 0, Value.int IntKind.u8 0, Value.int IntKind.u8 0, Value.int IntKind.u8 0, Value.int IntKind.u8 0, Value.int IntKind.u8 0, Value.int IntKind.u8 0, Value.int IntKind.u8 0, Value.int IntKind.u8 0, Value.int IntKind.u8 0, Value.int IntKind.u8 0, Value.int IntKind.u8 0, Value.int IntKind.u8 0, Value.int IntKind.u8 0, Value.int IntKind.u8 0, Value.int IntKind.u8 0, Value.int IntKind.u8 0, Value.int IntKind.u8 0, Value.int IntKind.u8 0, Value.int IntKind.u8 0, Value.int IntKind.u8 0, Value.int IntKind.u8 0, Value.int IntKind.u8 0, Value.int IntKind.u8 0, Value.int IntKind.u8 0, Value.int IntKind.u8 0, Value.int IntKind.u8 0, Value.int IntKind.u8 0, Value.int IntKind.u8 0, Value.int IntKind.u8 0, Value.int IntKind.u8 0] 22))) := (((Below.refl _ _).alloc (Nat.le_refl _) _).alloc (by simp <;> omega) _)
  go_wp2_with (first | refine wp_ldW rfl 22 _ rfl (w.heap.size) 0 rfl (bR (n)) _ (Kn.rng s0.out 1 rfl) Try.underlying22 rfl (info_bR (n)) ?_ | simp only [zero_b32])
  refine (CL _).mono ?_
  rintro e w1 ⟨rfl, hb1⟩
  have s1 : Hid (Kn w1 [(w.heap.size + 1, bZ), (w.heap.size, (bR (n)))]) := s0.out.up hb1
  have b1 : Hid (Below w.heap.size w w1) := b0.out.trans (hb1.mono b0.out.size)
  have z1 := b1.out.size
  clear hb1 s0 b0
  go_wp2_with fail
  refine (LA _).mono ?_
  rintro e w2 ⟨rfl, hb2⟩
  have s2 : Hid (Kn w2 [(w.heap.size + 1, bZ), (w.heap.size, (bR (n)))]) := s1.out.up hb2
  have b2 : Hid (Below w.heap.size w w2) := b1.out.trans (hb2.mono b1.out.size)
  have z2 := b2.out.size
  clear hb2 s1 b1
  go_wp2_with fail
  refine (BY _).mono ?_
  rintro e w3 ⟨rfl, hb3⟩
  have s3 : Hid (Kn w3 [(w.heap.size + 1, bZ), (w.heap.size, (bR (n)))]) := s2.out.up hb3
  have b3 : Hid (Below w.heap.size w w3) := b2.out.trans (hb3.mono b2.out.size)
  have z3 := b3.out.size
  clear hb3 s2 b2
  have s4x : Hid (Kn w3 [(w.heap.size + 1, bZ), (w.heap.size, (bR (n)))]) := s3.out.front 0 rfl
  have b4x : Hid (Below w.heap.size w w3) := b3.out
  have TT4 : Hid (w3.there (w.heap.size + 1) 0 (bR (m)).length) := Kn.there s4x.out 0 rfl (by rw [(bR_length (m)), bZ_length])
  go_wp2_with (first | refine I.wp_store_eq rfl 22 _ _ rfl (w.heap.size + 1) 0 (bR (m)) rfl rfl TT4.out (info_bR (m)) (bR_one (m)) ?_)
  intro w4 hw4
  try simp only [Act.put, List.setIfInBounds_toArray, List.set_cons_succ, List.set_cons_zero]
  have s4 : Hid (Kn w4 [(w.heap.size + 1, (bR (m))), (w.heap.size, (bR (n)))]) := by rw [hw4.out]; exact Kn.put s4x.out (by rw [(bR_length (m)), bZ_length])
  have b4 : Hid (Below w.heap.size w w4) := by rw [hw4.out]; exact I.below_setCells _ _ _ b4x.out (by omega)
  have z4 := b4.out.size
  clear hw4 s4x b4x TT4 s3 b3
  go_wp2_with fail
  exact bodyPost_ret (v := bV m) (I.results_cell (b := w.heap.size + 1) rfl rfl (Kn.rng s4.out 0 rfl) Try.underlying22 rfl (info_bR (m))) rfl ⟨rfl, b4.out⟩
theorem nine_ok : (⟨9, 0, 0, 0⟩ : Nm).ok := by constructor <;> (constructor <;> decide)
theorem public_fun (n : Nat) (hn : n < 2 ^ 256) (w : World) : Calls Try.prog 12 #[bV n] w fun e w' => e = .returned (bV (Ag.pub n)) ∧ Below w.heap.size w w' := by
  have LA := lLadC (nm (Ag.cl n)) ⟨9, 0, 0, 0⟩ (nm_ok _) nine_ok
  rw [nm_nat (Ag.cl_lt256 n), show (⟨9, 0, 0, 0⟩ : Nm).nat = 9 from rfl] at LA
  exact public_walk n _ _ _ (clamp_fun n hn) LA (bytes_n _ (Ag.lt_256 (Ag.pub_lt n))) w
set_option maxHeartbeats 1000000 in
theorem isZero_yes (w : World) : Calls Try.prog 23 #[N ⟨0, 0, 0, 0⟩] w fun e w' => e = .returned (.bool true) ∧ Below w.heap.size w w' := by
  have z : bits .or .u64 0 0 = 0 := by decide
  go_enter Try.func23, Try.ntmps23
  have s0 : Hid (Kn (kal4 w ((⟨0,0,0,0⟩:Nm))) [(w.heap.size, (c4 ((⟨0,0,0,0⟩:Nm))))]) := ((Kn.nil w).al (c4 ((⟨0,0,0,0⟩:Nm))) 28 rfl)
  have b0 : Hid (Below w.heap.size w (kal4 w ((⟨0,0,0,0⟩:Nm)))) := ((Below.refl _ _).alloc (Nat.le_refl _) _)
  have ua_0 : (kal4 w ((⟨0,0,0,0⟩:Nm))).cell? ⟨w.heap.size, 0, none⟩ = some (.int .u64 ((⟨0,0,0,0⟩:Nm)).a) := Kn.get s0.out 0 0 rfl rfl
  have ua_1 : (kal4 w ((⟨0,0,0,0⟩:Nm))).cell? ⟨w.heap.size, 1, none⟩ = some (.int .u64 ((⟨0,0,0,0⟩:Nm)).b) := Kn.get s0.out 0 1 rfl rfl
  have ua_2 : (kal4 w ((⟨0,0,0,0⟩:Nm))).cell? ⟨w.heap.size, 2, none⟩ = some (.int .u64 ((⟨0,0,0,0⟩:Nm)).c) := Kn.get s0.out 0 2 rfl rfl
  have ua_3 : (kal4 w ((⟨0,0,0,0⟩:Nm))).cell? ⟨w.heap.size, 3, none⟩ = some (.int .u64 ((⟨0,0,0,0⟩:Nm)).d) := Kn.get s0.out 0 3 rfl rfl
  go_wp2_with fail
  clear ua_0 ua_1 ua_2 ua_3
  go_ret
  exact ⟨rfl, b0.out⟩
set_option maxHeartbeats 1000000 in
theorem isZero_no (x : Nm) (o : Int) (ho : bits .or .u64 (bits .or .u64 (bits .or .u64 x.a x.b) x.c) x.d = o) (hz : (o == 0) = false) (w : World) : Calls Try.prog 23 #[N x] w fun e w' => e = .returned (.bool false) ∧ Below w.heap.size w w' := by
  go_enter Try.func23, Try.ntmps23
  have s0 : Hid (Kn (kal4 w (x)) [(w.heap.size, (c4 (x)))]) := ((Kn.nil w).al (c4 (x)) 28 rfl)
  have b0 : Hid (Below w.heap.size w (kal4 w (x))) := ((Below.refl _ _).alloc (Nat.le_refl _) _)
  have ua_0 : (kal4 w (x)).cell? ⟨w.heap.size, 0, none⟩ = some (.int .u64 (x).a) := Kn.get s0.out 0 0 rfl rfl
  have ua_1 : (kal4 w (x)).cell? ⟨w.heap.size, 1, none⟩ = some (.int .u64 (x).b) := Kn.get s0.out 0 1 rfl rfl
  have ua_2 : (kal4 w (x)).cell? ⟨w.heap.size, 2, none⟩ = some (.int .u64 (x).c) := Kn.get s0.out 0 2 rfl rfl
  have ua_3 : (kal4 w (x)).cell? ⟨w.heap.size, 3, none⟩ = some (.int .u64 (x).d) := Kn.get s0.out 0 3 rfl rfl
  go_wp2_with fail
  clear ua_0 ua_1 ua_2 ua_3
  go_ret
  exact ⟨rfl, b0.out⟩
theorem or_ne {a b : Int} (ha : Word a) (hb : Word b) : Word (bits .or .u64 a b) ∧ (bits .or .u64 a b = 0 → a = 0 ∧ b = 0) := by
  obtain ⟨a, rfl⟩ := Int.eq_ofNat_of_zero_le ha.1
  obtain ⟨b, rfl⟩ := Int.eq_ofNat_of_zero_le hb.1
  have h1 : a < 18446744073709551616 := by have := ha.2; omega
  have h2 : b < 18446744073709551616 := by have := hb.2; omega
  rw [u64_or_nat a b h1 h2]
  have h3 : a ||| b < 2 ^ 64 := Nat.or_lt_two_pow h1 h2
  have h4 : (2 : Nat) ^ 64 = 18446744073709551616 := by decide
  refine ⟨⟨by omega, by omega⟩, fun e => ?_⟩
  have e' : a ||| b = 0 := by omega
  have := Nat.or_eq_zero_iff.1 e'
  omega
theorem isZero_fun (k : Nat) (hk : k < 2 ^ 256) (w : World) : Calls Try.prog 23 #[N (nm k)] w fun e w' => e = .returned (.bool (decide (k = 0))) ∧ Below w.heap.size w w' := by
  by_cases h : k = 0
  · subst h
    exact isZero_yes w
  · rw [decide_eq_false h]
    have ok := nm_ok k
    have o1 := or_ne ok.a ok.b
    have o2 := or_ne o1.1 ok.c
    have o3 := or_ne o2.1 ok.d
    refine isZero_no (nm k) _ rfl ?_ w
    refine beq_eq_false_iff_ne.2 fun e => h ?_
    have z3 := o3.2 e
    have z2 := o2.2 z3.1
    have z1 := o1.2 z2.1
    have e : nm k = ⟨0, 0, 0, 0⟩ := by
      show (⟨(nm k).a, (nm k).b, (nm k).c, (nm k).d⟩ : Nm) = _
      rw [z1.1, z1.2, z2.2, z3.2]
    have hn := nm_nat hk
    rw [e] at hn
    exact hn.symm
set_option maxRecDepth 20000 in
set_option maxHeartbeats 1000000 in
theorem shared_no (n m : Nat) (u c v : Nm)
    (F1 : ∀ w, Calls Try.prog 21 #[.agg (bR (m)).toArray] w fun e w' => e = .returned (N u) ∧ Below w.heap.size w w')
    (CL : ∀ w, Calls Try.prog 10 #[.agg (bR (n)).toArray] w fun e w' => e = .returned (N c) ∧ Below w.heap.size w w')
    (LA : ∀ w, Calls Try.prog 22 #[N c, N (foN u)] w fun e w' => e = .returned (N v) ∧ Below w.heap.size w w')
    (IZ : ∀ w, Calls Try.prog 23 #[N v] w fun e w' => e = .returned (.bool true) ∧ Below w.heap.size w w')
    (w : World) :
    Calls Try.prog 8 #[bV n, bV m] w fun e w' => e = .returned (.tuple #[bV 0, .int .i64 1]) ∧ Below w.heap.size w w' := by
  go_enter Try.func8, Try.ntmps8
  have s0 : Hid (Kn (((w.alloc (.cells (bR (n)).toArray 22)).alloc (.cells (bR (m)).toArray 22)).alloc (.cells #[Value.int IntKind.u8 0, Value.int IntKind.u8 0, Value.int IntKind.u8 0, Value.int IntKind.u8 0, Value.int IntKind.u8 0, Value.int IntKind.u8 0, Value.int IntKind.u8 0, Value.int IntKind.u8 0, Value.int IntKind.u8 0, Value.int IntKind.u8 0, Value.int IntKind.u8 0, Value.int IntKind.u8 0, Value.int IntKind.u8 0, Value.int IntKind.u8 0, Value.int IntKind.u8 0, Value.int IntKind.u8 0, Value.int IntKind.u8 0, Value.int IntKind.u8 0, Value.int IntKind.u8 0, Value.int IntKind.u8 0, Value.int IntKind.u8 0, Value.int IntKind.u8 0, Value.int IntKind.u8 0, Value.int IntKind.u8 0, Value.int IntKind.u8 0, Value.int IntKind.u8 0, Value.int IntKind.u8 0, Value.int IntKind.u8 0, Value.int IntKind.u8 0, Value.int IntKind.u8 0, Value.int IntKind.u8 0, Value.int IntKind.u8 0] 22)) [(w.heap.size + 1 + 1, bZ), (w.heap.size + 1, (bR (m))), (w.heap.size, (bR (n)))]) := ((((Kn.nil w).al (bR (n)) 22 rfl).al (bR (m)) 22 (by simp)).al bZ 22 (by simp))
  have b0 : Hid (Below w.heap.size w (((w.alloc (.cells (bR (n)).toArray 22)).alloc (.cells (bR (m)).toArray 22)).alloc (.cells #[Value.int IntKind.u8 0, Value.int IntKind.u8 0, Value.int IntKind.u8 0, Value.int IntKind.u8 0, Value.int IntKind.u8 0, Value.int IntKind.u8 0, Value.int IntKind.u8 0, Value.int IntKind.u8 0, Value.int IntKind.u8 0, Value.int IntKind.u8 0, Value.int IntKind.u8 0, Value.int IntKind.u8 0, Value.int IntKind.u8 0, Value.int IntKind.u8 0, Value.int IntKind.u8 0, Value.int IntKind.u8 0, Value.int IntKind.u8 0, Value.int IntKind.u8 0, Value.int IntKind.u8 0, Value.int IntKind.u8 0, Value.int IntKind.u8 0, Value.int IntKind.u8 0, Value.int IntKind.u8 0, Value.int IntKind.u8 0, Value.int IntKind.u8 0, Value.int IntKind.u8 0, Value.int IntKind.u8 0, Value.int IntKind.u8 0, Value.int IntKind.u8 0, Value.int IntKind.u8 0, Value.int IntKind.u8 0, Value.int IntKind.u8 0] 22))) := ((((Below.refl _ _).alloc (Nat.le_refl _) _).alloc (by simp <;> omega) _).alloc (by simp <;> omega) _)
  go_wp2_with (first | refine wp_ldW rfl 22 _ rfl (w.heap.size + 1) 0 rfl (bR (m)) _ (Kn.rng s0.out 1 rfl) Try.underlying22 rfl (info_bR (m)) ?_ | simp only [zero_b32])
  refine (F1 _).mono ?_
  rintro e w1 ⟨rfl, hb1⟩
  have s1 : Hid (Kn w1 [(w.heap.size + 1 + 1, bZ), (w.heap.size + 1, (bR (m))), (w.heap.size, (bR (n)))]) := s0.out.up hb1
  have b1 : Hid (Below w.heap.size w w1) := b0.out.trans (hb1.mono b0.out.size)
  have z1 := b1.out.size
  clear hb1 s0 b0
  have s2 : Hid (Kn (kal4 w1 (foN u)) [(w1.heap.size, (c4 (foN u))), (w.heap.size + 1 + 1, bZ), (w.heap.size + 1, (bR (m))), (w.heap.size, (bR (n)))]) := s1.out.al (c4 (foN u)) 28 rfl
  have b2 : Hid (Below w.heap.size w (kal4 w1 (foN u))) := b1.out.alloc b1.out.size _
  have z2 := b1.out.size
  clear s1 b1
  go_wp2_with fail
  refine wp_region_alloc1 4 (.cells #[.int .u64 0, .int .u64 0, .int .u64 0, .int .u64 0] 28) (by kernel_rfl) (by kernel_rfl) (by kernel_rfl) (by kernel_rfl) (by decide) (fun _ _ d _ _ h => by cases d <;> exact h) rfl rfl (fun _ _ => by kernel_rfl) ?_
  apply Exists.intro
  refine ⟨fun U hU f hf hcl => ?_, fun k3 w3 hb3 hk3 hc3 => ?_⟩
  · skip
    have uu_0 := fun nx => (Kn.get (s2.out.up (hf nx).out) 0 0 rfl rfl : (f nx).cell? ⟨w1.heap.size, 0, none⟩ = some (.int .u64 (foN u).a))
    have uu_1 := fun nx => (Kn.get (s2.out.up (hf nx).out) 0 1 rfl rfl : (f nx).cell? ⟨w1.heap.size, 1, none⟩ = some (.int .u64 (foN u).b))
    have uu_2 := fun nx => (Kn.get (s2.out.up (hf nx).out) 0 2 rfl rfl : (f nx).cell? ⟨w1.heap.size, 2, none⟩ = some (.int .u64 (foN u).c))
    have uu_3 := fun nx => (Kn.get (s2.out.up (hf nx).out) 0 3 rfl rfl : (f nx).cell? ⟨w1.heap.size, 3, none⟩ = some (.int .u64 (foN u).d))
    have ra_s_0 := fun nx => (Kn.rng (s2.out.up (hf nx).out) 3 rfl : (f nx).rangeAt (w.heap.size) 0 (bR (n)))
    clear hf
    simp only [List.take_succ_cons, List.take_zero]
    repeat (first | (refine I.quiet_load rfl 22 _ rfl (w.heap.size) 0 rfl (bR (n)) _ (fun W hW => by obtain ⟨nx, rfl⟩ := hW; exact ra_s_0 nx) Try.underlying22 rfl (info_bR (n)) ?_; simp only [Act.put, List.setIfInBounds_toArray, List.set_cons_succ, List.set_cons_zero]) | go_big_quiet_step (first | (go_at_call 10; exact (CL _).mono fun e w'' ⟨he, hb⟩ => ⟨he, hcl.out _ _ hb⟩) | (go_at_call 22; exact (LA _).mono fun e w'' ⟨he, hb⟩ => ⟨he, hcl.out _ _ hb⟩)))
    exact wpQuiet_nil rfl
  simp only [List.drop_succ_cons, List.drop_zero]
  have z3 := b2.out.size
  have s3x : Hid (Kn w3 [(k3, zz4), (w1.heap.size, (c4 (foN u))), (w.heap.size + 1 + 1, bZ), (w.heap.size + 1, (bR (m))), (w.heap.size, (bR (n)))]) := s2.out.fresh hb3.out hk3 hc3.out
  have g3 : w.heap.size ≤ k3 := Nat.le_trans b2.out.size hk3
  have cz3_0 : w3.cell? ⟨k3, 0, none⟩ = some (.int .u64 0) := Kn.get s3x.out 0 0 rfl rfl
  have cz3_1 : w3.cell? ⟨k3, 1, none⟩ = some (.int .u64 0) := Kn.get s3x.out 0 1 rfl rfl
  have cz3_2 : w3.cell? ⟨k3, 2, none⟩ = some (.int .u64 0) := Kn.get s3x.out 0 2 rfl rfl
  have cz3_3 : w3.cell? ⟨k3, 3, none⟩ = some (.int .u64 0) := Kn.get s3x.out 0 3 rfl rfl
  have cz3 : ∀ j, w3.frozen? ⟨k3, j, none⟩ = false := Kn.fz s3x.out 0 rfl
  have s3 : Hid (Kn (st4 w3 k3 (v)) [(k3, (c4 (v))), (w1.heap.size, (c4 (foN u))), (w.heap.size + 1 + 1, bZ), (w.heap.size + 1, (bR (m))), (w.heap.size, (bR (n)))]) := s3x.out.st4 (v)
  have b3 : Hid (Below w.heap.size w (st4 w3 k3 (v))) := below_st4 (b2.out.trans (hb3.out.mono b2.out.size)) g3
  clear s3x s2 b2 hb3 hc3 hk3
  have uv_0 : (st4 w3 k3 (v)).cell? ⟨k3, 0, none⟩ = some (.int .u64 (v).a) := Kn.get s3.out 0 0 rfl rfl
  have uv_1 : (st4 w3 k3 (v)).cell? ⟨k3, 1, none⟩ = some (.int .u64 (v).b) := Kn.get s3.out 0 1 rfl rfl
  have uv_2 : (st4 w3 k3 (v)).cell? ⟨k3, 2, none⟩ = some (.int .u64 (v).c) := Kn.get s3.out 0 2 rfl rfl
  have uv_3 : (st4 w3 k3 (v)).cell? ⟨k3, 3, none⟩ = some (.int .u64 (v).d) := Kn.get s3.out 0 3 rfl rfl
  go_wp2_with fail
  clear cz3_0 cz3_1 cz3_2 cz3_3 cz3 uv_0 uv_1 uv_2 uv_3
  refine (IZ _).mono ?_
  rintro e w4 ⟨rfl, hb4⟩
  have s4 : Hid (Kn w4 [(k3, (c4 (v))), (w1.heap.size, (c4 (foN u))), (w.heap.size + 1 + 1, bZ), (w.heap.size + 1, (bR (m))), (w.heap.size, (bR (n)))]) := s3.out.up hb4
  have b4 : Hid (Below w.heap.size w w4) := b3.out.trans (hb4.mono b3.out.size)
  have z4 := b4.out.size
  clear hb4 s3 b3
  have s5x : Hid (Kn w4 [(w.heap.size + 1 + 1, bZ), (k3, (c4 (v))), (w1.heap.size, (c4 (foN u))), (w.heap.size + 1, (bR (m))), (w.heap.size, (bR (n)))]) := s4.out.front 2 rfl
  have b5x : Hid (Below w.heap.size w w4) := b4.out
  have TT5 : Hid (w4.there (w.heap.size + 1 + 1) 0 (bR (0)).length) := Kn.there s5x.out 0 rfl (by rw [(bR_length (0)), bZ_length])
  go_wp2_with (first | refine wp_buildZ rfl rfl b32_zero ?_ | refine I.wp_store_eq rfl 22 _ _ rfl (w.heap.size + 1 + 1) 0 (bR (0)) rfl rfl TT5.out (info_bR (0)) (bR_one (0)) ?_)
  intro w5 hw5
  try simp only [Act.put, List.setIfInBounds_toArray, List.set_cons_succ, List.set_cons_zero]
  have s5 : Hid (Kn w5 [(w.heap.size + 1 + 1, (bR (0))), (k3, (c4 (v))), (w1.heap.size, (c4 (foN u))), (w.heap.size + 1, (bR (m))), (w.heap.size, (bR (n)))]) := by rw [hw5.out]; exact Kn.put s5x.out (by rw [(bR_length (0)), bZ_length])
  have b5 : Hid (Below w.heap.size w w5) := by rw [hw5.out]; exact I.below_setCells _ _ _ b5x.out (by omega)
  have z5 := b5.out.size
  clear hw5 s5x b5x TT5 s4 b4
  go_wp2_with fail
  exact bodyPost_ret (v := .tuple #[bV 0, .int .i64 1]) (results_row2 (b := w.heap.size + 1 + 1) rfl rfl rfl (Kn.rng s5.out 0 rfl) Try.underlying22 rfl (info_bR (0))) rfl ⟨rfl, b5.out⟩
set_option maxRecDepth 20000 in
set_option maxHeartbeats 1000000 in
theorem shared_yes (n m k : Nat) (u c v : Nm)
    (F1 : ∀ w, Calls Try.prog 21 #[.agg (bR (m)).toArray] w fun e w' => e = .returned (N u) ∧ Below w.heap.size w w')
    (CL : ∀ w, Calls Try.prog 10 #[.agg (bR (n)).toArray] w fun e w' => e = .returned (N c) ∧ Below w.heap.size w w')
    (LA : ∀ w, Calls Try.prog 22 #[N c, N (foN u)] w fun e w' => e = .returned (N v) ∧ Below w.heap.size w w')
    (IZ : ∀ w, Calls Try.prog 23 #[N v] w fun e w' => e = .returned (.bool false) ∧ Below w.heap.size w w')
    (BY : ∀ w, Calls Try.prog 16 #[N v] w fun e w' => e = .returned (.agg (bR (k)).toArray) ∧ Below w.heap.size w w')
    (w : World) :
    Calls Try.prog 8 #[bV n, bV m] w fun e w' => e = .returned (.tuple #[bV k, .int .i64 0]) ∧ Below w.heap.size w w' := by
  go_enter Try.func8, Try.ntmps8
  have s0 : Hid (Kn (((w.alloc (.cells (bR (n)).toArray 22)).alloc (.cells (bR (m)).toArray 22)).alloc (.cells #[Value.int IntKind.u8 0, Value.int IntKind.u8 0, Value.int IntKind.u8 0, Value.int IntKind.u8 0, Value.int IntKind.u8 0, Value.int IntKind.u8 0, Value.int IntKind.u8 0, Value.int IntKind.u8 0, Value.int IntKind.u8 0, Value.int IntKind.u8 0, Value.int IntKind.u8 0, Value.int IntKind.u8 0, Value.int IntKind.u8 0, Value.int IntKind.u8 0, Value.int IntKind.u8 0, Value.int IntKind.u8 0, Value.int IntKind.u8 0, Value.int IntKind.u8 0, Value.int IntKind.u8 0, Value.int IntKind.u8 0, Value.int IntKind.u8 0, Value.int IntKind.u8 0, Value.int IntKind.u8 0, Value.int IntKind.u8 0, Value.int IntKind.u8 0, Value.int IntKind.u8 0, Value.int IntKind.u8 0, Value.int IntKind.u8 0, Value.int IntKind.u8 0, Value.int IntKind.u8 0, Value.int IntKind.u8 0, Value.int IntKind.u8 0] 22)) [(w.heap.size + 1 + 1, bZ), (w.heap.size + 1, (bR (m))), (w.heap.size, (bR (n)))]) := ((((Kn.nil w).al (bR (n)) 22 rfl).al (bR (m)) 22 (by simp)).al bZ 22 (by simp))
  have b0 : Hid (Below w.heap.size w (((w.alloc (.cells (bR (n)).toArray 22)).alloc (.cells (bR (m)).toArray 22)).alloc (.cells #[Value.int IntKind.u8 0, Value.int IntKind.u8 0, Value.int IntKind.u8 0, Value.int IntKind.u8 0, Value.int IntKind.u8 0, Value.int IntKind.u8 0, Value.int IntKind.u8 0, Value.int IntKind.u8 0, Value.int IntKind.u8 0, Value.int IntKind.u8 0, Value.int IntKind.u8 0, Value.int IntKind.u8 0, Value.int IntKind.u8 0, Value.int IntKind.u8 0, Value.int IntKind.u8 0, Value.int IntKind.u8 0, Value.int IntKind.u8 0, Value.int IntKind.u8 0, Value.int IntKind.u8 0, Value.int IntKind.u8 0, Value.int IntKind.u8 0, Value.int IntKind.u8 0, Value.int IntKind.u8 0, Value.int IntKind.u8 0, Value.int IntKind.u8 0, Value.int IntKind.u8 0, Value.int IntKind.u8 0, Value.int IntKind.u8 0, Value.int IntKind.u8 0, Value.int IntKind.u8 0, Value.int IntKind.u8 0, Value.int IntKind.u8 0] 22))) := ((((Below.refl _ _).alloc (Nat.le_refl _) _).alloc (by simp <;> omega) _).alloc (by simp <;> omega) _)
  go_wp2_with (first | refine wp_ldW rfl 22 _ rfl (w.heap.size + 1) 0 rfl (bR (m)) _ (Kn.rng s0.out 1 rfl) Try.underlying22 rfl (info_bR (m)) ?_ | simp only [zero_b32])
  refine (F1 _).mono ?_
  rintro e w1 ⟨rfl, hb1⟩
  have s1 : Hid (Kn w1 [(w.heap.size + 1 + 1, bZ), (w.heap.size + 1, (bR (m))), (w.heap.size, (bR (n)))]) := s0.out.up hb1
  have b1 : Hid (Below w.heap.size w w1) := b0.out.trans (hb1.mono b0.out.size)
  have z1 := b1.out.size
  clear hb1 s0 b0
  have s2 : Hid (Kn (kal4 w1 (foN u)) [(w1.heap.size, (c4 (foN u))), (w.heap.size + 1 + 1, bZ), (w.heap.size + 1, (bR (m))), (w.heap.size, (bR (n)))]) := s1.out.al (c4 (foN u)) 28 rfl
  have b2 : Hid (Below w.heap.size w (kal4 w1 (foN u))) := b1.out.alloc b1.out.size _
  have z2 := b1.out.size
  clear s1 b1
  go_wp2_with fail
  refine wp_region_alloc1 4 (.cells #[.int .u64 0, .int .u64 0, .int .u64 0, .int .u64 0] 28) (by kernel_rfl) (by kernel_rfl) (by kernel_rfl) (by kernel_rfl) (by decide) (fun _ _ d _ _ h => by cases d <;> exact h) rfl rfl (fun _ _ => by kernel_rfl) ?_
  apply Exists.intro
  refine ⟨fun U hU f hf hcl => ?_, fun k3 w3 hb3 hk3 hc3 => ?_⟩
  · skip
    have uu_0 := fun nx => (Kn.get (s2.out.up (hf nx).out) 0 0 rfl rfl : (f nx).cell? ⟨w1.heap.size, 0, none⟩ = some (.int .u64 (foN u).a))
    have uu_1 := fun nx => (Kn.get (s2.out.up (hf nx).out) 0 1 rfl rfl : (f nx).cell? ⟨w1.heap.size, 1, none⟩ = some (.int .u64 (foN u).b))
    have uu_2 := fun nx => (Kn.get (s2.out.up (hf nx).out) 0 2 rfl rfl : (f nx).cell? ⟨w1.heap.size, 2, none⟩ = some (.int .u64 (foN u).c))
    have uu_3 := fun nx => (Kn.get (s2.out.up (hf nx).out) 0 3 rfl rfl : (f nx).cell? ⟨w1.heap.size, 3, none⟩ = some (.int .u64 (foN u).d))
    have ra_s_0 := fun nx => (Kn.rng (s2.out.up (hf nx).out) 3 rfl : (f nx).rangeAt (w.heap.size) 0 (bR (n)))
    clear hf
    simp only [List.take_succ_cons, List.take_zero]
    repeat (first | (refine I.quiet_load rfl 22 _ rfl (w.heap.size) 0 rfl (bR (n)) _ (fun W hW => by obtain ⟨nx, rfl⟩ := hW; exact ra_s_0 nx) Try.underlying22 rfl (info_bR (n)) ?_; simp only [Act.put, List.setIfInBounds_toArray, List.set_cons_succ, List.set_cons_zero]) | go_big_quiet_step (first | (go_at_call 10; exact (CL _).mono fun e w'' ⟨he, hb⟩ => ⟨he, hcl.out _ _ hb⟩) | (go_at_call 22; exact (LA _).mono fun e w'' ⟨he, hb⟩ => ⟨he, hcl.out _ _ hb⟩)))
    exact wpQuiet_nil rfl
  simp only [List.drop_succ_cons, List.drop_zero]
  have z3 := b2.out.size
  have s3x : Hid (Kn w3 [(k3, zz4), (w1.heap.size, (c4 (foN u))), (w.heap.size + 1 + 1, bZ), (w.heap.size + 1, (bR (m))), (w.heap.size, (bR (n)))]) := s2.out.fresh hb3.out hk3 hc3.out
  have g3 : w.heap.size ≤ k3 := Nat.le_trans b2.out.size hk3
  have cz3_0 : w3.cell? ⟨k3, 0, none⟩ = some (.int .u64 0) := Kn.get s3x.out 0 0 rfl rfl
  have cz3_1 : w3.cell? ⟨k3, 1, none⟩ = some (.int .u64 0) := Kn.get s3x.out 0 1 rfl rfl
  have cz3_2 : w3.cell? ⟨k3, 2, none⟩ = some (.int .u64 0) := Kn.get s3x.out 0 2 rfl rfl
  have cz3_3 : w3.cell? ⟨k3, 3, none⟩ = some (.int .u64 0) := Kn.get s3x.out 0 3 rfl rfl
  have cz3 : ∀ j, w3.frozen? ⟨k3, j, none⟩ = false := Kn.fz s3x.out 0 rfl
  have s3 : Hid (Kn (st4 w3 k3 (v)) [(k3, (c4 (v))), (w1.heap.size, (c4 (foN u))), (w.heap.size + 1 + 1, bZ), (w.heap.size + 1, (bR (m))), (w.heap.size, (bR (n)))]) := s3x.out.st4 (v)
  have b3 : Hid (Below w.heap.size w (st4 w3 k3 (v))) := below_st4 (b2.out.trans (hb3.out.mono b2.out.size)) g3
  clear s3x s2 b2 hb3 hc3 hk3
  have uv_0 : (st4 w3 k3 (v)).cell? ⟨k3, 0, none⟩ = some (.int .u64 (v).a) := Kn.get s3.out 0 0 rfl rfl
  have uv_1 : (st4 w3 k3 (v)).cell? ⟨k3, 1, none⟩ = some (.int .u64 (v).b) := Kn.get s3.out 0 1 rfl rfl
  have uv_2 : (st4 w3 k3 (v)).cell? ⟨k3, 2, none⟩ = some (.int .u64 (v).c) := Kn.get s3.out 0 2 rfl rfl
  have uv_3 : (st4 w3 k3 (v)).cell? ⟨k3, 3, none⟩ = some (.int .u64 (v).d) := Kn.get s3.out 0 3 rfl rfl
  go_wp2_with fail
  clear cz3_0 cz3_1 cz3_2 cz3_3 cz3 uv_0 uv_1 uv_2 uv_3
  refine (IZ _).mono ?_
  rintro e w4 ⟨rfl, hb4⟩
  have s4 : Hid (Kn w4 [(k3, (c4 (v))), (w1.heap.size, (c4 (foN u))), (w.heap.size + 1 + 1, bZ), (w.heap.size + 1, (bR (m))), (w.heap.size, (bR (n)))]) := s3.out.up hb4
  have b4 : Hid (Below w.heap.size w w4) := b3.out.trans (hb4.mono b3.out.size)
  have z4 := b4.out.size
  clear hb4 s3 b3
  have uv_0 : w4.cell? ⟨k3, 0, none⟩ = some (.int .u64 (v).a) := Kn.get s4.out 0 0 rfl rfl
  have uv_1 : w4.cell? ⟨k3, 1, none⟩ = some (.int .u64 (v).b) := Kn.get s4.out 0 1 rfl rfl
  have uv_2 : w4.cell? ⟨k3, 2, none⟩ = some (.int .u64 (v).c) := Kn.get s4.out 0 2 rfl rfl
  have uv_3 : w4.cell? ⟨k3, 3, none⟩ = some (.int .u64 (v).d) := Kn.get s4.out 0 3 rfl rfl
  go_wp2_with fail
  clear uv_0 uv_1 uv_2 uv_3
  refine (BY _).mono ?_
  rintro e w5 ⟨rfl, hb5⟩
  have s5 : Hid (Kn w5 [(k3, (c4 (v))), (w1.heap.size, (c4 (foN u))), (w.heap.size + 1 + 1, bZ), (w.heap.size + 1, (bR (m))), (w.heap.size, (bR (n)))]) := s4.out.up hb5
  have b5 : Hid (Below w.heap.size w w5) := b4.out.trans (hb5.mono b4.out.size)
  have z5 := b5.out.size
  clear hb5 s4 b4
  have s6x : Hid (Kn w5 [(w.heap.size + 1 + 1, bZ), (k3, (c4 (v))), (w1.heap.size, (c4 (foN u))), (w.heap.size + 1, (bR (m))), (w.heap.size, (bR (n)))]) := s5.out.front 2 rfl
  have b6x : Hid (Below w.heap.size w w5) := b5.out
  have TT6 : Hid (w5.there (w.heap.size + 1 + 1) 0 (bR (k)).length) := Kn.there s6x.out 0 rfl (by rw [(bR_length (k)), bZ_length])
  go_wp2_with (first | refine I.wp_store_eq rfl 22 _ _ rfl (w.heap.size + 1 + 1) 0 (bR (k)) rfl rfl TT6.out (info_bR (k)) (bR_one (k)) ?_)
  intro w6 hw6
  try simp only [Act.put, List.setIfInBounds_toArray, List.set_cons_succ, List.set_cons_zero]
  have s6 : Hid (Kn w6 [(w.heap.size + 1 + 1, (bR (k))), (k3, (c4 (v))), (w1.heap.size, (c4 (foN u))), (w.heap.size + 1, (bR (m))), (w.heap.size, (bR (n)))]) := by rw [hw6.out]; exact Kn.put s6x.out (by rw [(bR_length (k)), bZ_length])
  have b6 : Hid (Below w.heap.size w w6) := by rw [hw6.out]; exact I.below_setCells _ _ _ b6x.out (by omega)
  have z6 := b6.out.size
  clear hw6 s6x b6x TT6 s5 b5
  go_wp2_with fail
  exact bodyPost_ret (v := .tuple #[bV k, .int .i64 0]) (results_row2 (b := w.heap.size + 1 + 1) rfl rfl rfl (Kn.rng s6.out 0 rfl) Try.underlying22 rfl (info_bR (k))) rfl ⟨rfl, b6.out⟩
/-- What Shared answers. -/
abbrev shV (k : Nat) : Value := .tuple #[bV k, .int .i64 (if k = 0 then 1 else 0)]
theorem shared_fun (n m : Nat) (hn : n < 2 ^ 256) (hm : m < 2 ^ 256) (w : World) : Calls Try.prog 8 #[bV n, bV m] w fun e w' => e = .returned (shV (Ag.sh n m)) ∧ Below w.heap.size w w' := by
  have h := foN_nat (nm_ok m)
  rw [nm_nat hm] at h
  have LA := lLadC (nm (Ag.cl n)) (foN (nm m)) (nm_ok _) h.1
  rw [nm_nat (Ag.cl_lt256 n), h.2] at LA
  have IZ := isZero_fun (Ag.sh n m) (Ag.lt_256 (Ag.sh_lt n m))
  by_cases hz : Ag.sh n m = 0
  · have e : shV (Ag.sh n m) = .tuple #[bV 0, .int .i64 1] := by
      show Value.tuple #[bV (Ag.sh n m), .int .i64 (if Ag.sh n m = 0 then 1 else 0)] = _
      rw [hz]
      rfl
    rw [e]
    rw [decide_eq_true hz] at IZ
    exact shared_no n m _ _ _ (of_n m hm) (clamp_fun n hn) LA IZ w
  · have e : shV (Ag.sh n m) = .tuple #[bV (Ag.sh n m), .int .i64 0] := by
      show Value.tuple #[bV (Ag.sh n m), .int .i64 (if Ag.sh n m = 0 then 1 else 0)] = _
      rw [if_neg hz]
    rw [e]
    rw [decide_eq_false hz] at IZ
    exact shared_yes n m _ _ _ _ (of_n m hm) (clamp_fun n hn) LA IZ (bytes_n _ (Ag.lt_256 (Ag.sh_lt n m))) w
end Go.Proofs.Ytpnfopakkaoibaa
