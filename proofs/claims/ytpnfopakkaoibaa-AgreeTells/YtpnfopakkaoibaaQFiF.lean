/- Package field, as it landed: P, fold, Low, Add, Sub, Mul. -/
import Derived.Test.YtpnfopakkaoibaaQQMathToAdN
import Derived.Test.YtpnfopakkaoibaaQUpA
import Derived.Test.YtpnfopakkaoibaaQPick
import Derived.Test.YtpnfopakkaoibaaQHalf
namespace Go.Proofs.Ytpnfopakkaoibaa
open Go.RowKit
attribute [local go_sem] World.cell?_alloc_some cell_alloc2 cell_alloc3 cell_alloc4 frozen?_alloc_cells frozen_out
set_option linter.unusedSimpArgs false
abbrev pN : Nm := ⟨18446744073709551597, 18446744073709551615, 18446744073709551615, 9223372036854775807⟩
theorem pN_nm : pN = nm F.p := by unfold nm Nm.of; congr 1
set_option maxHeartbeats 1000000 in
theorem fP_walk (w : World) : Calls Try.prog 65 #[] w fun e w' => e = .returned (N pN) ∧ Below w.heap.size w w' := by
  go_enter Try.func65, Try.ntmps65
  have s0 : Hid (Kn (kal4 w (pN)) [(w.heap.size, (c4 (pN)))]) := ((Kn.nil w).al (c4 (pN)) 28 rfl)
  have b0 : Hid (Below w.heap.size w (kal4 w (pN))) := ((Below.refl _ _).alloc (Nat.le_refl _) _)
  go_wp2_with fail
  have urr_0 : (kal4 w (pN)).cell? ⟨w.heap.size, 0, none⟩ = some (.int .u64 (pN).a) := Kn.get s0.out 0 0 rfl rfl
  have urr_1 : (kal4 w (pN)).cell? ⟨w.heap.size, 1, none⟩ = some (.int .u64 (pN).b) := Kn.get s0.out 0 1 rfl rfl
  have urr_2 : (kal4 w (pN)).cell? ⟨w.heap.size, 2, none⟩ = some (.int .u64 (pN).c) := Kn.get s0.out 0 2 rfl rfl
  have urr_3 : (kal4 w (pN)).cell? ⟨w.heap.size, 3, none⟩ = some (.int .u64 (pN).d) := Kn.get s0.out 0 3 rfl rfl
  refine bodyPost_ret (v := N pN) ?_ rfl ⟨rfl, b0.out⟩
  show (results Try.f65 _).run Try.prog (kal4 w (pN)) = .ok _ (kal4 w (pN))
  clear s0 b0
  generalize (kal4 w (pN)) = W9 at *
  simp [results, Try.results65, go_sem, urr_0, urr_1, urr_2, urr_3]
/-- The lower 255 bits, and 19 times what is above. -/
abbrev foA (x : Nm) : Nm := ⟨x.a, x.b, x.c, bits .and .u64 x.d 9223372036854775807⟩
abbrev foB (x : Nm) (v : Int) : Nm := ⟨IntKind.u64.wrap (19 * bits .or .u64 (IntKind.u64.wrap (v * 2)) (x.d / 9223372036854775808)), 0, 0, 0⟩
set_option maxHeartbeats 1000000 in
theorem fold_walk (x : Nm) (v : Int) (s l p : Nm) (c u : Int)
    (SA : ∀ w, Calls Try.prog 62 #[N (foA x), N (foB x v)] w fun e w' => e = .returned (.tuple #[N s, .int .u64 c]) ∧ Below w.heap.size w w')
    (SS : ∀ w, Calls Try.prog 64 #[N s, N pN] w fun e w' => e = .returned (.tuple #[N l, .int .u64 u]) ∧ Below w.heap.size w w')
    (SP : ∀ w, Calls Try.prog 72 #[.int .u64 u, N l, N s] w fun e w' => e = .returned (N p) ∧ Below w.heap.size w w')
    (w : World) :
    Calls Try.prog 59 #[N x, .int .u64 v] w fun e w' => e = .returned (N p) ∧ Below w.heap.size w w' := by
  go_enter Try.func59, Try.ntmps59
  have s0 : Hid (Kn (kz4 (kal4 w (foA x))) [(w.heap.size + 1, zz4), (w.heap.size, (c4 (foA x)))]) := (((Kn.nil w).al (c4 (foA x)) 28 rfl).al zz4 28 (by simp))
  have b0 : Hid (Below w.heap.size w (kz4 (kal4 w (foA x)))) := (((Below.refl _ _).alloc (Nat.le_refl _) _).alloc (by simp <;> omega) _)
  go_wp2_with fail
  refine (SA _).mono ?_
  rintro e w1 ⟨rfl, hb1⟩
  have s1 : Hid (Kn w1 [(w.heap.size + 1, zz4), (w.heap.size, (c4 (foA x)))]) := s0.out.up hb1
  have b1 : Hid (Below w.heap.size w w1) := b0.out.trans (hb1.mono b0.out.size)
  have z1 := b1.out.size
  clear hb1 s0 b0
  have s2 : Hid (Kn (kal4 w1 (s)) [(w1.heap.size, (c4 (s))), (w.heap.size + 1, zz4), (w.heap.size, (c4 (foA x)))]) := s1.out.al (c4 (s)) 28 rfl
  have b2 : Hid (Below w.heap.size w (kal4 w1 (s))) := b1.out.alloc b1.out.size _
  have z2 := b1.out.size
  clear s1 b1
  go_wp2_with fail
  refine wp_region_alloc1 6 (.cells #[.int .u64 0, .int .u64 0, .int .u64 0, .int .u64 0] 28) (by kernel_rfl) (by kernel_rfl) (by kernel_rfl) (by kernel_rfl) (by decide) (fun _ _ d _ _ h => by cases d <;> exact h) rfl rfl (fun _ _ => by kernel_rfl) ?_
  apply Exists.intro
  refine ⟨fun U hU f hf hcl => ?_, fun k3 w3 hb3 hk3 hc3 => ?_⟩
  · skip
    have us_0 := fun nx => (Kn.get (s2.out.up (hf nx).out) 0 0 rfl rfl : (f nx).cell? ⟨w1.heap.size, 0, none⟩ = some (.int .u64 (s).a))
    have us_1 := fun nx => (Kn.get (s2.out.up (hf nx).out) 0 1 rfl rfl : (f nx).cell? ⟨w1.heap.size, 1, none⟩ = some (.int .u64 (s).b))
    have us_2 := fun nx => (Kn.get (s2.out.up (hf nx).out) 0 2 rfl rfl : (f nx).cell? ⟨w1.heap.size, 2, none⟩ = some (.int .u64 (s).c))
    have us_3 := fun nx => (Kn.get (s2.out.up (hf nx).out) 0 3 rfl rfl : (f nx).cell? ⟨w1.heap.size, 3, none⟩ = some (.int .u64 (s).d))
    clear hf
    simp only [List.take_succ_cons, List.take_zero]
    repeat (go_big_quiet_step (first | (go_at_call 65; exact (fP_walk _).mono fun e w'' ⟨he, hb⟩ => ⟨he, hcl.out _ _ hb⟩) | (go_at_call 64; exact (SS _).mono fun e w'' ⟨he, hb⟩ => ⟨he, hcl.out _ _ hb⟩)))
    exact wpQuiet_nil rfl
  simp only [List.drop_succ_cons, List.drop_zero]
  have z3 := b2.out.size
  have s3x : Hid (Kn w3 [(k3, zz4), (w1.heap.size, (c4 (s))), (w.heap.size + 1, zz4), (w.heap.size, (c4 (foA x)))]) := s2.out.fresh hb3.out hk3 hc3.out
  have g3 : w.heap.size ≤ k3 := Nat.le_trans b2.out.size hk3
  have cz3_0 : w3.cell? ⟨k3, 0, none⟩ = some (.int .u64 0) := Kn.get s3x.out 0 0 rfl rfl
  have cz3_1 : w3.cell? ⟨k3, 1, none⟩ = some (.int .u64 0) := Kn.get s3x.out 0 1 rfl rfl
  have cz3_2 : w3.cell? ⟨k3, 2, none⟩ = some (.int .u64 0) := Kn.get s3x.out 0 2 rfl rfl
  have cz3_3 : w3.cell? ⟨k3, 3, none⟩ = some (.int .u64 0) := Kn.get s3x.out 0 3 rfl rfl
  have cz3 : ∀ j, w3.frozen? ⟨k3, j, none⟩ = false := Kn.fz s3x.out 0 rfl
  have s3 : Hid (Kn (st4 w3 k3 (l)) [(k3, (c4 (l))), (w1.heap.size, (c4 (s))), (w.heap.size + 1, zz4), (w.heap.size, (c4 (foA x)))]) := s3x.out.st4 (l)
  have b3 : Hid (Below w.heap.size w (st4 w3 k3 (l))) := below_st4 (b2.out.trans (hb3.out.mono b2.out.size)) g3
  clear s3x s2 b2 hb3 hc3 hk3
  have ul_0 : (st4 w3 k3 (l)).cell? ⟨k3, 0, none⟩ = some (.int .u64 (l).a) := Kn.get s3.out 0 0 rfl rfl
  have ul_1 : (st4 w3 k3 (l)).cell? ⟨k3, 1, none⟩ = some (.int .u64 (l).b) := Kn.get s3.out 0 1 rfl rfl
  have ul_2 : (st4 w3 k3 (l)).cell? ⟨k3, 2, none⟩ = some (.int .u64 (l).c) := Kn.get s3.out 0 2 rfl rfl
  have ul_3 : (st4 w3 k3 (l)).cell? ⟨k3, 3, none⟩ = some (.int .u64 (l).d) := Kn.get s3.out 0 3 rfl rfl
  have us_0 : (st4 w3 k3 (l)).cell? ⟨w1.heap.size, 0, none⟩ = some (.int .u64 (s).a) := Kn.get s3.out 1 0 rfl rfl
  have us_1 : (st4 w3 k3 (l)).cell? ⟨w1.heap.size, 1, none⟩ = some (.int .u64 (s).b) := Kn.get s3.out 1 1 rfl rfl
  have us_2 : (st4 w3 k3 (l)).cell? ⟨w1.heap.size, 2, none⟩ = some (.int .u64 (s).c) := Kn.get s3.out 1 2 rfl rfl
  have us_3 : (st4 w3 k3 (l)).cell? ⟨w1.heap.size, 3, none⟩ = some (.int .u64 (s).d) := Kn.get s3.out 1 3 rfl rfl
  go_wp2_with fail
  clear cz3_0 cz3_1 cz3_2 cz3_3 cz3 ul_0 ul_1 ul_2 ul_3 us_0 us_1 us_2 us_3
  refine (SP _).mono ?_
  rintro e w4 ⟨rfl, hb4⟩
  have s4 : Hid (Kn w4 [(k3, (c4 (l))), (w1.heap.size, (c4 (s))), (w.heap.size + 1, zz4), (w.heap.size, (c4 (foA x)))]) := s3.out.up hb4
  have b4 : Hid (Below w.heap.size w w4) := b3.out.trans (hb4.mono b3.out.size)
  have z4 := b4.out.size
  clear hb4 s3 b3
  have uro_0 : w4.cell? ⟨w.heap.size + 1, 0, none⟩ = some (.int .u64 0) := Kn.get s4.out 2 0 rfl rfl
  have uro_1 : w4.cell? ⟨w.heap.size + 1, 1, none⟩ = some (.int .u64 0) := Kn.get s4.out 2 1 rfl rfl
  have uro_2 : w4.cell? ⟨w.heap.size + 1, 2, none⟩ = some (.int .u64 0) := Kn.get s4.out 2 2 rfl rfl
  have uro_3 : w4.cell? ⟨w.heap.size + 1, 3, none⟩ = some (.int .u64 0) := Kn.get s4.out 2 3 rfl rfl
  have uro_z : ∀ j, w4.frozen? ⟨w.heap.size + 1, j, none⟩ = false := Kn.fz s4.out 2 rfl
  have s5 : Hid (Kn (st4 w4 (w.heap.size + 1) (p)) [(w.heap.size + 1, (c4 (p))), (k3, (c4 (l))), (w1.heap.size, (c4 (s))), (w.heap.size, (c4 (foA x)))]) := Kn.st4 (L := [(k3, (c4 (l))), (w1.heap.size, (c4 (s))), (w.heap.size, (c4 (foA x)))]) (s4.out.front 2 rfl) (p)
  have b5 : Hid (Below w.heap.size w (st4 w4 (w.heap.size + 1) (p))) := below_st4 b4.out (by omega)
  clear s4 b4
  go_wp2_with fail
  clear uro_0 uro_1 uro_2 uro_3 uro_z
  have urr_0 : (st4 w4 (w.heap.size + 1) (p)).cell? ⟨w.heap.size + 1, 0, none⟩ = some (.int .u64 (p).a) := Kn.get s5.out 0 0 rfl rfl
  have urr_1 : (st4 w4 (w.heap.size + 1) (p)).cell? ⟨w.heap.size + 1, 1, none⟩ = some (.int .u64 (p).b) := Kn.get s5.out 0 1 rfl rfl
  have urr_2 : (st4 w4 (w.heap.size + 1) (p)).cell? ⟨w.heap.size + 1, 2, none⟩ = some (.int .u64 (p).c) := Kn.get s5.out 0 2 rfl rfl
  have urr_3 : (st4 w4 (w.heap.size + 1) (p)).cell? ⟨w.heap.size + 1, 3, none⟩ = some (.int .u64 (p).d) := Kn.get s5.out 0 3 rfl rfl
  refine bodyPost_ret (v := N p) ?_ rfl ⟨rfl, b5.out⟩
  show (results Try.f59 _).run Try.prog (st4 w4 (w.heap.size + 1) (p)) = .ok _ (st4 w4 (w.heap.size + 1) (p))
  clear s5 b5
  generalize (st4 w4 (w.heap.size + 1) (p)) = W9 at *
  simp [results, Try.results59, go_sem, urr_0, urr_1, urr_2, urr_3]
theorem pN_nat : pN.nat = F.p := by rw [pN_nm]; exact nm_nat F.p_lt
theorem pN_ok : pN.ok := by rw [pN_nm]; exact nm_ok _
theorem and_63 {d : Int} (h : Word d) : bits .and .u64 d 9223372036854775807 = d % 9223372036854775808 := by
  obtain ⟨d, rfl⟩ := Int.eq_ofNat_of_zero_le h.1
  have hd : d < 18446744073709551616 := by have := h.2; omega
  have := bits_and_u64_nat d 9223372036854775807 hd (by decide)
  rw [show ((9223372036854775807 : Nat) : Int) = 9223372036854775807 from rfl] at this
  rw [this, show (9223372036854775807 : Nat) = 2 ^ 63 - 1 from rfl, Nat.and_two_pow_sub_one_eq_mod]
  rfl
theorem or_one {v b : Nat} (hv : v < 4294967296) (hb : b < 2) : bits .or .u64 (IntKind.u64.wrap ((v : Int) * 2)) ((b : Nat) : Int) = ((2 * v + b : Nat) : Int) := by
  have e : 2 * v ||| b = 2 * v + b := by
    have := Nat.two_pow_add_eq_or_of_lt (i := 1) (b := b) (by omega) v
    exact this.symm
  have e0 : IntKind.u64.wrap ((v : Int) * 2) = ((2 * v : Nat) : Int) := by rw [IntKind.wrap_u64]; omega
  have h1 : (BitVec.ofInt 64 ((2 * v : Nat) : Int)).toNat = 2 * v := by rw [BitVec.toNat_ofInt]; omega
  have h2 : (BitVec.ofInt 64 (b : Int)).toNat = b := by rw [BitVec.toNat_ofInt]; omega
  rw [e0]
  show IntKind.u64.wrap ((BitVec.ofInt 64 ((2 * v : Nat) : Int) ||| BitVec.ofInt 64 (b : Int)).toNat : Nat) = ((2 * v + b : Nat) : Int)
  rw [BitVec.toNat_or, h1, h2, e, IntKind.wrap_u64]
  omega
theorem fold_fun (x : Nm) (v : Nat) (ox : x.ok) (hv : v < 4294967296) (w : World) : Calls Try.prog 59 #[N x, .int .u64 (v : Int)] w fun e w' => e = .returned (N (nm ((x.nat + 2 ^ 256 * v) % F.p))) ∧ Below w.heap.size w w' := by
  have hx := Nm.nat_cast ox
  have lx := Nm.nat_lt ox
  have p2 : (2 : Nat) ^ 256 = 115792089237316195423570985008687907853269984665640564039457584007913129639936 := by decide
  have hd := and_63 ox.d
  obtain ⟨b, hb⟩ := Int.eq_ofNat_of_zero_le (show 0 ≤ x.d / 9223372036854775808 by have := ox.d.1; omega)
  have hb2 : b < 2 := by have := ox.d.2; omega
  have ho := or_one hv hb2
  rw [← hb] at ho
  have oA : (foA x).ok := ⟨ox.a, ox.b, ox.c, by show Word (bits .and .u64 x.d 9223372036854775807); rw [hd]; constructor <;> omega⟩
  have eB : (foB x (v : Int)) = ⟨((19 * (2 * v + b) : Nat) : Int), 0, 0, 0⟩ := by
    show (⟨_, 0, 0, 0⟩ : Nm) = _
    rw [ho, IntKind.wrap_u64]
    congr 1
    omega
  have oB : (foB x (v : Int)).ok := by rw [eB]; exact one_ok ⟨by omega, by omega⟩
  have nB : (foB x (v : Int)).nat = 19 * (2 * v + b) := by
    rw [eB]
    unfold Nm.nat Nm.val
    simp only []
    omega
  have nA : (foA x).nat + 57896044618658097711785492504343953926634992332820282019728792003956564819968 * b = x.nat := by
    have e1 := Nm.nat_cast oA
    have e2 : (foA x).val = x.val - 57896044618658097711785492504343953926634992332820282019728792003956564819968 * (b : Int) := by
      show x.a + _ * (x.b + _ * (x.c + _ * (bits .and .u64 x.d 9223372036854775807))) = x.a + _ * (x.b + _ * (x.c + _ * x.d)) - _
      rw [hd]
      omega
    omega
  have lA : (foA x).nat < 57896044618658097711785492504343953926634992332820282019728792003956564819968 := by
    have e1 := Nm.nat_cast oA
    have : (foA x).val < 57896044618658097711785492504343953926634992332820282019728792003956564819968 := by
      show x.a + _ * (x.b + _ * (x.c + _ * (bits .and .u64 x.d 9223372036854775807))) < _
      rw [hd]
      obtain ⟨⟨_, _⟩, ⟨_, _⟩, ⟨_, _⟩, ⟨_, _⟩⟩ := ox
      omega
    omega
  obtain ⟨A, hA⟩ : ∃ A, (foA x).nat = A := ⟨_, rfl⟩
  have SA := add_nat (foA x) (foB x (v : Int)) oA oB
  rw [hA] at nA lA SA
  have hs : A + 19 * (2 * v + b) < 2 ^ 256 := by rw [p2]; omega
  rw [nB, Nat.mod_eq_of_lt hs] at SA
  have SS := sub_nat (nm (A + 19 * (2 * v + b))) pN (nm_ok _) pN_ok
  rw [nm_nat hs, pN_nat] at SS
  have SP := pick_fun (if A + 19 * (2 * v + b) < F.p then 1 else 0) (nm ((A + 19 * (2 * v + b) + 2 ^ 256 - F.p) % 2 ^ 256)) (nm (A + 19 * (2 * v + b))) (by split <;> constructor <;> decide) (nm_ok _) (nm_ok _)
  have e : pick (if A + 19 * (2 * v + b) < F.p then 1 else 0) (nm ((A + 19 * (2 * v + b) + 2 ^ 256 - F.p) % 2 ^ 256)) (nm (A + 19 * (2 * v + b))) = nm ((x.nat + 2 ^ 256 * v) % F.p) := by
    have hp : F.p = 57896044618658097711785492504343953926634992332820282019728792003956564819949 := rfl
    have e1 : x.nat + 2 ^ 256 * v = A + 19 * (2 * v + b) + F.p * (2 * v + b) := by
      rw [p2, hp, ← nA]
      omega
    rw [e1, Nat.add_mul_mod_self_left]
    unfold pick
    have hS : A + 19 * (2 * v + b) < F.p + F.p := by rw [hp]; omega
    generalize A + 19 * (2 * v + b) = S at *
    by_cases h0 : S < F.p
    · rw [if_pos h0, if_neg (by decide), Nat.mod_eq_of_lt h0]
    · rw [if_neg h0, if_pos (by decide), show S + 2 ^ 256 - F.p = (S - F.p) + 2 ^ 256 by omega, Nat.add_mod_right, Nat.mod_eq_of_lt (show S - F.p < 2 ^ 256 by omega), Nat.mod_eq_sub_mod (show S ≥ F.p by omega), Nat.mod_eq_of_lt (show S - F.p < F.p by omega)]
  rw [e] at SP
  exact fold_walk x v _ _ _ _ _ SA SS SP w
set_option maxHeartbeats 1000000 in
theorem fLow_walk (x p : Nm)
    (SF : ∀ w, Calls Try.prog 59 #[N x, .int .u64 0] w fun e w' => e = .returned (N p) ∧ Below w.heap.size w w')
    (w : World) :
    Calls Try.prog 33 #[N x] w fun e w' => e = .returned (N p) ∧ Below w.heap.size w w' := by
  go_enter Try.func33, Try.ntmps33
  have s0 : Hid (Kn (kz4 (kal4 w (x))) [(w.heap.size + 1, zz4), (w.heap.size, (c4 (x)))]) := (((Kn.nil w).al (c4 (x)) 28 rfl).al zz4 28 (by simp))
  have b0 : Hid (Below w.heap.size w (kz4 (kal4 w (x)))) := (((Below.refl _ _).alloc (Nat.le_refl _) _).alloc (by simp <;> omega) _)
  go_wp2_with fail
  refine (SF _).mono ?_
  rintro e w1 ⟨rfl, hb1⟩
  have s1 : Hid (Kn w1 [(w.heap.size + 1, zz4), (w.heap.size, (c4 (x)))]) := s0.out.up hb1
  have b1 : Hid (Below w.heap.size w w1) := b0.out.trans (hb1.mono b0.out.size)
  have z1 := b1.out.size
  clear hb1 s0 b0
  have uro_0 : w1.cell? ⟨w.heap.size + 1, 0, none⟩ = some (.int .u64 0) := Kn.get s1.out 0 0 rfl rfl
  have uro_1 : w1.cell? ⟨w.heap.size + 1, 1, none⟩ = some (.int .u64 0) := Kn.get s1.out 0 1 rfl rfl
  have uro_2 : w1.cell? ⟨w.heap.size + 1, 2, none⟩ = some (.int .u64 0) := Kn.get s1.out 0 2 rfl rfl
  have uro_3 : w1.cell? ⟨w.heap.size + 1, 3, none⟩ = some (.int .u64 0) := Kn.get s1.out 0 3 rfl rfl
  have uro_z : ∀ j, w1.frozen? ⟨w.heap.size + 1, j, none⟩ = false := Kn.fz s1.out 0 rfl
  have s2 : Hid (Kn (st4 w1 (w.heap.size + 1) (p)) [(w.heap.size + 1, (c4 (p))), (w.heap.size, (c4 (x)))]) := Kn.st4 (L := [(w.heap.size, (c4 (x)))]) (s1.out.front 0 rfl) (p)
  have b2 : Hid (Below w.heap.size w (st4 w1 (w.heap.size + 1) (p))) := below_st4 b1.out (by omega)
  clear s1 b1
  go_wp2_with fail
  clear uro_0 uro_1 uro_2 uro_3 uro_z
  have urr_0 : (st4 w1 (w.heap.size + 1) (p)).cell? ⟨w.heap.size + 1, 0, none⟩ = some (.int .u64 (p).a) := Kn.get s2.out 0 0 rfl rfl
  have urr_1 : (st4 w1 (w.heap.size + 1) (p)).cell? ⟨w.heap.size + 1, 1, none⟩ = some (.int .u64 (p).b) := Kn.get s2.out 0 1 rfl rfl
  have urr_2 : (st4 w1 (w.heap.size + 1) (p)).cell? ⟨w.heap.size + 1, 2, none⟩ = some (.int .u64 (p).c) := Kn.get s2.out 0 2 rfl rfl
  have urr_3 : (st4 w1 (w.heap.size + 1) (p)).cell? ⟨w.heap.size + 1, 3, none⟩ = some (.int .u64 (p).d) := Kn.get s2.out 0 3 rfl rfl
  refine bodyPost_ret (v := N p) ?_ rfl ⟨rfl, b2.out⟩
  show (results Try.f33 _).run Try.prog (st4 w1 (w.heap.size + 1) (p)) = .ok _ (st4 w1 (w.heap.size + 1) (p))
  clear s2 b2
  generalize (st4 w1 (w.heap.size + 1) (p)) = W9 at *
  simp [results, Try.results33, go_sem, urr_0, urr_1, urr_2, urr_3]
theorem fLowC : FLowC := fun x ox w => by
  have h := fold_fun x 0 ox (by decide)
  rw [Nat.mul_zero, Nat.add_zero] at h
  exact fLow_walk x _ h w
set_option maxHeartbeats 1000000 in
theorem fAdd_walk (x y s p : Nm) (c : Int)
    (SA : ∀ w, Calls Try.prog 62 #[N x, N y] w fun e w' => e = .returned (.tuple #[N s, .int .u64 c]) ∧ Below w.heap.size w w')
    (SF : ∀ w, Calls Try.prog 59 #[N s, .int .u64 c] w fun e w' => e = .returned (N p) ∧ Below w.heap.size w w')
    (w : World) :
    Calls Try.prog 36 #[N x, N y] w fun e w' => e = .returned (N p) ∧ Below w.heap.size w w' := by
  go_enter Try.func36, Try.ntmps36
  have s0 : Hid (Kn (kz4 (kal4 (kal4 w (x)) (y))) [(w.heap.size + 1 + 1, zz4), (w.heap.size + 1, (c4 (y))), (w.heap.size, (c4 (x)))]) := ((((Kn.nil w).al (c4 (x)) 28 rfl).al (c4 (y)) 28 (by simp)).al zz4 28 (by simp))
  have b0 : Hid (Below w.heap.size w (kz4 (kal4 (kal4 w (x)) (y)))) := ((((Below.refl _ _).alloc (Nat.le_refl _) _).alloc (by simp <;> omega) _).alloc (by simp <;> omega) _)
  go_wp2_with fail
  refine (SA _).mono ?_
  rintro e w1 ⟨rfl, hb1⟩
  have s1 : Hid (Kn w1 [(w.heap.size + 1 + 1, zz4), (w.heap.size + 1, (c4 (y))), (w.heap.size, (c4 (x)))]) := s0.out.up hb1
  have b1 : Hid (Below w.heap.size w w1) := b0.out.trans (hb1.mono b0.out.size)
  have z1 := b1.out.size
  clear hb1 s0 b0
  have s2 : Hid (Kn (kal4 w1 (s)) [(w1.heap.size, (c4 (s))), (w.heap.size + 1 + 1, zz4), (w.heap.size + 1, (c4 (y))), (w.heap.size, (c4 (x)))]) := s1.out.al (c4 (s)) 28 rfl
  have b2 : Hid (Below w.heap.size w (kal4 w1 (s))) := b1.out.alloc b1.out.size _
  have z2 := b1.out.size
  clear s1 b1
  go_wp2_with fail
  refine (SF _).mono ?_
  rintro e w3 ⟨rfl, hb3⟩
  have s3 : Hid (Kn w3 [(w1.heap.size, (c4 (s))), (w.heap.size + 1 + 1, zz4), (w.heap.size + 1, (c4 (y))), (w.heap.size, (c4 (x)))]) := s2.out.up hb3
  have b3 : Hid (Below w.heap.size w w3) := b2.out.trans (hb3.mono b2.out.size)
  have z3 := b3.out.size
  clear hb3 s2 b2
  have uro_0 : w3.cell? ⟨w.heap.size + 1 + 1, 0, none⟩ = some (.int .u64 0) := Kn.get s3.out 1 0 rfl rfl
  have uro_1 : w3.cell? ⟨w.heap.size + 1 + 1, 1, none⟩ = some (.int .u64 0) := Kn.get s3.out 1 1 rfl rfl
  have uro_2 : w3.cell? ⟨w.heap.size + 1 + 1, 2, none⟩ = some (.int .u64 0) := Kn.get s3.out 1 2 rfl rfl
  have uro_3 : w3.cell? ⟨w.heap.size + 1 + 1, 3, none⟩ = some (.int .u64 0) := Kn.get s3.out 1 3 rfl rfl
  have uro_z : ∀ j, w3.frozen? ⟨w.heap.size + 1 + 1, j, none⟩ = false := Kn.fz s3.out 1 rfl
  have s4 : Hid (Kn (st4 w3 (w.heap.size + 1 + 1) (p)) [(w.heap.size + 1 + 1, (c4 (p))), (w1.heap.size, (c4 (s))), (w.heap.size + 1, (c4 (y))), (w.heap.size, (c4 (x)))]) := Kn.st4 (L := [(w1.heap.size, (c4 (s))), (w.heap.size + 1, (c4 (y))), (w.heap.size, (c4 (x)))]) (s3.out.front 1 rfl) (p)
  have b4 : Hid (Below w.heap.size w (st4 w3 (w.heap.size + 1 + 1) (p))) := below_st4 b3.out (by omega)
  clear s3 b3
  go_wp2_with fail
  clear uro_0 uro_1 uro_2 uro_3 uro_z
  have urr_0 : (st4 w3 (w.heap.size + 1 + 1) (p)).cell? ⟨w.heap.size + 1 + 1, 0, none⟩ = some (.int .u64 (p).a) := Kn.get s4.out 0 0 rfl rfl
  have urr_1 : (st4 w3 (w.heap.size + 1 + 1) (p)).cell? ⟨w.heap.size + 1 + 1, 1, none⟩ = some (.int .u64 (p).b) := Kn.get s4.out 0 1 rfl rfl
  have urr_2 : (st4 w3 (w.heap.size + 1 + 1) (p)).cell? ⟨w.heap.size + 1 + 1, 2, none⟩ = some (.int .u64 (p).c) := Kn.get s4.out 0 2 rfl rfl
  have urr_3 : (st4 w3 (w.heap.size + 1 + 1) (p)).cell? ⟨w.heap.size + 1 + 1, 3, none⟩ = some (.int .u64 (p).d) := Kn.get s4.out 0 3 rfl rfl
  refine bodyPost_ret (v := N p) ?_ rfl ⟨rfl, b4.out⟩
  show (results Try.f36 _).run Try.prog (st4 w3 (w.heap.size + 1 + 1) (p)) = .ok _ (st4 w3 (w.heap.size + 1 + 1) (p))
  clear s4 b4
  generalize (st4 w3 (w.heap.size + 1 + 1) (p)) = W9 at *
  simp [results, Try.results36, go_sem, urr_0, urr_1, urr_2, urr_3]
theorem fAddC : FAddC := fun x y ox oy w => by
  have lx := Nm.nat_lt ox; have ly := Nm.nat_lt oy
  have h := fold_fun (nm ((x.nat + y.nat) % 2 ^ 256)) ((x.nat + y.nat) / 2 ^ 256) (nm_ok _) (by omega)
  rw [nm_nat (Nat.mod_lt _ (by decide)), Nat.mod_add_div] at h
  exact fAdd_walk x y _ _ _ (add_nat x y ox oy) h w
set_option maxHeartbeats 1000000 in
theorem fSub_walk (x y l d p : Nm) (c : Int)
    (SL : ∀ w, Calls Try.prog 33 #[N y] w fun e w' => e = .returned (N l) ∧ Below w.heap.size w w')
    (SS : ∀ w, Calls Try.prog 64 #[N pN, N l] w fun e w' => e = .returned (.tuple #[N d, .int .u64 c]) ∧ Below w.heap.size w w')
    (SA : ∀ w, Calls Try.prog 36 #[N x, N d] w fun e w' => e = .returned (N p) ∧ Below w.heap.size w w')
    (w : World) :
    Calls Try.prog 35 #[N x, N y] w fun e w' => e = .returned (N p) ∧ Below w.heap.size w w' := by
  go_enter Try.func35, Try.ntmps35
  have s0 : Hid (Kn (kz4 (kal4 (kal4 w (x)) (y))) [(w.heap.size + 1 + 1, zz4), (w.heap.size + 1, (c4 (y))), (w.heap.size, (c4 (x)))]) := ((((Kn.nil w).al (c4 (x)) 28 rfl).al (c4 (y)) 28 (by simp)).al zz4 28 (by simp))
  have b0 : Hid (Below w.heap.size w (kz4 (kal4 (kal4 w (x)) (y)))) := ((((Below.refl _ _).alloc (Nat.le_refl _) _).alloc (by simp <;> omega) _).alloc (by simp <;> omega) _)
  go_wp2_with fail
  refine wp_region_alloc1 7 (.cells #[.int .u64 0, .int .u64 0, .int .u64 0, .int .u64 0] 28) (by kernel_rfl) (by kernel_rfl) (by kernel_rfl) (by kernel_rfl) (by decide) (fun _ _ d _ _ h => by cases d <;> exact h) rfl rfl (fun _ _ => by kernel_rfl) ?_
  apply Exists.intro
  refine ⟨fun U hU f hf hcl => ?_, fun k1 w1 hb1 hk1 hc1 => ?_⟩
  · skip
    have ub_0 := fun nx => (Kn.get (s0.out.up (hf nx).out) 1 0 rfl rfl : (f nx).cell? ⟨w.heap.size + 1, 0, none⟩ = some (.int .u64 (y).a))
    have ub_1 := fun nx => (Kn.get (s0.out.up (hf nx).out) 1 1 rfl rfl : (f nx).cell? ⟨w.heap.size + 1, 1, none⟩ = some (.int .u64 (y).b))
    have ub_2 := fun nx => (Kn.get (s0.out.up (hf nx).out) 1 2 rfl rfl : (f nx).cell? ⟨w.heap.size + 1, 2, none⟩ = some (.int .u64 (y).c))
    have ub_3 := fun nx => (Kn.get (s0.out.up (hf nx).out) 1 3 rfl rfl : (f nx).cell? ⟨w.heap.size + 1, 3, none⟩ = some (.int .u64 (y).d))
    clear hf
    simp only [List.take_succ_cons, List.take_zero]
    repeat (go_big_quiet_step (first | (go_at_call 65; exact (fP_walk _).mono fun e w'' ⟨he, hb⟩ => ⟨he, hcl.out _ _ hb⟩) | (go_at_call 33; exact (SL _).mono fun e w'' ⟨he, hb⟩ => ⟨he, hcl.out _ _ hb⟩) | (go_at_call 64; exact (SS _).mono fun e w'' ⟨he, hb⟩ => ⟨he, hcl.out _ _ hb⟩)))
    exact wpQuiet_nil rfl
  simp only [List.drop_succ_cons, List.drop_zero]
  have z1 := b0.out.size
  have s1x : Hid (Kn w1 [(k1, zz4), (w.heap.size + 1 + 1, zz4), (w.heap.size + 1, (c4 (y))), (w.heap.size, (c4 (x)))]) := s0.out.fresh hb1.out hk1 hc1.out
  have g1 : w.heap.size ≤ k1 := Nat.le_trans b0.out.size hk1
  have cz1_0 : w1.cell? ⟨k1, 0, none⟩ = some (.int .u64 0) := Kn.get s1x.out 0 0 rfl rfl
  have cz1_1 : w1.cell? ⟨k1, 1, none⟩ = some (.int .u64 0) := Kn.get s1x.out 0 1 rfl rfl
  have cz1_2 : w1.cell? ⟨k1, 2, none⟩ = some (.int .u64 0) := Kn.get s1x.out 0 2 rfl rfl
  have cz1_3 : w1.cell? ⟨k1, 3, none⟩ = some (.int .u64 0) := Kn.get s1x.out 0 3 rfl rfl
  have cz1 : ∀ j, w1.frozen? ⟨k1, j, none⟩ = false := Kn.fz s1x.out 0 rfl
  have s1 : Hid (Kn (st4 w1 k1 (d)) [(k1, (c4 (d))), (w.heap.size + 1 + 1, zz4), (w.heap.size + 1, (c4 (y))), (w.heap.size, (c4 (x)))]) := s1x.out.st4 (d)
  have b1 : Hid (Below w.heap.size w (st4 w1 k1 (d))) := below_st4 (b0.out.trans (hb1.out.mono b0.out.size)) g1
  clear s1x s0 b0 hb1 hc1 hk1
  have ua_0 : (st4 w1 k1 (d)).cell? ⟨w.heap.size, 0, none⟩ = some (.int .u64 (x).a) := Kn.get s1.out 3 0 rfl rfl
  have ua_1 : (st4 w1 k1 (d)).cell? ⟨w.heap.size, 1, none⟩ = some (.int .u64 (x).b) := Kn.get s1.out 3 1 rfl rfl
  have ua_2 : (st4 w1 k1 (d)).cell? ⟨w.heap.size, 2, none⟩ = some (.int .u64 (x).c) := Kn.get s1.out 3 2 rfl rfl
  have ua_3 : (st4 w1 k1 (d)).cell? ⟨w.heap.size, 3, none⟩ = some (.int .u64 (x).d) := Kn.get s1.out 3 3 rfl rfl
  have ud_0 : (st4 w1 k1 (d)).cell? ⟨k1, 0, none⟩ = some (.int .u64 (d).a) := Kn.get s1.out 0 0 rfl rfl
  have ud_1 : (st4 w1 k1 (d)).cell? ⟨k1, 1, none⟩ = some (.int .u64 (d).b) := Kn.get s1.out 0 1 rfl rfl
  have ud_2 : (st4 w1 k1 (d)).cell? ⟨k1, 2, none⟩ = some (.int .u64 (d).c) := Kn.get s1.out 0 2 rfl rfl
  have ud_3 : (st4 w1 k1 (d)).cell? ⟨k1, 3, none⟩ = some (.int .u64 (d).d) := Kn.get s1.out 0 3 rfl rfl
  go_wp2_with fail
  clear cz1_0 cz1_1 cz1_2 cz1_3 cz1 ua_0 ua_1 ua_2 ua_3 ud_0 ud_1 ud_2 ud_3
  refine (SA _).mono ?_
  rintro e w2 ⟨rfl, hb2⟩
  have s2 : Hid (Kn w2 [(k1, (c4 (d))), (w.heap.size + 1 + 1, zz4), (w.heap.size + 1, (c4 (y))), (w.heap.size, (c4 (x)))]) := s1.out.up hb2
  have b2 : Hid (Below w.heap.size w w2) := b1.out.trans (hb2.mono b1.out.size)
  have z2 := b2.out.size
  clear hb2 s1 b1
  have uro_0 : w2.cell? ⟨w.heap.size + 1 + 1, 0, none⟩ = some (.int .u64 0) := Kn.get s2.out 1 0 rfl rfl
  have uro_1 : w2.cell? ⟨w.heap.size + 1 + 1, 1, none⟩ = some (.int .u64 0) := Kn.get s2.out 1 1 rfl rfl
  have uro_2 : w2.cell? ⟨w.heap.size + 1 + 1, 2, none⟩ = some (.int .u64 0) := Kn.get s2.out 1 2 rfl rfl
  have uro_3 : w2.cell? ⟨w.heap.size + 1 + 1, 3, none⟩ = some (.int .u64 0) := Kn.get s2.out 1 3 rfl rfl
  have uro_z : ∀ j, w2.frozen? ⟨w.heap.size + 1 + 1, j, none⟩ = false := Kn.fz s2.out 1 rfl
  have s3 : Hid (Kn (st4 w2 (w.heap.size + 1 + 1) (p)) [(w.heap.size + 1 + 1, (c4 (p))), (k1, (c4 (d))), (w.heap.size + 1, (c4 (y))), (w.heap.size, (c4 (x)))]) := Kn.st4 (L := [(k1, (c4 (d))), (w.heap.size + 1, (c4 (y))), (w.heap.size, (c4 (x)))]) (s2.out.front 1 rfl) (p)
  have b3 : Hid (Below w.heap.size w (st4 w2 (w.heap.size + 1 + 1) (p))) := below_st4 b2.out (by omega)
  clear s2 b2
  go_wp2_with fail
  clear uro_0 uro_1 uro_2 uro_3 uro_z
  have urr_0 : (st4 w2 (w.heap.size + 1 + 1) (p)).cell? ⟨w.heap.size + 1 + 1, 0, none⟩ = some (.int .u64 (p).a) := Kn.get s3.out 0 0 rfl rfl
  have urr_1 : (st4 w2 (w.heap.size + 1 + 1) (p)).cell? ⟨w.heap.size + 1 + 1, 1, none⟩ = some (.int .u64 (p).b) := Kn.get s3.out 0 1 rfl rfl
  have urr_2 : (st4 w2 (w.heap.size + 1 + 1) (p)).cell? ⟨w.heap.size + 1 + 1, 2, none⟩ = some (.int .u64 (p).c) := Kn.get s3.out 0 2 rfl rfl
  have urr_3 : (st4 w2 (w.heap.size + 1 + 1) (p)).cell? ⟨w.heap.size + 1 + 1, 3, none⟩ = some (.int .u64 (p).d) := Kn.get s3.out 0 3 rfl rfl
  refine bodyPost_ret (v := N p) ?_ rfl ⟨rfl, b3.out⟩
  show (results Try.f35 _).run Try.prog (st4 w2 (w.heap.size + 1 + 1) (p)) = .ok _ (st4 w2 (w.heap.size + 1 + 1) (p))
  clear s3 b3
  generalize (st4 w2 (w.heap.size + 1 + 1) (p)) = W9 at *
  simp [results, Try.results35, go_sem, urr_0, urr_1, urr_2, urr_3]
theorem fSubC : FSubC := fun x y ox oy w => by
  have hl := F.mod_lt y.nat
  have hp := F.p_lt
  have SS := sub_nat pN (nm (y.nat % F.p)) pN_ok (nm_ok _)
  rw [pN_nat, f_nat hl, show F.p + 2 ^ 256 - y.nat % F.p = (F.p - y.nat % F.p) + 2 ^ 256 by omega, Nat.add_mod_right, Nat.mod_eq_of_lt (show F.p - y.nat % F.p < 2 ^ 256 by omega)] at SS
  have SA := fAddC x (nm (F.p - y.nat % F.p)) ox (nm_ok _)
  rw [nm_nat (show F.p - y.nat % F.p < 2 ^ 256 by omega)] at SA
  exact fSub_walk x y _ _ _ _ (fLowC y oy) SS SA w
set_option maxHeartbeats 1000000 in
theorem fMul_walk (x y l h m n s p : Nm) (c : Int)
    (M1 : ∀ w, Calls Try.prog 60 #[N x, N y] w fun e w' => e = .returned (Wv l h) ∧ Below w.heap.size w w')
    (M2 : ∀ w, Calls Try.prog 60 #[N h, N ⟨38,0,0,0⟩] w fun e w' => e = .returned (Wv m n) ∧ Below w.heap.size w w')
    (SA : ∀ w, Calls Try.prog 62 #[N l, N m] w fun e w' => e = .returned (.tuple #[N s, .int .u64 c]) ∧ Below w.heap.size w w')
    (SF : ∀ w, Calls Try.prog 59 #[N s, .int .u64 (IntKind.u64.wrap (n.a + c))] w fun e w' => e = .returned (N p) ∧ Below w.heap.size w w')
    (w : World) :
    Calls Try.prog 34 #[N x, N y] w fun e w' => e = .returned (N p) ∧ Below w.heap.size w w' := by
  go_enter Try.func34, Try.ntmps34
  have s0 : Hid (Kn (kz4 (kal4 (kal4 w (x)) (y))) [(w.heap.size + 1 + 1, zz4), (w.heap.size + 1, (c4 (y))), (w.heap.size, (c4 (x)))]) := ((((Kn.nil w).al (c4 (x)) 28 rfl).al (c4 (y)) 28 (by simp)).al zz4 28 (by simp))
  have b0 : Hid (Below w.heap.size w (kz4 (kal4 (kal4 w (x)) (y)))) := ((((Below.refl _ _).alloc (Nat.le_refl _) _).alloc (by simp <;> omega) _).alloc (by simp <;> omega) _)
  go_wp2_with fail
  refine (M1 _).mono ?_
  rintro e w1 ⟨rfl, hb1⟩
  have s1 : Hid (Kn w1 [(w.heap.size + 1 + 1, zz4), (w.heap.size + 1, (c4 (y))), (w.heap.size, (c4 (x)))]) := s0.out.up hb1
  have b1 : Hid (Below w.heap.size w w1) := b0.out.trans (hb1.mono b0.out.size)
  have z1 := b1.out.size
  clear hb1 s0 b0
  have s2 : Hid (Kn (kal8 w1 (l) (h)) [(w1.heap.size, (c8 (l) (h))), (w.heap.size + 1 + 1, zz4), (w.heap.size + 1, (c4 (y))), (w.heap.size, (c4 (x)))]) := s1.out.al (c8 (l) (h)) 83 rfl
  have b2 : Hid (Below w.heap.size w (kal8 w1 (l) (h))) := b1.out.alloc b1.out.size _
  have z2 := b1.out.size
  clear s1 b1
  go_wp2_with fail
  refine (high_fun l h _).mono ?_
  rintro e w3 ⟨rfl, hb3⟩
  have s3 : Hid (Kn w3 [(w1.heap.size, (c8 (l) (h))), (w.heap.size + 1 + 1, zz4), (w.heap.size + 1, (c4 (y))), (w.heap.size, (c4 (x)))]) := s2.out.up hb3
  have b3 : Hid (Below w.heap.size w w3) := b2.out.trans (hb3.mono b2.out.size)
  have z3 := b3.out.size
  clear hb3 s2 b2
  go_wp2_with fail
  refine (M2 _).mono ?_
  rintro e w4 ⟨rfl, hb4⟩
  have s4 : Hid (Kn w4 [(w1.heap.size, (c8 (l) (h))), (w.heap.size + 1 + 1, zz4), (w.heap.size + 1, (c4 (y))), (w.heap.size, (c4 (x)))]) := s3.out.up hb4
  have b4 : Hid (Below w.heap.size w w4) := b3.out.trans (hb4.mono b3.out.size)
  have z4 := b4.out.size
  clear hb4 s3 b3
  have s5 : Hid (Kn (kal8 w4 (m) (n)) [(w4.heap.size, (c8 (m) (n))), (w1.heap.size, (c8 (l) (h))), (w.heap.size + 1 + 1, zz4), (w.heap.size + 1, (c4 (y))), (w.heap.size, (c4 (x)))]) := s4.out.al (c8 (m) (n)) 83 rfl
  have b5 : Hid (Below w.heap.size w (kal8 w4 (m) (n))) := b4.out.alloc b4.out.size _
  have z5 := b4.out.size
  clear s4 b4
  go_wp2_with fail
  refine wp_region_alloc1 8 (.cells #[.int .u64 0, .int .u64 0, .int .u64 0, .int .u64 0] 28) (by kernel_rfl) (by kernel_rfl) (by kernel_rfl) (by kernel_rfl) (by decide) (fun _ _ d _ _ h => by cases d <;> exact h) rfl rfl (fun _ _ => by kernel_rfl) ?_
  apply Exists.intro
  refine ⟨fun U hU f hf hcl => ?_, fun k6 w6 hb6 hk6 hc6 => ?_⟩
  · skip
    have uproduct_0 := fun nx => (Kn.get (s5.out.up (hf nx).out) 1 0 rfl rfl : (f nx).cell? ⟨w1.heap.size, 0, none⟩ = some (.int .u64 (l).a))
    have uproduct_1 := fun nx => (Kn.get (s5.out.up (hf nx).out) 1 1 rfl rfl : (f nx).cell? ⟨w1.heap.size, 1, none⟩ = some (.int .u64 (l).b))
    have uproduct_2 := fun nx => (Kn.get (s5.out.up (hf nx).out) 1 2 rfl rfl : (f nx).cell? ⟨w1.heap.size, 2, none⟩ = some (.int .u64 (l).c))
    have uproduct_3 := fun nx => (Kn.get (s5.out.up (hf nx).out) 1 3 rfl rfl : (f nx).cell? ⟨w1.heap.size, 3, none⟩ = some (.int .u64 (l).d))
    have uproduct_4 := fun nx => (Kn.get (s5.out.up (hf nx).out) 1 4 rfl rfl : (f nx).cell? ⟨w1.heap.size, 4, none⟩ = some (.int .u64 (h).a))
    have uproduct_5 := fun nx => (Kn.get (s5.out.up (hf nx).out) 1 5 rfl rfl : (f nx).cell? ⟨w1.heap.size, 5, none⟩ = some (.int .u64 (h).b))
    have uproduct_6 := fun nx => (Kn.get (s5.out.up (hf nx).out) 1 6 rfl rfl : (f nx).cell? ⟨w1.heap.size, 6, none⟩ = some (.int .u64 (h).c))
    have uproduct_7 := fun nx => (Kn.get (s5.out.up (hf nx).out) 1 7 rfl rfl : (f nx).cell? ⟨w1.heap.size, 7, none⟩ = some (.int .u64 (h).d))
    have uhigh_0 := fun nx => (Kn.get (s5.out.up (hf nx).out) 0 0 rfl rfl : (f nx).cell? ⟨w4.heap.size, 0, none⟩ = some (.int .u64 (m).a))
    have uhigh_1 := fun nx => (Kn.get (s5.out.up (hf nx).out) 0 1 rfl rfl : (f nx).cell? ⟨w4.heap.size, 1, none⟩ = some (.int .u64 (m).b))
    have uhigh_2 := fun nx => (Kn.get (s5.out.up (hf nx).out) 0 2 rfl rfl : (f nx).cell? ⟨w4.heap.size, 2, none⟩ = some (.int .u64 (m).c))
    have uhigh_3 := fun nx => (Kn.get (s5.out.up (hf nx).out) 0 3 rfl rfl : (f nx).cell? ⟨w4.heap.size, 3, none⟩ = some (.int .u64 (m).d))
    have uhigh_4 := fun nx => (Kn.get (s5.out.up (hf nx).out) 0 4 rfl rfl : (f nx).cell? ⟨w4.heap.size, 4, none⟩ = some (.int .u64 (n).a))
    have uhigh_5 := fun nx => (Kn.get (s5.out.up (hf nx).out) 0 5 rfl rfl : (f nx).cell? ⟨w4.heap.size, 5, none⟩ = some (.int .u64 (n).b))
    have uhigh_6 := fun nx => (Kn.get (s5.out.up (hf nx).out) 0 6 rfl rfl : (f nx).cell? ⟨w4.heap.size, 6, none⟩ = some (.int .u64 (n).c))
    have uhigh_7 := fun nx => (Kn.get (s5.out.up (hf nx).out) 0 7 rfl rfl : (f nx).cell? ⟨w4.heap.size, 7, none⟩ = some (.int .u64 (n).d))
    clear hf
    simp only [List.take_succ_cons, List.take_zero]
    repeat (go_big_quiet_step (first | (go_at_call_of 63 [Value.agg #[Value.int IntKind.u64 l.a, Value.int IntKind.u64 l.b, Value.int IntKind.u64 l.c, Value.int IntKind.u64 l.d, Value.int IntKind.u64 h.a, Value.int IntKind.u64 h.b, Value.int IntKind.u64 h.c, Value.int IntKind.u64 h.d]]; exact (low_fun l h _).mono fun e w'' ⟨he, hb⟩ => ⟨he, hcl.out _ _ hb⟩) | (go_at_call_of 63 [Value.agg #[Value.int IntKind.u64 m.a, Value.int IntKind.u64 m.b, Value.int IntKind.u64 m.c, Value.int IntKind.u64 m.d, Value.int IntKind.u64 n.a, Value.int IntKind.u64 n.b, Value.int IntKind.u64 n.c, Value.int IntKind.u64 n.d]]; exact (low_fun m n _).mono fun e w'' ⟨he, hb⟩ => ⟨he, hcl.out _ _ hb⟩) | (go_at_call 62; exact (SA _).mono fun e w'' ⟨he, hb⟩ => ⟨he, hcl.out _ _ hb⟩)))
    exact wpQuiet_nil rfl
  simp only [List.drop_succ_cons, List.drop_zero]
  have z6 := b5.out.size
  have s6x : Hid (Kn w6 [(k6, zz4), (w4.heap.size, (c8 (m) (n))), (w1.heap.size, (c8 (l) (h))), (w.heap.size + 1 + 1, zz4), (w.heap.size + 1, (c4 (y))), (w.heap.size, (c4 (x)))]) := s5.out.fresh hb6.out hk6 hc6.out
  have g6 : w.heap.size ≤ k6 := Nat.le_trans b5.out.size hk6
  have cz6_0 : w6.cell? ⟨k6, 0, none⟩ = some (.int .u64 0) := Kn.get s6x.out 0 0 rfl rfl
  have cz6_1 : w6.cell? ⟨k6, 1, none⟩ = some (.int .u64 0) := Kn.get s6x.out 0 1 rfl rfl
  have cz6_2 : w6.cell? ⟨k6, 2, none⟩ = some (.int .u64 0) := Kn.get s6x.out 0 2 rfl rfl
  have cz6_3 : w6.cell? ⟨k6, 3, none⟩ = some (.int .u64 0) := Kn.get s6x.out 0 3 rfl rfl
  have cz6 : ∀ j, w6.frozen? ⟨k6, j, none⟩ = false := Kn.fz s6x.out 0 rfl
  have s6 : Hid (Kn (st4 w6 k6 (s)) [(k6, (c4 (s))), (w4.heap.size, (c8 (m) (n))), (w1.heap.size, (c8 (l) (h))), (w.heap.size + 1 + 1, zz4), (w.heap.size + 1, (c4 (y))), (w.heap.size, (c4 (x)))]) := s6x.out.st4 (s)
  have b6 : Hid (Below w.heap.size w (st4 w6 k6 (s))) := below_st4 (b5.out.trans (hb6.out.mono b5.out.size)) g6
  clear s6x s5 b5 hb6 hc6 hk6
  have uhigh_0 : (st4 w6 k6 (s)).cell? ⟨w4.heap.size, 0, none⟩ = some (.int .u64 (m).a) := Kn.get s6.out 1 0 rfl rfl
  have uhigh_1 : (st4 w6 k6 (s)).cell? ⟨w4.heap.size, 1, none⟩ = some (.int .u64 (m).b) := Kn.get s6.out 1 1 rfl rfl
  have uhigh_2 : (st4 w6 k6 (s)).cell? ⟨w4.heap.size, 2, none⟩ = some (.int .u64 (m).c) := Kn.get s6.out 1 2 rfl rfl
  have uhigh_3 : (st4 w6 k6 (s)).cell? ⟨w4.heap.size, 3, none⟩ = some (.int .u64 (m).d) := Kn.get s6.out 1 3 rfl rfl
  have uhigh_4 : (st4 w6 k6 (s)).cell? ⟨w4.heap.size, 4, none⟩ = some (.int .u64 (n).a) := Kn.get s6.out 1 4 rfl rfl
  have uhigh_5 : (st4 w6 k6 (s)).cell? ⟨w4.heap.size, 5, none⟩ = some (.int .u64 (n).b) := Kn.get s6.out 1 5 rfl rfl
  have uhigh_6 : (st4 w6 k6 (s)).cell? ⟨w4.heap.size, 6, none⟩ = some (.int .u64 (n).c) := Kn.get s6.out 1 6 rfl rfl
  have uhigh_7 : (st4 w6 k6 (s)).cell? ⟨w4.heap.size, 7, none⟩ = some (.int .u64 (n).d) := Kn.get s6.out 1 7 rfl rfl
  have us_0 : (st4 w6 k6 (s)).cell? ⟨k6, 0, none⟩ = some (.int .u64 (s).a) := Kn.get s6.out 0 0 rfl rfl
  have us_1 : (st4 w6 k6 (s)).cell? ⟨k6, 1, none⟩ = some (.int .u64 (s).b) := Kn.get s6.out 0 1 rfl rfl
  have us_2 : (st4 w6 k6 (s)).cell? ⟨k6, 2, none⟩ = some (.int .u64 (s).c) := Kn.get s6.out 0 2 rfl rfl
  have us_3 : (st4 w6 k6 (s)).cell? ⟨k6, 3, none⟩ = some (.int .u64 (s).d) := Kn.get s6.out 0 3 rfl rfl
  go_wp2_with fail
  clear cz6_0 cz6_1 cz6_2 cz6_3 cz6 uhigh_0 uhigh_1 uhigh_2 uhigh_3 uhigh_4 uhigh_5 uhigh_6 uhigh_7 us_0 us_1 us_2 us_3
  refine (SF _).mono ?_
  rintro e w7 ⟨rfl, hb7⟩
  have s7 : Hid (Kn w7 [(k6, (c4 (s))), (w4.heap.size, (c8 (m) (n))), (w1.heap.size, (c8 (l) (h))), (w.heap.size + 1 + 1, zz4), (w.heap.size + 1, (c4 (y))), (w.heap.size, (c4 (x)))]) := s6.out.up hb7
  have b7 : Hid (Below w.heap.size w w7) := b6.out.trans (hb7.mono b6.out.size)
  have z7 := b7.out.size
  clear hb7 s6 b6
  have uro_0 : w7.cell? ⟨w.heap.size + 1 + 1, 0, none⟩ = some (.int .u64 0) := Kn.get s7.out 3 0 rfl rfl
  have uro_1 : w7.cell? ⟨w.heap.size + 1 + 1, 1, none⟩ = some (.int .u64 0) := Kn.get s7.out 3 1 rfl rfl
  have uro_2 : w7.cell? ⟨w.heap.size + 1 + 1, 2, none⟩ = some (.int .u64 0) := Kn.get s7.out 3 2 rfl rfl
  have uro_3 : w7.cell? ⟨w.heap.size + 1 + 1, 3, none⟩ = some (.int .u64 0) := Kn.get s7.out 3 3 rfl rfl
  have uro_z : ∀ j, w7.frozen? ⟨w.heap.size + 1 + 1, j, none⟩ = false := Kn.fz s7.out 3 rfl
  have s8 : Hid (Kn (st4 w7 (w.heap.size + 1 + 1) (p)) [(w.heap.size + 1 + 1, (c4 (p))), (k6, (c4 (s))), (w4.heap.size, (c8 (m) (n))), (w1.heap.size, (c8 (l) (h))), (w.heap.size + 1, (c4 (y))), (w.heap.size, (c4 (x)))]) := Kn.st4 (L := [(k6, (c4 (s))), (w4.heap.size, (c8 (m) (n))), (w1.heap.size, (c8 (l) (h))), (w.heap.size + 1, (c4 (y))), (w.heap.size, (c4 (x)))]) (s7.out.front 3 rfl) (p)
  have b8 : Hid (Below w.heap.size w (st4 w7 (w.heap.size + 1 + 1) (p))) := below_st4 b7.out (by omega)
  clear s7 b7
  go_wp2_with fail
  clear uro_0 uro_1 uro_2 uro_3 uro_z
  have urr_0 : (st4 w7 (w.heap.size + 1 + 1) (p)).cell? ⟨w.heap.size + 1 + 1, 0, none⟩ = some (.int .u64 (p).a) := Kn.get s8.out 0 0 rfl rfl
  have urr_1 : (st4 w7 (w.heap.size + 1 + 1) (p)).cell? ⟨w.heap.size + 1 + 1, 1, none⟩ = some (.int .u64 (p).b) := Kn.get s8.out 0 1 rfl rfl
  have urr_2 : (st4 w7 (w.heap.size + 1 + 1) (p)).cell? ⟨w.heap.size + 1 + 1, 2, none⟩ = some (.int .u64 (p).c) := Kn.get s8.out 0 2 rfl rfl
  have urr_3 : (st4 w7 (w.heap.size + 1 + 1) (p)).cell? ⟨w.heap.size + 1 + 1, 3, none⟩ = some (.int .u64 (p).d) := Kn.get s8.out 0 3 rfl rfl
  refine bodyPost_ret (v := N p) ?_ rfl ⟨rfl, b8.out⟩
  show (results Try.f34 _).run Try.prog (st4 w7 (w.heap.size + 1 + 1) (p)) = .ok _ (st4 w7 (w.heap.size + 1 + 1) (p))
  clear s8 b8
  generalize (st4 w7 (w.heap.size + 1 + 1) (p)) = W9 at *
  simp [results, Try.results34, go_sem, urr_0, urr_1, urr_2, urr_3]
theorem fMulC : FMulC := fun x y ox oy w => by
  have hn := mul_lt512 ox oy
  have M1 := mul_V x y ox oy
  have q2 : (2 : Nat) ^ 512 = 2 ^ 256 * 2 ^ 256 := pow512'
  generalize hN : x.nat * y.nat = n at *
  have hh : n / 2 ^ 256 < 2 ^ 256 := by rw [Nat.div_lt_iff_lt_mul (by decide), ← q2]; exact hn
  have hl : n % 2 ^ 256 < 2 ^ 256 := Nat.mod_lt _ (by decide)
  rw [WL_nm, WH_nm] at M1
  have M2 := mul_V (nm (n / 2 ^ 256)) ⟨38, 0, 0, 0⟩ (nm_ok _) (one_ok ⟨by decide, by decide⟩)
  rw [nm_nat hh, show (⟨38, 0, 0, 0⟩ : Nm).nat = 38 from rfl, WL_nm, WH_nm] at M2
  have SA := add_nat (nm (n % 2 ^ 256)) (nm (n / 2 ^ 256 * 38 % 2 ^ 256)) (nm_ok _) (nm_ok _)
  rw [nm_nat hl, nm_nat (Nat.mod_lt _ (by decide))] at SA
  have p2 : (2 : Nat) ^ 256 = 115792089237316195423570985008687907853269984665640564039457584007913129639936 := by decide
  have hp : F.p = 57896044618658097711785492504343953926634992332820282019728792003956564819949 := rfl
  have SF := fold_fun (nm ((n % 2 ^ 256 + n / 2 ^ 256 * 38 % 2 ^ 256) % 2 ^ 256)) (n / 2 ^ 256 * 38 / 2 ^ 256 + (n % 2 ^ 256 + n / 2 ^ 256 * 38 % 2 ^ 256) / 2 ^ 256) (nm_ok _) (by rw [p2] at *; omega)
  have e1 : (nm ((n % 2 ^ 256 + n / 2 ^ 256 * 38 % 2 ^ 256) % 2 ^ 256)).nat + 2 ^ 256 * (n / 2 ^ 256 * 38 / 2 ^ 256 + (n % 2 ^ 256 + n / 2 ^ 256 * 38 % 2 ^ 256) / 2 ^ 256) = n % 2 ^ 256 + 38 * (n / 2 ^ 256) := by
    rw [nm_nat (Nat.mod_lt _ (by decide)), p2]
    omega
  have e2 : (n % 2 ^ 256 + 38 * (n / 2 ^ 256)) % F.p = n % F.p := by
    have : n = (n % 2 ^ 256 + 38 * (n / 2 ^ 256)) + F.p * (2 * (n / 2 ^ 256)) := by rw [p2, hp]; omega
    conv => rhs; rw [this]
    rw [Nat.add_mul_mod_self_left]
  have e3 : ((n / 2 ^ 256 * 38 / 2 ^ 256 + (n % 2 ^ 256 + n / 2 ^ 256 * 38 % 2 ^ 256) / 2 ^ 256 : Nat) : Int) = IntKind.u64.wrap ((nm (n / 2 ^ 256 * 38 / 2 ^ 256)).a + (((n % 2 ^ 256 + n / 2 ^ 256 * 38 % 2 ^ 256) / 2 ^ 256 : Nat) : Int)) := by
    rw [IntKind.wrap_u64]
    show _ = (((n / 2 ^ 256 * 38 / 2 ^ 256 : Nat) : Int) % 18446744073709551616 + _) % _
    rw [p2] at *
    omega
  rw [e1, e2, e3] at SF
  rw [show F.mul x.nat y.nat = n % F.p by unfold F.mul; rw [hN]]
  exact fMul_walk x y _ _ _ _ _ _ _ M1 M2 SA SF w
end Go.Proofs.Ytpnfopakkaoibaa
