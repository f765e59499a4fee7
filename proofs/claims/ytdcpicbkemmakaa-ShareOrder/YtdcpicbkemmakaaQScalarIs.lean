/- Package scalar, as it landed: Inv. -/
import Derived.Test.YtdcpicbkemmakaaQScF
import Derived.Test.YtdcpicbkemmakaaQShlToBit
import Derived.LoopN
namespace Go.Proofs.Ytdcpicbkemmakaa
open Go.RowKit
attribute [local go_sem] World.cell?_alloc_some cell_alloc2 cell_alloc3 cell_alloc4 frozen?_alloc_cells frozen_out
set_option linter.unusedSimpArgs false
set_option maxHeartbeats 2000000 in
theorem sInv_walk (x oN : Nm) (u : Int) (pk sq : Nat → Nm) (bt : Nat → Int)
    (SS : ∀ w, Calls Try.prog 36 #[N lN, N ⟨2,0,0,0⟩] w fun e w' => e = .returned (.tuple #[N oN, .int .u64 u]) ∧ Below w.heap.size w w')
    (SN : ∀ w, Calls Try.prog 37 #[N oN] w fun e w' => e = .returned (.int .i64 253) ∧ Below w.heap.size w w')
    (S1 : ∀ i, i < 253 → ∀ w, Calls Try.prog 15 #[N (pk (i + 1)), N (pk (i + 1))] w fun e w' => e = .returned (N (sq i)) ∧ Below w.heap.size w w')
    (SB : ∀ i : Nat, i < 253 → ∀ w, Calls Try.prog 38 #[N oN, .int .i64 i] w fun e w' => e = .returned (.int .u64 (bt i)) ∧ Below w.heap.size w w')
    (S2 : ∀ i, i < 253 → bt i = 1 → ∀ w, Calls Try.prog 15 #[N (sq i), N x] w fun e w' => e = .returned (N (pk i)) ∧ Below w.heap.size w w')
    (P0 : ∀ i, i < 253 → bt i ≠ 1 → sq i = pk i) (PL : pk 253 = ⟨1, 0, 0, 0⟩)
    (w : World) :
    Calls Try.prog 17 #[N x] w fun e w' => e = .returned (N (pk 0)) ∧ Below w.heap.size w w' := by
  have PL' : Hid _ := PL
  have P0' : Hid _ := P0
  clear PL P0
  go_enter Try.func17, Try.ntmps17
  have s0 : Hid (Kn (kz4 (kal4 w (x))) [(w.heap.size + 1, zz4), (w.heap.size, (c4 (x)))]) := (((Kn.nil w).al (c4 (x)) 27 rfl).al zz4 27 (by simp))
  have b0 : Hid (Below w.heap.size w (kz4 (kal4 w (x)))) := (((Below.refl _ _).alloc (Nat.le_refl _) _).alloc (by simp <;> omega) _)
  go_wp2_with fail
  refine (sL_walk _).mono ?_
  rintro e w1 ⟨rfl, hb1⟩
  have s1 : Hid (Kn w1 [(w.heap.size + 1, zz4), (w.heap.size, (c4 (x)))]) := s0.out.up hb1
  have b1 : Hid (Below w.heap.size w w1) := b0.out.trans (hb1.mono b0.out.size)
  have z1 := b1.out.size
  clear hb1 s0 b0
  go_wp2_with fail
  refine (SS _).mono ?_
  rintro e w2 ⟨rfl, hb2⟩
  have s2 : Hid (Kn w2 [(w.heap.size + 1, zz4), (w.heap.size, (c4 (x)))]) := s1.out.up hb2
  have b2 : Hid (Below w.heap.size w w2) := b1.out.trans (hb2.mono b1.out.size)
  have z2 := b2.out.size
  clear hb2 s1 b1
  have s3 : Hid (Kn (kal4 w2 (oN)) [(w2.heap.size, (c4 (oN))), (w.heap.size + 1, zz4), (w.heap.size, (c4 (x)))]) := s2.out.al (c4 (oN)) 27 rfl
  have b3 : Hid (Below w.heap.size w (kal4 w2 (oN))) := b2.out.alloc b2.out.size _
  have z3 := b2.out.size
  clear s2 b2
  have s4 : Hid (Kn (kal4 (kal4 w2 (oN)) ((⟨1,0,0,0⟩:Nm))) [(w2.heap.size + 1, (c4 ((⟨1,0,0,0⟩:Nm)))), (w2.heap.size, (c4 (oN))), (w.heap.size + 1, zz4), (w.heap.size, (c4 (x)))]) := s3.out.al (c4 ((⟨1,0,0,0⟩:Nm))) 27 (by simp)
  have b4 : Hid (Below w.heap.size w (kal4 (kal4 w2 (oN)) ((⟨1,0,0,0⟩:Nm)))) := b3.out.alloc b3.out.size _
  have z4 := b3.out.size
  clear s3 b3
  go_wp2_with fail
  refine (SN _).mono ?_
  rintro e w5 ⟨rfl, hb5⟩
  have s5 : Hid (Kn w5 [(w2.heap.size + 1, (c4 ((⟨1,0,0,0⟩:Nm)))), (w2.heap.size, (c4 (oN))), (w.heap.size + 1, zz4), (w.heap.size, (c4 (x)))]) := s4.out.up hb5
  have b5 : Hid (Below w.heap.size w w5) := b4.out.trans (hb5.mono b4.out.size)
  have z5 := b5.out.size
  clear hb5 s4 b4
  go_wp2_with fail
  have g0 : w.heap.size ≤ w2.heap.size := z3
  have s9 : Hid (Kn w5 [(w2.heap.size + 1, c4 (pk 253)), (w2.heap.size, c4 oN), (w.heap.size + 1, zz4), (w.heap.size, c4 x)]) := by rw [PL'.out]; exact s5
  have b9 := b5
  clear s5 b5
  have gj : Hid (w.heap.size ≤ w2.heap.size + 1) := Nat.le_trans g0 (Nat.le_succ _)
  generalize w2.heap.size + 1 = j1 at *
  generalize w2.heap.size = k1 at *
  go_loopw [6] (fun i w' => ∃ q : Nat, q ≤ 253 ∧ i = .int .i64 ((q : Int) - 1) ∧ Hid (Kn w' [(j1, c4 (pk q)), (k1, c4 oN), (w.heap.size + 1, zz4), (w.heap.size, c4 x)]) ∧ Hid (Below w.heap.size w w')) (fun i _ => (intOf i + 1).toNat)
  case atStart => exact ⟨253, Nat.le_refl _, by first | rfl | go_num, s9, b9⟩
  case round =>
    clear s9 b9
    obtain ⟨q, hq, rfl, s1, b1⟩ := hrel
    by_cases h0 : 0 < q
    · obtain ⟨i, rfl⟩ : ∃ i, q = i + 1 := ⟨q - 1, by omega⟩
      rw [show ((i + 1 : Nat) : Int) - 1 = i by omega]
      have i0 : (i : Int) ≥ 0 := by omega
      have i1 : (i : Int) < 256 := by omega
      have gj' := gj.out
      have T1 := S1 i (by omega)
      have TB := SB i (by omega)
      have G2 : Hid _ := S2 i (by omega)
      have Q0 : Hid _ := P0'.out i (by omega)
      clear S1 SB S2 P0' SN SS
      generalize pk (i + 1) = y at *
      generalize sq i = z at *
      generalize bt i = c at *
      have upw_0 : wr.cell? ⟨j1, 0, none⟩ = some (.int .u64 (y).a) := Kn.get s1.out 0 0 rfl rfl
      have upw_1 : wr.cell? ⟨j1, 1, none⟩ = some (.int .u64 (y).b) := Kn.get s1.out 0 1 rfl rfl
      have upw_2 : wr.cell? ⟨j1, 2, none⟩ = some (.int .u64 (y).c) := Kn.get s1.out 0 2 rfl rfl
      have upw_3 : wr.cell? ⟨j1, 3, none⟩ = some (.int .u64 (y).d) := Kn.get s1.out 0 3 rfl rfl
      go_wp2_with fail
      clear upw_0 upw_1 upw_2 upw_3
      refine (T1 _).mono ?_
      rintro e w2 ⟨rfl, hb2⟩
      have s2 : Hid (Kn w2 [(j1, (c4 (y))), (k1, (c4 (oN))), (w.heap.size + 1, zz4), (w.heap.size, (c4 (x)))]) := s1.out.up hb2
      have b2 : Hid (Below w.heap.size w w2) := b1.out.trans (hb2.mono b1.out.size)
      have z2 := b2.out.size
      clear hb2 s1 b1
      have upwo_0 : w2.cell? ⟨j1, 0, none⟩ = some (.int .u64 (y).a) := Kn.get s2.out 0 0 rfl rfl
      have upwo_1 : w2.cell? ⟨j1, 1, none⟩ = some (.int .u64 (y).b) := Kn.get s2.out 0 1 rfl rfl
      have upwo_2 : w2.cell? ⟨j1, 2, none⟩ = some (.int .u64 (y).c) := Kn.get s2.out 0 2 rfl rfl
      have upwo_3 : w2.cell? ⟨j1, 3, none⟩ = some (.int .u64 (y).d) := Kn.get s2.out 0 3 rfl rfl
      have upwo_z : ∀ j, w2.frozen? ⟨j1, j, none⟩ = false := Kn.fz s2.out 0 rfl
      have s3 : Hid (Kn (st4 w2 j1 (z)) [(j1, (c4 (z))), (k1, (c4 (oN))), (w.heap.size + 1, zz4), (w.heap.size, (c4 (x)))]) := Kn.st4 (L := [(k1, (c4 (oN))), (w.heap.size + 1, zz4), (w.heap.size, (c4 (x)))]) (s2.out.front 0 rfl) (z)
      have b3 : Hid (Below w.heap.size w (st4 w2 j1 (z))) := below_st4 b2.out (by omega)
      clear s2 b2
      have un_0 : (st4 w2 j1 (z)).cell? ⟨k1, 0, none⟩ = some (.int .u64 (oN).a) := Kn.get s3.out 1 0 rfl rfl
      have un_1 : (st4 w2 j1 (z)).cell? ⟨k1, 1, none⟩ = some (.int .u64 (oN).b) := Kn.get s3.out 1 1 rfl rfl
      have un_2 : (st4 w2 j1 (z)).cell? ⟨k1, 2, none⟩ = some (.int .u64 (oN).c) := Kn.get s3.out 1 2 rfl rfl
      have un_3 : (st4 w2 j1 (z)).cell? ⟨k1, 3, none⟩ = some (.int .u64 (oN).d) := Kn.get s3.out 1 3 rfl rfl
      go_wp2_with fail
      clear upwo_0 upwo_1 upwo_2 upwo_3 upwo_z un_0 un_1 un_2 un_3
      refine (TB _).mono ?_
      rintro e w4 ⟨rfl, hb4⟩
      have s4 : Hid (Kn w4 [(j1, (c4 (z))), (k1, (c4 (oN))), (w.heap.size + 1, zz4), (w.heap.size, (c4 (x)))]) := s3.out.up hb4
      have b4 : Hid (Below w.heap.size w w4) := b3.out.trans (hb4.mono b3.out.size)
      have z4 := b4.out.size
      clear hb4 s3 b3
      by_cases hc : c = 1
      · have G3 := G2.out hc
        subst hc
        have upw_0 : w4.cell? ⟨j1, 0, none⟩ = some (.int .u64 (z).a) := Kn.get s4.out 0 0 rfl rfl
        have upw_1 : w4.cell? ⟨j1, 1, none⟩ = some (.int .u64 (z).b) := Kn.get s4.out 0 1 rfl rfl
        have upw_2 : w4.cell? ⟨j1, 2, none⟩ = some (.int .u64 (z).c) := Kn.get s4.out 0 2 rfl rfl
        have upw_3 : w4.cell? ⟨j1, 3, none⟩ = some (.int .u64 (z).d) := Kn.get s4.out 0 3 rfl rfl
        have ua_0 : w4.cell? ⟨w.heap.size, 0, none⟩ = some (.int .u64 (x).a) := Kn.get s4.out 3 0 rfl rfl
        have ua_1 : w4.cell? ⟨w.heap.size, 1, none⟩ = some (.int .u64 (x).b) := Kn.get s4.out 3 1 rfl rfl
        have ua_2 : w4.cell? ⟨w.heap.size, 2, none⟩ = some (.int .u64 (x).c) := Kn.get s4.out 3 2 rfl rfl
        have ua_3 : w4.cell? ⟨w.heap.size, 3, none⟩ = some (.int .u64 (x).d) := Kn.get s4.out 3 3 rfl rfl
        go_wp2_with fail
        clear upw_0 upw_1 upw_2 upw_3 ua_0 ua_1 ua_2 ua_3
        refine (G3 _).mono ?_
        rintro e w5 ⟨rfl, hb5⟩
        have s5 : Hid (Kn w5 [(j1, (c4 (z))), (k1, (c4 (oN))), (w.heap.size + 1, zz4), (w.heap.size, (c4 (x)))]) := s4.out.up hb5
        have b5 : Hid (Below w.heap.size w w5) := b4.out.trans (hb5.mono b4.out.size)
        have z5 := b5.out.size
        clear hb5 s4 b4
        have upwo_0 : w5.cell? ⟨j1, 0, none⟩ = some (.int .u64 (z).a) := Kn.get s5.out 0 0 rfl rfl
        have upwo_1 : w5.cell? ⟨j1, 1, none⟩ = some (.int .u64 (z).b) := Kn.get s5.out 0 1 rfl rfl
        have upwo_2 : w5.cell? ⟨j1, 2, none⟩ = some (.int .u64 (z).c) := Kn.get s5.out 0 2 rfl rfl
        have upwo_3 : w5.cell? ⟨j1, 3, none⟩ = some (.int .u64 (z).d) := Kn.get s5.out 0 3 rfl rfl
        have upwo_z : ∀ j, w5.frozen? ⟨j1, j, none⟩ = false := Kn.fz s5.out 0 rfl
        have s6 : Hid (Kn (st4 w5 j1 (pk i)) [(j1, (c4 (pk i))), (k1, (c4 (oN))), (w.heap.size + 1, zz4), (w.heap.size, (c4 (x)))]) := Kn.st4 (L := [(k1, (c4 (oN))), (w.heap.size + 1, zz4), (w.heap.size, (c4 (x)))]) (s5.out.front 0 rfl) (pk i)
        have b6 : Hid (Below w.heap.size w (st4 w5 j1 (pk i))) := below_st4 b5.out (by omega)
        clear s5 b5
        go_wp2_with fail
        clear upwo_0 upwo_1 upwo_2 upwo_3 upwo_z
        go_roundw
        case rel => exact ⟨i, by omega, by go_num, s6, b6⟩
        case measure => simp [intOf]
      · have hc' : (c == 1) = false := beq_eq_false_iff_ne.2 hc
        go_wp2_with fail
        go_roundw
        case rel => exact ⟨i, by omega, by go_num, by rw [← Q0.out hc]; exact s4, b4⟩
        case measure => simp [intOf]
    · have q0 : q = 0 := by omega
      subst q0
      have upw_0 : wr.cell? ⟨j1, 0, none⟩ = some (.int .u64 (pk 0).a) := Kn.get s1.out 0 0 rfl rfl
      have upw_1 : wr.cell? ⟨j1, 1, none⟩ = some (.int .u64 (pk 0).b) := Kn.get s1.out 0 1 rfl rfl
      have upw_2 : wr.cell? ⟨j1, 2, none⟩ = some (.int .u64 (pk 0).c) := Kn.get s1.out 0 2 rfl rfl
      have upw_3 : wr.cell? ⟨j1, 3, none⟩ = some (.int .u64 (pk 0).d) := Kn.get s1.out 0 3 rfl rfl
      have uro_0 : wr.cell? ⟨w.heap.size + 1, 0, none⟩ = some (.int .u64 0) := Kn.get s1.out 2 0 rfl rfl
      have uro_1 : wr.cell? ⟨w.heap.size + 1, 1, none⟩ = some (.int .u64 0) := Kn.get s1.out 2 1 rfl rfl
      have uro_2 : wr.cell? ⟨w.heap.size + 1, 2, none⟩ = some (.int .u64 0) := Kn.get s1.out 2 2 rfl rfl
      have uro_3 : wr.cell? ⟨w.heap.size + 1, 3, none⟩ = some (.int .u64 0) := Kn.get s1.out 2 3 rfl rfl
      have uro_z : ∀ j, wr.frozen? ⟨w.heap.size + 1, j, none⟩ = false := Kn.fz s1.out 2 rfl
      have s2 : Hid (Kn (st4 wr (w.heap.size + 1) (pk 0)) [(w.heap.size + 1, (c4 (pk 0))), (j1, (c4 (pk 0))), (k1, (c4 (oN))), (w.heap.size, (c4 (x)))]) := Kn.st4 (L := [(j1, (c4 (pk 0))), (k1, (c4 (oN))), (w.heap.size, (c4 (x)))]) (s1.out.front 2 rfl) (pk 0)
      have b2 : Hid (Below w.heap.size w (st4 wr (w.heap.size + 1) (pk 0))) := below_st4 b1.out (by omega)
      clear s1 b1
      go_wp2_with fail
      clear upw_0 upw_1 upw_2 upw_3 uro_0 uro_1 uro_2 uro_3 uro_z
      have urr_0 : (st4 wr (w.heap.size + 1) (pk 0)).cell? ⟨w.heap.size + 1, 0, none⟩ = some (.int .u64 (pk 0).a) := Kn.get s2.out 0 0 rfl rfl
      have urr_1 : (st4 wr (w.heap.size + 1) (pk 0)).cell? ⟨w.heap.size + 1, 1, none⟩ = some (.int .u64 (pk 0).b) := Kn.get s2.out 0 1 rfl rfl
      have urr_2 : (st4 wr (w.heap.size + 1) (pk 0)).cell? ⟨w.heap.size + 1, 2, none⟩ = some (.int .u64 (pk 0).c) := Kn.get s2.out 0 2 rfl rfl
      have urr_3 : (st4 wr (w.heap.size + 1) (pk 0)).cell? ⟨w.heap.size + 1, 3, none⟩ = some (.int .u64 (pk 0).d) := Kn.get s2.out 0 3 rfl rfl
      refine bodyPost_ret (v := N (pk 0)) ?_ rfl ⟨rfl, b2.out⟩
      show (results Try.f17 _).run Try.prog (st4 wr (w.heap.size + 1) (pk 0)) = .ok _ (st4 wr (w.heap.size + 1) (pk 0))
      clear s2 b2
      generalize (st4 wr (w.heap.size + 1) (pk 0)) = W9 at *
      simp [results, Try.results17, go_sem, urr_0, urr_1, urr_2, urr_3]
theorem sInvC : SInvC := fun x ox w => by
  -- function 17
  have hL : Cv.ord = 7237005577332262213973186563042994240857116359379907606001950938285454250989 := rfl
  obtain ⟨n, hn⟩ : ∃ n, n = Cv.ord - 2 := ⟨_, rfl⟩
  have ln : n < 2 ^ 253 := by rw [hn]; decide
  have l2 : n < 2 ^ 256 := Nat.lt_trans ln (by decide)
  have SS := sub_nat lN ⟨2, 0, 0, 0⟩ lN_ok (one_ok ⟨by decide, by decide⟩)
  rw [lN_nat, show (⟨2, 0, 0, 0⟩ : Nm).nat = 2 from rfl, show (Cv.ord + 2 ^ 256 - 2) % 2 ^ 256 = n by rw [hn]; decide] at SS
  have SN := len_fun (nm n) (nm_ok _)
  have e : lenN (nm n).val.toNat = 253 := by
    show lenN (nm n).nat = 253
    rw [nm_nat l2]
    refine lenN_eq fun k => ⟨fun h => Nat.lt_of_lt_of_le ln (Nat.pow_le_pow_right (by decide) h), fun h => ?_⟩
    refine Nat.le_of_not_lt fun hk => ?_
    have := Nat.pow_le_pow_right (n := 2) (by decide) (show k ≤ 252 by omega)
    have h3 : 2 ^ 252 ≤ n := by rw [hn]; decide
    omega
  rw [e] at SN
  have bitv : ∀ i : Nat, (nm n).val / 2 ^ i % 2 = ((n / 2 ^ i % 2 : Nat) : Int) := fun i => by
    rw [← Nm.nat_cast (nm_ok n), nm_nat l2, Int.natCast_emod, Int.natCast_ediv, Int.natCast_pow]
    rfl
  have up : ∀ i, n / 2 ^ i = n / 2 ^ (i + 1) + n / 2 ^ (i + 1) + n / 2 ^ i % 2 := fun i => by
    rw [Nat.pow_succ, ← Nat.div_div_eq_div_mul]
    omega
  have h := sInv_walk x (nm n) _ (fun i => nm (x.nat ^ (n / 2 ^ i) % Cv.ord)) (fun i => nm (x.nat ^ (n / 2 ^ (i + 1)) * x.nat ^ (n / 2 ^ (i + 1)) % Cv.ord)) (fun i => (nm n).val / 2 ^ i % 2) SS SN
    (fun i _ => ?_) (fun i hi => bit_fun (nm n) (nm_ok _) i (by omega)) (fun i _ hb => ?_) (fun i _ hb => ?_) ?_ w
  · rw [Nat.pow_zero, Nat.div_one, hn] at h
    exact h
  · have := sMulC (nm (x.nat ^ (n / 2 ^ (i + 1)) % Cv.ord)) (nm (x.nat ^ (n / 2 ^ (i + 1)) % Cv.ord)) (nm_ok _) (nm_ok _)
    rw [s_nat, ← Nat.mul_mod] at this
    exact this
  · have := sMulC (nm (x.nat ^ (n / 2 ^ (i + 1)) * x.nat ^ (n / 2 ^ (i + 1)) % Cv.ord)) x (nm_ok _) ox
    rw [s_nat, Nat.mod_mul_mod] at this
    have b1 : n / 2 ^ i % 2 = 1 := by have := bitv i; omega
    have e := up i
    rw [b1] at e
    rw [show x.nat ^ (n / 2 ^ i) = x.nat ^ (n / 2 ^ (i + 1)) * x.nat ^ (n / 2 ^ (i + 1)) * x.nat by rw [e, Nat.pow_succ, Nat.pow_add]]
    exact this
  · have b0 : n / 2 ^ i % 2 = 0 := by have := bitv i; omega
    have e := up i
    rw [b0, Nat.add_zero] at e
    show nm _ = nm _
    rw [← Nat.pow_add, ← e]
  · show nm _ = _
    have : n / 2 ^ 253 = 0 := Nat.div_eq_of_lt ln
    rw [this, Nat.pow_zero]
    rfl
end Go.Proofs.Ytdcpicbkemmakaa
