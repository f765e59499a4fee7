/- The contract of ring.inverse: what an odd number has as its inverse modulo 2^256, by seven steps of Newton's. -/
import Derived.Test.YtkgfeacednomfaaRingV
import Derived.LoopN
namespace Go.Proofs.Ytkgfeacednomfaa
open Go.RowKit
attribute [local go_sem] World.cell?_alloc_some frozen?_alloc_cells frozen_out
/-- One step. -/
def nstep (m x : Nm) : Nm := WL (x.nat * (subS ⟨2, 0, 0, 0⟩ (WL (m.nat * x.nat))).nat)
/-- Behind k steps. -/
def xk (m : Nm) : Nat → Nm
  | 0 => m
  | k + 1 => nstep m (xk m k)
theorem xk_ok {m : Nm} (om : m.ok) : ∀ k, (xk m k).ok
  | 0 => om
  | _ + 1 => WL_ok _
theorem two_ok : (⟨2, 0, 0, 0⟩ : Nm).ok := ⟨⟨by decide, by decide⟩, ⟨by decide, by decide⟩, ⟨by decide, by decide⟩, ⟨by decide, by decide⟩⟩
theorem xk_dvd {m : Nm} (om : m.ok) (odd : m.nat % 2 = 1) : ∀ k, P.dk k ∣ (m.nat : Int) * (xk m k).nat - 1
  | 0 => P.odd_sq (by omega)
  | k + 1 => by
    have ih := xk_dvd om odd k
    refine P.newton_math (x := (xk m k).nat) (lack := (subS ⟨2, 0, 0, 0⟩ (WL (m.nat * (xk m k).nat))).nat) (R := ((2 ^ 256 : Nat) : Int)) ih ?_ (P.dk_R _) (P.dk_sq k) ?_
    · rw [Nm.nat_cast (subS_ok _ _)]
      unfold subS
      rw [Nm.of_val (Int.emod_nonneg _ (by decide)) (Int.emod_lt_of_pos _ (by decide)), M_cast, ← Nm.nat_cast (WL_ok _), WL_nm, nm_nat (Nat.mod_lt _ (Nat.pow_pos (by decide)))]
      rw [show (⟨2, 0, 0, 0⟩ : Nm).val = 2 from rfl, Int.natCast_emod, Int.natCast_mul]
      generalize ((2 ^ 256 : Nat) : Int) = R
      generalize (m.nat : Int) * ((xk m k).nat : Int) = y
      rw [Int.sub_emod, Int.emod_emod, ← Int.sub_emod]
      have := Int.emod_add_mul_ediv (2 - y) R
      exact ⟨-((2 - y) / R), by rw [Int.mul_neg]; omega⟩
    · show _ ∣ ((nstep m (xk m k)).nat : Int) - _
      unfold nstep
      rw [WL_nm, nm_nat (Nat.mod_lt _ (Nat.pow_pos (by decide))), Int.natCast_emod, Int.natCast_mul]
      generalize ((2 ^ 256 : Nat) : Int) = R
      generalize ((xk m k).nat : Int) * ((subS ⟨2, 0, 0, 0⟩ (WL (m.nat * (xk m k).nat))).nat : Int) = y
      have := Int.emod_add_mul_ediv y R
      exact ⟨-(y / R), by rw [Int.mul_neg]; omega⟩
theorem xk_inv {m : Nm} (om : m.ok) (odd : m.nat % 2 = 1) : m.nat * (xk m 7).nat % 2 ^ 256 = 1 := P.inv_nat (P.dk_seven ▸ xk_dvd om odd 7)
set_option maxHeartbeats 1000000 in
theorem inverse_fun (m : Nm) (om : m.ok) (w : World) :
    Calls Try.prog 67 #[N m] w fun e w' => e = .returned (N (xk m 7)) ∧ Below w.heap.size w w' := by
  go_enter Try.func67, Try.ntmps67
  have s0 : Hid (Kn (kz4 (kal4 w (m))) [(w.heap.size + 1, zz4), (w.heap.size, (c4 (m)))]) := (((Kn.nil w).al (c4 (m)) 24 rfl).al zz4 24 (by simp))
  have b0 : Hid (Below w.heap.size w (kz4 (kal4 w (m)))) := (((Below.refl _ _).alloc (Nat.le_refl _) _).alloc (by simp <;> omega) _)
  have s1 : Hid (Kn (kal4 (kz4 (kal4 w (m))) (m)) [(w.heap.size + 1 + 1, (c4 (m))), (w.heap.size + 1, zz4), (w.heap.size, (c4 (m)))]) := s0.out.al (c4 (m)) 24 (by simp)
  have b1 : Hid (Below w.heap.size w (kal4 (kz4 (kal4 w (m))) (m))) := b0.out.alloc b0.out.size _
  have z1 := b0.out.size
  clear s0 b0
  go_wp2_with fail
  go_loopw [7] (fun i w' => ∃ k : Nat, k ≤ 7 ∧ i = .int .i64 k ∧ Hid (Kn w' [(w.heap.size + 1 + 1, c4 (xk m k)), (w.heap.size + 1, zz4), (w.heap.size, c4 m)]) ∧ Hid (Below w.heap.size w w')) (fun i _ => (7 - intOf i).toNat)
  case atStart => exact ⟨0, by omega, rfl, s1, b1⟩
  case round =>
    obtain ⟨k, hk, rfl, s1, b1⟩ := hrel
    have z1 := b1.out.size
    by_cases h7 : k < 7
    · have i7 : (k : Int) < 7 := by omega
      have ox := xk_ok om k
      have st : Hid (xk m (k + 1) = nstep m (xk m k)) := rfl
      generalize xk m k = x at *
      have um_0 : wr.cell? ⟨w.heap.size, 0, none⟩ = some (.int .u64 (m).a) := Kn.get s1.out 2 0 rfl rfl
      have um_1 : wr.cell? ⟨w.heap.size, 1, none⟩ = some (.int .u64 (m).b) := Kn.get s1.out 2 1 rfl rfl
      have um_2 : wr.cell? ⟨w.heap.size, 2, none⟩ = some (.int .u64 (m).c) := Kn.get s1.out 2 2 rfl rfl
      have um_3 : wr.cell? ⟨w.heap.size, 3, none⟩ = some (.int .u64 (m).d) := Kn.get s1.out 2 3 rfl rfl
      have ux_0 : wr.cell? ⟨w.heap.size + 1 + 1, 0, none⟩ = some (.int .u64 (x).a) := Kn.get s1.out 0 0 rfl rfl
      have ux_1 : wr.cell? ⟨w.heap.size + 1 + 1, 1, none⟩ = some (.int .u64 (x).b) := Kn.get s1.out 0 1 rfl rfl
      have ux_2 : wr.cell? ⟨w.heap.size + 1 + 1, 2, none⟩ = some (.int .u64 (x).c) := Kn.get s1.out 0 2 rfl rfl
      have ux_3 : wr.cell? ⟨w.heap.size + 1 + 1, 3, none⟩ = some (.int .u64 (x).d) := Kn.get s1.out 0 3 rfl rfl
      go_wp2_with fail
      clear um_0 um_1 um_2 um_3 ux_0 ux_1 ux_2 ux_3
      refine (mul_V m x om ox _).mono ?_
      rintro e w2 ⟨rfl, hb2⟩
      have s2 : Hid (Kn w2 [(w.heap.size + 1 + 1, (c4 (x))), (w.heap.size + 1, zz4), (w.heap.size, (c4 (m)))]) := s1.out.up hb2
      have b2 : Hid (Below w.heap.size w w2) := b1.out.trans (hb2.mono b1.out.size)
      have z2 := b2.out.size
      clear hb2 s1 b1
      go_wp2_with fail
      refine (low_fun _ _ _).mono ?_
      rintro e w3 ⟨rfl, hb3⟩
      have s3 : Hid (Kn w3 [(w.heap.size + 1 + 1, (c4 (x))), (w.heap.size + 1, zz4), (w.heap.size, (c4 (m)))]) := s2.out.up hb3
      have b3 : Hid (Below w.heap.size w w3) := b2.out.trans (hb3.mono b2.out.size)
      have z3 := b3.out.size
      clear hb3 s2 b2
      go_wp2_with fail
      refine (sub_fun ⟨2, 0, 0, 0⟩ (WL (m.nat * x.nat)) two_ok (WL_ok _) _).mono ?_
      rintro e w4 ⟨rfl, hb4⟩
      have s4 : Hid (Kn w4 [(w.heap.size + 1 + 1, (c4 (x))), (w.heap.size + 1, zz4), (w.heap.size, (c4 (m)))]) := s3.out.up hb4
      have b4 : Hid (Below w.heap.size w w4) := b3.out.trans (hb4.mono b3.out.size)
      have z4 := b4.out.size
      clear hb4 s3 b3
      have s5 : Hid (Kn (kal4 w4 (subS ⟨2, 0, 0, 0⟩ (WL (m.nat * x.nat)))) [(w4.heap.size, (c4 (subS ⟨2, 0, 0, 0⟩ (WL (m.nat * x.nat))))), (w.heap.size + 1 + 1, (c4 (x))), (w.heap.size + 1, zz4), (w.heap.size, (c4 (m)))]) := s4.out.al (c4 (subS ⟨2, 0, 0, 0⟩ (WL (m.nat * x.nat)))) 24 rfl
      have b5 : Hid (Below w.heap.size w (kal4 w4 (subS ⟨2, 0, 0, 0⟩ (WL (m.nat * x.nat))))) := b4.out.alloc b4.out.size _
      have z5 := b4.out.size
      clear s4 b4
      have ux_0 : (kal4 w4 (subS ⟨2, 0, 0, 0⟩ (WL (m.nat * x.nat)))).cell? ⟨w.heap.size + 1 + 1, 0, none⟩ = some (.int .u64 (x).a) := Kn.get s5.out 1 0 rfl rfl
      have ux_1 : (kal4 w4 (subS ⟨2, 0, 0, 0⟩ (WL (m.nat * x.nat)))).cell? ⟨w.heap.size + 1 + 1, 1, none⟩ = some (.int .u64 (x).b) := Kn.get s5.out 1 1 rfl rfl
      have ux_2 : (kal4 w4 (subS ⟨2, 0, 0, 0⟩ (WL (m.nat * x.nat)))).cell? ⟨w.heap.size + 1 + 1, 2, none⟩ = some (.int .u64 (x).c) := Kn.get s5.out 1 2 rfl rfl
      have ux_3 : (kal4 w4 (subS ⟨2, 0, 0, 0⟩ (WL (m.nat * x.nat)))).cell? ⟨w.heap.size + 1 + 1, 3, none⟩ = some (.int .u64 (x).d) := Kn.get s5.out 1 3 rfl rfl
      have ulack_0 : (kal4 w4 (subS ⟨2, 0, 0, 0⟩ (WL (m.nat * x.nat)))).cell? ⟨w4.heap.size, 0, none⟩ = some (.int .u64 (subS ⟨2, 0, 0, 0⟩ (WL (m.nat * x.nat))).a) := Kn.get s5.out 0 0 rfl rfl
      have ulack_1 : (kal4 w4 (subS ⟨2, 0, 0, 0⟩ (WL (m.nat * x.nat)))).cell? ⟨w4.heap.size, 1, none⟩ = some (.int .u64 (subS ⟨2, 0, 0, 0⟩ (WL (m.nat * x.nat))).b) := Kn.get s5.out 0 1 rfl rfl
      have ulack_2 : (kal4 w4 (subS ⟨2, 0, 0, 0⟩ (WL (m.nat * x.nat)))).cell? ⟨w4.heap.size, 2, none⟩ = some (.int .u64 (subS ⟨2, 0, 0, 0⟩ (WL (m.nat * x.nat))).c) := Kn.get s5.out 0 2 rfl rfl
      have ulack_3 : (kal4 w4 (subS ⟨2, 0, 0, 0⟩ (WL (m.nat * x.nat)))).cell? ⟨w4.heap.size, 3, none⟩ = some (.int .u64 (subS ⟨2, 0, 0, 0⟩ (WL (m.nat * x.nat))).d) := Kn.get s5.out 0 3 rfl rfl
      go_wp2_with fail
      clear ux_0 ux_1 ux_2 ux_3 ulack_0 ulack_1 ulack_2 ulack_3
      refine (mul_V x (subS ⟨2, 0, 0, 0⟩ (WL (m.nat * x.nat))) ox (subS_ok _ _) _).mono ?_
      rintro e w6 ⟨rfl, hb6⟩
      have s6 : Hid (Kn w6 [(w4.heap.size, (c4 (subS ⟨2, 0, 0, 0⟩ (WL (m.nat * x.nat))))), (w.heap.size + 1 + 1, (c4 (x))), (w.heap.size + 1, zz4), (w.heap.size, (c4 (m)))]) := s5.out.up hb6
      have b6 : Hid (Below w.heap.size w w6) := b5.out.trans (hb6.mono b5.out.size)
      have z6 := b6.out.size
      clear hb6 s5 b5
      go_wp2_with fail
      refine (low_fun _ _ _).mono ?_
      rintro e w7 ⟨rfl, hb7⟩
      have s7 : Hid (Kn w7 [(w4.heap.size, (c4 (subS ⟨2, 0, 0, 0⟩ (WL (m.nat * x.nat))))), (w.heap.size + 1 + 1, (c4 (x))), (w.heap.size + 1, zz4), (w.heap.size, (c4 (m)))]) := s6.out.up hb7
      have b7 : Hid (Below w.heap.size w w7) := b6.out.trans (hb7.mono b6.out.size)
      have z7 := b7.out.size
      clear hb7 s6 b6
      have uxo_0 : w7.cell? ⟨w.heap.size + 1 + 1, 0, none⟩ = some (.int .u64 (x).a) := Kn.get s7.out 1 0 rfl rfl
      have uxo_1 : w7.cell? ⟨w.heap.size + 1 + 1, 1, none⟩ = some (.int .u64 (x).b) := Kn.get s7.out 1 1 rfl rfl
      have uxo_2 : w7.cell? ⟨w.heap.size + 1 + 1, 2, none⟩ = some (.int .u64 (x).c) := Kn.get s7.out 1 2 rfl rfl
      have uxo_3 : w7.cell? ⟨w.heap.size + 1 + 1, 3, none⟩ = some (.int .u64 (x).d) := Kn.get s7.out 1 3 rfl rfl
      have uxo_z : ∀ j, w7.frozen? ⟨w.heap.size + 1 + 1, j, none⟩ = false := Kn.fz s7.out 1 rfl
      have s8 : Hid (Kn (st4 w7 (w.heap.size + 1 + 1) (nstep m x)) [(w.heap.size + 1 + 1, (c4 (nstep m x))), (w4.heap.size, (c4 (subS ⟨2, 0, 0, 0⟩ (WL (m.nat * x.nat))))), (w.heap.size + 1, zz4), (w.heap.size, (c4 (m)))]) := Kn.st4 (L := [(w4.heap.size, (c4 (subS ⟨2, 0, 0, 0⟩ (WL (m.nat * x.nat))))), (w.heap.size + 1, zz4), (w.heap.size, (c4 (m)))]) (s7.out.front 1 rfl) (nstep m x)
      have b8 : Hid (Below w.heap.size w (st4 w7 (w.heap.size + 1 + 1) (nstep m x))) := below_st4 b7.out (by omega)
      clear s7 b7
      go_wp2_with fail
      clear uxo_0 uxo_1 uxo_2 uxo_3 uxo_z
      replace s8 : Hid (Kn (st4 w7 (w.heap.size + 1 + 1) (nstep m x)) [(w.heap.size + 1 + 1, (c4 (nstep m x))), (w.heap.size + 1, zz4), (w.heap.size, (c4 (m)))]) := s8.out.drop 1
      go_roundw
      case rel => exact ⟨k + 1, by omega, by go_num, by rw [st.out]; exact s8, b8⟩
      case measure => simp [intOf]; omega
    · have e7 : k = 7 := by omega
      subst e7
      have ux_0 : wr.cell? ⟨w.heap.size + 1 + 1, 0, none⟩ = some (.int .u64 (xk m 7).a) := Kn.get s1.out 0 0 rfl rfl
      have ux_1 : wr.cell? ⟨w.heap.size + 1 + 1, 1, none⟩ = some (.int .u64 (xk m 7).b) := Kn.get s1.out 0 1 rfl rfl
      have ux_2 : wr.cell? ⟨w.heap.size + 1 + 1, 2, none⟩ = some (.int .u64 (xk m 7).c) := Kn.get s1.out 0 2 rfl rfl
      have ux_3 : wr.cell? ⟨w.heap.size + 1 + 1, 3, none⟩ = some (.int .u64 (xk m 7).d) := Kn.get s1.out 0 3 rfl rfl
      have uro_0 : wr.cell? ⟨w.heap.size + 1, 0, none⟩ = some (.int .u64 0) := Kn.get s1.out 1 0 rfl rfl
      have uro_1 : wr.cell? ⟨w.heap.size + 1, 1, none⟩ = some (.int .u64 0) := Kn.get s1.out 1 1 rfl rfl
      have uro_2 : wr.cell? ⟨w.heap.size + 1, 2, none⟩ = some (.int .u64 0) := Kn.get s1.out 1 2 rfl rfl
      have uro_3 : wr.cell? ⟨w.heap.size + 1, 3, none⟩ = some (.int .u64 0) := Kn.get s1.out 1 3 rfl rfl
      have uro_z : ∀ j, wr.frozen? ⟨w.heap.size + 1, j, none⟩ = false := Kn.fz s1.out 1 rfl
      have s2 : Hid (Kn (st4 wr (w.heap.size + 1) (xk m 7)) [(w.heap.size + 1, (c4 (xk m 7))), (w.heap.size + 1 + 1, (c4 (xk m 7))), (w.heap.size, (c4 (m)))]) := Kn.st4 (L := [(w.heap.size + 1 + 1, (c4 (xk m 7))), (w.heap.size, (c4 (m)))]) (s1.out.front 1 rfl) (xk m 7)
      have b2 : Hid (Below w.heap.size w (st4 wr (w.heap.size + 1) (xk m 7))) := below_st4 b1.out (by omega)
      clear s1 b1
      go_wp2_with fail
      clear ux_0 ux_1 ux_2 ux_3 uro_0 uro_1 uro_2 uro_3 uro_z
      have urr_0 : (st4 wr (w.heap.size + 1) (xk m 7)).cell? ⟨w.heap.size + 1, 0, none⟩ = some (.int .u64 (xk m 7).a) := Kn.get s2.out 0 0 rfl rfl
      have urr_1 : (st4 wr (w.heap.size + 1) (xk m 7)).cell? ⟨w.heap.size + 1, 1, none⟩ = some (.int .u64 (xk m 7).b) := Kn.get s2.out 0 1 rfl rfl
      have urr_2 : (st4 wr (w.heap.size + 1) (xk m 7)).cell? ⟨w.heap.size + 1, 2, none⟩ = some (.int .u64 (xk m 7).c) := Kn.get s2.out 0 2 rfl rfl
      have urr_3 : (st4 wr (w.heap.size + 1) (xk m 7)).cell? ⟨w.heap.size + 1, 3, none⟩ = some (.int .u64 (xk m 7).d) := Kn.get s2.out 0 3 rfl rfl
      refine bodyPost_ret (v := N (xk m 7)) ?_ rfl ⟨rfl, b2.out⟩
      show (results Try.f67 _).run Try.prog (st4 wr (w.heap.size + 1) (xk m 7)) = .ok _ (st4 wr (w.heap.size + 1) (xk m 7))
      clear s2 b2
      generalize (st4 wr (w.heap.size + 1) (xk m 7)) = W9 at *
      simp [results, Try.results67, go_sem, urr_0, urr_1, urr_2, urr_3]
end Go.Proofs.Ytkgfeacednomfaa
