/- QuotInverts returns true for every a and m. No condition. -/
import Derived.Test.YtgdekdmdidahdaaDCommon
import Derived.Test.YtgdekdmdidahdaaDDig
import Derived.Test.YtgdekdmdidahdaaInvF
import Derived.Test.YtgdekdmdidahdaaKn
import Derived.Test.YtgdekdmdidahdaaAl
import Derived.Test.YtgdekdmdidahdaaArr
import Derived.Test.YtgdekdmdidahdaaOwn
namespace Go.Proofs.Ytgdekdmdidahdaa
open Go.RowKit
open Go.ChangeShapes Go.WideShapes Go.ChangeAt
attribute [local go_sem] World.cell?_alloc_some cell_alloc2 cell_alloc3 cell_alloc4 frozen?_alloc_cells frozen_out
theorem len16 {x : Nm} (h : x.ok) : (P.dg x.nat).length ≤ 16 := P.dg_len 16 (Nat.lt_of_lt_of_le (Nm.nat_lt h) (by decide))
set_option maxHeartbeats 1000000 in
theorem quotInverts_zero (a : Nm) (w : World) :
    Calls Try.prog 5 #[N a, N ⟨0, 0, 0, 0⟩] w fun e w' => e = .returned (.bool true) ∧ Below w.heap.size w w' := by
  have e1 := eqN ⟨0, 0, 0, 0⟩ ⟨0, 0, 0, 0⟩
  rw [Nm.beq_self] at e1
  have O : Hid _ := fun w => ofNum_fun ⟨0, 0, 0, 0⟩ zero_ok w
  have dz : (P.dg (⟨0, 0, 0, 0⟩ : Nm).nat).length = 0 := by rw [show (⟨0, 0, 0, 0⟩ : Nm).nat = 0 from rfl, P.dg_zero]; rfl
  go_enter Try.func5, Try.ntmps5
  have s0 : Hid (Kn (kal4 (kal4 w (a)) ((⟨0, 0, 0, 0⟩ : Nm))) [(w.heap.size + 1, (c4 ((⟨0, 0, 0, 0⟩ : Nm)))), (w.heap.size, (c4 (a)))]) := (((Kn.nil w).al (c4 (a)) 24 rfl).al (c4 ((⟨0, 0, 0, 0⟩ : Nm))) 24 (by simp))
  have b0 : Hid (Below w.heap.size w (kal4 (kal4 w (a)) ((⟨0, 0, 0, 0⟩ : Nm)))) := (((Below.refl _ _).alloc (Nat.le_refl _) _).alloc (by simp <;> omega) _)
  go_wp2_with fail
  refine (inv_zero a _).mono ?_
  rintro e w1 ⟨rfl, hb1⟩
  have s1 : Hid (Kn w1 [(w.heap.size + 1, (c4 ((⟨0, 0, 0, 0⟩ : Nm)))), (w.heap.size, (c4 (a)))]) := s0.out.up hb1
  have b1 : Hid (Below w.heap.size w w1) := b0.out.trans (hb1.mono b0.out.size)
  have z1 := b1.out.size
  clear hb1 s0 b0
  have s2 : Hid (Kn (kal4 w1 ((⟨0, 0, 0, 0⟩ : Nm))) [(w1.heap.size, (c4 ((⟨0, 0, 0, 0⟩ : Nm)))), (w.heap.size + 1, (c4 ((⟨0, 0, 0, 0⟩ : Nm)))), (w.heap.size, (c4 (a)))]) := s1.out.al (c4 ((⟨0, 0, 0, 0⟩ : Nm))) 24 rfl
  have b2 : Hid (Below w.heap.size w (kal4 w1 ((⟨0, 0, 0, 0⟩ : Nm)))) := b1.out.alloc b1.out.size _
  have z2 := b1.out.size
  clear s1 b1
  have um_0 : (kal4 w1 ((⟨0, 0, 0, 0⟩ : Nm))).cell? ⟨w.heap.size + 1, 0, none⟩ = some (.int .u64 ((⟨0, 0, 0, 0⟩ : Nm)).a) := Kn.get s2.out 1 0 rfl rfl
  have um_1 : (kal4 w1 ((⟨0, 0, 0, 0⟩ : Nm))).cell? ⟨w.heap.size + 1, 1, none⟩ = some (.int .u64 ((⟨0, 0, 0, 0⟩ : Nm)).b) := Kn.get s2.out 1 1 rfl rfl
  have um_2 : (kal4 w1 ((⟨0, 0, 0, 0⟩ : Nm))).cell? ⟨w.heap.size + 1, 2, none⟩ = some (.int .u64 ((⟨0, 0, 0, 0⟩ : Nm)).c) := Kn.get s2.out 1 2 rfl rfl
  have um_3 : (kal4 w1 ((⟨0, 0, 0, 0⟩ : Nm))).cell? ⟨w.heap.size + 1, 3, none⟩ = some (.int .u64 ((⟨0, 0, 0, 0⟩ : Nm)).d) := Kn.get s2.out 1 3 rfl rfl
  go_wp2_with fail
  clear um_0 um_1 um_2 um_3
  refine (O.out _).mono ?_
  rintro e w3 ⟨⟨v1, rfl, h1⟩, hb3⟩
  have s3 : Hid (Kn w3 [(w1.heap.size, (c4 ((⟨0, 0, 0, 0⟩ : Nm)))), (w.heap.size + 1, (c4 ((⟨0, 0, 0, 0⟩ : Nm)))), (w.heap.size, (c4 (a)))]) := s2.out.up hb3
  have b3 : Hid (Below w.heap.size w w3) := b2.out.trans (hb3.mono b2.out.size)
  have z3 := b3.out.size
  clear hb3 s2 b2
  obtain ⟨a1, c1, rfl⟩ := h1.parts
  have Sn : Hid (Sl w3 (.slice a1 (P.dg (⟨0, 0, 0, 0⟩ : Nm).nat).length c1) (P.dg (⟨0, 0, 0, 0⟩ : Nm).nat)) := h1
  clear h1
  rw [dz] at Sn ⊢
  have ux_0 : w3.cell? ⟨w1.heap.size, 0, none⟩ = some (.int .u64 ((⟨0, 0, 0, 0⟩ : Nm)).a) := Kn.get s3.out 0 0 rfl rfl
  have ux_1 : w3.cell? ⟨w1.heap.size, 1, none⟩ = some (.int .u64 ((⟨0, 0, 0, 0⟩ : Nm)).b) := Kn.get s3.out 0 1 rfl rfl
  have ux_2 : w3.cell? ⟨w1.heap.size, 2, none⟩ = some (.int .u64 ((⟨0, 0, 0, 0⟩ : Nm)).c) := Kn.get s3.out 0 2 rfl rfl
  have ux_3 : w3.cell? ⟨w1.heap.size, 3, none⟩ = some (.int .u64 ((⟨0, 0, 0, 0⟩ : Nm)).d) := Kn.get s3.out 0 3 rfl rfl
  have um_0 : w3.cell? ⟨w.heap.size + 1, 0, none⟩ = some (.int .u64 ((⟨0, 0, 0, 0⟩ : Nm)).a) := Kn.get s3.out 1 0 rfl rfl
  have um_1 : w3.cell? ⟨w.heap.size + 1, 1, none⟩ = some (.int .u64 ((⟨0, 0, 0, 0⟩ : Nm)).b) := Kn.get s3.out 1 1 rfl rfl
  have um_2 : w3.cell? ⟨w.heap.size + 1, 2, none⟩ = some (.int .u64 ((⟨0, 0, 0, 0⟩ : Nm)).c) := Kn.get s3.out 1 2 rfl rfl
  have um_3 : w3.cell? ⟨w.heap.size + 1, 3, none⟩ = some (.int .u64 ((⟨0, 0, 0, 0⟩ : Nm)).d) := Kn.get s3.out 1 3 rfl rfl
  go_wp2_with fail
  clear ux_0 ux_1 ux_2 ux_3 um_0 um_1 um_2 um_3
  go_ret
  exact ⟨rfl, b3.out⟩
set_option maxHeartbeats 1000000 in
theorem quotInverts_not (a m : Nm) (oa : a.ok) (om : m.ok) (nz : m.nat ≠ 0) (hg : Nat.gcd a.nat m.nat ≠ 1)
    (SI : ∀ w, Calls Try.prog 31 #[N a, N m] w fun e w' => e = .returned (.tuple #[N ⟨0, 0, 0, 0⟩, .int .i64 6]) ∧ Below w.heap.size w w')
    (w : World) :
    Calls Try.prog 5 #[N a, N m] w fun e w' => e = .returned (.bool true) ∧ Below w.heap.size w w' := by
  have e1 := eqN ⟨0, 0, 0, 0⟩ ⟨0, 0, 0, 0⟩
  rw [Nm.beq_self] at e1
  have OM : Hid _ := fun w => ofNum_fun m om w
  have OA : Hid _ := fun w => ofNum_fun a oa w
  have l1 := len16 oa
  have l2 := len16 om
  have CM : Hid _ := fun u v w h h' => dcommon_fun u v a.nat m.nat 16 (by decide) (Nat.lt_of_lt_of_le (Nm.nat_lt oa) (by decide)) (Nat.lt_of_lt_of_le (Nm.nat_lt om) (by decide)) w h h'
  have lg : (P.dg (Nat.gcd a.nat m.nat)).length ≤ 16 := P.dg_len 16 (Nat.lt_of_le_of_lt (Nat.gcd_le_right _ (by omega)) (Nat.lt_of_lt_of_le (Nm.nat_lt om) (by decide)))
  have OR : Hid (∀ u v w, Sl w u (P.dg (Nat.gcd a.nat m.nat)) → Sl w v [1] → Calls Try.prog 10 #[u, v] w fun e w' => e = .returned (.int .i64 (cmpN (Nat.gcd a.nat m.nat) 1)) ∧ Below w.heap.size w w') := by
    intro u v w h h'
    have := order_fun u v _ [1] (P.dg_Dg _) (P.Dg.one (by decide)) (by omega) (by decide) w h h'
    rwa [P.dv_dg, show P.dv [1] = 1 from rfl] at this
  have cn : ¬ cmpN (Nat.gcd a.nat m.nat) 1 = 0 := by unfold cmpN; split <;> (try split) <;> omega
  have cn' : (cmpN (Nat.gcd a.nat m.nat) 1 == 0) = false := beq_eq_false_iff_ne.2 cn
  have dn : ¬ ((P.dg m.nat).length : Int) = 0 := by
    rw [P.dg_pos nz, List.length_cons]; omega
  have dn' : (((P.dg m.nat).length : Int) == 0) = false := beq_eq_false_iff_ne.2 dn
  generalize Nat.gcd a.nat m.nat = g at *
  generalize cmpN g 1 = c at *
  clear l1 l2 lg
  go_enter Try.func5, Try.ntmps5
  have s0 : Hid (Kn (kal4 (kal4 w (a)) (m)) [(w.heap.size + 1, (c4 (m))), (w.heap.size, (c4 (a)))]) := (((Kn.nil w).al (c4 (a)) 24 rfl).al (c4 (m)) 24 (by simp))
  have b0 : Hid (Below w.heap.size w (kal4 (kal4 w (a)) (m))) := (((Below.refl _ _).alloc (Nat.le_refl _) _).alloc (by simp <;> omega) _)
  go_wp2_with fail
  refine (SI _).mono ?_
  rintro e w1 ⟨rfl, hb1⟩
  have s1 : Hid (Kn w1 [(w.heap.size + 1, (c4 (m))), (w.heap.size, (c4 (a)))]) := s0.out.up hb1
  have b1 : Hid (Below w.heap.size w w1) := b0.out.trans (hb1.mono b0.out.size)
  have z1 := b1.out.size
  clear hb1 s0 b0
  have s2 : Hid (Kn (kal4 w1 ((⟨0, 0, 0, 0⟩ : Nm))) [(w1.heap.size, (c4 ((⟨0, 0, 0, 0⟩ : Nm)))), (w.heap.size + 1, (c4 (m))), (w.heap.size, (c4 (a)))]) := s1.out.al (c4 ((⟨0, 0, 0, 0⟩ : Nm))) 24 rfl
  have b2 : Hid (Below w.heap.size w (kal4 w1 ((⟨0, 0, 0, 0⟩ : Nm)))) := b1.out.alloc b1.out.size _
  have z2 := b1.out.size
  clear s1 b1
  have um_0 : (kal4 w1 ((⟨0, 0, 0, 0⟩ : Nm))).cell? ⟨w.heap.size + 1, 0, none⟩ = some (.int .u64 (m).a) := Kn.get s2.out 1 0 rfl rfl
  have um_1 : (kal4 w1 ((⟨0, 0, 0, 0⟩ : Nm))).cell? ⟨w.heap.size + 1, 1, none⟩ = some (.int .u64 (m).b) := Kn.get s2.out 1 1 rfl rfl
  have um_2 : (kal4 w1 ((⟨0, 0, 0, 0⟩ : Nm))).cell? ⟨w.heap.size + 1, 2, none⟩ = some (.int .u64 (m).c) := Kn.get s2.out 1 2 rfl rfl
  have um_3 : (kal4 w1 ((⟨0, 0, 0, 0⟩ : Nm))).cell? ⟨w.heap.size + 1, 3, none⟩ = some (.int .u64 (m).d) := Kn.get s2.out 1 3 rfl rfl
  go_wp2_with fail
  clear um_0 um_1 um_2 um_3
  refine (OM.out _).mono ?_
  rintro e w3 ⟨⟨v1, rfl, h1⟩, hb3⟩
  have s3 : Hid (Kn w3 [(w1.heap.size, (c4 ((⟨0, 0, 0, 0⟩ : Nm)))), (w.heap.size + 1, (c4 (m))), (w.heap.size, (c4 (a)))]) := s2.out.up hb3
  have b3 : Hid (Below w.heap.size w w3) := b2.out.trans (hb3.mono b2.out.size)
  have z3 := b3.out.size
  clear hb3 s2 b2
  obtain ⟨a1, c1, rfl⟩ := h1.parts
  have Sn : Hid (Sl w3 (.slice a1 (P.dg m.nat).length c1) (P.dg m.nat)) := h1
  clear h1
  have ua_0 : w3.cell? ⟨w.heap.size, 0, none⟩ = some (.int .u64 (a).a) := Kn.get s3.out 2 0 rfl rfl
  have ua_1 : w3.cell? ⟨w.heap.size, 1, none⟩ = some (.int .u64 (a).b) := Kn.get s3.out 2 1 rfl rfl
  have ua_2 : w3.cell? ⟨w.heap.size, 2, none⟩ = some (.int .u64 (a).c) := Kn.get s3.out 2 2 rfl rfl
  have ua_3 : w3.cell? ⟨w.heap.size, 3, none⟩ = some (.int .u64 (a).d) := Kn.get s3.out 2 3 rfl rfl
  go_wp2_with fail
  clear ua_0 ua_1 ua_2 ua_3
  refine (OA.out _).mono ?_
  rintro e w4 ⟨⟨v2, rfl, h2⟩, hb4⟩
  replace Sn : Hid (Sl w4 (.slice a1 (P.dg m.nat).length c1) (P.dg m.nat)) := Sl.up (xs := (P.dg m.nat)) Sn.out hb4
  have s4 : Hid (Kn w4 [(w1.heap.size, (c4 ((⟨0, 0, 0, 0⟩ : Nm)))), (w.heap.size + 1, (c4 (m))), (w.heap.size, (c4 (a)))]) := s3.out.up hb4
  have b4 : Hid (Below w.heap.size w w4) := b3.out.trans (hb4.mono b3.out.size)
  have z4 := b4.out.size
  clear hb4 s3 b3
  have Sx : Hid (Sl w4 v2 (P.dg a.nat)) := h2
  clear h2
  go_wp2_with fail
  refine (CM.out _ _ _ Sx.out Sn.out).mono ?_
  rintro e w5 ⟨⟨v3, rfl, h3⟩, hb5⟩
  replace Sn : Hid (Sl w5 (.slice a1 (P.dg m.nat).length c1) (P.dg m.nat)) := Sl.up (xs := (P.dg m.nat)) Sn.out hb5
  replace Sx : Hid (Sl w5 v2 (P.dg a.nat)) := Sl.up (xs := (P.dg a.nat)) Sx.out hb5
  have s5 : Hid (Kn w5 [(w1.heap.size, (c4 ((⟨0, 0, 0, 0⟩ : Nm)))), (w.heap.size + 1, (c4 (m))), (w.heap.size, (c4 (a)))]) := s4.out.up hb5
  have b5 : Hid (Below w.heap.size w w5) := b4.out.trans (hb5.mono b4.out.size)
  have z5 := b5.out.size
  clear hb5 s4 b4
  have Sg : Hid (Sl w5 v3 (P.dg g)) := h3
  clear h3
  have s6 : Hid (Kn (w5.alloc (.cells #[.int .i64 ((1 : Nat) : Int)] 3)) [(w1.heap.size, (c4 ((⟨0, 0, 0, 0⟩ : Nm)))), (w.heap.size + 1, (c4 (m))), (w.heap.size, (c4 (a)))]) := s5.out.up ((Below.refl _ _).alloc (Nat.le_refl _) _)
  have b6 : Hid (Below w.heap.size w (w5.alloc (.cells #[.int .i64 ((1 : Nat) : Int)] 3))) := b5.out.alloc b5.out.size _
  replace Sn : Hid (Sl (w5.alloc (.cells #[.int .i64 ((1 : Nat) : Int)] 3)) (.slice a1 (P.dg m.nat).length c1) (P.dg m.nat)) := Sl.up (xs := (P.dg m.nat)) Sn.out ((Below.refl _ _).alloc (Nat.le_refl _) _)
  replace Sx : Hid (Sl (w5.alloc (.cells #[.int .i64 ((1 : Nat) : Int)] 3)) v2 (P.dg a.nat)) := Sl.up (xs := (P.dg a.nat)) Sx.out ((Below.refl _ _).alloc (Nat.le_refl _) _)
  replace Sg : Hid (Sl (w5.alloc (.cells #[.int .i64 ((1 : Nat) : Int)] 3)) v3 (P.dg g)) := Sl.up (xs := (P.dg g)) Sg.out ((Below.refl _ _).alloc (Nat.le_refl _) _)
  have So : Hid (Sl (w5.alloc (.cells #[.int .i64 ((1 : Nat) : Int)] 3)) (.slice (some ⟨w5.heap.size, 0, none⟩) 1 1) [1]) := Sl.one w5 1 _ rfl
  clear s5 b5
  go_wp2_with fail
  refine (OR.out _ _ _ Sg.out So.out).mono ?_
  rintro e w7 ⟨rfl, hb7⟩
  replace Sn : Hid (Sl w7 (.slice a1 (P.dg m.nat).length c1) (P.dg m.nat)) := Sl.up (xs := (P.dg m.nat)) Sn.out hb7
  replace Sx : Hid (Sl w7 v2 (P.dg a.nat)) := Sl.up (xs := (P.dg a.nat)) Sx.out hb7
  replace Sg : Hid (Sl w7 v3 (P.dg g)) := Sl.up (xs := (P.dg g)) Sg.out hb7
  replace So : Hid (Sl w7 (.slice (some ⟨w5.heap.size, 0, none⟩) 1 1) [1]) := Sl.up (xs := [1]) So.out hb7
  have s7 : Hid (Kn w7 [(w1.heap.size, (c4 ((⟨0, 0, 0, 0⟩ : Nm)))), (w.heap.size + 1, (c4 (m))), (w.heap.size, (c4 (a)))]) := s6.out.up hb7
  have b7 : Hid (Below w.heap.size w w7) := b6.out.trans (hb7.mono b6.out.size)
  have z7 := b7.out.size
  clear hb7 s6 b6
  have ux_0 : w7.cell? ⟨w1.heap.size, 0, none⟩ = some (.int .u64 ((⟨0, 0, 0, 0⟩ : Nm)).a) := Kn.get s7.out 0 0 rfl rfl
  have ux_1 : w7.cell? ⟨w1.heap.size, 1, none⟩ = some (.int .u64 ((⟨0, 0, 0, 0⟩ : Nm)).b) := Kn.get s7.out 0 1 rfl rfl
  have ux_2 : w7.cell? ⟨w1.heap.size, 2, none⟩ = some (.int .u64 ((⟨0, 0, 0, 0⟩ : Nm)).c) := Kn.get s7.out 0 2 rfl rfl
  have ux_3 : w7.cell? ⟨w1.heap.size, 3, none⟩ = some (.int .u64 ((⟨0, 0, 0, 0⟩ : Nm)).d) := Kn.get s7.out 0 3 rfl rfl
  go_wp2_with fail
  clear ux_0 ux_1 ux_2 ux_3
  go_ret
  exact ⟨rfl, b7.out⟩
set_option maxHeartbeats 2000000 in
theorem quotInverts_good (a m x : Nm) (oa : a.ok) (om : m.ok) (ox : x.ok) (nz : m.nat ≠ 0) (hg : Nat.gcd a.nat m.nat = 1) (lt : x.nat < m.nat) (is : a.nat * x.nat % m.nat = 1 % m.nat)
    (SI : ∀ w, Calls Try.prog 31 #[N a, N m] w fun e w' => e = .returned (.tuple #[N x, .int .i64 0]) ∧ Below w.heap.size w w')
    (w : World) :
    Calls Try.prog 5 #[N a, N m] w fun e w' => e = .returned (.bool true) ∧ Below w.heap.size w w' := by
  have OM : Hid _ := fun w => ofNum_fun m om w
  have OA : Hid _ := fun w => ofNum_fun a oa w
  have OX : Hid _ := fun w => ofNum_fun x ox w
  have l1 := len16 oa
  have l2 := len16 om
  have l3 := len16 ox
  have CM := fun u v w h h' => dcommon_fun u v a.nat m.nat 16 (by decide) (Nat.lt_of_lt_of_le (Nm.nat_lt oa) (by decide)) (Nat.lt_of_lt_of_le (Nm.nat_lt om) (by decide)) w h h'
  rw [hg] at CM
  have CM : Hid _ := CM
  have d1 : P.dg 1 = [1] := by rw [P.dg_pos (by decide), show 1 / 65536 = 0 from rfl, P.dg_zero]
  rw [d1] at CM
  have OR : Hid (∀ u v w, Sl w u [1] → Sl w v [1] → Calls Try.prog 10 #[u, v] w fun e w' => e = .returned (.int .i64 0) ∧ Below w.heap.size w w') := by
    intro u v w h h'
    exact order_fun u v [1] [1] (P.Dg.one (by decide)) (P.Dg.one (by decide)) (by decide) (by decide) w h h'
  have O2 : Hid (∀ u v w, Sl w u (P.dg x.nat) → Sl w v (P.dg m.nat) → Calls Try.prog 10 #[u, v] w fun e w' => e = .returned (.int .i64 (-1)) ∧ Below w.heap.size w w') := by
    intro u v w h h'
    have := order_fun u v _ _ (P.dg_Dg x.nat) (P.dg_Dg m.nat) (by omega) (by omega) w h h'
    rwa [P.dv_dg, P.dv_dg, show cmpN x.nat m.nat = -1 from if_pos lt] at this
  have TI : Hid (∀ u v w, Sl w u (P.dg a.nat) → Sl w v (P.dg x.nat) → Calls Try.prog 18 #[u, v] w fun e w' => (∃ v', e = .returned v' ∧ Sl w' v' (P.dg (a.nat * x.nat))) ∧ Below w.heap.size w w') := by
    intro u v w h h'
    have := dtimes_fun u v _ _ (P.dg_Dg a.nat) (P.dg_Dg x.nat) (by omega) (by omega) w h h'
    rwa [P.dv_dg, P.dv_dg] at this
  have lp : (P.dg (a.nat * x.nat)).length ≤ 32 := P.dg_len 32 (by
    have h1 := Nm.nat_lt oa; have h2 := Nm.nat_lt ox
    have := Nat.mul_lt_mul'' h1 h2
    exact Nat.lt_of_lt_of_le this (by decide))
  have R1 : Hid (∀ u v w, Sl w u (P.dg (a.nat * x.nat)) → Sl w v (P.dg m.nat) → Calls Try.prog 33 #[u, v] w fun e w' => (∃ v', e = .returned v' ∧ Sl w' v' (P.dg (1 % m.nat))) ∧ Below w.heap.size w w') := by
    intro u v w h h'
    have := drest_fun u v _ _ (P.dg_Dg (a.nat * x.nat)) (P.dg_Dg m.nat) (by rw [P.dv_dg]; omega) (by omega) (by omega) w h h'
    rwa [P.dv_dg, P.dv_dg, is] at this
  have R2 : Hid (∀ u v w, Sl w u [1] → Sl w v (P.dg m.nat) → Calls Try.prog 33 #[u, v] w fun e w' => (∃ v', e = .returned v' ∧ Sl w' v' (P.dg (1 % m.nat))) ∧ Below w.heap.size w w') := by
    intro u v w h h'
    have := drest_fun u v [1] _ (P.Dg.one (by decide)) (P.dg_Dg m.nat) (by rw [P.dv_dg]; omega) (by decide) (by omega) w h h'
    rwa [P.dv_dg, show P.dv [1] = 1 from rfl] at this
  have lo : (P.dg (1 % m.nat)).length ≤ 16 := P.dg_len 16 (Nat.lt_of_lt_of_le (Nat.lt_of_lt_of_le (Nat.mod_lt _ (by omega)) (Nat.le_of_lt (Nm.nat_lt om))) (by decide))
  have O3 : Hid (∀ u v w, Sl w u (P.dg (1 % m.nat)) → Sl w v (P.dg (1 % m.nat)) → Calls Try.prog 10 #[u, v] w fun e w' => e = .returned (.int .i64 0) ∧ Below w.heap.size w w') := by
    intro u v w h h'
    have := order_fun u v _ _ (P.dg_Dg (1 % m.nat)) (P.dg_Dg (1 % m.nat)) (by omega) (by omega) w h h'
    rwa [show cmpN (P.dv (P.dg (1 % m.nat))) (P.dv (P.dg (1 % m.nat))) = 0 by unfold cmpN; rw [if_neg (Nat.lt_irrefl _), if_neg (Nat.lt_irrefl _)]] at this
  have dn : ¬ ((P.dg m.nat).length : Int) = 0 := by
    rw [P.dg_pos nz, List.length_cons]; omega
  have dn' : (((P.dg m.nat).length : Int) == 0) = false := beq_eq_false_iff_ne.2 dn
  clear l1 l2 l3 lp lo hg is lt nz d1
  go_enter Try.func5, Try.ntmps5
  have s0 : Hid (Kn (kal4 (kal4 w (a)) (m)) [(w.heap.size + 1, (c4 (m))), (w.heap.size, (c4 (a)))]) := (((Kn.nil w).al (c4 (a)) 24 rfl).al (c4 (m)) 24 (by simp))
  have b0 : Hid (Below w.heap.size w (kal4 (kal4 w (a)) (m))) := (((Below.refl _ _).alloc (Nat.le_refl _) _).alloc (by simp <;> omega) _)
  go_wp2_with fail
  refine (SI _).mono ?_
  rintro e w1 ⟨rfl, hb1⟩
  have s1 : Hid (Kn w1 [(w.heap.size + 1, (c4 (m))), (w.heap.size, (c4 (a)))]) := s0.out.up hb1
  have b1 : Hid (Below w.heap.size w w1) := b0.out.trans (hb1.mono b0.out.size)
  have z1 := b1.out.size
  clear hb1 s0 b0
  have s2 : Hid (Kn (kal4 w1 (x)) [(w1.heap.size, (c4 (x))), (w.heap.size + 1, (c4 (m))), (w.heap.size, (c4 (a)))]) := s1.out.al (c4 (x)) 24 rfl
  have b2 : Hid (Below w.heap.size w (kal4 w1 (x))) := b1.out.alloc b1.out.size _
  have z2 := b1.out.size
  clear s1 b1
  have um_0 : (kal4 w1 (x)).cell? ⟨w.heap.size + 1, 0, none⟩ = some (.int .u64 (m).a) := Kn.get s2.out 1 0 rfl rfl
  have um_1 : (kal4 w1 (x)).cell? ⟨w.heap.size + 1, 1, none⟩ = some (.int .u64 (m).b) := Kn.get s2.out 1 1 rfl rfl
  have um_2 : (kal4 w1 (x)).cell? ⟨w.heap.size + 1, 2, none⟩ = some (.int .u64 (m).c) := Kn.get s2.out 1 2 rfl rfl
  have um_3 : (kal4 w1 (x)).cell? ⟨w.heap.size + 1, 3, none⟩ = some (.int .u64 (m).d) := Kn.get s2.out 1 3 rfl rfl
  go_wp2_with fail
  clear um_0 um_1 um_2 um_3
  refine (OM.out _).mono ?_
  rintro e w3 ⟨⟨v1, rfl, h1⟩, hb3⟩
  have s3 : Hid (Kn w3 [(w1.heap.size, (c4 (x))), (w.heap.size + 1, (c4 (m))), (w.heap.size, (c4 (a)))]) := s2.out.up hb3
  have b3 : Hid (Below w.heap.size w w3) := b2.out.trans (hb3.mono b2.out.size)
  have z3 := b3.out.size
  clear hb3 s2 b2
  obtain ⟨a1, c1, rfl⟩ := h1.parts
  have Sn : Hid (Sl w3 (.slice a1 (P.dg m.nat).length c1) (P.dg m.nat)) := h1
  clear h1
  have ua_0 : w3.cell? ⟨w.heap.size, 0, none⟩ = some (.int .u64 (a).a) := Kn.get s3.out 2 0 rfl rfl
  have ua_1 : w3.cell? ⟨w.heap.size, 1, none⟩ = some (.int .u64 (a).b) := Kn.get s3.out 2 1 rfl rfl
  have ua_2 : w3.cell? ⟨w.heap.size, 2, none⟩ = some (.int .u64 (a).c) := Kn.get s3.out 2 2 rfl rfl
  have ua_3 : w3.cell? ⟨w.heap.size, 3, none⟩ = some (.int .u64 (a).d) := Kn.get s3.out 2 3 rfl rfl
  go_wp2_with fail
  clear ua_0 ua_1 ua_2 ua_3
  refine (OA.out _).mono ?_
  rintro e w4 ⟨⟨v2, rfl, h2⟩, hb4⟩
  replace Sn : Hid (Sl w4 (.slice a1 (P.dg m.nat).length c1) (P.dg m.nat)) := Sl.up (xs := (P.dg m.nat)) Sn.out hb4
  have s4 : Hid (Kn w4 [(w1.heap.size, (c4 (x))), (w.heap.size + 1, (c4 (m))), (w.heap.size, (c4 (a)))]) := s3.out.up hb4
  have b4 : Hid (Below w.heap.size w w4) := b3.out.trans (hb4.mono b3.out.size)
  have z4 := b4.out.size
  clear hb4 s3 b3
  have Sx : Hid (Sl w4 v2 (P.dg a.nat)) := h2
  clear h2
  go_wp2_with fail
  refine (CM.out _ _ _ Sx.out Sn.out).mono ?_
  rintro e w5 ⟨⟨v3, rfl, h3⟩, hb5⟩
  replace Sn : Hid (Sl w5 (.slice a1 (P.dg m.nat).length c1) (P.dg m.nat)) := Sl.up (xs := (P.dg m.nat)) Sn.out hb5
  replace Sx : Hid (Sl w5 v2 (P.dg a.nat)) := Sl.up (xs := (P.dg a.nat)) Sx.out hb5
  have s5 : Hid (Kn w5 [(w1.heap.size, (c4 (x))), (w.heap.size + 1, (c4 (m))), (w.heap.size, (c4 (a)))]) := s4.out.up hb5
  have b5 : Hid (Below w.heap.size w w5) := b4.out.trans (hb5.mono b4.out.size)
  have z5 := b5.out.size
  clear hb5 s4 b4
  have Sg : Hid (Sl w5 v3 [1]) := h3
  clear h3
  have s6 : Hid (Kn (w5.alloc (.cells #[.int .i64 ((1 : Nat) : Int)] 3)) [(w1.heap.size, (c4 (x))), (w.heap.size + 1, (c4 (m))), (w.heap.size, (c4 (a)))]) := s5.out.up ((Below.refl _ _).alloc (Nat.le_refl _) _)
  have b6 : Hid (Below w.heap.size w (w5.alloc (.cells #[.int .i64 ((1 : Nat) : Int)] 3))) := b5.out.alloc b5.out.size _
  replace Sn : Hid (Sl (w5.alloc (.cells #[.int .i64 ((1 : Nat) : Int)] 3)) (.slice a1 (P.dg m.nat).length c1) (P.dg m.nat)) := Sl.up (xs := (P.dg m.nat)) Sn.out ((Below.refl _ _).alloc (Nat.le_refl _) _)
  replace Sx : Hid (Sl (w5.alloc (.cells #[.int .i64 ((1 : Nat) : Int)] 3)) v2 (P.dg a.nat)) := Sl.up (xs := (P.dg a.nat)) Sx.out ((Below.refl _ _).alloc (Nat.le_refl _) _)
  replace Sg : Hid (Sl (w5.alloc (.cells #[.int .i64 ((1 : Nat) : Int)] 3)) v3 [1]) := Sl.up (xs := [1]) Sg.out ((Below.refl _ _).alloc (Nat.le_refl _) _)
  have So : Hid (Sl (w5.alloc (.cells #[.int .i64 ((1 : Nat) : Int)] 3)) (.slice (some ⟨w5.heap.size, 0, none⟩) 1 1) [1]) := Sl.one w5 1 _ rfl
  clear s5 b5
  go_wp2_with fail
  refine (OR.out _ _ _ Sg.out So.out).mono ?_
  rintro e w7 ⟨rfl, hb7⟩
  replace Sn : Hid (Sl w7 (.slice a1 (P.dg m.nat).length c1) (P.dg m.nat)) := Sl.up (xs := (P.dg m.nat)) Sn.out hb7
  replace Sx : Hid (Sl w7 v2 (P.dg a.nat)) := Sl.up (xs := (P.dg a.nat)) Sx.out hb7
  replace Sg : Hid (Sl w7 v3 [1]) := Sl.up (xs := [1]) Sg.out hb7
  replace So : Hid (Sl w7 (.slice (some ⟨w5.heap.size, 0, none⟩) 1 1) [1]) := Sl.up (xs := [1]) So.out hb7
  have s7 : Hid (Kn w7 [(w1.heap.size, (c4 (x))), (w.heap.size + 1, (c4 (m))), (w.heap.size, (c4 (a)))]) := s6.out.up hb7
  have b7 : Hid (Below w.heap.size w w7) := b6.out.trans (hb7.mono b6.out.size)
  have z7 := b7.out.size
  clear hb7 s6 b6
  have ux_0 : w7.cell? ⟨w1.heap.size, 0, none⟩ = some (.int .u64 (x).a) := Kn.get s7.out 0 0 rfl rfl
  have ux_1 : w7.cell? ⟨w1.heap.size, 1, none⟩ = some (.int .u64 (x).b) := Kn.get s7.out 0 1 rfl rfl
  have ux_2 : w7.cell? ⟨w1.heap.size, 2, none⟩ = some (.int .u64 (x).c) := Kn.get s7.out 0 2 rfl rfl
  have ux_3 : w7.cell? ⟨w1.heap.size, 3, none⟩ = some (.int .u64 (x).d) := Kn.get s7.out 0 3 rfl rfl
  go_wp2_with fail
  clear ux_0 ux_1 ux_2 ux_3
  refine (OX.out _).mono ?_
  rintro e w8 ⟨⟨v4, rfl, h4⟩, hb8⟩
  replace Sn : Hid (Sl w8 (.slice a1 (P.dg m.nat).length c1) (P.dg m.nat)) := Sl.up (xs := (P.dg m.nat)) Sn.out hb8
  replace Sx : Hid (Sl w8 v2 (P.dg a.nat)) := Sl.up (xs := (P.dg a.nat)) Sx.out hb8
  replace Sg : Hid (Sl w8 v3 [1]) := Sl.up (xs := [1]) Sg.out hb8
  replace So : Hid (Sl w8 (.slice (some ⟨w5.heap.size, 0, none⟩) 1 1) [1]) := Sl.up (xs := [1]) So.out hb8
  have s8 : Hid (Kn w8 [(w1.heap.size, (c4 (x))), (w.heap.size + 1, (c4 (m))), (w.heap.size, (c4 (a)))]) := s7.out.up hb8
  have b8 : Hid (Below w.heap.size w w8) := b7.out.trans (hb8.mono b7.out.size)
  have z8 := b8.out.size
  clear hb8 s7 b7
  have Sy : Hid (Sl w8 v4 (P.dg x.nat)) := h4
  clear h4
  go_wp2_with fail
  refine (O2.out _ _ _ Sy.out Sn.out).mono ?_
  rintro e w9 ⟨rfl, hb9⟩
  replace Sn : Hid (Sl w9 (.slice a1 (P.dg m.nat).length c1) (P.dg m.nat)) := Sl.up (xs := (P.dg m.nat)) Sn.out hb9
  replace Sx : Hid (Sl w9 v2 (P.dg a.nat)) := Sl.up (xs := (P.dg a.nat)) Sx.out hb9
  replace Sg : Hid (Sl w9 v3 [1]) := Sl.up (xs := [1]) Sg.out hb9
  replace So : Hid (Sl w9 (.slice (some ⟨w5.heap.size, 0, none⟩) 1 1) [1]) := Sl.up (xs := [1]) So.out hb9
  replace Sy : Hid (Sl w9 v4 (P.dg x.nat)) := Sl.up (xs := (P.dg x.nat)) Sy.out hb9
  have s9 : Hid (Kn w9 [(w1.heap.size, (c4 (x))), (w.heap.size + 1, (c4 (m))), (w.heap.size, (c4 (a)))]) := s8.out.up hb9
  have b9 : Hid (Below w.heap.size w w9) := b8.out.trans (hb9.mono b8.out.size)
  have z9 := b9.out.size
  clear hb9 s8 b8
  have ua_0 : w9.cell? ⟨w.heap.size, 0, none⟩ = some (.int .u64 (a).a) := Kn.get s9.out 2 0 rfl rfl
  have ua_1 : w9.cell? ⟨w.heap.size, 1, none⟩ = some (.int .u64 (a).b) := Kn.get s9.out 2 1 rfl rfl
  have ua_2 : w9.cell? ⟨w.heap.size, 2, none⟩ = some (.int .u64 (a).c) := Kn.get s9.out 2 2 rfl rfl
  have ua_3 : w9.cell? ⟨w.heap.size, 3, none⟩ = some (.int .u64 (a).d) := Kn.get s9.out 2 3 rfl rfl
  go_wp2_with fail
  clear ua_0 ua_1 ua_2 ua_3
  refine (OA.out _).mono ?_
  rintro e w10 ⟨⟨v5, rfl, h5⟩, hb10⟩
  replace Sn : Hid (Sl w10 (.slice a1 (P.dg m.nat).length c1) (P.dg m.nat)) := Sl.up (xs := (P.dg m.nat)) Sn.out hb10
  replace Sx : Hid (Sl w10 v2 (P.dg a.nat)) := Sl.up (xs := (P.dg a.nat)) Sx.out hb10
  replace Sg : Hid (Sl w10 v3 [1]) := Sl.up (xs := [1]) Sg.out hb10
  replace So : Hid (Sl w10 (.slice (some ⟨w5.heap.size, 0, none⟩) 1 1) [1]) := Sl.up (xs := [1]) So.out hb10
  replace Sy : Hid (Sl w10 v4 (P.dg x.nat)) := Sl.up (xs := (P.dg x.nat)) Sy.out hb10
  have s10 : Hid (Kn w10 [(w1.heap.size, (c4 (x))), (w.heap.size + 1, (c4 (m))), (w.heap.size, (c4 (a)))]) := s9.out.up hb10
  have b10 : Hid (Below w.heap.size w w10) := b9.out.trans (hb10.mono b9.out.size)
  have z10 := b10.out.size
  clear hb10 s9 b9
  have Sxx : Hid (Sl w10 v5 (P.dg a.nat)) := h5
  clear h5
  go_wp2_with fail
  refine (TI.out _ _ _ Sxx.out Sy.out).mono ?_
  rintro e w11 ⟨⟨v6, rfl, h6⟩, hb11⟩
  replace Sn : Hid (Sl w11 (.slice a1 (P.dg m.nat).length c1) (P.dg m.nat)) := Sl.up (xs := (P.dg m.nat)) Sn.out hb11
  replace Sx : Hid (Sl w11 v2 (P.dg a.nat)) := Sl.up (xs := (P.dg a.nat)) Sx.out hb11
  replace Sg : Hid (Sl w11 v3 [1]) := Sl.up (xs := [1]) Sg.out hb11
  replace So : Hid (Sl w11 (.slice (some ⟨w5.heap.size, 0, none⟩) 1 1) [1]) := Sl.up (xs := [1]) So.out hb11
  replace Sy : Hid (Sl w11 v4 (P.dg x.nat)) := Sl.up (xs := (P.dg x.nat)) Sy.out hb11
  replace Sxx : Hid (Sl w11 v5 (P.dg a.nat)) := Sl.up (xs := (P.dg a.nat)) Sxx.out hb11
  have s11 : Hid (Kn w11 [(w1.heap.size, (c4 (x))), (w.heap.size + 1, (c4 (m))), (w.heap.size, (c4 (a)))]) := s10.out.up hb11
  have b11 : Hid (Below w.heap.size w w11) := b10.out.trans (hb11.mono b10.out.size)
  have z11 := b11.out.size
  clear hb11 s10 b10
  have St : Hid (Sl w11 v6 (P.dg (a.nat * x.nat))) := h6
  clear h6
  go_wp2_with fail
  refine (R1.out _ _ _ St.out Sn.out).mono ?_
  rintro e w12 ⟨⟨v7, rfl, h7⟩, hb12⟩
  replace Sn : Hid (Sl w12 (.slice a1 (P.dg m.nat).length c1) (P.dg m.nat)) := Sl.up (xs := (P.dg m.nat)) Sn.out hb12
  replace Sx : Hid (Sl w12 v2 (P.dg a.nat)) := Sl.up (xs := (P.dg a.nat)) Sx.out hb12
  replace Sg : Hid (Sl w12 v3 [1]) := Sl.up (xs := [1]) Sg.out hb12
  replace So : Hid (Sl w12 (.slice (some ⟨w5.heap.size, 0, none⟩) 1 1) [1]) := Sl.up (xs := [1]) So.out hb12
  replace Sy : Hid (Sl w12 v4 (P.dg x.nat)) := Sl.up (xs := (P.dg x.nat)) Sy.out hb12
  replace Sxx : Hid (Sl w12 v5 (P.dg a.nat)) := Sl.up (xs := (P.dg a.nat)) Sxx.out hb12
  replace St : Hid (Sl w12 v6 (P.dg (a.nat * x.nat))) := Sl.up (xs := (P.dg (a.nat * x.nat))) St.out hb12
  have s12 : Hid (Kn w12 [(w1.heap.size, (c4 (x))), (w.heap.size + 1, (c4 (m))), (w.heap.size, (c4 (a)))]) := s11.out.up hb12
  have b12 : Hid (Below w.heap.size w w12) := b11.out.trans (hb12.mono b11.out.size)
  have z12 := b12.out.size
  clear hb12 s11 b11
  have Sr : Hid (Sl w12 v7 (P.dg (1 % m.nat))) := h7
  clear h7
  have s13 : Hid (Kn (w12.alloc (.cells #[.int .i64 ((1 : Nat) : Int)] 3)) [(w1.heap.size, (c4 (x))), (w.heap.size + 1, (c4 (m))), (w.heap.size, (c4 (a)))]) := s12.out.up ((Below.refl _ _).alloc (Nat.le_refl _) _)
  have b13 : Hid (Below w.heap.size w (w12.alloc (.cells #[.int .i64 ((1 : Nat) : Int)] 3))) := b12.out.alloc b12.out.size _
  replace Sn : Hid (Sl (w12.alloc (.cells #[.int .i64 ((1 : Nat) : Int)] 3)) (.slice a1 (P.dg m.nat).length c1) (P.dg m.nat)) := Sl.up (xs := (P.dg m.nat)) Sn.out ((Below.refl _ _).alloc (Nat.le_refl _) _)
  replace Sx : Hid (Sl (w12.alloc (.cells #[.int .i64 ((1 : Nat) : Int)] 3)) v2 (P.dg a.nat)) := Sl.up (xs := (P.dg a.nat)) Sx.out ((Below.refl _ _).alloc (Nat.le_refl _) _)
  replace Sg : Hid (Sl (w12.alloc (.cells #[.int .i64 ((1 : Nat) : Int)] 3)) v3 [1]) := Sl.up (xs := [1]) Sg.out ((Below.refl _ _).alloc (Nat.le_refl _) _)
  replace So : Hid (Sl (w12.alloc (.cells #[.int .i64 ((1 : Nat) : Int)] 3)) (.slice (some ⟨w5.heap.size, 0, none⟩) 1 1) [1]) := Sl.up (xs := [1]) So.out ((Below.refl _ _).alloc (Nat.le_refl _) _)
  replace Sy : Hid (Sl (w12.alloc (.cells #[.int .i64 ((1 : Nat) : Int)] 3)) v4 (P.dg x.nat)) := Sl.up (xs := (P.dg x.nat)) Sy.out ((Below.refl _ _).alloc (Nat.le_refl _) _)
  replace Sxx : Hid (Sl (w12.alloc (.cells #[.int .i64 ((1 : Nat) : Int)] 3)) v5 (P.dg a.nat)) := Sl.up (xs := (P.dg a.nat)) Sxx.out ((Below.refl _ _).alloc (Nat.le_refl _) _)
  replace St : Hid (Sl (w12.alloc (.cells #[.int .i64 ((1 : Nat) : Int)] 3)) v6 (P.dg (a.nat * x.nat))) := Sl.up (xs := (P.dg (a.nat * x.nat))) St.out ((Below.refl _ _).alloc (Nat.le_refl _) _)
  replace Sr : Hid (Sl (w12.alloc (.cells #[.int .i64 ((1 : Nat) : Int)] 3)) v7 (P.dg (1 % m.nat))) := Sl.up (xs := (P.dg (1 % m.nat))) Sr.out ((Below.refl _ _).alloc (Nat.le_refl _) _)
  have Soo : Hid (Sl (w12.alloc (.cells #[.int .i64 ((1 : Nat) : Int)] 3)) (.slice (some ⟨w12.heap.size, 0, none⟩) 1 1) [1]) := Sl.one w12 1 _ rfl
  clear s12 b12
  go_wp2_with fail
  refine (R2.out _ _ _ Soo.out Sn.out).mono ?_
  rintro e w14 ⟨⟨v8, rfl, h8⟩, hb14⟩
  replace Sn : Hid (Sl w14 (.slice a1 (P.dg m.nat).length c1) (P.dg m.nat)) := Sl.up (xs := (P.dg m.nat)) Sn.out hb14
  replace Sx : Hid (Sl w14 v2 (P.dg a.nat)) := Sl.up (xs := (P.dg a.nat)) Sx.out hb14
  replace Sg : Hid (Sl w14 v3 [1]) := Sl.up (xs := [1]) Sg.out hb14
  replace So : Hid (Sl w14 (.slice (some ⟨w5.heap.size, 0, none⟩) 1 1) [1]) := Sl.up (xs := [1]) So.out hb14
  replace Sy : Hid (Sl w14 v4 (P.dg x.nat)) := Sl.up (xs := (P.dg x.nat)) Sy.out hb14
  replace Sxx : Hid (Sl w14 v5 (P.dg a.nat)) := Sl.up (xs := (P.dg a.nat)) Sxx.out hb14
  replace St : Hid (Sl w14 v6 (P.dg (a.nat * x.nat))) := Sl.up (xs := (P.dg (a.nat * x.nat))) St.out hb14
  replace Sr : Hid (Sl w14 v7 (P.dg (1 % m.nat))) := Sl.up (xs := (P.dg (1 % m.nat))) Sr.out hb14
  replace Soo : Hid (Sl w14 (.slice (some ⟨w12.heap.size, 0, none⟩) 1 1) [1]) := Sl.up (xs := [1]) Soo.out hb14
  have s14 : Hid (Kn w14 [(w1.heap.size, (c4 (x))), (w.heap.size + 1, (c4 (m))), (w.heap.size, (c4 (a)))]) := s13.out.up hb14
  have b14 : Hid (Below w.heap.size w w14) := b13.out.trans (hb14.mono b13.out.size)
  have z14 := b14.out.size
  clear hb14 s13 b13
  have Srr : Hid (Sl w14 v8 (P.dg (1 % m.nat))) := h8
  clear h8
  go_wp2_with fail
  refine (O3.out _ _ _ Sr.out Srr.out).mono ?_
  rintro e w15 ⟨rfl, hb15⟩
  replace Sn : Hid (Sl w15 (.slice a1 (P.dg m.nat).length c1) (P.dg m.nat)) := Sl.up (xs := (P.dg m.nat)) Sn.out hb15
  replace Sx : Hid (Sl w15 v2 (P.dg a.nat)) := Sl.up (xs := (P.dg a.nat)) Sx.out hb15
  replace Sg : Hid (Sl w15 v3 [1]) := Sl.up (xs := [1]) Sg.out hb15
  replace So : Hid (Sl w15 (.slice (some ⟨w5.heap.size, 0, none⟩) 1 1) [1]) := Sl.up (xs := [1]) So.out hb15
  replace Sy : Hid (Sl w15 v4 (P.dg x.nat)) := Sl.up (xs := (P.dg x.nat)) Sy.out hb15
  replace Sxx : Hid (Sl w15 v5 (P.dg a.nat)) := Sl.up (xs := (P.dg a.nat)) Sxx.out hb15
  replace St : Hid (Sl w15 v6 (P.dg (a.nat * x.nat))) := Sl.up (xs := (P.dg (a.nat * x.nat))) St.out hb15
  replace Sr : Hid (Sl w15 v7 (P.dg (1 % m.nat))) := Sl.up (xs := (P.dg (1 % m.nat))) Sr.out hb15
  replace Soo : Hid (Sl w15 (.slice (some ⟨w12.heap.size, 0, none⟩) 1 1) [1]) := Sl.up (xs := [1]) Soo.out hb15
  replace Srr : Hid (Sl w15 v8 (P.dg (1 % m.nat))) := Sl.up (xs := (P.dg (1 % m.nat))) Srr.out hb15
  have s15 : Hid (Kn w15 [(w1.heap.size, (c4 (x))), (w.heap.size + 1, (c4 (m))), (w.heap.size, (c4 (a)))]) := s14.out.up hb15
  have b15 : Hid (Below w.heap.size w w15) := b14.out.trans (hb15.mono b14.out.size)
  have z15 := b15.out.size
  clear hb15 s14 b14
  go_wp2_with fail
  go_ret
  exact ⟨rfl, b15.out⟩
theorem quotInverts_law (a m : Nm) (oa : a.ok) (om : m.ok) (w : World) :
    Calls Try.prog 5 #[N a, N m] w fun e w' => e = .returned (.bool true) ∧ Below w.heap.size w w' := by
  by_cases nz : m = ⟨0, 0, 0, 0⟩
  · subst nz
    exact quotInverts_zero a w
  have mz : m.nat ≠ 0 := fun e => nz (Nm.ext_nat om zero_ok (by rw [e]; rfl))
  by_cases hg : Nat.gcd m.nat a.nat = 1
  · obtain ⟨x, hx⟩ := inv_has om (Nat.pos_of_ne_zero mz) hg
    exact quotInverts_good a m x oa om hx.1 mz (by rw [Nat.gcd_comm]; exact hg) hx.2.1 hx.2.2 (inv_is a m x oa om nz hx hg) w
  · exact quotInverts_not a m oa om mz (by rw [Nat.gcd_comm]; exact hg) (inv_not a m oa om nz hg) w

set_option maxRecDepth 100000 in
theorem quotInverts_lifted (os : Os) (started : os.Started) (H : Type) (enc : TypeId × Value → H) :
    ReturnsInHanded {} Try.checked os 5 .any (Rows.quotInvertsSpec.pre6 enc Try.prog Try.f5 Rows.quotInvertsRow.domain false) (Rows.quotInvertsSpec.post enc Try.prog Try.f5 false true false false) := by
  refine returnsInHanded_of_change (C := Try.checked) Try.own started (by kernel_rfl) Try.func5
    (ChangeSpec.witness6 (enc := enc) (C := Try.checked) false ⟨#[], #[.agg #[.int .u64 0, .int .u64 0, .int .u64 0, .int .u64 0], .agg #[.int .u64 0, .int .u64 0, .int .u64 0, .int .u64 0]], []⟩ 8 (by kernel_rfl) (by kernel_rfl) (by kernel_rfl) (by kernel_rfl)) ?_
  intro W base args ds gs before hval0 hW hcnd _
  have hval : ∀ (j : Nat) t v, Try.f5.params[j]? = some t → args[j]? = some v → Value.okWide Try.prog W .any base t v := hval0
  have hW' := hW
  obtain ⟨p, q, hA0, hV, rfl, hfz, hnd⟩ := hW
  have hA : DataW.TrodAll enc Try.prog W 0 (fun _ => true) true Try.f5.params.toList args.toList ds p := hA0
  rw [Try.params5] at hA hval
  obtain ⟨v0, v1, d0, d1, p0, p1, rfl, rfl, rfl, h0, h1⟩ := trodAll_two hA
  obtain ⟨rfl, rfl⟩ := trodVars_none hV
  obtain ⟨xs0, l0, rfl, rfl, rfl, w0⟩ := open_arr Try.underlying24 Try.underlying22 Try.cellsU64 Try.cellsNum (hval 0 24 v0 rfl rfl) h0
  obtain ⟨xs1, l1, rfl, rfl, rfl, w1⟩ := open_arr Try.underlying24 Try.underlying22 Try.cellsU64 Try.cellsNum (hval 1 24 v1 rfl rfl) h1
  clear hA0 hval0 hval hA h0 h1
  obtain ⟨a0, b0, c0, d0, rfl⟩ := list4 xs0 l0
  have ok0 : (⟨a0, b0, c0, d0⟩ : Nm).ok := ⟨word_of_wf (w0 _ (by simp)), word_of_wf (w0 _ (by simp)), word_of_wf (w0 _ (by simp)), word_of_wf (w0 _ (by simp))⟩
  obtain ⟨a1, b1, c1, d1, rfl⟩ := list4 xs1 l1
  have ok1 : (⟨a1, b1, c1, d1⟩ : Nm).ok := ⟨word_of_wf (w1 _ (by simp)), word_of_wf (w1 _ (by simp)), word_of_wf (w1 _ (by simp)), word_of_wf (w1 _ (by simp))⟩
  simp only [List.append_nil] at hW'
  refine (quotInverts_law ⟨a0, b0, c0, d0⟩ ⟨a1, b1, c1, d1⟩ ok0 ok1 W).mono fun e W' ⟨he, hg⟩ => ?_
  subst he
  exact ⟨_, rfl, _, _, _, [], [], [], hW', trodAll_mk1 (shut_bool Try.underlying4 _), trodAll_mk2 (shut_arr Try.underlying24 Try.underlying22 Try.cellsU64 Try.cellsNum l0 w0) (shut_arr Try.underlying24 Try.underlying22 Try.cellsU64 Try.cellsNum l1 w1), rfl, hg.frame _, fun h => by cases h⟩

theorem quotInverts_holds : Rows.QuotInvertsSaid :=
  OpenClaim.holds_of_wide 5 Try.f5 rfl rfl rfl rfl rfl rfl rfl ⟨rfl, rfl, rfl, rfl, rfl⟩ rfl rfl rfl rfl rfl (by kernel_rfl) Try.func5 (by kernel_rfl)
    (of_decide_eq_true (by kernel_rfl)) (by unfold Func.isWrapper; first | (rw [if_pos (by decide +kernel)]; kernel_rfl) | (rw [if_neg (by decide +kernel)]; exact ⟨rfl, rfl⟩))
    (fun os started H enc _ => quotInverts_lifted os started H enc)
#print axioms quotInverts_holds
end Go.Proofs.Ytgdekdmdidahdaa
