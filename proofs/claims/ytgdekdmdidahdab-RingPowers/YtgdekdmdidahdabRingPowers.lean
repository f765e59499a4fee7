/- RingPowers returns true for every m, a, i and j. No condition. -/
import Derived.Test.YtgdekdmdidahdabRingN
import Derived.Test.YtgdekdmdidahdabRingP
import Derived.Test.YtgdekdmdidahdabAl
import Derived.Test.YtgdekdmdidahdabArr
import Derived.Test.YtgdekdmdidahdabOwn
namespace Go.Proofs.Ytgdekdmdidahdab
open Go.RowKit
open Go.ChangeShapes Go.WideShapes Go.ChangeAt
attribute [local go_sem] World.cell?_alloc_some cell_alloc2 cell_alloc3 cell_alloc4 frozen?_alloc_cells frozen_out
set_option maxHeartbeats 1000000 in
theorem rings_walk (m iv on tw : Nm)
    (SN : ∀ w, Calls Try.prog 7 #[N ⟨7, 0, 0, 0⟩] w fun e w' => (∃ k, w.heap.size ≤ k ∧ e = .returned (.tuple #[rp k, .int .i64 0]) ∧ Blk w' k (c16 m iv on tw)) ∧ Below w.heap.size w w')
    (T1 : ∀ k w, RingAt w k m iv on tw → Calls Try.prog 15 #[rp k, N ⟨3, 0, 0, 0⟩, N ⟨5, 0, 0, 0⟩] w fun e w' => e = .returned (N ⟨1, 0, 0, 0⟩) ∧ Below w.heap.size w w')
    (w : World) :
    Calls Try.prog 18 #[] w fun e w' => e = .returned (.bool true) ∧ Below w.heap.size w w' := by
  have e1 := eqN ⟨1, 0, 0, 0⟩ ⟨1, 0, 0, 0⟩
  rw [Nm.beq_self] at e1
  go_enter Try.func18, Try.ntmps18
  have s0 : Hid (Kn w []) := (Kn.nil w)
  have b0 : Hid (Below w.heap.size w w) := (Below.refl _ _)
  go_wp2_with fail
  refine (SN _).mono ?_
  rintro e w1 ⟨⟨kr, hkr, rfl, hBr⟩, hb1⟩
  have s1 : Hid (Kn w1 [(kr, (c16 m iv on tw))]) := s0.out.fresh_of hb1 hkr hBr
  have b1 : Hid (Below w.heap.size w w1) := b0.out.trans (hb1.mono b0.out.size)
  have z1 := b1.out.size
  clear hb1 s0 b0 hBr hkr
  go_wp2_with fail
  have RK : RingAt w1 kr m iv on tw := RingAt.ofKn s1.out 0 rfl
  refine (T1 _ _ RK).mono ?_
  rintro e w2 ⟨rfl, hb2⟩
  clear RK
  have s2 : Hid (Kn w2 [(kr, (c16 m iv on tw))]) := s1.out.up hb2
  have b2 : Hid (Below w.heap.size w w2) := b1.out.trans (hb2.mono b1.out.size)
  have z2 := b2.out.size
  clear hb2 s1 b1
  go_wp2_with fail
  go_ret
  exact ⟨rfl, b2.out⟩
theorem seven_ok : (⟨7, 0, 0, 0⟩ : Nm).ok := ⟨⟨by decide, by decide⟩, ⟨by decide, by decide⟩, ⟨by decide, by decide⟩, ⟨by decide, by decide⟩⟩
theorem three_ok : (⟨3, 0, 0, 0⟩ : Nm).ok := ⟨⟨by decide, by decide⟩, ⟨by decide, by decide⟩, ⟨by decide, by decide⟩, ⟨by decide, by decide⟩⟩
theorem five_ok : (⟨5, 0, 0, 0⟩ : Nm).ok := ⟨⟨by decide, by decide⟩, ⟨by decide, by decide⟩, ⟨by decide, by decide⟩, ⟨by decide, by decide⟩⟩
theorem rings_fun (w : World) :
    Calls Try.prog 18 #[] w fun e w' => e = .returned (.bool true) ∧ Below w.heap.size w w' := by
  have R := new_ok ⟨7, 0, 0, 0⟩ seven_ok (by decide) (by decide)
  have T := fun k w hR => ringMul_fun (k := k) R ⟨3, 0, 0, 0⟩ ⟨5, 0, 0, 0⟩ three_ok five_ok w hR
  rw [show nm ((⟨3, 0, 0, 0⟩ : Nm).nat * (⟨5, 0, 0, 0⟩ : Nm).nat % (⟨7, 0, 0, 0⟩ : Nm).nat) = ⟨1, 0, 0, 0⟩ by kernel_rfl] at T
  exact rings_walk _ _ _ _ (new_good ⟨7, 0, 0, 0⟩ seven_ok (by decide) (by decide)) T w
set_option maxHeartbeats 1000000 in
theorem ringPowers_bad (m a i j pl ph : Nm)
    (SN : ∀ w, Calls Try.prog 7 #[N m] w fun e w' => e = .returned (.tuple #[.pointer none, .int .i64 1]) ∧ Below w.heap.size w w')
    (SM : ∀ w, Calls Try.prog 14 #[N i, N j] w fun e w' => e = .returned (Wv pl ph) ∧ Below w.heap.size w w')
    (w : World) :
    Calls Try.prog 5 #[N m, N a, N i, N j] w fun e w' => e = .returned (.bool true) ∧ Below w.heap.size w w' := by
  go_enter Try.func5, Try.ntmps5
  have s0 : Hid (Kn (kal4 (kal4 (kal4 (kal4 w (m)) (a)) (i)) (j)) [(w.heap.size + 1 + 1 + 1, (c4 (j))), (w.heap.size + 1 + 1, (c4 (i))), (w.heap.size + 1, (c4 (a))), (w.heap.size, (c4 (m)))]) := (((((Kn.nil w).al (c4 (m)) 24 rfl).al (c4 (a)) 24 (by simp)).al (c4 (i)) 24 (by simp)).al (c4 (j)) 24 (by simp))
  have b0 : Hid (Below w.heap.size w (kal4 (kal4 (kal4 (kal4 w (m)) (a)) (i)) (j))) := (((((Below.refl _ _).alloc (Nat.le_refl _) _).alloc (by simp <;> omega) _).alloc (by simp <;> omega) _).alloc (by simp <;> omega) _)
  go_wp2_with fail
  refine (rings_fun _).mono ?_
  rintro e w1 ⟨rfl, hb1⟩
  have s1 : Hid (Kn w1 [(w.heap.size + 1 + 1 + 1, (c4 (j))), (w.heap.size + 1 + 1, (c4 (i))), (w.heap.size + 1, (c4 (a))), (w.heap.size, (c4 (m)))]) := s0.out.up hb1
  have b1 : Hid (Below w.heap.size w w1) := b0.out.trans (hb1.mono b0.out.size)
  have z1 := b1.out.size
  clear hb1 s0 b0
  have um_0 : w1.cell? ⟨w.heap.size, 0, none⟩ = some (.int .u64 (m).a) := Kn.get s1.out 3 0 rfl rfl
  have um_1 : w1.cell? ⟨w.heap.size, 1, none⟩ = some (.int .u64 (m).b) := Kn.get s1.out 3 1 rfl rfl
  have um_2 : w1.cell? ⟨w.heap.size, 2, none⟩ = some (.int .u64 (m).c) := Kn.get s1.out 3 2 rfl rfl
  have um_3 : w1.cell? ⟨w.heap.size, 3, none⟩ = some (.int .u64 (m).d) := Kn.get s1.out 3 3 rfl rfl
  go_wp2_with fail
  clear um_0 um_1 um_2 um_3
  refine (SN _).mono ?_
  rintro e w2 ⟨rfl, hb2⟩
  have s2 : Hid (Kn w2 [(w.heap.size + 1 + 1 + 1, (c4 (j))), (w.heap.size + 1 + 1, (c4 (i))), (w.heap.size + 1, (c4 (a))), (w.heap.size, (c4 (m)))]) := s1.out.up hb2
  have b2 : Hid (Below w.heap.size w w2) := b1.out.trans (hb2.mono b1.out.size)
  have z2 := b2.out.size
  clear hb2 s1 b1
  have ui_0 : w2.cell? ⟨w.heap.size + 1 + 1, 0, none⟩ = some (.int .u64 (i).a) := Kn.get s2.out 1 0 rfl rfl
  have ui_1 : w2.cell? ⟨w.heap.size + 1 + 1, 1, none⟩ = some (.int .u64 (i).b) := Kn.get s2.out 1 1 rfl rfl
  have ui_2 : w2.cell? ⟨w.heap.size + 1 + 1, 2, none⟩ = some (.int .u64 (i).c) := Kn.get s2.out 1 2 rfl rfl
  have ui_3 : w2.cell? ⟨w.heap.size + 1 + 1, 3, none⟩ = some (.int .u64 (i).d) := Kn.get s2.out 1 3 rfl rfl
  have uj_0 : w2.cell? ⟨w.heap.size + 1 + 1 + 1, 0, none⟩ = some (.int .u64 (j).a) := Kn.get s2.out 0 0 rfl rfl
  have uj_1 : w2.cell? ⟨w.heap.size + 1 + 1 + 1, 1, none⟩ = some (.int .u64 (j).b) := Kn.get s2.out 0 1 rfl rfl
  have uj_2 : w2.cell? ⟨w.heap.size + 1 + 1 + 1, 2, none⟩ = some (.int .u64 (j).c) := Kn.get s2.out 0 2 rfl rfl
  have uj_3 : w2.cell? ⟨w.heap.size + 1 + 1 + 1, 3, none⟩ = some (.int .u64 (j).d) := Kn.get s2.out 0 3 rfl rfl
  go_wp2_with fail
  clear ui_0 ui_1 ui_2 ui_3 uj_0 uj_1 uj_2 uj_3
  refine (SM _).mono ?_
  rintro e w3 ⟨rfl, hb3⟩
  have s3 : Hid (Kn w3 [(w.heap.size + 1 + 1 + 1, (c4 (j))), (w.heap.size + 1 + 1, (c4 (i))), (w.heap.size + 1, (c4 (a))), (w.heap.size, (c4 (m)))]) := s2.out.up hb3
  have b3 : Hid (Below w.heap.size w w3) := b2.out.trans (hb3.mono b2.out.size)
  have z3 := b3.out.size
  clear hb3 s2 b2
  have s4 : Hid (Kn (kal8 w3 (pl) (ph)) [(w3.heap.size, (c8 (pl) (ph))), (w.heap.size + 1 + 1 + 1, (c4 (j))), (w.heap.size + 1 + 1, (c4 (i))), (w.heap.size + 1, (c4 (a))), (w.heap.size, (c4 (m)))]) := s3.out.al (c8 (pl) (ph)) 26 rfl
  have b4 : Hid (Below w.heap.size w (kal8 w3 (pl) (ph))) := b3.out.alloc b3.out.size _
  have z4 := b3.out.size
  clear s3 b3
  go_wp2_with fail
  go_ret
  exact ⟨rfl, b4.out⟩
set_option maxHeartbeats 1000000 in
theorem ringPowers_out (m iv on tw a i j pl ph : Nm) (nz : ph ≠ ⟨0, 0, 0, 0⟩)
    (SN : ∀ w, Calls Try.prog 7 #[N m] w fun e w' => (∃ k, w.heap.size ≤ k ∧ e = .returned (.tuple #[rp k, .int .i64 0]) ∧ Blk w' k (c16 m iv on tw)) ∧ Below w.heap.size w w')
    (SM : ∀ w, Calls Try.prog 14 #[N i, N j] w fun e w' => e = .returned (Wv pl ph) ∧ Below w.heap.size w w')
    (w : World) :
    Calls Try.prog 5 #[N m, N a, N i, N j] w fun e w' => e = .returned (.bool true) ∧ Below w.heap.size w w' := by
  have e1 := neN ph ⟨0, 0, 0, 0⟩
  rw [Nm.beq_ne nz] at e1
  go_enter Try.func5, Try.ntmps5
  have s0 : Hid (Kn (kal4 (kal4 (kal4 (kal4 w (m)) (a)) (i)) (j)) [(w.heap.size + 1 + 1 + 1, (c4 (j))), (w.heap.size + 1 + 1, (c4 (i))), (w.heap.size + 1, (c4 (a))), (w.heap.size, (c4 (m)))]) := (((((Kn.nil w).al (c4 (m)) 24 rfl).al (c4 (a)) 24 (by simp)).al (c4 (i)) 24 (by simp)).al (c4 (j)) 24 (by simp))
  have b0 : Hid (Below w.heap.size w (kal4 (kal4 (kal4 (kal4 w (m)) (a)) (i)) (j))) := (((((Below.refl _ _).alloc (Nat.le_refl _) _).alloc (by simp <;> omega) _).alloc (by simp <;> omega) _).alloc (by simp <;> omega) _)
  go_wp2_with fail
  refine (rings_fun _).mono ?_
  rintro e w1 ⟨rfl, hb1⟩
  have s1 : Hid (Kn w1 [(w.heap.size + 1 + 1 + 1, (c4 (j))), (w.heap.size + 1 + 1, (c4 (i))), (w.heap.size + 1, (c4 (a))), (w.heap.size, (c4 (m)))]) := s0.out.up hb1
  have b1 : Hid (Below w.heap.size w w1) := b0.out.trans (hb1.mono b0.out.size)
  have z1 := b1.out.size
  clear hb1 s0 b0
  have um_0 : w1.cell? ⟨w.heap.size, 0, none⟩ = some (.int .u64 (m).a) := Kn.get s1.out 3 0 rfl rfl
  have um_1 : w1.cell? ⟨w.heap.size, 1, none⟩ = some (.int .u64 (m).b) := Kn.get s1.out 3 1 rfl rfl
  have um_2 : w1.cell? ⟨w.heap.size, 2, none⟩ = some (.int .u64 (m).c) := Kn.get s1.out 3 2 rfl rfl
  have um_3 : w1.cell? ⟨w.heap.size, 3, none⟩ = some (.int .u64 (m).d) := Kn.get s1.out 3 3 rfl rfl
  go_wp2_with fail
  clear um_0 um_1 um_2 um_3
  refine (SN _).mono ?_
  rintro e w2 ⟨⟨kr, hkr, rfl, hBr⟩, hb2⟩
  have s2 : Hid (Kn w2 [(kr, (c16 m iv on tw)), (w.heap.size + 1 + 1 + 1, (c4 (j))), (w.heap.size + 1 + 1, (c4 (i))), (w.heap.size + 1, (c4 (a))), (w.heap.size, (c4 (m)))]) := s1.out.fresh_of hb2 hkr hBr
  have b2 : Hid (Below w.heap.size w w2) := b1.out.trans (hb2.mono b1.out.size)
  have z2 := b2.out.size
  clear hb2 s1 b1 hBr hkr
  have ui_0 : w2.cell? ⟨w.heap.size + 1 + 1, 0, none⟩ = some (.int .u64 (i).a) := Kn.get s2.out 2 0 rfl rfl
  have ui_1 : w2.cell? ⟨w.heap.size + 1 + 1, 1, none⟩ = some (.int .u64 (i).b) := Kn.get s2.out 2 1 rfl rfl
  have ui_2 : w2.cell? ⟨w.heap.size + 1 + 1, 2, none⟩ = some (.int .u64 (i).c) := Kn.get s2.out 2 2 rfl rfl
  have ui_3 : w2.cell? ⟨w.heap.size + 1 + 1, 3, none⟩ = some (.int .u64 (i).d) := Kn.get s2.out 2 3 rfl rfl
  have uj_0 : w2.cell? ⟨w.heap.size + 1 + 1 + 1, 0, none⟩ = some (.int .u64 (j).a) := Kn.get s2.out 1 0 rfl rfl
  have uj_1 : w2.cell? ⟨w.heap.size + 1 + 1 + 1, 1, none⟩ = some (.int .u64 (j).b) := Kn.get s2.out 1 1 rfl rfl
  have uj_2 : w2.cell? ⟨w.heap.size + 1 + 1 + 1, 2, none⟩ = some (.int .u64 (j).c) := Kn.get s2.out 1 2 rfl rfl
  have uj_3 : w2.cell? ⟨w.heap.size + 1 + 1 + 1, 3, none⟩ = some (.int .u64 (j).d) := Kn.get s2.out 1 3 rfl rfl
  go_wp2_with fail
  clear ui_0 ui_1 ui_2 ui_3 uj_0 uj_1 uj_2 uj_3
  refine (SM _).mono ?_
  rintro e w3 ⟨rfl, hb3⟩
  have s3 : Hid (Kn w3 [(kr, (c16 m iv on tw)), (w.heap.size + 1 + 1 + 1, (c4 (j))), (w.heap.size + 1 + 1, (c4 (i))), (w.heap.size + 1, (c4 (a))), (w.heap.size, (c4 (m)))]) := s2.out.up hb3
  have b3 : Hid (Below w.heap.size w w3) := b2.out.trans (hb3.mono b2.out.size)
  have z3 := b3.out.size
  clear hb3 s2 b2
  have s4 : Hid (Kn (kal8 w3 (pl) (ph)) [(w3.heap.size, (c8 (pl) (ph))), (kr, (c16 m iv on tw)), (w.heap.size + 1 + 1 + 1, (c4 (j))), (w.heap.size + 1 + 1, (c4 (i))), (w.heap.size + 1, (c4 (a))), (w.heap.size, (c4 (m)))]) := s3.out.al (c8 (pl) (ph)) 26 rfl
  have b4 : Hid (Below w.heap.size w (kal8 w3 (pl) (ph))) := b3.out.alloc b3.out.size _
  have z4 := b3.out.size
  clear s3 b3
  go_wp2_with fail
  refine (high_fun pl ph _).mono ?_
  rintro e w5 ⟨rfl, hb5⟩
  have s5 : Hid (Kn w5 [(w3.heap.size, (c8 (pl) (ph))), (kr, (c16 m iv on tw)), (w.heap.size + 1 + 1 + 1, (c4 (j))), (w.heap.size + 1 + 1, (c4 (i))), (w.heap.size + 1, (c4 (a))), (w.heap.size, (c4 (m)))]) := s4.out.up hb5
  have b5 : Hid (Below w.heap.size w w5) := b4.out.trans (hb5.mono b4.out.size)
  have z5 := b5.out.size
  clear hb5 s4 b4
  go_wp2_with fail
  go_ret
  exact ⟨rfl, b5.out⟩
set_option maxHeartbeats 1000000 in
theorem ringPowers_good (m iv on tw a i j pl ai q : Nm)
    (SN : ∀ w, Calls Try.prog 7 #[N m] w fun e w' => (∃ k, w.heap.size ≤ k ∧ e = .returned (.tuple #[rp k, .int .i64 0]) ∧ Blk w' k (c16 m iv on tw)) ∧ Below w.heap.size w w')
    (SM : ∀ w, Calls Try.prog 14 #[N i, N j] w fun e w' => e = .returned (Wv pl ⟨0, 0, 0, 0⟩) ∧ Below w.heap.size w w')
    (P1 : ∀ k w, RingAt w k m iv on tw → Calls Try.prog 17 #[rp k, N a, N i] w fun e w' => e = .returned (N ai) ∧ Below w.heap.size w w')
    (P2 : ∀ k w, RingAt w k m iv on tw → Calls Try.prog 17 #[rp k, N ai, N j] w fun e w' => e = .returned (N q) ∧ Below w.heap.size w w')
    (P3 : ∀ k w, RingAt w k m iv on tw → Calls Try.prog 17 #[rp k, N a, N pl] w fun e w' => e = .returned (N q) ∧ Below w.heap.size w w')
    (w : World) :
    Calls Try.prog 5 #[N m, N a, N i, N j] w fun e w' => e = .returned (.bool true) ∧ Below w.heap.size w w' := by
  have e1 := neN ⟨0, 0, 0, 0⟩ ⟨0, 0, 0, 0⟩
  rw [Nm.beq_self] at e1
  have e2 := eqN q q
  rw [Nm.beq_self] at e2
  go_enter Try.func5, Try.ntmps5
  have s0 : Hid (Kn (kal4 (kal4 (kal4 (kal4 w (m)) (a)) (i)) (j)) [(w.heap.size + 1 + 1 + 1, (c4 (j))), (w.heap.size + 1 + 1, (c4 (i))), (w.heap.size + 1, (c4 (a))), (w.heap.size, (c4 (m)))]) := (((((Kn.nil w).al (c4 (m)) 24 rfl).al (c4 (a)) 24 (by simp)).al (c4 (i)) 24 (by simp)).al (c4 (j)) 24 (by simp))
  have b0 : Hid (Below w.heap.size w (kal4 (kal4 (kal4 (kal4 w (m)) (a)) (i)) (j))) := (((((Below.refl _ _).alloc (Nat.le_refl _) _).alloc (by simp <;> omega) _).alloc (by simp <;> omega) _).alloc (by simp <;> omega) _)
  go_wp2_with fail
  refine (rings_fun _).mono ?_
  rintro e w1 ⟨rfl, hb1⟩
  have s1 : Hid (Kn w1 [(w.heap.size + 1 + 1 + 1, (c4 (j))), (w.heap.size + 1 + 1, (c4 (i))), (w.heap.size + 1, (c4 (a))), (w.heap.size, (c4 (m)))]) := s0.out.up hb1
  have b1 : Hid (Below w.heap.size w w1) := b0.out.trans (hb1.mono b0.out.size)
  have z1 := b1.out.size
  clear hb1 s0 b0
  have um_0 : w1.cell? ⟨w.heap.size, 0, none⟩ = some (.int .u64 (m).a) := Kn.get s1.out 3 0 rfl rfl
  have um_1 : w1.cell? ⟨w.heap.size, 1, none⟩ = some (.int .u64 (m).b) := Kn.get s1.out 3 1 rfl rfl
  have um_2 : w1.cell? ⟨w.heap.size, 2, none⟩ = some (.int .u64 (m).c) := Kn.get s1.out 3 2 rfl rfl
  have um_3 : w1.cell? ⟨w.heap.size, 3, none⟩ = some (.int .u64 (m).d) := Kn.get s1.out 3 3 rfl rfl
  go_wp2_with fail
  clear um_0 um_1 um_2 um_3
  refine (SN _).mono ?_
  rintro e w2 ⟨⟨kr, hkr, rfl, hBr⟩, hb2⟩
  have s2 : Hid (Kn w2 [(kr, (c16 m iv on tw)), (w.heap.size + 1 + 1 + 1, (c4 (j))), (w.heap.size + 1 + 1, (c4 (i))), (w.heap.size + 1, (c4 (a))), (w.heap.size, (c4 (m)))]) := s1.out.fresh_of hb2 hkr hBr
  have b2 : Hid (Below w.heap.size w w2) := b1.out.trans (hb2.mono b1.out.size)
  have z2 := b2.out.size
  clear hb2 s1 b1 hBr hkr
  have ui_0 : w2.cell? ⟨w.heap.size + 1 + 1, 0, none⟩ = some (.int .u64 (i).a) := Kn.get s2.out 2 0 rfl rfl
  have ui_1 : w2.cell? ⟨w.heap.size + 1 + 1, 1, none⟩ = some (.int .u64 (i).b) := Kn.get s2.out 2 1 rfl rfl
  have ui_2 : w2.cell? ⟨w.heap.size + 1 + 1, 2, none⟩ = some (.int .u64 (i).c) := Kn.get s2.out 2 2 rfl rfl
  have ui_3 : w2.cell? ⟨w.heap.size + 1 + 1, 3, none⟩ = some (.int .u64 (i).d) := Kn.get s2.out 2 3 rfl rfl
  have uj_0 : w2.cell? ⟨w.heap.size + 1 + 1 + 1, 0, none⟩ = some (.int .u64 (j).a) := Kn.get s2.out 1 0 rfl rfl
  have uj_1 : w2.cell? ⟨w.heap.size + 1 + 1 + 1, 1, none⟩ = some (.int .u64 (j).b) := Kn.get s2.out 1 1 rfl rfl
  have uj_2 : w2.cell? ⟨w.heap.size + 1 + 1 + 1, 2, none⟩ = some (.int .u64 (j).c) := Kn.get s2.out 1 2 rfl rfl
  have uj_3 : w2.cell? ⟨w.heap.size + 1 + 1 + 1, 3, none⟩ = some (.int .u64 (j).d) := Kn.get s2.out 1 3 rfl rfl
  go_wp2_with fail
  clear ui_0 ui_1 ui_2 ui_3 uj_0 uj_1 uj_2 uj_3
  refine (SM _).mono ?_
  rintro e w3 ⟨rfl, hb3⟩
  have s3 : Hid (Kn w3 [(kr, (c16 m iv on tw)), (w.heap.size + 1 + 1 + 1, (c4 (j))), (w.heap.size + 1 + 1, (c4 (i))), (w.heap.size + 1, (c4 (a))), (w.heap.size, (c4 (m)))]) := s2.out.up hb3
  have b3 : Hid (Below w.heap.size w w3) := b2.out.trans (hb3.mono b2.out.size)
  have z3 := b3.out.size
  clear hb3 s2 b2
  have s4 : Hid (Kn (kal8 w3 (pl) ((⟨0, 0, 0, 0⟩ : Nm))) [(w3.heap.size, (c8 (pl) ((⟨0, 0, 0, 0⟩ : Nm)))), (kr, (c16 m iv on tw)), (w.heap.size + 1 + 1 + 1, (c4 (j))), (w.heap.size + 1 + 1, (c4 (i))), (w.heap.size + 1, (c4 (a))), (w.heap.size, (c4 (m)))]) := s3.out.al (c8 (pl) ((⟨0, 0, 0, 0⟩ : Nm))) 26 rfl
  have b4 : Hid (Below w.heap.size w (kal8 w3 (pl) ((⟨0, 0, 0, 0⟩ : Nm)))) := b3.out.alloc b3.out.size _
  have z4 := b3.out.size
  clear s3 b3
  go_wp2_with fail
  refine (high_fun pl ⟨0, 0, 0, 0⟩ _).mono ?_
  rintro e w5 ⟨rfl, hb5⟩
  have s5 : Hid (Kn w5 [(w3.heap.size, (c8 (pl) ((⟨0, 0, 0, 0⟩ : Nm)))), (kr, (c16 m iv on tw)), (w.heap.size + 1 + 1 + 1, (c4 (j))), (w.heap.size + 1 + 1, (c4 (i))), (w.heap.size + 1, (c4 (a))), (w.heap.size, (c4 (m)))]) := s4.out.up hb5
  have b5 : Hid (Below w.heap.size w w5) := b4.out.trans (hb5.mono b4.out.size)
  have z5 := b5.out.size
  clear hb5 s4 b4
  go_wp2_with fail
  refine wp_region_up (by kernel_rfl) (by kernel_rfl) (fun U hU f hf hcl => ?_)
  have up_0 := fun nx => (Kn.get (s5.out.up (hf nx).out) 0 0 rfl rfl : (f nx).cell? ⟨w3.heap.size, 0, none⟩ = some (.int .u64 (pl).a))
  have up_1 := fun nx => (Kn.get (s5.out.up (hf nx).out) 0 1 rfl rfl : (f nx).cell? ⟨w3.heap.size, 1, none⟩ = some (.int .u64 (pl).b))
  have up_2 := fun nx => (Kn.get (s5.out.up (hf nx).out) 0 2 rfl rfl : (f nx).cell? ⟨w3.heap.size, 2, none⟩ = some (.int .u64 (pl).c))
  have up_3 := fun nx => (Kn.get (s5.out.up (hf nx).out) 0 3 rfl rfl : (f nx).cell? ⟨w3.heap.size, 3, none⟩ = some (.int .u64 (pl).d))
  have up_4 := fun nx => (Kn.get (s5.out.up (hf nx).out) 0 4 rfl rfl : (f nx).cell? ⟨w3.heap.size, 4, none⟩ = some (.int .u64 ((⟨0, 0, 0, 0⟩ : Nm)).a))
  have up_5 := fun nx => (Kn.get (s5.out.up (hf nx).out) 0 5 rfl rfl : (f nx).cell? ⟨w3.heap.size, 5, none⟩ = some (.int .u64 ((⟨0, 0, 0, 0⟩ : Nm)).b))
  have up_6 := fun nx => (Kn.get (s5.out.up (hf nx).out) 0 6 rfl rfl : (f nx).cell? ⟨w3.heap.size, 6, none⟩ = some (.int .u64 ((⟨0, 0, 0, 0⟩ : Nm)).c))
  have up_7 := fun nx => (Kn.get (s5.out.up (hf nx).out) 0 7 rfl rfl : (f nx).cell? ⟨w3.heap.size, 7, none⟩ = some (.int .u64 ((⟨0, 0, 0, 0⟩ : Nm)).d))
  have ua_0 := fun nx => (Kn.get (s5.out.up (hf nx).out) 4 0 rfl rfl : (f nx).cell? ⟨w.heap.size + 1, 0, none⟩ = some (.int .u64 (a).a))
  have ua_1 := fun nx => (Kn.get (s5.out.up (hf nx).out) 4 1 rfl rfl : (f nx).cell? ⟨w.heap.size + 1, 1, none⟩ = some (.int .u64 (a).b))
  have ua_2 := fun nx => (Kn.get (s5.out.up (hf nx).out) 4 2 rfl rfl : (f nx).cell? ⟨w.heap.size + 1, 2, none⟩ = some (.int .u64 (a).c))
  have ua_3 := fun nx => (Kn.get (s5.out.up (hf nx).out) 4 3 rfl rfl : (f nx).cell? ⟨w.heap.size + 1, 3, none⟩ = some (.int .u64 (a).d))
  have ui_0 := fun nx => (Kn.get (s5.out.up (hf nx).out) 3 0 rfl rfl : (f nx).cell? ⟨w.heap.size + 1 + 1, 0, none⟩ = some (.int .u64 (i).a))
  have ui_1 := fun nx => (Kn.get (s5.out.up (hf nx).out) 3 1 rfl rfl : (f nx).cell? ⟨w.heap.size + 1 + 1, 1, none⟩ = some (.int .u64 (i).b))
  have ui_2 := fun nx => (Kn.get (s5.out.up (hf nx).out) 3 2 rfl rfl : (f nx).cell? ⟨w.heap.size + 1 + 1, 2, none⟩ = some (.int .u64 (i).c))
  have ui_3 := fun nx => (Kn.get (s5.out.up (hf nx).out) 3 3 rfl rfl : (f nx).cell? ⟨w.heap.size + 1 + 1, 3, none⟩ = some (.int .u64 (i).d))
  have uj_0 := fun nx => (Kn.get (s5.out.up (hf nx).out) 2 0 rfl rfl : (f nx).cell? ⟨w.heap.size + 1 + 1 + 1, 0, none⟩ = some (.int .u64 (j).a))
  have uj_1 := fun nx => (Kn.get (s5.out.up (hf nx).out) 2 1 rfl rfl : (f nx).cell? ⟨w.heap.size + 1 + 1 + 1, 1, none⟩ = some (.int .u64 (j).b))
  have uj_2 := fun nx => (Kn.get (s5.out.up (hf nx).out) 2 2 rfl rfl : (f nx).cell? ⟨w.heap.size + 1 + 1 + 1, 2, none⟩ = some (.int .u64 (j).c))
  have uj_3 := fun nx => (Kn.get (s5.out.up (hf nx).out) 2 3 rfl rfl : (f nx).cell? ⟨w.heap.size + 1 + 1 + 1, 3, none⟩ = some (.int .u64 (j).d))
  have RR := fun nx => (RingAt.ofKn (s5.out.up (hf nx).out) 1 rfl : RingAt (f nx) kr m iv on tw)
  skip
  repeat (go_big_quiet_step (first | (go_at_call_of 17 (N ai); exact (P2 _ _ (RR _)).mono fun e w'' ⟨he, hb⟩ => ⟨he, hcl.out _ _ hb⟩) | (go_at_call_of 17 i.a; exact (P1 _ _ (RR _)).mono fun e w'' ⟨he, hb⟩ => ⟨he, hcl.out _ _ hb⟩) | (go_at_call 20; exact (low_fun pl ⟨0, 0, 0, 0⟩ _).mono fun e w'' ⟨he, hb⟩ => ⟨he, hcl.out _ _ hb⟩) | (go_at_call_of 17 (N pl); exact (P3 _ _ (RR _)).mono fun e w'' ⟨he, hb⟩ => ⟨he, hcl.out _ _ hb⟩)))
  refine wpQuiet_nil ?_
  intro nx
  have hb6 := (hf nx).out
  clear hf hcl up_0 up_1 up_2 up_3 up_4 up_5 up_6 up_7 ua_0 ua_1 ua_2 ua_3 ui_0 ui_1 ui_2 ui_3 uj_0 uj_1 uj_2 uj_3 RR
  generalize f nx = w6 at hb6 ⊢
  have s6 : Hid (Kn w6 [(w3.heap.size, (c8 (pl) ((⟨0, 0, 0, 0⟩ : Nm)))), (kr, (c16 m iv on tw)), (w.heap.size + 1 + 1 + 1, (c4 (j))), (w.heap.size + 1 + 1, (c4 (i))), (w.heap.size + 1, (c4 (a))), (w.heap.size, (c4 (m)))]) := s5.out.up hb6
  have b6 : Hid (Below w.heap.size w w6) := b5.out.trans (hb6.mono b5.out.size)
  have z6 := b6.out.size
  clear hb6 s5 b5
  go_wp2_with fail
  go_ret
  exact ⟨rfl, b6.out⟩
theorem ringPowers_law (m a i j : Nm) (om : m.ok) (oa : a.ok) (oi : i.ok) (oj : j.ok) (w : World) :
    Calls Try.prog 5 #[N m, N a, N i, N j] w fun e w' => e = .returned (.bool true) ∧ Below w.heap.size w w' := by
  have SM := mul_V i j oi oj
  rcases odd_cases m om with hb | ⟨odd, big⟩
  · exact ringPowers_bad m a i j _ _ (new_bad m om hb) SM w
  have R := new_ok m om odd big
  have hm : 0 < m.nat := by omega
  have ia : ∀ x, (nm (x % m.nat)).nat = x % m.nat := fun x => nm_nat (mod_ok om hm _)
  by_cases hz : WH (i.nat * j.nat) = ⟨0, 0, 0, 0⟩
  · rw [hz] at SM
    have small : i.nat * j.nat < 2 ^ 256 := by
      have h1 := V_of (mul_lt512 oi oj)
      rw [hz, V_wide] at h1
      rw [← h1]
      exact Nm.nat_lt (WL_ok _)
    have el : (WL (i.nat * j.nat)).nat = i.nat * j.nat := by rw [WL_nm, Nat.mod_eq_of_lt small, nm_nat small]
    have P2 := fun k w hR => ringPow_fun (k := k) R (nm (a.nat ^ i.nat % m.nat)) j (nm_ok _) oj w hR
    rw [ia, ← Nat.pow_mod, ← Nat.pow_mul] at P2
    have P3 := fun k w hR => ringPow_fun (k := k) R a (WL (i.nat * j.nat)) oa (WL_ok _) w hR
    rw [el] at P3
    exact ringPowers_good m (xk m 7) _ _ a i j _ _ _ (new_good m om odd big) SM (fun k w hR => ringPow_fun R a i oa oi w hR) P2 P3 w
  · exact ringPowers_out m (xk m 7) _ _ a i j _ _ hz (new_good m om odd big) SM w

set_option maxRecDepth 100000 in
theorem ringPowers_lifted (os : Os) (started : os.Started) (H : Type) (enc : TypeId × Value → H) :
    ReturnsInHanded {} Try.checked os 5 .any (Rows.ringPowersSpec.pre6 enc Try.prog Try.f5 Rows.ringPowersRow.domain false) (Rows.ringPowersSpec.post enc Try.prog Try.f5 false true false false) := by
  refine returnsInHanded_of_change (C := Try.checked) Try.own started (by kernel_rfl) Try.func5
    (ChangeSpec.witness6 (enc := enc) (C := Try.checked) false ⟨#[], #[.agg #[.int .u64 0, .int .u64 0, .int .u64 0, .int .u64 0], .agg #[.int .u64 0, .int .u64 0, .int .u64 0, .int .u64 0], .agg #[.int .u64 0, .int .u64 0, .int .u64 0, .int .u64 0], .agg #[.int .u64 0, .int .u64 0, .int .u64 0, .int .u64 0]], []⟩ 8 (by kernel_rfl) (by kernel_rfl) (by kernel_rfl) (by kernel_rfl)) ?_
  intro W base args ds gs before hval0 hW hcnd _
  have hval : ∀ (j : Nat) t v, Try.f5.params[j]? = some t → args[j]? = some v → Value.okWide Try.prog W .any base t v := hval0
  have hW' := hW
  obtain ⟨p, q, hA0, hV, rfl, hfz, hnd⟩ := hW
  have hA : DataW.TrodAll enc Try.prog W 0 (fun _ => true) true Try.f5.params.toList args.toList ds p := hA0
  rw [Try.params5] at hA hval
  obtain ⟨v0, v1, v2, v3, d0, d1, d2, d3, p0, p1, p2, p3, rfl, rfl, rfl, h0, h1, h2, h3⟩ := trodAll_four hA
  obtain ⟨rfl, rfl⟩ := trodVars_none hV
  obtain ⟨xs0, l0, rfl, rfl, rfl, w0⟩ := open_arr Try.underlying24 Try.underlying22 Try.cellsU64 Try.cellsNum (hval 0 24 v0 rfl rfl) h0
  obtain ⟨xs1, l1, rfl, rfl, rfl, w1⟩ := open_arr Try.underlying24 Try.underlying22 Try.cellsU64 Try.cellsNum (hval 1 24 v1 rfl rfl) h1
  obtain ⟨xs2, l2, rfl, rfl, rfl, w2⟩ := open_arr Try.underlying24 Try.underlying22 Try.cellsU64 Try.cellsNum (hval 2 24 v2 rfl rfl) h2
  obtain ⟨xs3, l3, rfl, rfl, rfl, w3⟩ := open_arr Try.underlying24 Try.underlying22 Try.cellsU64 Try.cellsNum (hval 3 24 v3 rfl rfl) h3
  clear hA0 hval0 hval hA h0 h1 h2 h3
  obtain ⟨a0, b0, c0, d0, rfl⟩ := list4 xs0 l0
  have ok0 : (⟨a0, b0, c0, d0⟩ : Nm).ok := ⟨word_of_wf (w0 _ (by simp)), word_of_wf (w0 _ (by simp)), word_of_wf (w0 _ (by simp)), word_of_wf (w0 _ (by simp))⟩
  obtain ⟨a1, b1, c1, d1, rfl⟩ := list4 xs1 l1
  have ok1 : (⟨a1, b1, c1, d1⟩ : Nm).ok := ⟨word_of_wf (w1 _ (by simp)), word_of_wf (w1 _ (by simp)), word_of_wf (w1 _ (by simp)), word_of_wf (w1 _ (by simp))⟩
  obtain ⟨a2, b2, c2, d2, rfl⟩ := list4 xs2 l2
  have ok2 : (⟨a2, b2, c2, d2⟩ : Nm).ok := ⟨word_of_wf (w2 _ (by simp)), word_of_wf (w2 _ (by simp)), word_of_wf (w2 _ (by simp)), word_of_wf (w2 _ (by simp))⟩
  obtain ⟨a3, b3, c3, d3, rfl⟩ := list4 xs3 l3
  have ok3 : (⟨a3, b3, c3, d3⟩ : Nm).ok := ⟨word_of_wf (w3 _ (by simp)), word_of_wf (w3 _ (by simp)), word_of_wf (w3 _ (by simp)), word_of_wf (w3 _ (by simp))⟩
  simp only [List.append_nil] at hW'
  refine (ringPowers_law ⟨a0, b0, c0, d0⟩ ⟨a1, b1, c1, d1⟩ ⟨a2, b2, c2, d2⟩ ⟨a3, b3, c3, d3⟩ ok0 ok1 ok2 ok3 W).mono fun e W' ⟨he, hg⟩ => ?_
  subst he
  exact ⟨_, rfl, _, _, _, [], [], [], hW', trodAll_mk1 (shut_bool Try.underlying4 _), trodAll_mk4 (shut_arr Try.underlying24 Try.underlying22 Try.cellsU64 Try.cellsNum l0 w0) (shut_arr Try.underlying24 Try.underlying22 Try.cellsU64 Try.cellsNum l1 w1) (shut_arr Try.underlying24 Try.underlying22 Try.cellsU64 Try.cellsNum l2 w2) (shut_arr Try.underlying24 Try.underlying22 Try.cellsU64 Try.cellsNum l3 w3), rfl, hg.frame _, fun h => by cases h⟩

theorem ringPowers_holds : Rows.RingPowersSaid :=
  OpenClaim.holds_of_wide 5 Try.f5 rfl rfl rfl rfl rfl rfl rfl ⟨rfl, rfl, rfl, rfl, rfl⟩ rfl rfl rfl rfl rfl (by kernel_rfl) Try.func5 (by kernel_rfl)
    (of_decide_eq_true (by kernel_rfl)) (by unfold Func.isWrapper; first | (rw [if_pos (by decide +kernel)]; kernel_rfl) | (rw [if_neg (by decide +kernel)]; exact ⟨rfl, rfl⟩))
    (fun os started H enc _ => ringPowers_lifted os started H enc)
#print axioms ringPowers_holds
end Go.Proofs.Ytgdekdmdidahdab
