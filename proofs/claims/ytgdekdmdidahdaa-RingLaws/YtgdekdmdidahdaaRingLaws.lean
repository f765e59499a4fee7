/- RingLaws returns true for every m, a, b and c. No condition. -/
import Derived.Test.YtgdekdmdidahdaaRingN
import Derived.Test.YtgdekdmdidahdaaRingS
import Derived.Test.YtgdekdmdidahdaaUpB
import Derived.Test.YtgdekdmdidahdaaAl
import Derived.Test.YtgdekdmdidahdaaArr
import Derived.Test.YtgdekdmdidahdaaOwn
namespace Go.Proofs.Ytgdekdmdidahdaa
open Go.RowKit
open Go.ChangeShapes Go.WideShapes Go.ChangeAt
attribute [local go_sem] World.cell?_alloc_some cell_alloc2 cell_alloc3 cell_alloc4 frozen?_alloc_cells frozen_out YieldsP execOp
set_option linter.unusedSimpArgs false
set_option maxHeartbeats 2000000 in
theorem ringLaws_bad (m a b c : Nm) (om : m.ok) (hm : m.a % 2 = 0 ∨ m = ⟨1, 0, 0, 0⟩)
    (SN : ∀ w, Calls Try.prog 34 #[N m] w fun e w' => e = .returned (.tuple #[.pointer none, .int .i64 1]) ∧ Below w.heap.size w w')
    (w : World) :
    Calls Try.prog 7 #[N m, N a, N b, N c] w fun e w' => e = .returned (.bool true) ∧ Below w.heap.size w w' := by
  have m0 := om.a.1
  have m1 := om.a.2
  rcases hm with hm | hm
  · have q : m.a.tmod 2 = 0 := by rw [Int.tmod_eq_emod_of_nonneg m0]; exact hm
    go_enter Try.func7, Try.ntmps7
    have s0 : Hid (Kn (kal4 (kal4 (kal4 (kal4 w (m)) (a)) (b)) (c)) [(w.heap.size + 1 + 1 + 1, (c4 (c))), (w.heap.size + 1 + 1, (c4 (b))), (w.heap.size + 1, (c4 (a))), (w.heap.size, (c4 (m)))]) := (((((Kn.nil w).al (c4 (m)) 24 rfl).al (c4 (a)) 24 (by simp)).al (c4 (b)) 24 (by simp)).al (c4 (c)) 24 (by simp))
    have b0 : Hid (Below w.heap.size w (kal4 (kal4 (kal4 (kal4 w (m)) (a)) (b)) (c))) := (((((Below.refl _ _).alloc (Nat.le_refl _) _).alloc (by simp <;> omega) _).alloc (by simp <;> omega) _).alloc (by simp <;> omega) _)
    go_wp2_with fail
    refine (SN _).mono ?_
    rintro e w1 ⟨rfl, hb1⟩
    have s1 : Hid (Kn w1 [(w.heap.size + 1 + 1 + 1, (c4 (c))), (w.heap.size + 1 + 1, (c4 (b))), (w.heap.size + 1, (c4 (a))), (w.heap.size, (c4 (m)))]) := s0.out.up hb1
    have b1 : Hid (Below w.heap.size w w1) := b0.out.trans (hb1.mono b0.out.size)
    have z1 := b1.out.size
    clear hb1 s0 b0
    have um_0 : w1.cell? ⟨w.heap.size, 0, none⟩ = some (.int .u64 (m).a) := Kn.get s1.out 3 0 rfl rfl
    have um_1 : w1.cell? ⟨w.heap.size, 1, none⟩ = some (.int .u64 (m).b) := Kn.get s1.out 3 1 rfl rfl
    have um_2 : w1.cell? ⟨w.heap.size, 2, none⟩ = some (.int .u64 (m).c) := Kn.get s1.out 3 2 rfl rfl
    have um_3 : w1.cell? ⟨w.heap.size, 3, none⟩ = some (.int .u64 (m).d) := Kn.get s1.out 3 3 rfl rfl
    go_wp2_with fail
    clear um_0 um_1 um_2 um_3
    go_ret
    exact ⟨rfl, b1.out⟩
  · subst hm
    have e1 := eqN ⟨1, 0, 0, 0⟩ ⟨1, 0, 0, 0⟩
    rw [Nm.beq_self] at e1
    go_enter Try.func7, Try.ntmps7
    have s0 : Hid (Kn (kal4 (kal4 (kal4 (kal4 w ((⟨1, 0, 0, 0⟩ : Nm))) (a)) (b)) (c)) [(w.heap.size + 1 + 1 + 1, (c4 (c))), (w.heap.size + 1 + 1, (c4 (b))), (w.heap.size + 1, (c4 (a))), (w.heap.size, (c4 ((⟨1, 0, 0, 0⟩ : Nm))))]) := (((((Kn.nil w).al (c4 ((⟨1, 0, 0, 0⟩ : Nm))) 24 rfl).al (c4 (a)) 24 (by simp)).al (c4 (b)) 24 (by simp)).al (c4 (c)) 24 (by simp))
    have b0 : Hid (Below w.heap.size w (kal4 (kal4 (kal4 (kal4 w ((⟨1, 0, 0, 0⟩ : Nm))) (a)) (b)) (c))) := (((((Below.refl _ _).alloc (Nat.le_refl _) _).alloc (by simp <;> omega) _).alloc (by simp <;> omega) _).alloc (by simp <;> omega) _)
    go_wp2_with fail
    refine (SN _).mono ?_
    rintro e w1 ⟨rfl, hb1⟩
    have s1 : Hid (Kn w1 [(w.heap.size + 1 + 1 + 1, (c4 (c))), (w.heap.size + 1 + 1, (c4 (b))), (w.heap.size + 1, (c4 (a))), (w.heap.size, (c4 ((⟨1, 0, 0, 0⟩ : Nm))))]) := s0.out.up hb1
    have b1 : Hid (Below w.heap.size w w1) := b0.out.trans (hb1.mono b0.out.size)
    have z1 := b1.out.size
    clear hb1 s0 b0
    have um_0 : w1.cell? ⟨w.heap.size, 0, none⟩ = some (.int .u64 ((⟨1, 0, 0, 0⟩ : Nm)).a) := Kn.get s1.out 3 0 rfl rfl
    have um_1 : w1.cell? ⟨w.heap.size, 1, none⟩ = some (.int .u64 ((⟨1, 0, 0, 0⟩ : Nm)).b) := Kn.get s1.out 3 1 rfl rfl
    have um_2 : w1.cell? ⟨w.heap.size, 2, none⟩ = some (.int .u64 ((⟨1, 0, 0, 0⟩ : Nm)).c) := Kn.get s1.out 3 2 rfl rfl
    have um_3 : w1.cell? ⟨w.heap.size, 3, none⟩ = some (.int .u64 ((⟨1, 0, 0, 0⟩ : Nm)).d) := Kn.get s1.out 3 3 rfl rfl
    go_wp2_with fail
    clear um_0 um_1 um_2 um_3
    go_ret
    exact ⟨rfl, b1.out⟩
set_option maxRecDepth 20000 in
set_option maxHeartbeats 8000000 in
theorem ringLaws_good (m iv on tw a b c lo s sc bc p pc qc d ac dab na nb : Nm) (lt : Int) (hlt : lt < 0)
    (SN : ∀ w, Calls Try.prog 34 #[N m] w fun e w' => (∃ k, w.heap.size ≤ k ∧ e = .returned (.tuple #[rp k, .int .i64 0]) ∧ Blk w' k (c16 m iv on tw)) ∧ Below w.heap.size w w')
    (A0 : ∀ k w, RingAt w k m iv on tw → Calls Try.prog 37 #[rp k, N a, N ⟨0, 0, 0, 0⟩] w fun e w' => e = .returned (N lo) ∧ Below w.heap.size w w')
    (MO : ∀ k w, RingAt w k m iv on tw → Calls Try.prog 36 #[rp k] w fun e w' => e = .returned (N m) ∧ Below w.heap.size w w')
    (T1 : ∀ k w, RingAt w k m iv on tw → Calls Try.prog 39 #[rp k, N a, N b] w fun e w' => e = .returned (N p) ∧ Below w.heap.size w w')
    (CM : ∀ w, Calls Try.prog 19 #[N p, N m] w fun e w' => e = .returned (.int .i64 lt) ∧ Below w.heap.size w w')
    (A1 : ∀ k w, RingAt w k m iv on tw → Calls Try.prog 37 #[rp k, N a, N b] w fun e w' => e = .returned (N s) ∧ Below w.heap.size w w')
    (A2 : ∀ k w, RingAt w k m iv on tw → Calls Try.prog 37 #[rp k, N b, N a] w fun e w' => e = .returned (N s) ∧ Below w.heap.size w w')
    (A3 : ∀ k w, RingAt w k m iv on tw → Calls Try.prog 37 #[rp k, N s, N c] w fun e w' => e = .returned (N sc) ∧ Below w.heap.size w w')
    (A4 : ∀ k w, RingAt w k m iv on tw → Calls Try.prog 37 #[rp k, N b, N c] w fun e w' => e = .returned (N bc) ∧ Below w.heap.size w w')
    (A5 : ∀ k w, RingAt w k m iv on tw → Calls Try.prog 37 #[rp k, N a, N bc] w fun e w' => e = .returned (N sc) ∧ Below w.heap.size w w')
    (T2 : ∀ k w, RingAt w k m iv on tw → Calls Try.prog 39 #[rp k, N b, N a] w fun e w' => e = .returned (N p) ∧ Below w.heap.size w w')
    (T3 : ∀ k w, RingAt w k m iv on tw → Calls Try.prog 39 #[rp k, N p, N c] w fun e w' => e = .returned (N pc) ∧ Below w.heap.size w w')
    (T4 : ∀ k w, RingAt w k m iv on tw → Calls Try.prog 39 #[rp k, N b, N c] w fun e w' => e = .returned (N qc) ∧ Below w.heap.size w w')
    (T5 : ∀ k w, RingAt w k m iv on tw → Calls Try.prog 39 #[rp k, N a, N qc] w fun e w' => e = .returned (N pc) ∧ Below w.heap.size w w')
    (T6 : ∀ k w, RingAt w k m iv on tw → Calls Try.prog 39 #[rp k, N a, N bc] w fun e w' => e = .returned (N d) ∧ Below w.heap.size w w')
    (T7 : ∀ k w, RingAt w k m iv on tw → Calls Try.prog 39 #[rp k, N a, N c] w fun e w' => e = .returned (N ac) ∧ Below w.heap.size w w')
    (A6 : ∀ k w, RingAt w k m iv on tw → Calls Try.prog 37 #[rp k, N p, N ac] w fun e w' => e = .returned (N d) ∧ Below w.heap.size w w')
    (T8 : ∀ k w, RingAt w k m iv on tw → Calls Try.prog 39 #[rp k, N a, N ⟨1, 0, 0, 0⟩] w fun e w' => e = .returned (N lo) ∧ Below w.heap.size w w')
    (S1 : ∀ k w, RingAt w k m iv on tw → Calls Try.prog 38 #[rp k, N a, N b] w fun e w' => e = .returned (N dab) ∧ Below w.heap.size w w')
    (A7 : ∀ k w, RingAt w k m iv on tw → Calls Try.prog 37 #[rp k, N dab, N b] w fun e w' => e = .returned (N lo) ∧ Below w.heap.size w w')
    (S2 : ∀ k w, RingAt w k m iv on tw → Calls Try.prog 38 #[rp k, N ⟨0, 0, 0, 0⟩, N a] w fun e w' => e = .returned (N na) ∧ Below w.heap.size w w')
    (S3 : ∀ k w, RingAt w k m iv on tw → Calls Try.prog 38 #[rp k, N ⟨0, 0, 0, 0⟩, N b] w fun e w' => e = .returned (N nb) ∧ Below w.heap.size w w')
    (T9 : ∀ k w, RingAt w k m iv on tw → Calls Try.prog 39 #[rp k, N na, N nb] w fun e w' => e = .returned (N p) ∧ Below w.heap.size w w')
    (w : World) :
    Calls Try.prog 7 #[N m, N a, N b, N c] w fun e w' => e = .returned (.bool true) ∧ Below w.heap.size w w' := by
  have e1 := eqN m m
  have e2 := eqN s s
  have e3 := eqN sc sc
  have e4 := eqN p p
  have e5 := eqN pc pc
  have e6 := eqN d d
  have e7 := eqN lo lo
  rw [Nm.beq_self] at e1 e2 e3 e4 e5 e6 e7
  go_enter Try.func7, Try.ntmps7
  have s0 : Hid (Kn (kal4 (kal4 (kal4 (kal4 w (m)) (a)) (b)) (c)) [(w.heap.size + 1 + 1 + 1, (c4 (c))), (w.heap.size + 1 + 1, (c4 (b))), (w.heap.size + 1, (c4 (a))), (w.heap.size, (c4 (m)))]) := (((((Kn.nil w).al (c4 (m)) 24 rfl).al (c4 (a)) 24 (by simp)).al (c4 (b)) 24 (by simp)).al (c4 (c)) 24 (by simp))
  have b0 : Hid (Below w.heap.size w (kal4 (kal4 (kal4 (kal4 w (m)) (a)) (b)) (c))) := (((((Below.refl _ _).alloc (Nat.le_refl _) _).alloc (by simp <;> omega) _).alloc (by simp <;> omega) _).alloc (by simp <;> omega) _)
  go_wp2_with fail
  refine (SN _).mono ?_
  rintro e w1 ⟨⟨kr, hkr, rfl, hBr⟩, hb1⟩
  have s1 : Hid (Kn w1 [(kr, (c16 m iv on tw)), (w.heap.size + 1 + 1 + 1, (c4 (c))), (w.heap.size + 1 + 1, (c4 (b))), (w.heap.size + 1, (c4 (a))), (w.heap.size, (c4 (m)))]) := s0.out.fresh_of hb1 hkr hBr
  have b1 : Hid (Below w.heap.size w w1) := b0.out.trans (hb1.mono b0.out.size)
  have z1 := b1.out.size
  clear hb1 s0 b0 hBr hkr
  have ua_0 : w1.cell? ⟨w.heap.size + 1, 0, none⟩ = some (.int .u64 (a).a) := Kn.get s1.out 3 0 rfl rfl
  have ua_1 : w1.cell? ⟨w.heap.size + 1, 1, none⟩ = some (.int .u64 (a).b) := Kn.get s1.out 3 1 rfl rfl
  have ua_2 : w1.cell? ⟨w.heap.size + 1, 2, none⟩ = some (.int .u64 (a).c) := Kn.get s1.out 3 2 rfl rfl
  have ua_3 : w1.cell? ⟨w.heap.size + 1, 3, none⟩ = some (.int .u64 (a).d) := Kn.get s1.out 3 3 rfl rfl
  go_wp2_with fail
  clear ua_0 ua_1 ua_2 ua_3
  have RK : RingAt w1 kr m iv on tw := RingAt.ofKn s1.out 0 rfl
  refine (A0 _ _ RK).mono ?_
  rintro e w2 ⟨rfl, hb2⟩
  clear RK
  have s2 : Hid (Kn w2 [(kr, (c16 m iv on tw)), (w.heap.size + 1 + 1 + 1, (c4 (c))), (w.heap.size + 1 + 1, (c4 (b))), (w.heap.size + 1, (c4 (a))), (w.heap.size, (c4 (m)))]) := s1.out.up hb2
  have b2 : Hid (Below w.heap.size w w2) := b1.out.trans (hb2.mono b1.out.size)
  have z2 := b2.out.size
  clear hb2 s1 b1
  have s3 : Hid (Kn (kal4 w2 (lo)) [(w2.heap.size, (c4 (lo))), (kr, (c16 m iv on tw)), (w.heap.size + 1 + 1 + 1, (c4 (c))), (w.heap.size + 1 + 1, (c4 (b))), (w.heap.size + 1, (c4 (a))), (w.heap.size, (c4 (m)))]) := s2.out.al (c4 (lo)) 24 rfl
  have b3 : Hid (Below w.heap.size w (kal4 w2 (lo))) := b2.out.alloc b2.out.size _
  have z3 := b2.out.size
  clear s2 b2
  go_wp2_with fail
  have o4 : ([some 36, some 37, some 38, some 39, some 40, some 41, some 42, some 43, some 44, some 45, some 46, some 47, some 48, some 49, some 50, some 51, some 52, some 53, some 54, some 55, some 56, some 57, some 58, some 59, some 60, some 61, some 62, some 63, some 64, some 65, some 66, some 67, some 68, some 69, some 70, some 71, some 72, some 73, some 74, some 75, some 76, some 77, some 78, some 79, some 80, some 81, some 82, some 83, some 84, some 85, some 86, some 87, some 88, some 89, some 90, some 91, some 92, some 93, some 94, some 95, some 96, some 97, some 98, some 99, some 100, some 101, some 102, some 103, some 104, some 105, some 106, some 107, some 108, some 109, some 110, some 111, some 112, some 113, some 114, some 115, some 116, some 117, some 118, some 119, some 120, some 121, some 122, some 123, some 124, some 125, some 126, some 127, some 128, some 129, some 130, some 131, some 132, some 133, some 134, some 135, some 136, some 137, some 138, some 139, some 140, some 141, some 142, some 143, some 144, some 145, some 146, some 147, some 148, some 149, some 150, some 151, some 152, some 153, some 154, some 155, some 156, some 157, some 158, some 159, some 160, some 8] : List (Option Tmp)).all (· != some 4) = true := by kernel_rfl
  have o5 : ([some 36, some 37, some 38, some 39, some 40, some 41, some 42, some 43, some 44, some 45, some 46, some 47, some 48, some 49, some 50, some 51, some 52, some 53, some 54, some 55, some 56, some 57, some 58, some 59, some 60, some 61, some 62, some 63, some 64, some 65, some 66, some 67, some 68, some 69, some 70, some 71, some 72, some 73, some 74, some 75, some 76, some 77, some 78, some 79, some 80, some 81, some 82, some 83, some 84, some 85, some 86, some 87, some 88, some 89, some 90, some 91, some 92, some 93, some 94, some 95, some 96, some 97, some 98, some 99, some 100, some 101, some 102, some 103, some 104, some 105, some 106, some 107, some 108, some 109, some 110, some 111, some 112, some 113, some 114, some 115, some 116, some 117, some 118, some 119, some 120, some 121, some 122, some 123, some 124, some 125, some 126, some 127, some 128, some 129, some 130, some 131, some 132, some 133, some 134, some 135, some 136, some 137, some 138, some 139, some 140, some 141, some 142, some 143, some 144, some 145, some 146, some 147, some 148, some 149, some 150, some 151, some 152, some 153, some 154, some 155, some 156, some 157, some 158, some 159, some 160, some 8] : List (Option Tmp)).all (· != some 5) = true := by kernel_rfl
  have o6 : ([some 36, some 37, some 38, some 39, some 40, some 41, some 42, some 43, some 44, some 45, some 46, some 47, some 48, some 49, some 50, some 51, some 52, some 53, some 54, some 55, some 56, some 57, some 58, some 59, some 60, some 61, some 62, some 63, some 64, some 65, some 66, some 67, some 68, some 69, some 70, some 71, some 72, some 73, some 74, some 75, some 76, some 77, some 78, some 79, some 80, some 81, some 82, some 83, some 84, some 85, some 86, some 87, some 88, some 89, some 90, some 91, some 92, some 93, some 94, some 95, some 96, some 97, some 98, some 99, some 100, some 101, some 102, some 103, some 104, some 105, some 106, some 107, some 108, some 109, some 110, some 111, some 112, some 113, some 114, some 115, some 116, some 117, some 118, some 119, some 120, some 121, some 122, some 123, some 124, some 125, some 126, some 127, some 128, some 129, some 130, some 131, some 132, some 133, some 134, some 135, some 136, some 137, some 138, some 139, some 140, some 141, some 142, some 143, some 144, some 145, some 146, some 147, some 148, some 149, some 150, some 151, some 152, some 153, some 154, some 155, some 156, some 157, some 158, some 159, some 160, some 8] : List (Option Tmp)).all (· != some 6) = true := by kernel_rfl
  have o7 : ([some 36, some 37, some 38, some 39, some 40, some 41, some 42, some 43, some 44, some 45, some 46, some 47, some 48, some 49, some 50, some 51, some 52, some 53, some 54, some 55, some 56, some 57, some 58, some 59, some 60, some 61, some 62, some 63, some 64, some 65, some 66, some 67, some 68, some 69, some 70, some 71, some 72, some 73, some 74, some 75, some 76, some 77, some 78, some 79, some 80, some 81, some 82, some 83, some 84, some 85, some 86, some 87, some 88, some 89, some 90, some 91, some 92, some 93, some 94, some 95, some 96, some 97, some 98, some 99, some 100, some 101, some 102, some 103, some 104, some 105, some 106, some 107, some 108, some 109, some 110, some 111, some 112, some 113, some 114, some 115, some 116, some 117, some 118, some 119, some 120, some 121, some 122, some 123, some 124, some 125, some 126, some 127, some 128, some 129, some 130, some 131, some 132, some 133, some 134, some 135, some 136, some 137, some 138, some 139, some 140, some 141, some 142, some 143, some 144, some 145, some 146, some 147, some 148, some 149, some 150, some 151, some 152, some 153, some 154, some 155, some 156, some 157, some 158, some 159, some 160, some 8] : List (Option Tmp)).all (· != some 7) = true := by kernel_rfl
  have o9 : ([some 36, some 37, some 38, some 39, some 40, some 41, some 42, some 43, some 44, some 45, some 46, some 47, some 48, some 49, some 50, some 51, some 52, some 53, some 54, some 55, some 56, some 57, some 58, some 59, some 60, some 61, some 62, some 63, some 64, some 65, some 66, some 67, some 68, some 69, some 70, some 71, some 72, some 73, some 74, some 75, some 76, some 77, some 78, some 79, some 80, some 81, some 82, some 83, some 84, some 85, some 86, some 87, some 88, some 89, some 90, some 91, some 92, some 93, some 94, some 95, some 96, some 97, some 98, some 99, some 100, some 101, some 102, some 103, some 104, some 105, some 106, some 107, some 108, some 109, some 110, some 111, some 112, some 113, some 114, some 115, some 116, some 117, some 118, some 119, some 120, some 121, some 122, some 123, some 124, some 125, some 126, some 127, some 128, some 129, some 130, some 131, some 132, some 133, some 134, some 135, some 136, some 137, some 138, some 139, some 140, some 141, some 142, some 143, some 144, some 145, some 146, some 147, some 148, some 149, some 150, some 151, some 152, some 153, some 154, some 155, some 156, some 157, some 158, some 159, some 160, some 8] : List (Option Tmp)).all (· != some 9) = true := by kernel_rfl
  have o11 : ([some 36, some 37, some 38, some 39, some 40, some 41, some 42, some 43, some 44, some 45, some 46, some 47, some 48, some 49, some 50, some 51, some 52, some 53, some 54, some 55, some 56, some 57, some 58, some 59, some 60, some 61, some 62, some 63, some 64, some 65, some 66, some 67, some 68, some 69, some 70, some 71, some 72, some 73, some 74, some 75, some 76, some 77, some 78, some 79, some 80, some 81, some 82, some 83, some 84, some 85, some 86, some 87, some 88, some 89, some 90, some 91, some 92, some 93, some 94, some 95, some 96, some 97, some 98, some 99, some 100, some 101, some 102, some 103, some 104, some 105, some 106, some 107, some 108, some 109, some 110, some 111, some 112, some 113, some 114, some 115, some 116, some 117, some 118, some 119, some 120, some 121, some 122, some 123, some 124, some 125, some 126, some 127, some 128, some 129, some 130, some 131, some 132, some 133, some 134, some 135, some 136, some 137, some 138, some 139, some 140, some 141, some 142, some 143, some 144, some 145, some 146, some 147, some 148, some 149, some 150, some 151, some 152, some 153, some 154, some 155, some 156, some 157, some 158, some 159, some 160, some 8] : List (Option Tmp)).all (· != some 11) = true := by kernel_rfl
  refine wp_region_big [MP.eq (rp kr), MP.eq (N m), MP.eq (N (m)), MP.eq (.bool true), MP.eq (.bool true), MP.eq (rp kr), MP.eq (N (a)), MP.eq (N (b)), MP.eq (N p), MP.eq (N (m)), MP.eq (.int .i64 lt), MP.eq (.bool true), MP.eq (.bool true), MP.eq (.bool true), MP.eq (rp kr), MP.eq (N (a)), MP.eq (N (b)), MP.eq (N s), MP.eq (rp kr), MP.eq (N (b)), MP.eq (N (a)), MP.eq (N s), MP.eq (.bool true), MP.eq (.bool true), MP.eq (.bool true), MP.eq (rp kr), MP.eq (rp kr), MP.eq (N (a)), MP.eq (N (b)), MP.eq (N s), MP.eq (N (c)), MP.eq (N sc), MP.eq (rp kr), MP.eq (N (a)), MP.eq (rp kr), MP.eq (N (b)), MP.eq (N (c)), MP.eq (N bc), MP.eq (N sc), MP.eq (.bool true), MP.eq (.bool true), MP.eq (.bool true), MP.eq (rp kr), MP.eq (N (a)), MP.eq (N (b)), MP.eq (N p), MP.eq (rp kr), MP.eq (N (b)), MP.eq (N (a)), MP.eq (N p), MP.eq (.bool true), MP.eq (.bool true), MP.eq (.bool true), MP.eq (rp kr), MP.eq (rp kr), MP.eq (N (a)), MP.eq (N (b)), MP.eq (N p), MP.eq (N (c)), MP.eq (N pc), MP.eq (rp kr), MP.eq (N (a)), MP.eq (rp kr), MP.eq (N (b)), MP.eq (N (c)), MP.eq (N qc), MP.eq (N pc), MP.eq (.bool true), MP.eq (.bool true), MP.eq (.bool true), MP.eq (rp kr), MP.eq (N (a)), MP.eq (rp kr), MP.eq (N (b)), MP.eq (N (c)), MP.eq (N bc), MP.eq (N d), MP.eq (rp kr), MP.eq (rp kr), MP.eq (N (a)), MP.eq (N (b)), MP.eq (N p), MP.eq (rp kr), MP.eq (N (a)), MP.eq (N (c)), MP.eq (N ac), MP.eq (N d), MP.eq (.bool true), MP.eq (.bool true), MP.eq (.bool true), MP.eq (rp kr), MP.eq (N (a)), MP.eq (N ⟨1, 0, 0, 0⟩), MP.eq (N lo), MP.eq (N (lo)), MP.eq (.bool true), MP.eq (.bool true), MP.eq (.bool true), MP.eq (rp kr), MP.eq (rp kr), MP.eq (N (a)), MP.eq (N (b)), MP.eq (N dab), MP.eq (N (b)), MP.eq (N lo), MP.eq (N (lo)), MP.eq (.bool true), MP.eq (.bool true), MP.eq (.bool true), MP.eq (rp kr), MP.eq (rp kr), MP.eq (N ⟨0, 0, 0, 0⟩), MP.eq (N (a)), MP.eq (N na), MP.eq (rp kr), MP.eq (N ⟨0, 0, 0, 0⟩), MP.eq (N (b)), MP.eq (N nb), MP.eq (N p), MP.eq (rp kr), MP.eq (N (a)), MP.eq (N (b)), MP.eq (N p), MP.eq (.bool true), MP.eq (.bool true), MP.eq (.bool true)] [some 36, some 37, some 38, some 39, some 40, some 41, some 42, some 43, some 44, some 45, some 46, some 47, some 48, some 49, some 50, some 51, some 52, some 53, some 54, some 55, some 56, some 57, some 58, some 59, some 60, some 61, some 62, some 63, some 64, some 65, some 66, some 67, some 68, some 69, some 70, some 71, some 72, some 73, some 74, some 75, some 76, some 77, some 78, some 79, some 80, some 81, some 82, some 83, some 84, some 85, some 86, some 87, some 88, some 89, some 90, some 91, some 92, some 93, some 94, some 95, some 96, some 97, some 98, some 99, some 100, some 101, some 102, some 103, some 104, some 105, some 106, some 107, some 108, some 109, some 110, some 111, some 112, some 113, some 114, some 115, some 116, some 117, some 118, some 119, some 120, some 121, some 122, some 123, some 124, some 125, some 126, some 127, some 128, some 129, some 130, some 131, some 132, some 133, some 134, some 135, some 136, some 137, some 138, some 139, some 140, some 141, some 142, some 143, some 144, some 145, some 146, some 147, some 148, some 149, some 150, some 151, some 152, some 153, some 154, some 155, some 156, some 157, some 158, some 159, some 160, some 8] (by kernel_rfl) (by kernel_rfl) rfl (by kernel_rfl) (by kernel_rfl) ?_ ?_
  · refine ⟨?_, ?_, ?_, ?_, ?_, ?_, ?_, ?_, ?_, ?_, ?_, ?_, ?_, ?_, ?_, ?_, ?_, ?_, ?_, ?_, ?_, ?_, ?_, ?_, ?_, ?_, ?_, ?_, ?_, ?_, ?_, ?_, ?_, ?_, ?_, ?_, ?_, ?_, ?_, ?_, ?_, ?_, ?_, ?_, ?_, ?_, ?_, ?_, ?_, ?_, ?_, ?_, ?_, ?_, ?_, ?_, ?_, ?_, ?_, ?_, ?_, ?_, ?_, ?_, ?_, ?_, ?_, ?_, ?_, ?_, ?_, ?_, ?_, ?_, ?_, ?_, ?_, ?_, ?_, ?_, ?_, ?_, ?_, ?_, ?_, ?_, ?_, ?_, ?_, ?_, ?_, ?_, ?_, ?_, ?_, ?_, ?_, ?_, ?_, ?_, ?_, ?_, ?_, ?_, ?_, ?_, ?_, ?_, ?_, ?_, ?_, ?_, ?_, ?_, ?_, ?_, ?_, ?_, ?_, ?_, ?_, ?_, ?_, ?_, ?_, ?_, trivial⟩
    · as_aux_lemma =>
      intro ev vals W ev_c ev_f hW new old hd
      have n9 : ev (.tmp 9) = rp kr := old 9 o9
      refine ⟨trivial, ?_⟩
      simp [YieldsV, go_sem, ev_c, ev_f, MP.eq, n9]
      exact Below.refl _ _
    · as_aux_lemma =>
      intro ev vals W ev_c ev_f hW new old hd
      have n36 : ev (.tmp 36) = rp kr := (new 36 0 rfl).trans (hd 0 (by kernel_rfl))
      refine ⟨trivial, ?_⟩
      simp [YieldsV, go_sem, ev_c, ev_f, MP.eq, n36]
      exact (MO _ _ (RingAt.ofKn (s3.out.up hW.out) 1 rfl)).mono fun e w' ⟨he, hb⟩ => ⟨_, he, rfl, hb⟩
    · as_aux_lemma =>
      intro ev vals W ev_c ev_f hW new old hd
      have n4 : ev (.tmp 4) = .pointer (some ⟨w.heap.size, 0, none⟩) := old 4 o4
      have u0 := Kn.get (s3.out.up hW.out) 5 0 rfl rfl
      have u1 := Kn.get (s3.out.up hW.out) 5 1 rfl rfl
      have u2 := Kn.get (s3.out.up hW.out) 5 2 rfl rfl
      have u3 := Kn.get (s3.out.up hW.out) 5 3 rfl rfl
      refine ⟨trivial, ?_⟩
      simp [YieldsV, go_sem, ev_c, ev_f, MP.eq, n4, u0, u1, u2, u3]
      exact Below.refl _ _
    · as_aux_lemma =>
      intro ev vals W ev_c ev_f hW new old hd
      have n37 : ev (.tmp 37) = N m := (new 37 1 rfl).trans (hd 1 (by kernel_rfl))
      have n38 : ev (.tmp 38) = N (m) := (new 38 2 rfl).trans (hd 2 (by kernel_rfl))
      refine ⟨trivial, ?_⟩
      simp [YieldsV, go_sem, ev_c, ev_f, MP.eq, n37, n38, e1]
      exact Below.refl _ _
    · as_aux_lemma =>
      intro ev vals W ev_c ev_f hW new old hd
      have n39 : ev (.tmp 39) = .bool true := (new 39 3 rfl).trans (hd 3 (by kernel_rfl))
      refine ⟨trivial, ?_⟩
      simp [YieldsV, go_sem, ev_c, ev_f, MP.eq, n39]
      exact Below.refl _ _
    · as_aux_lemma =>
      intro ev vals W ev_c ev_f hW new old hd
      have n9 : ev (.tmp 9) = rp kr := old 9 o9
      refine ⟨⟨hd 4 (by kernel_rfl), rfl⟩, ?_⟩
      simp [YieldsV, go_sem, ev_c, ev_f, MP.eq, n9]
      exact Below.refl _ _
    · as_aux_lemma =>
      intro ev vals W ev_c ev_f hW new old hd
      have n5 : ev (.tmp 5) = .pointer (some ⟨w.heap.size + 1, 0, none⟩) := old 5 o5
      have u0 := Kn.get (s3.out.up hW.out) 4 0 rfl rfl
      have u1 := Kn.get (s3.out.up hW.out) 4 1 rfl rfl
      have u2 := Kn.get (s3.out.up hW.out) 4 2 rfl rfl
      have u3 := Kn.get (s3.out.up hW.out) 4 3 rfl rfl
      refine ⟨⟨hd 4 (by kernel_rfl), rfl⟩, ?_⟩
      simp [YieldsV, go_sem, ev_c, ev_f, MP.eq, n5, u0, u1, u2, u3]
      exact Below.refl _ _
    · as_aux_lemma =>
      intro ev vals W ev_c ev_f hW new old hd
      have n6 : ev (.tmp 6) = .pointer (some ⟨w.heap.size + 1 + 1, 0, none⟩) := old 6 o6
      have u0 := Kn.get (s3.out.up hW.out) 3 0 rfl rfl
      have u1 := Kn.get (s3.out.up hW.out) 3 1 rfl rfl
      have u2 := Kn.get (s3.out.up hW.out) 3 2 rfl rfl
      have u3 := Kn.get (s3.out.up hW.out) 3 3 rfl rfl
      refine ⟨⟨hd 4 (by kernel_rfl), rfl⟩, ?_⟩
      simp [YieldsV, go_sem, ev_c, ev_f, MP.eq, n6, u0, u1, u2, u3]
      exact Below.refl _ _
    · as_aux_lemma =>
      intro ev vals W ev_c ev_f hW new old hd
      have n41 : ev (.tmp 41) = rp kr := (new 41 5 rfl).trans (hd 5 (by kernel_rfl))
      have n42 : ev (.tmp 42) = N (a) := (new 42 6 rfl).trans (hd 6 (by kernel_rfl))
      have n43 : ev (.tmp 43) = N (b) := (new 43 7 rfl).trans (hd 7 (by kernel_rfl))
      refine ⟨⟨hd 4 (by kernel_rfl), rfl⟩, ?_⟩
      simp [YieldsV, go_sem, ev_c, ev_f, MP.eq, n41, n42, n43]
      exact (T1 _ _ (RingAt.ofKn (s3.out.up hW.out) 1 rfl)).mono fun e w' ⟨he, hb⟩ => ⟨_, he, rfl, hb⟩
    · as_aux_lemma =>
      intro ev vals W ev_c ev_f hW new old hd
      have n4 : ev (.tmp 4) = .pointer (some ⟨w.heap.size, 0, none⟩) := old 4 o4
      have u0 := Kn.get (s3.out.up hW.out) 5 0 rfl rfl
      have u1 := Kn.get (s3.out.up hW.out) 5 1 rfl rfl
      have u2 := Kn.get (s3.out.up hW.out) 5 2 rfl rfl
      have u3 := Kn.get (s3.out.up hW.out) 5 3 rfl rfl
      refine ⟨⟨hd 4 (by kernel_rfl), rfl⟩, ?_⟩
      simp [YieldsV, go_sem, ev_c, ev_f, MP.eq, n4, u0, u1, u2, u3]
      exact Below.refl _ _
    · as_aux_lemma =>
      intro ev vals W ev_c ev_f hW new old hd
      have n44 : ev (.tmp 44) = N p := (new 44 8 rfl).trans (hd 8 (by kernel_rfl))
      have n45 : ev (.tmp 45) = N (m) := (new 45 9 rfl).trans (hd 9 (by kernel_rfl))
      refine ⟨⟨hd 4 (by kernel_rfl), rfl⟩, ?_⟩
      simp [YieldsV, go_sem, ev_c, ev_f, MP.eq, n44, n45]
      exact (CM _).mono fun e w' ⟨he, hb⟩ => ⟨_, he, rfl, hb⟩
    · as_aux_lemma =>
      intro ev vals W ev_c ev_f hW new old hd
      have n46 : ev (.tmp 46) = .int .i64 lt := (new 46 10 rfl).trans (hd 10 (by kernel_rfl))
      refine ⟨⟨hd 4 (by kernel_rfl), rfl⟩, ?_⟩
      simp [YieldsV, go_sem, ev_c, ev_f, MP.eq, n46, hlt]
      exact Below.refl _ _
    · as_aux_lemma =>
      intro ev vals W ev_c ev_f hW new old hd
      have n40 : ev (.tmp 40) = .bool true := (new 40 4 rfl).trans (hd 4 (by kernel_rfl))
      have n47 : ev (.tmp 47) = .bool true := (new 47 11 rfl).trans (hd 11 (by kernel_rfl))
      refine ⟨trivial, ?_⟩
      simp [YieldsV, go_sem, ev_c, ev_f, MP.eq, n40, n47]
      exact Below.refl _ _
    · as_aux_lemma =>
      intro ev vals W ev_c ev_f hW new old hd
      have n48 : ev (.tmp 48) = .bool true := (new 48 12 rfl).trans (hd 12 (by kernel_rfl))
      refine ⟨trivial, ?_⟩
      simp [YieldsV, go_sem, ev_c, ev_f, MP.eq, n48]
      exact Below.refl _ _
    · as_aux_lemma =>
      intro ev vals W ev_c ev_f hW new old hd
      have n9 : ev (.tmp 9) = rp kr := old 9 o9
      refine ⟨⟨hd 13 (by kernel_rfl), rfl⟩, ?_⟩
      simp [YieldsV, go_sem, ev_c, ev_f, MP.eq, n9]
      exact Below.refl _ _
    · as_aux_lemma =>
      intro ev vals W ev_c ev_f hW new old hd
      have n5 : ev (.tmp 5) = .pointer (some ⟨w.heap.size + 1, 0, none⟩) := old 5 o5
      have u0 := Kn.get (s3.out.up hW.out) 4 0 rfl rfl
      have u1 := Kn.get (s3.out.up hW.out) 4 1 rfl rfl
      have u2 := Kn.get (s3.out.up hW.out) 4 2 rfl rfl
      have u3 := Kn.get (s3.out.up hW.out) 4 3 rfl rfl
      refine ⟨⟨hd 13 (by kernel_rfl), rfl⟩, ?_⟩
      simp [YieldsV, go_sem, ev_c, ev_f, MP.eq, n5, u0, u1, u2, u3]
      exact Below.refl _ _
    · as_aux_lemma =>
      intro ev vals W ev_c ev_f hW new old hd
      have n6 : ev (.tmp 6) = .pointer (some ⟨w.heap.size + 1 + 1, 0, none⟩) := old 6 o6
      have u0 := Kn.get (s3.out.up hW.out) 3 0 rfl rfl
      have u1 := Kn.get (s3.out.up hW.out) 3 1 rfl rfl
      have u2 := Kn.get (s3.out.up hW.out) 3 2 rfl rfl
      have u3 := Kn.get (s3.out.up hW.out) 3 3 rfl rfl
      refine ⟨⟨hd 13 (by kernel_rfl), rfl⟩, ?_⟩
      simp [YieldsV, go_sem, ev_c, ev_f, MP.eq, n6, u0, u1, u2, u3]
      exact Below.refl _ _
    · as_aux_lemma =>
      intro ev vals W ev_c ev_f hW new old hd
      have n50 : ev (.tmp 50) = rp kr := (new 50 14 rfl).trans (hd 14 (by kernel_rfl))
      have n51 : ev (.tmp 51) = N (a) := (new 51 15 rfl).trans (hd 15 (by kernel_rfl))
      have n52 : ev (.tmp 52) = N (b) := (new 52 16 rfl).trans (hd 16 (by kernel_rfl))
      refine ⟨⟨hd 13 (by kernel_rfl), rfl⟩, ?_⟩
      simp [YieldsV, go_sem, ev_c, ev_f, MP.eq, n50, n51, n52]
      exact (A1 _ _ (RingAt.ofKn (s3.out.up hW.out) 1 rfl)).mono fun e w' ⟨he, hb⟩ => ⟨_, he, rfl, hb⟩
    · as_aux_lemma =>
      intro ev vals W ev_c ev_f hW new old hd
      have n9 : ev (.tmp 9) = rp kr := old 9 o9
      refine ⟨⟨hd 13 (by kernel_rfl), rfl⟩, ?_⟩
      simp [YieldsV, go_sem, ev_c, ev_f, MP.eq, n9]
      exact Below.refl _ _
    · as_aux_lemma =>
      intro ev vals W ev_c ev_f hW new old hd
      have n6 : ev (.tmp 6) = .pointer (some ⟨w.heap.size + 1 + 1, 0, none⟩) := old 6 o6
      have u0 := Kn.get (s3.out.up hW.out) 3 0 rfl rfl
      have u1 := Kn.get (s3.out.up hW.out) 3 1 rfl rfl
      have u2 := Kn.get (s3.out.up hW.out) 3 2 rfl rfl
      have u3 := Kn.get (s3.out.up hW.out) 3 3 rfl rfl
      refine ⟨⟨hd 13 (by kernel_rfl), rfl⟩, ?_⟩
      simp [YieldsV, go_sem, ev_c, ev_f, MP.eq, n6, u0, u1, u2, u3]
      exact Below.refl _ _
    · as_aux_lemma =>
      intro ev vals W ev_c ev_f hW new old hd
      have n5 : ev (.tmp 5) = .pointer (some ⟨w.heap.size + 1, 0, none⟩) := old 5 o5
      have u0 := Kn.get (s3.out.up hW.out) 4 0 rfl rfl
      have u1 := Kn.get (s3.out.up hW.out) 4 1 rfl rfl
      have u2 := Kn.get (s3.out.up hW.out) 4 2 rfl rfl
      have u3 := Kn.get (s3.out.up hW.out) 4 3 rfl rfl
      refine ⟨⟨hd 13 (by kernel_rfl), rfl⟩, ?_⟩
      simp [YieldsV, go_sem, ev_c, ev_f, MP.eq, n5, u0, u1, u2, u3]
      exact Below.refl _ _
    · as_aux_lemma =>
      intro ev vals W ev_c ev_f hW new old hd
      have n54 : ev (.tmp 54) = rp kr := (new 54 18 rfl).trans (hd 18 (by kernel_rfl))
      have n55 : ev (.tmp 55) = N (b) := (new 55 19 rfl).trans (hd 19 (by kernel_rfl))
      have n56 : ev (.tmp 56) = N (a) := (new 56 20 rfl).trans (hd 20 (by kernel_rfl))
      refine ⟨⟨hd 13 (by kernel_rfl), rfl⟩, ?_⟩
      simp [YieldsV, go_sem, ev_c, ev_f, MP.eq, n54, n55, n56]
      exact (A2 _ _ (RingAt.ofKn (s3.out.up hW.out) 1 rfl)).mono fun e w' ⟨he, hb⟩ => ⟨_, he, rfl, hb⟩
    · as_aux_lemma =>
      intro ev vals W ev_c ev_f hW new old hd
      have n53 : ev (.tmp 53) = N s := (new 53 17 rfl).trans (hd 17 (by kernel_rfl))
      have n57 : ev (.tmp 57) = N s := (new 57 21 rfl).trans (hd 21 (by kernel_rfl))
      refine ⟨⟨hd 13 (by kernel_rfl), rfl⟩, ?_⟩
      simp [YieldsV, go_sem, ev_c, ev_f, MP.eq, n53, n57, e2]
      exact Below.refl _ _
    · as_aux_lemma =>
      intro ev vals W ev_c ev_f hW new old hd
      have n49 : ev (.tmp 49) = .bool true := (new 49 13 rfl).trans (hd 13 (by kernel_rfl))
      have n58 : ev (.tmp 58) = .bool true := (new 58 22 rfl).trans (hd 22 (by kernel_rfl))
      refine ⟨trivial, ?_⟩
      simp [YieldsV, go_sem, ev_c, ev_f, MP.eq, n49, n58]
      exact Below.refl _ _
    · as_aux_lemma =>
      intro ev vals W ev_c ev_f hW new old hd
      have n59 : ev (.tmp 59) = .bool true := (new 59 23 rfl).trans (hd 23 (by kernel_rfl))
      refine ⟨trivial, ?_⟩
      simp [YieldsV, go_sem, ev_c, ev_f, MP.eq, n59]
      exact Below.refl _ _
    · as_aux_lemma =>
      intro ev vals W ev_c ev_f hW new old hd
      have n9 : ev (.tmp 9) = rp kr := old 9 o9
      refine ⟨⟨hd 24 (by kernel_rfl), rfl⟩, ?_⟩
      simp [YieldsV, go_sem, ev_c, ev_f, MP.eq, n9]
      exact Below.refl _ _
    · as_aux_lemma =>
      intro ev vals W ev_c ev_f hW new old hd
      have n9 : ev (.tmp 9) = rp kr := old 9 o9
      refine ⟨⟨hd 24 (by kernel_rfl), rfl⟩, ?_⟩
      simp [YieldsV, go_sem, ev_c, ev_f, MP.eq, n9]
      exact Below.refl _ _
    · as_aux_lemma =>
      intro ev vals W ev_c ev_f hW new old hd
      have n5 : ev (.tmp 5) = .pointer (some ⟨w.heap.size + 1, 0, none⟩) := old 5 o5
      have u0 := Kn.get (s3.out.up hW.out) 4 0 rfl rfl
      have u1 := Kn.get (s3.out.up hW.out) 4 1 rfl rfl
      have u2 := Kn.get (s3.out.up hW.out) 4 2 rfl rfl
      have u3 := Kn.get (s3.out.up hW.out) 4 3 rfl rfl
      refine ⟨⟨hd 24 (by kernel_rfl), rfl⟩, ?_⟩
      simp [YieldsV, go_sem, ev_c, ev_f, MP.eq, n5, u0, u1, u2, u3]
      exact Below.refl _ _
    · as_aux_lemma =>
      intro ev vals W ev_c ev_f hW new old hd
      have n6 : ev (.tmp 6) = .pointer (some ⟨w.heap.size + 1 + 1, 0, none⟩) := old 6 o6
      have u0 := Kn.get (s3.out.up hW.out) 3 0 rfl rfl
      have u1 := Kn.get (s3.out.up hW.out) 3 1 rfl rfl
      have u2 := Kn.get (s3.out.up hW.out) 3 2 rfl rfl
      have u3 := Kn.get (s3.out.up hW.out) 3 3 rfl rfl
      refine ⟨⟨hd 24 (by kernel_rfl), rfl⟩, ?_⟩
      simp [YieldsV, go_sem, ev_c, ev_f, MP.eq, n6, u0, u1, u2, u3]
      exact Below.refl _ _
    · as_aux_lemma =>
      intro ev vals W ev_c ev_f hW new old hd
      have n62 : ev (.tmp 62) = rp kr := (new 62 26 rfl).trans (hd 26 (by kernel_rfl))
      have n63 : ev (.tmp 63) = N (a) := (new 63 27 rfl).trans (hd 27 (by kernel_rfl))
      have n64 : ev (.tmp 64) = N (b) := (new 64 28 rfl).trans (hd 28 (by kernel_rfl))
      refine ⟨⟨hd 24 (by kernel_rfl), rfl⟩, ?_⟩
      simp [YieldsV, go_sem, ev_c, ev_f, MP.eq, n62, n63, n64]
      exact (A1 _ _ (RingAt.ofKn (s3.out.up hW.out) 1 rfl)).mono fun e w' ⟨he, hb⟩ => ⟨_, he, rfl, hb⟩
    · as_aux_lemma =>
      intro ev vals W ev_c ev_f hW new old hd
      have n7 : ev (.tmp 7) = .pointer (some ⟨w.heap.size + 1 + 1 + 1, 0, none⟩) := old 7 o7
      have u0 := Kn.get (s3.out.up hW.out) 2 0 rfl rfl
      have u1 := Kn.get (s3.out.up hW.out) 2 1 rfl rfl
      have u2 := Kn.get (s3.out.up hW.out) 2 2 rfl rfl
      have u3 := Kn.get (s3.out.up hW.out) 2 3 rfl rfl
      refine ⟨⟨hd 24 (by kernel_rfl), rfl⟩, ?_⟩
      simp [YieldsV, go_sem, ev_c, ev_f, MP.eq, n7, u0, u1, u2, u3]
      exact Below.refl _ _
    · as_aux_lemma =>
      intro ev vals W ev_c ev_f hW new old hd
      have n61 : ev (.tmp 61) = rp kr := (new 61 25 rfl).trans (hd 25 (by kernel_rfl))
      have n65 : ev (.tmp 65) = N s := (new 65 29 rfl).trans (hd 29 (by kernel_rfl))
      have n66 : ev (.tmp 66) = N (c) := (new 66 30 rfl).trans (hd 30 (by kernel_rfl))
      refine ⟨⟨hd 24 (by kernel_rfl), rfl⟩, ?_⟩
      simp [YieldsV, go_sem, ev_c, ev_f, MP.eq, n61, n65, n66]
      exact (A3 _ _ (RingAt.ofKn (s3.out.up hW.out) 1 rfl)).mono fun e w' ⟨he, hb⟩ => ⟨_, he, rfl, hb⟩
    · as_aux_lemma =>
      intro ev vals W ev_c ev_f hW new old hd
      have n9 : ev (.tmp 9) = rp kr := old 9 o9
      refine ⟨⟨hd 24 (by kernel_rfl), rfl⟩, ?_⟩
      simp [YieldsV, go_sem, ev_c, ev_f, MP.eq, n9]
      exact Below.refl _ _
    · as_aux_lemma =>
      intro ev vals W ev_c ev_f hW new old hd
      have n5 : ev (.tmp 5) = .pointer (some ⟨w.heap.size + 1, 0, none⟩) := old 5 o5
      have u0 := Kn.get (s3.out.up hW.out) 4 0 rfl rfl
      have u1 := Kn.get (s3.out.up hW.out) 4 1 rfl rfl
      have u2 := Kn.get (s3.out.up hW.out) 4 2 rfl rfl
      have u3 := Kn.get (s3.out.up hW.out) 4 3 rfl rfl
      refine ⟨⟨hd 24 (by kernel_rfl), rfl⟩, ?_⟩
      simp [YieldsV, go_sem, ev_c, ev_f, MP.eq, n5, u0, u1, u2, u3]
      exact Below.refl _ _
    · as_aux_lemma =>
      intro ev vals W ev_c ev_f hW new old hd
      have n9 : ev (.tmp 9) = rp kr := old 9 o9
      refine ⟨⟨hd 24 (by kernel_rfl), rfl⟩, ?_⟩
      simp [YieldsV, go_sem, ev_c, ev_f, MP.eq, n9]
      exact Below.refl _ _
    · as_aux_lemma =>
      intro ev vals W ev_c ev_f hW new old hd
      have n6 : ev (.tmp 6) = .pointer (some ⟨w.heap.size + 1 + 1, 0, none⟩) := old 6 o6
      have u0 := Kn.get (s3.out.up hW.out) 3 0 rfl rfl
      have u1 := Kn.get (s3.out.up hW.out) 3 1 rfl rfl
      have u2 := Kn.get (s3.out.up hW.out) 3 2 rfl rfl
      have u3 := Kn.get (s3.out.up hW.out) 3 3 rfl rfl
      refine ⟨⟨hd 24 (by kernel_rfl), rfl⟩, ?_⟩
      simp [YieldsV, go_sem, ev_c, ev_f, MP.eq, n6, u0, u1, u2, u3]
      exact Below.refl _ _
    · as_aux_lemma =>
      intro ev vals W ev_c ev_f hW new old hd
      have n7 : ev (.tmp 7) = .pointer (some ⟨w.heap.size + 1 + 1 + 1, 0, none⟩) := old 7 o7
      have u0 := Kn.get (s3.out.up hW.out) 2 0 rfl rfl
      have u1 := Kn.get (s3.out.up hW.out) 2 1 rfl rfl
      have u2 := Kn.get (s3.out.up hW.out) 2 2 rfl rfl
      have u3 := Kn.get (s3.out.up hW.out) 2 3 rfl rfl
      refine ⟨⟨hd 24 (by kernel_rfl), rfl⟩, ?_⟩
      simp [YieldsV, go_sem, ev_c, ev_f, MP.eq, n7, u0, u1, u2, u3]
      exact Below.refl _ _
    · as_aux_lemma =>
      intro ev vals W ev_c ev_f hW new old hd
      have n70 : ev (.tmp 70) = rp kr := (new 70 34 rfl).trans (hd 34 (by kernel_rfl))
      have n71 : ev (.tmp 71) = N (b) := (new 71 35 rfl).trans (hd 35 (by kernel_rfl))
      have n72 : ev (.tmp 72) = N (c) := (new 72 36 rfl).trans (hd 36 (by kernel_rfl))
      refine ⟨⟨hd 24 (by kernel_rfl), rfl⟩, ?_⟩
      simp [YieldsV, go_sem, ev_c, ev_f, MP.eq, n70, n71, n72]
      exact (A4 _ _ (RingAt.ofKn (s3.out.up hW.out) 1 rfl)).mono fun e w' ⟨he, hb⟩ => ⟨_, he, rfl, hb⟩
    · as_aux_lemma =>
      intro ev vals W ev_c ev_f hW new old hd
      have n68 : ev (.tmp 68) = rp kr := (new 68 32 rfl).trans (hd 32 (by kernel_rfl))
      have n69 : ev (.tmp 69) = N (a) := (new 69 33 rfl).trans (hd 33 (by kernel_rfl))
      have n73 : ev (.tmp 73) = N bc := (new 73 37 rfl).trans (hd 37 (by kernel_rfl))
      refine ⟨⟨hd 24 (by kernel_rfl), rfl⟩, ?_⟩
      simp [YieldsV, go_sem, ev_c, ev_f, MP.eq, n68, n69, n73]
      exact (A5 _ _ (RingAt.ofKn (s3.out.up hW.out) 1 rfl)).mono fun e w' ⟨he, hb⟩ => ⟨_, he, rfl, hb⟩
    · as_aux_lemma =>
      intro ev vals W ev_c ev_f hW new old hd
      have n67 : ev (.tmp 67) = N sc := (new 67 31 rfl).trans (hd 31 (by kernel_rfl))
      have n74 : ev (.tmp 74) = N sc := (new 74 38 rfl).trans (hd 38 (by kernel_rfl))
      refine ⟨⟨hd 24 (by kernel_rfl), rfl⟩, ?_⟩
      simp [YieldsV, go_sem, ev_c, ev_f, MP.eq, n67, n74, e3]
      exact Below.refl _ _
    · as_aux_lemma =>
      intro ev vals W ev_c ev_f hW new old hd
      have n60 : ev (.tmp 60) = .bool true := (new 60 24 rfl).trans (hd 24 (by kernel_rfl))
      have n75 : ev (.tmp 75) = .bool true := (new 75 39 rfl).trans (hd 39 (by kernel_rfl))
      refine ⟨trivial, ?_⟩
      simp [YieldsV, go_sem, ev_c, ev_f, MP.eq, n60, n75]
      exact Below.refl _ _
    · as_aux_lemma =>
      intro ev vals W ev_c ev_f hW new old hd
      have n76 : ev (.tmp 76) = .bool true := (new 76 40 rfl).trans (hd 40 (by kernel_rfl))
      refine ⟨trivial, ?_⟩
      simp [YieldsV, go_sem, ev_c, ev_f, MP.eq, n76]
      exact Below.refl _ _
    · as_aux_lemma =>
      intro ev vals W ev_c ev_f hW new old hd
      have n9 : ev (.tmp 9) = rp kr := old 9 o9
      refine ⟨⟨hd 41 (by kernel_rfl), rfl⟩, ?_⟩
      simp [YieldsV, go_sem, ev_c, ev_f, MP.eq, n9]
      exact Below.refl _ _
    · as_aux_lemma =>
      intro ev vals W ev_c ev_f hW new old hd
      have n5 : ev (.tmp 5) = .pointer (some ⟨w.heap.size + 1, 0, none⟩) := old 5 o5
      have u0 := Kn.get (s3.out.up hW.out) 4 0 rfl rfl
      have u1 := Kn.get (s3.out.up hW.out) 4 1 rfl rfl
      have u2 := Kn.get (s3.out.up hW.out) 4 2 rfl rfl
      have u3 := Kn.get (s3.out.up hW.out) 4 3 rfl rfl
      refine ⟨⟨hd 41 (by kernel_rfl), rfl⟩, ?_⟩
      simp [YieldsV, go_sem, ev_c, ev_f, MP.eq, n5, u0, u1, u2, u3]
      exact Below.refl _ _
    · as_aux_lemma =>
      intro ev vals W ev_c ev_f hW new old hd
      have n6 : ev (.tmp 6) = .pointer (some ⟨w.heap.size + 1 + 1, 0, none⟩) := old 6 o6
      have u0 := Kn.get (s3.out.up hW.out) 3 0 rfl rfl
      have u1 := Kn.get (s3.out.up hW.out) 3 1 rfl rfl
      have u2 := Kn.get (s3.out.up hW.out) 3 2 rfl rfl
      have u3 := Kn.get (s3.out.up hW.out) 3 3 rfl rfl
      refine ⟨⟨hd 41 (by kernel_rfl), rfl⟩, ?_⟩
      simp [YieldsV, go_sem, ev_c, ev_f, MP.eq, n6, u0, u1, u2, u3]
      exact Below.refl _ _
    · as_aux_lemma =>
      intro ev vals W ev_c ev_f hW new old hd
      have n78 : ev (.tmp 78) = rp kr := (new 78 42 rfl).trans (hd 42 (by kernel_rfl))
      have n79 : ev (.tmp 79) = N (a) := (new 79 43 rfl).trans (hd 43 (by kernel_rfl))
      have n80 : ev (.tmp 80) = N (b) := (new 80 44 rfl).trans (hd 44 (by kernel_rfl))
      refine ⟨⟨hd 41 (by kernel_rfl), rfl⟩, ?_⟩
      simp [YieldsV, go_sem, ev_c, ev_f, MP.eq, n78, n79, n80]
      exact (T1 _ _ (RingAt.ofKn (s3.out.up hW.out) 1 rfl)).mono fun e w' ⟨he, hb⟩ => ⟨_, he, rfl, hb⟩
    · as_aux_lemma =>
      intro ev vals W ev_c ev_f hW new old hd
      have n9 : ev (.tmp 9) = rp kr := old 9 o9
      refine ⟨⟨hd 41 (by kernel_rfl), rfl⟩, ?_⟩
      simp [YieldsV, go_sem, ev_c, ev_f, MP.eq, n9]
      exact Below.refl _ _
    · as_aux_lemma =>
      intro ev vals W ev_c ev_f hW new old hd
      have n6 : ev (.tmp 6) = .pointer (some ⟨w.heap.size + 1 + 1, 0, none⟩) := old 6 o6
      have u0 := Kn.get (s3.out.up hW.out) 3 0 rfl rfl
      have u1 := Kn.get (s3.out.up hW.out) 3 1 rfl rfl
      have u2 := Kn.get (s3.out.up hW.out) 3 2 rfl rfl
      have u3 := Kn.get (s3.out.up hW.out) 3 3 rfl rfl
      refine ⟨⟨hd 41 (by kernel_rfl), rfl⟩, ?_⟩
      simp [YieldsV, go_sem, ev_c, ev_f, MP.eq, n6, u0, u1, u2, u3]
      exact Below.refl _ _
    · as_aux_lemma =>
      intro ev vals W ev_c ev_f hW new old hd
      have n5 : ev (.tmp 5) = .pointer (some ⟨w.heap.size + 1, 0, none⟩) := old 5 o5
      have u0 := Kn.get (s3.out.up hW.out) 4 0 rfl rfl
      have u1 := Kn.get (s3.out.up hW.out) 4 1 rfl rfl
      have u2 := Kn.get (s3.out.up hW.out) 4 2 rfl rfl
      have u3 := Kn.get (s3.out.up hW.out) 4 3 rfl rfl
      refine ⟨⟨hd 41 (by kernel_rfl), rfl⟩, ?_⟩
      simp [YieldsV, go_sem, ev_c, ev_f, MP.eq, n5, u0, u1, u2, u3]
      exact Below.refl _ _
    · as_aux_lemma =>
      intro ev vals W ev_c ev_f hW new old hd
      have n82 : ev (.tmp 82) = rp kr := (new 82 46 rfl).trans (hd 46 (by kernel_rfl))
      have n83 : ev (.tmp 83) = N (b) := (new 83 47 rfl).trans (hd 47 (by kernel_rfl))
      have n84 : ev (.tmp 84) = N (a) := (new 84 48 rfl).trans (hd 48 (by kernel_rfl))
      refine ⟨⟨hd 41 (by kernel_rfl), rfl⟩, ?_⟩
      simp [YieldsV, go_sem, ev_c, ev_f, MP.eq, n82, n83, n84]
      exact (T2 _ _ (RingAt.ofKn (s3.out.up hW.out) 1 rfl)).mono fun e w' ⟨he, hb⟩ => ⟨_, he, rfl, hb⟩
    · as_aux_lemma =>
      intro ev vals W ev_c ev_f hW new old hd
      have n81 : ev (.tmp 81) = N p := (new 81 45 rfl).trans (hd 45 (by kernel_rfl))
      have n85 : ev (.tmp 85) = N p := (new 85 49 rfl).trans (hd 49 (by kernel_rfl))
      refine ⟨⟨hd 41 (by kernel_rfl), rfl⟩, ?_⟩
      simp [YieldsV, go_sem, ev_c, ev_f, MP.eq, n81, n85, e4]
      exact Below.refl _ _
    · as_aux_lemma =>
      intro ev vals W ev_c ev_f hW new old hd
      have n77 : ev (.tmp 77) = .bool true := (new 77 41 rfl).trans (hd 41 (by kernel_rfl))
      have n86 : ev (.tmp 86) = .bool true := (new 86 50 rfl).trans (hd 50 (by kernel_rfl))
      refine ⟨trivial, ?_⟩
      simp [YieldsV, go_sem, ev_c, ev_f, MP.eq, n77, n86]
      exact Below.refl _ _
    · as_aux_lemma =>
      intro ev vals W ev_c ev_f hW new old hd
      have n87 : ev (.tmp 87) = .bool true := (new 87 51 rfl).trans (hd 51 (by kernel_rfl))
      refine ⟨trivial, ?_⟩
      simp [YieldsV, go_sem, ev_c, ev_f, MP.eq, n87]
      exact Below.refl _ _
    · as_aux_lemma =>
      intro ev vals W ev_c ev_f hW new old hd
      have n9 : ev (.tmp 9) = rp kr := old 9 o9
      refine ⟨⟨hd 52 (by kernel_rfl), rfl⟩, ?_⟩
      simp [YieldsV, go_sem, ev_c, ev_f, MP.eq, n9]
      exact Below.refl _ _
    · as_aux_lemma =>
      intro ev vals W ev_c ev_f hW new old hd
      have n9 : ev (.tmp 9) = rp kr := old 9 o9
      refine ⟨⟨hd 52 (by kernel_rfl), rfl⟩, ?_⟩
      simp [YieldsV, go_sem, ev_c, ev_f, MP.eq, n9]
      exact Below.refl _ _
    · as_aux_lemma =>
      intro ev vals W ev_c ev_f hW new old hd
      have n5 : ev (.tmp 5) = .pointer (some ⟨w.heap.size + 1, 0, none⟩) := old 5 o5
      have u0 := Kn.get (s3.out.up hW.out) 4 0 rfl rfl
      have u1 := Kn.get (s3.out.up hW.out) 4 1 rfl rfl
      have u2 := Kn.get (s3.out.up hW.out) 4 2 rfl rfl
      have u3 := Kn.get (s3.out.up hW.out) 4 3 rfl rfl
      refine ⟨⟨hd 52 (by kernel_rfl), rfl⟩, ?_⟩
      simp [YieldsV, go_sem, ev_c, ev_f, MP.eq, n5, u0, u1, u2, u3]
      exact Below.refl _ _
    · as_aux_lemma =>
      intro ev vals W ev_c ev_f hW new old hd
      have n6 : ev (.tmp 6) = .pointer (some ⟨w.heap.size + 1 + 1, 0, none⟩) := old 6 o6
      have u0 := Kn.get (s3.out.up hW.out) 3 0 rfl rfl
      have u1 := Kn.get (s3.out.up hW.out) 3 1 rfl rfl
      have u2 := Kn.get (s3.out.up hW.out) 3 2 rfl rfl
      have u3 := Kn.get (s3.out.up hW.out) 3 3 rfl rfl
      refine ⟨⟨hd 52 (by kernel_rfl), rfl⟩, ?_⟩
      simp [YieldsV, go_sem, ev_c, ev_f, MP.eq, n6, u0, u1, u2, u3]
      exact Below.refl _ _
    · as_aux_lemma =>
      intro ev vals W ev_c ev_f hW new old hd
      have n90 : ev (.tmp 90) = rp kr := (new 90 54 rfl).trans (hd 54 (by kernel_rfl))
      have n91 : ev (.tmp 91) = N (a) := (new 91 55 rfl).trans (hd 55 (by kernel_rfl))
      have n92 : ev (.tmp 92) = N (b) := (new 92 56 rfl).trans (hd 56 (by kernel_rfl))
      refine ⟨⟨hd 52 (by kernel_rfl), rfl⟩, ?_⟩
      simp [YieldsV, go_sem, ev_c, ev_f, MP.eq, n90, n91, n92]
      exact (T1 _ _ (RingAt.ofKn (s3.out.up hW.out) 1 rfl)).mono fun e w' ⟨he, hb⟩ => ⟨_, he, rfl, hb⟩
    · as_aux_lemma =>
      intro ev vals W ev_c ev_f hW new old hd
      have n7 : ev (.tmp 7) = .pointer (some ⟨w.heap.size + 1 + 1 + 1, 0, none⟩) := old 7 o7
      have u0 := Kn.get (s3.out.up hW.out) 2 0 rfl rfl
      have u1 := Kn.get (s3.out.up hW.out) 2 1 rfl rfl
      have u2 := Kn.get (s3.out.up hW.out) 2 2 rfl rfl
      have u3 := Kn.get (s3.out.up hW.out) 2 3 rfl rfl
      refine ⟨⟨hd 52 (by kernel_rfl), rfl⟩, ?_⟩
      simp [YieldsV, go_sem, ev_c, ev_f, MP.eq, n7, u0, u1, u2, u3]
      exact Below.refl _ _
    · as_aux_lemma =>
      intro ev vals W ev_c ev_f hW new old hd
      have n89 : ev (.tmp 89) = rp kr := (new 89 53 rfl).trans (hd 53 (by kernel_rfl))
      have n93 : ev (.tmp 93) = N p := (new 93 57 rfl).trans (hd 57 (by kernel_rfl))
      have n94 : ev (.tmp 94) = N (c) := (new 94 58 rfl).trans (hd 58 (by kernel_rfl))
      refine ⟨⟨hd 52 (by kernel_rfl), rfl⟩, ?_⟩
      simp [YieldsV, go_sem, ev_c, ev_f, MP.eq, n89, n93, n94]
      exact (T3 _ _ (RingAt.ofKn (s3.out.up hW.out) 1 rfl)).mono fun e w' ⟨he, hb⟩ => ⟨_, he, rfl, hb⟩
    · as_aux_lemma =>
      intro ev vals W ev_c ev_f hW new old hd
      have n9 : ev (.tmp 9) = rp kr := old 9 o9
      refine ⟨⟨hd 52 (by kernel_rfl), rfl⟩, ?_⟩
      simp [YieldsV, go_sem, ev_c, ev_f, MP.eq, n9]
      exact Below.refl _ _
    · as_aux_lemma =>
      intro ev vals W ev_c ev_f hW new old hd
      have n5 : ev (.tmp 5) = .pointer (some ⟨w.heap.size + 1, 0, none⟩) := old 5 o5
      have u0 := Kn.get (s3.out.up hW.out) 4 0 rfl rfl
      have u1 := Kn.get (s3.out.up hW.out) 4 1 rfl rfl
      have u2 := Kn.get (s3.out.up hW.out) 4 2 rfl rfl
      have u3 := Kn.get (s3.out.up hW.out) 4 3 rfl rfl
      refine ⟨⟨hd 52 (by kernel_rfl), rfl⟩, ?_⟩
      simp [YieldsV, go_sem, ev_c, ev_f, MP.eq, n5, u0, u1, u2, u3]
      exact Below.refl _ _
    · as_aux_lemma =>
      intro ev vals W ev_c ev_f hW new old hd
      have n9 : ev (.tmp 9) = rp kr := old 9 o9
      refine ⟨⟨hd 52 (by kernel_rfl), rfl⟩, ?_⟩
      simp [YieldsV, go_sem, ev_c, ev_f, MP.eq, n9]
      exact Below.refl _ _
    · as_aux_lemma =>
      intro ev vals W ev_c ev_f hW new old hd
      have n6 : ev (.tmp 6) = .pointer (some ⟨w.heap.size + 1 + 1, 0, none⟩) := old 6 o6
      have u0 := Kn.get (s3.out.up hW.out) 3 0 rfl rfl
      have u1 := Kn.get (s3.out.up hW.out) 3 1 rfl rfl
      have u2 := Kn.get (s3.out.up hW.out) 3 2 rfl rfl
      have u3 := Kn.get (s3.out.up hW.out) 3 3 rfl rfl
      refine ⟨⟨hd 52 (by kernel_rfl), rfl⟩, ?_⟩
      simp [YieldsV, go_sem, ev_c, ev_f, MP.eq, n6, u0, u1, u2, u3]
      exact Below.refl _ _
    · as_aux_lemma =>
      intro ev vals W ev_c ev_f hW new old hd
      have n7 : ev (.tmp 7) = .pointer (some ⟨w.heap.size + 1 + 1 + 1, 0, none⟩) := old 7 o7
      have u0 := Kn.get (s3.out.up hW.out) 2 0 rfl rfl
      have u1 := Kn.get (s3.out.up hW.out) 2 1 rfl rfl
      have u2 := Kn.get (s3.out.up hW.out) 2 2 rfl rfl
      have u3 := Kn.get (s3.out.up hW.out) 2 3 rfl rfl
      refine ⟨⟨hd 52 (by kernel_rfl), rfl⟩, ?_⟩
      simp [YieldsV, go_sem, ev_c, ev_f, MP.eq, n7, u0, u1, u2, u3]
      exact Below.refl _ _
    · as_aux_lemma =>
      intro ev vals W ev_c ev_f hW new old hd
      have n98 : ev (.tmp 98) = rp kr := (new 98 62 rfl).trans (hd 62 (by kernel_rfl))
      have n99 : ev (.tmp 99) = N (b) := (new 99 63 rfl).trans (hd 63 (by kernel_rfl))
      have n100 : ev (.tmp 100) = N (c) := (new 100 64 rfl).trans (hd 64 (by kernel_rfl))
      refine ⟨⟨hd 52 (by kernel_rfl), rfl⟩, ?_⟩
      simp [YieldsV, go_sem, ev_c, ev_f, MP.eq, n98, n99, n100]
      exact (T4 _ _ (RingAt.ofKn (s3.out.up hW.out) 1 rfl)).mono fun e w' ⟨he, hb⟩ => ⟨_, he, rfl, hb⟩
    · as_aux_lemma =>
      intro ev vals W ev_c ev_f hW new old hd
      have n96 : ev (.tmp 96) = rp kr := (new 96 60 rfl).trans (hd 60 (by kernel_rfl))
      have n97 : ev (.tmp 97) = N (a) := (new 97 61 rfl).trans (hd 61 (by kernel_rfl))
      have n101 : ev (.tmp 101) = N qc := (new 101 65 rfl).trans (hd 65 (by kernel_rfl))
      refine ⟨⟨hd 52 (by kernel_rfl), rfl⟩, ?_⟩
      simp [YieldsV, go_sem, ev_c, ev_f, MP.eq, n96, n97, n101]
      exact (T5 _ _ (RingAt.ofKn (s3.out.up hW.out) 1 rfl)).mono fun e w' ⟨he, hb⟩ => ⟨_, he, rfl, hb⟩
    · as_aux_lemma =>
      intro ev vals W ev_c ev_f hW new old hd
      have n95 : ev (.tmp 95) = N pc := (new 95 59 rfl).trans (hd 59 (by kernel_rfl))
      have n102 : ev (.tmp 102) = N pc := (new 102 66 rfl).trans (hd 66 (by kernel_rfl))
      refine ⟨⟨hd 52 (by kernel_rfl), rfl⟩, ?_⟩
      simp [YieldsV, go_sem, ev_c, ev_f, MP.eq, n95, n102, e5]
      exact Below.refl _ _
    · as_aux_lemma =>
      intro ev vals W ev_c ev_f hW new old hd
      have n88 : ev (.tmp 88) = .bool true := (new 88 52 rfl).trans (hd 52 (by kernel_rfl))
      have n103 : ev (.tmp 103) = .bool true := (new 103 67 rfl).trans (hd 67 (by kernel_rfl))
      refine ⟨trivial, ?_⟩
      simp [YieldsV, go_sem, ev_c, ev_f, MP.eq, n88, n103]
      exact Below.refl _ _
    · as_aux_lemma =>
      intro ev vals W ev_c ev_f hW new old hd
      have n104 : ev (.tmp 104) = .bool true := (new 104 68 rfl).trans (hd 68 (by kernel_rfl))
      refine ⟨trivial, ?_⟩
      simp [YieldsV, go_sem, ev_c, ev_f, MP.eq, n104]
      exact Below.refl _ _
    · as_aux_lemma =>
      intro ev vals W ev_c ev_f hW new old hd
      have n9 : ev (.tmp 9) = rp kr := old 9 o9
      refine ⟨⟨hd 69 (by kernel_rfl), rfl⟩, ?_⟩
      simp [YieldsV, go_sem, ev_c, ev_f, MP.eq, n9]
      exact Below.refl _ _
    · as_aux_lemma =>
      intro ev vals W ev_c ev_f hW new old hd
      have n5 : ev (.tmp 5) = .pointer (some ⟨w.heap.size + 1, 0, none⟩) := old 5 o5
      have u0 := Kn.get (s3.out.up hW.out) 4 0 rfl rfl
      have u1 := Kn.get (s3.out.up hW.out) 4 1 rfl rfl
      have u2 := Kn.get (s3.out.up hW.out) 4 2 rfl rfl
      have u3 := Kn.get (s3.out.up hW.out) 4 3 rfl rfl
      refine ⟨⟨hd 69 (by kernel_rfl), rfl⟩, ?_⟩
      simp [YieldsV, go_sem, ev_c, ev_f, MP.eq, n5, u0, u1, u2, u3]
      exact Below.refl _ _
    · as_aux_lemma =>
      intro ev vals W ev_c ev_f hW new old hd
      have n9 : ev (.tmp 9) = rp kr := old 9 o9
      refine ⟨⟨hd 69 (by kernel_rfl), rfl⟩, ?_⟩
      simp [YieldsV, go_sem, ev_c, ev_f, MP.eq, n9]
      exact Below.refl _ _
    · as_aux_lemma =>
      intro ev vals W ev_c ev_f hW new old hd
      have n6 : ev (.tmp 6) = .pointer (some ⟨w.heap.size + 1 + 1, 0, none⟩) := old 6 o6
      have u0 := Kn.get (s3.out.up hW.out) 3 0 rfl rfl
      have u1 := Kn.get (s3.out.up hW.out) 3 1 rfl rfl
      have u2 := Kn.get (s3.out.up hW.out) 3 2 rfl rfl
      have u3 := Kn.get (s3.out.up hW.out) 3 3 rfl rfl
      refine ⟨⟨hd 69 (by kernel_rfl), rfl⟩, ?_⟩
      simp [YieldsV, go_sem, ev_c, ev_f, MP.eq, n6, u0, u1, u2, u3]
      exact Below.refl _ _
    · as_aux_lemma =>
      intro ev vals W ev_c ev_f hW new old hd
      have n7 : ev (.tmp 7) = .pointer (some ⟨w.heap.size + 1 + 1 + 1, 0, none⟩) := old 7 o7
      have u0 := Kn.get (s3.out.up hW.out) 2 0 rfl rfl
      have u1 := Kn.get (s3.out.up hW.out) 2 1 rfl rfl
      have u2 := Kn.get (s3.out.up hW.out) 2 2 rfl rfl
      have u3 := Kn.get (s3.out.up hW.out) 2 3 rfl rfl
      refine ⟨⟨hd 69 (by kernel_rfl), rfl⟩, ?_⟩
      simp [YieldsV, go_sem, ev_c, ev_f, MP.eq, n7, u0, u1, u2, u3]
      exact Below.refl _ _
    · as_aux_lemma =>
      intro ev vals W ev_c ev_f hW new old hd
      have n108 : ev (.tmp 108) = rp kr := (new 108 72 rfl).trans (hd 72 (by kernel_rfl))
      have n109 : ev (.tmp 109) = N (b) := (new 109 73 rfl).trans (hd 73 (by kernel_rfl))
      have n110 : ev (.tmp 110) = N (c) := (new 110 74 rfl).trans (hd 74 (by kernel_rfl))
      refine ⟨⟨hd 69 (by kernel_rfl), rfl⟩, ?_⟩
      simp [YieldsV, go_sem, ev_c, ev_f, MP.eq, n108, n109, n110]
      exact (A4 _ _ (RingAt.ofKn (s3.out.up hW.out) 1 rfl)).mono fun e w' ⟨he, hb⟩ => ⟨_, he, rfl, hb⟩
    · as_aux_lemma =>
      intro ev vals W ev_c ev_f hW new old hd
      have n106 : ev (.tmp 106) = rp kr := (new 106 70 rfl).trans (hd 70 (by kernel_rfl))
      have n107 : ev (.tmp 107) = N (a) := (new 107 71 rfl).trans (hd 71 (by kernel_rfl))
      have n111 : ev (.tmp 111) = N bc := (new 111 75 rfl).trans (hd 75 (by kernel_rfl))
      refine ⟨⟨hd 69 (by kernel_rfl), rfl⟩, ?_⟩
      simp [YieldsV, go_sem, ev_c, ev_f, MP.eq, n106, n107, n111]
      exact (T6 _ _ (RingAt.ofKn (s3.out.up hW.out) 1 rfl)).mono fun e w' ⟨he, hb⟩ => ⟨_, he, rfl, hb⟩
    · as_aux_lemma =>
      intro ev vals W ev_c ev_f hW new old hd
      have n9 : ev (.tmp 9) = rp kr := old 9 o9
      refine ⟨⟨hd 69 (by kernel_rfl), rfl⟩, ?_⟩
      simp [YieldsV, go_sem, ev_c, ev_f, MP.eq, n9]
      exact Below.refl _ _
    · as_aux_lemma =>
      intro ev vals W ev_c ev_f hW new old hd
      have n9 : ev (.tmp 9) = rp kr := old 9 o9
      refine ⟨⟨hd 69 (by kernel_rfl), rfl⟩, ?_⟩
      simp [YieldsV, go_sem, ev_c, ev_f, MP.eq, n9]
      exact Below.refl _ _
    · as_aux_lemma =>
      intro ev vals W ev_c ev_f hW new old hd
      have n5 : ev (.tmp 5) = .pointer (some ⟨w.heap.size + 1, 0, none⟩) := old 5 o5
      have u0 := Kn.get (s3.out.up hW.out) 4 0 rfl rfl
      have u1 := Kn.get (s3.out.up hW.out) 4 1 rfl rfl
      have u2 := Kn.get (s3.out.up hW.out) 4 2 rfl rfl
      have u3 := Kn.get (s3.out.up hW.out) 4 3 rfl rfl
      refine ⟨⟨hd 69 (by kernel_rfl), rfl⟩, ?_⟩
      simp [YieldsV, go_sem, ev_c, ev_f, MP.eq, n5, u0, u1, u2, u3]
      exact Below.refl _ _
    · as_aux_lemma =>
      intro ev vals W ev_c ev_f hW new old hd
      have n6 : ev (.tmp 6) = .pointer (some ⟨w.heap.size + 1 + 1, 0, none⟩) := old 6 o6
      have u0 := Kn.get (s3.out.up hW.out) 3 0 rfl rfl
      have u1 := Kn.get (s3.out.up hW.out) 3 1 rfl rfl
      have u2 := Kn.get (s3.out.up hW.out) 3 2 rfl rfl
      have u3 := Kn.get (s3.out.up hW.out) 3 3 rfl rfl
      refine ⟨⟨hd 69 (by kernel_rfl), rfl⟩, ?_⟩
      simp [YieldsV, go_sem, ev_c, ev_f, MP.eq, n6, u0, u1, u2, u3]
      exact Below.refl _ _
    · as_aux_lemma =>
      intro ev vals W ev_c ev_f hW new old hd
      have n114 : ev (.tmp 114) = rp kr := (new 114 78 rfl).trans (hd 78 (by kernel_rfl))
      have n115 : ev (.tmp 115) = N (a) := (new 115 79 rfl).trans (hd 79 (by kernel_rfl))
      have n116 : ev (.tmp 116) = N (b) := (new 116 80 rfl).trans (hd 80 (by kernel_rfl))
      refine ⟨⟨hd 69 (by kernel_rfl), rfl⟩, ?_⟩
      simp [YieldsV, go_sem, ev_c, ev_f, MP.eq, n114, n115, n116]
      exact (T1 _ _ (RingAt.ofKn (s3.out.up hW.out) 1 rfl)).mono fun e w' ⟨he, hb⟩ => ⟨_, he, rfl, hb⟩
    · as_aux_lemma =>
      intro ev vals W ev_c ev_f hW new old hd
      have n9 : ev (.tmp 9) = rp kr := old 9 o9
      refine ⟨⟨hd 69 (by kernel_rfl), rfl⟩, ?_⟩
      simp [YieldsV, go_sem, ev_c, ev_f, MP.eq, n9]
      exact Below.refl _ _
    · as_aux_lemma =>
      intro ev vals W ev_c ev_f hW new old hd
      have n5 : ev (.tmp 5) = .pointer (some ⟨w.heap.size + 1, 0, none⟩) := old 5 o5
      have u0 := Kn.get (s3.out.up hW.out) 4 0 rfl rfl
      have u1 := Kn.get (s3.out.up hW.out) 4 1 rfl rfl
      have u2 := Kn.get (s3.out.up hW.out) 4 2 rfl rfl
      have u3 := Kn.get (s3.out.up hW.out) 4 3 rfl rfl
      refine ⟨⟨hd 69 (by kernel_rfl), rfl⟩, ?_⟩
      simp [YieldsV, go_sem, ev_c, ev_f, MP.eq, n5, u0, u1, u2, u3]
      exact Below.refl _ _
    · as_aux_lemma =>
      intro ev vals W ev_c ev_f hW new old hd
      have n7 : ev (.tmp 7) = .pointer (some ⟨w.heap.size + 1 + 1 + 1, 0, none⟩) := old 7 o7
      have u0 := Kn.get (s3.out.up hW.out) 2 0 rfl rfl
      have u1 := Kn.get (s3.out.up hW.out) 2 1 rfl rfl
      have u2 := Kn.get (s3.out.up hW.out) 2 2 rfl rfl
      have u3 := Kn.get (s3.out.up hW.out) 2 3 rfl rfl
      refine ⟨⟨hd 69 (by kernel_rfl), rfl⟩, ?_⟩
      simp [YieldsV, go_sem, ev_c, ev_f, MP.eq, n7, u0, u1, u2, u3]
      exact Below.refl _ _
    · as_aux_lemma =>
      intro ev vals W ev_c ev_f hW new old hd
      have n118 : ev (.tmp 118) = rp kr := (new 118 82 rfl).trans (hd 82 (by kernel_rfl))
      have n119 : ev (.tmp 119) = N (a) := (new 119 83 rfl).trans (hd 83 (by kernel_rfl))
      have n120 : ev (.tmp 120) = N (c) := (new 120 84 rfl).trans (hd 84 (by kernel_rfl))
      refine ⟨⟨hd 69 (by kernel_rfl), rfl⟩, ?_⟩
      simp [YieldsV, go_sem, ev_c, ev_f, MP.eq, n118, n119, n120]
      exact (T7 _ _ (RingAt.ofKn (s3.out.up hW.out) 1 rfl)).mono fun e w' ⟨he, hb⟩ => ⟨_, he, rfl, hb⟩
    · as_aux_lemma =>
      intro ev vals W ev_c ev_f hW new old hd
      have n113 : ev (.tmp 113) = rp kr := (new 113 77 rfl).trans (hd 77 (by kernel_rfl))
      have n117 : ev (.tmp 117) = N p := (new 117 81 rfl).trans (hd 81 (by kernel_rfl))
      have n121 : ev (.tmp 121) = N ac := (new 121 85 rfl).trans (hd 85 (by kernel_rfl))
      refine ⟨⟨hd 69 (by kernel_rfl), rfl⟩, ?_⟩
      simp [YieldsV, go_sem, ev_c, ev_f, MP.eq, n113, n117, n121]
      exact (A6 _ _ (RingAt.ofKn (s3.out.up hW.out) 1 rfl)).mono fun e w' ⟨he, hb⟩ => ⟨_, he, rfl, hb⟩
    · as_aux_lemma =>
      intro ev vals W ev_c ev_f hW new old hd
      have n112 : ev (.tmp 112) = N d := (new 112 76 rfl).trans (hd 76 (by kernel_rfl))
      have n122 : ev (.tmp 122) = N d := (new 122 86 rfl).trans (hd 86 (by kernel_rfl))
      refine ⟨⟨hd 69 (by kernel_rfl), rfl⟩, ?_⟩
      simp [YieldsV, go_sem, ev_c, ev_f, MP.eq, n112, n122, e6]
      exact Below.refl _ _
    · as_aux_lemma =>
      intro ev vals W ev_c ev_f hW new old hd
      have n105 : ev (.tmp 105) = .bool true := (new 105 69 rfl).trans (hd 69 (by kernel_rfl))
      have n123 : ev (.tmp 123) = .bool true := (new 123 87 rfl).trans (hd 87 (by kernel_rfl))
      refine ⟨trivial, ?_⟩
      simp [YieldsV, go_sem, ev_c, ev_f, MP.eq, n105, n123]
      exact Below.refl _ _
    · as_aux_lemma =>
      intro ev vals W ev_c ev_f hW new old hd
      have n124 : ev (.tmp 124) = .bool true := (new 124 88 rfl).trans (hd 88 (by kernel_rfl))
      refine ⟨trivial, ?_⟩
      simp [YieldsV, go_sem, ev_c, ev_f, MP.eq, n124]
      exact Below.refl _ _
    · as_aux_lemma =>
      intro ev vals W ev_c ev_f hW new old hd
      have n9 : ev (.tmp 9) = rp kr := old 9 o9
      refine ⟨⟨hd 89 (by kernel_rfl), rfl⟩, ?_⟩
      simp [YieldsV, go_sem, ev_c, ev_f, MP.eq, n9]
      exact Below.refl _ _
    · as_aux_lemma =>
      intro ev vals W ev_c ev_f hW new old hd
      have n5 : ev (.tmp 5) = .pointer (some ⟨w.heap.size + 1, 0, none⟩) := old 5 o5
      have u0 := Kn.get (s3.out.up hW.out) 4 0 rfl rfl
      have u1 := Kn.get (s3.out.up hW.out) 4 1 rfl rfl
      have u2 := Kn.get (s3.out.up hW.out) 4 2 rfl rfl
      have u3 := Kn.get (s3.out.up hW.out) 4 3 rfl rfl
      refine ⟨⟨hd 89 (by kernel_rfl), rfl⟩, ?_⟩
      simp [YieldsV, go_sem, ev_c, ev_f, MP.eq, n5, u0, u1, u2, u3]
      exact Below.refl _ _
    · as_aux_lemma =>
      intro ev vals W ev_c ev_f hW new old hd
      refine ⟨⟨hd 89 (by kernel_rfl), rfl⟩, ?_⟩
      simp [YieldsV, go_sem, ev_c, ev_f, MP.eq]
      exact Below.refl _ _
    · as_aux_lemma =>
      intro ev vals W ev_c ev_f hW new old hd
      have n126 : ev (.tmp 126) = rp kr := (new 126 90 rfl).trans (hd 90 (by kernel_rfl))
      have n127 : ev (.tmp 127) = N (a) := (new 127 91 rfl).trans (hd 91 (by kernel_rfl))
      have n128 : ev (.tmp 128) = N ⟨1, 0, 0, 0⟩ := (new 128 92 rfl).trans (hd 92 (by kernel_rfl))
      refine ⟨⟨hd 89 (by kernel_rfl), rfl⟩, ?_⟩
      simp [YieldsV, go_sem, ev_c, ev_f, MP.eq, n126, n127, n128]
      exact (T8 _ _ (RingAt.ofKn (s3.out.up hW.out) 1 rfl)).mono fun e w' ⟨he, hb⟩ => ⟨_, he, rfl, hb⟩
    · as_aux_lemma =>
      intro ev vals W ev_c ev_f hW new old hd
      have n11 : ev (.tmp 11) = .pointer (some ⟨w2.heap.size, 0, none⟩) := old 11 o11
      have u0 := Kn.get (s3.out.up hW.out) 0 0 rfl rfl
      have u1 := Kn.get (s3.out.up hW.out) 0 1 rfl rfl
      have u2 := Kn.get (s3.out.up hW.out) 0 2 rfl rfl
      have u3 := Kn.get (s3.out.up hW.out) 0 3 rfl rfl
      refine ⟨⟨hd 89 (by kernel_rfl), rfl⟩, ?_⟩
      simp [YieldsV, go_sem, ev_c, ev_f, MP.eq, n11, u0, u1, u2, u3]
      exact Below.refl _ _
    · as_aux_lemma =>
      intro ev vals W ev_c ev_f hW new old hd
      have n129 : ev (.tmp 129) = N lo := (new 129 93 rfl).trans (hd 93 (by kernel_rfl))
      have n130 : ev (.tmp 130) = N (lo) := (new 130 94 rfl).trans (hd 94 (by kernel_rfl))
      refine ⟨⟨hd 89 (by kernel_rfl), rfl⟩, ?_⟩
      simp [YieldsV, go_sem, ev_c, ev_f, MP.eq, n129, n130, e7]
      exact Below.refl _ _
    · as_aux_lemma =>
      intro ev vals W ev_c ev_f hW new old hd
      have n125 : ev (.tmp 125) = .bool true := (new 125 89 rfl).trans (hd 89 (by kernel_rfl))
      have n131 : ev (.tmp 131) = .bool true := (new 131 95 rfl).trans (hd 95 (by kernel_rfl))
      refine ⟨trivial, ?_⟩
      simp [YieldsV, go_sem, ev_c, ev_f, MP.eq, n125, n131]
      exact Below.refl _ _
    · as_aux_lemma =>
      intro ev vals W ev_c ev_f hW new old hd
      have n132 : ev (.tmp 132) = .bool true := (new 132 96 rfl).trans (hd 96 (by kernel_rfl))
      refine ⟨trivial, ?_⟩
      simp [YieldsV, go_sem, ev_c, ev_f, MP.eq, n132]
      exact Below.refl _ _
    · as_aux_lemma =>
      intro ev vals W ev_c ev_f hW new old hd
      have n9 : ev (.tmp 9) = rp kr := old 9 o9
      refine ⟨⟨hd 97 (by kernel_rfl), rfl⟩, ?_⟩
      simp [YieldsV, go_sem, ev_c, ev_f, MP.eq, n9]
      exact Below.refl _ _
    · as_aux_lemma =>
      intro ev vals W ev_c ev_f hW new old hd
      have n9 : ev (.tmp 9) = rp kr := old 9 o9
      refine ⟨⟨hd 97 (by kernel_rfl), rfl⟩, ?_⟩
      simp [YieldsV, go_sem, ev_c, ev_f, MP.eq, n9]
      exact Below.refl _ _
    · as_aux_lemma =>
      intro ev vals W ev_c ev_f hW new old hd
      have n5 : ev (.tmp 5) = .pointer (some ⟨w.heap.size + 1, 0, none⟩) := old 5 o5
      have u0 := Kn.get (s3.out.up hW.out) 4 0 rfl rfl
      have u1 := Kn.get (s3.out.up hW.out) 4 1 rfl rfl
      have u2 := Kn.get (s3.out.up hW.out) 4 2 rfl rfl
      have u3 := Kn.get (s3.out.up hW.out) 4 3 rfl rfl
      refine ⟨⟨hd 97 (by kernel_rfl), rfl⟩, ?_⟩
      simp [YieldsV, go_sem, ev_c, ev_f, MP.eq, n5, u0, u1, u2, u3]
      exact Below.refl _ _
    · as_aux_lemma =>
      intro ev vals W ev_c ev_f hW new old hd
      have n6 : ev (.tmp 6) = .pointer (some ⟨w.heap.size + 1 + 1, 0, none⟩) := old 6 o6
      have u0 := Kn.get (s3.out.up hW.out) 3 0 rfl rfl
      have u1 := Kn.get (s3.out.up hW.out) 3 1 rfl rfl
      have u2 := Kn.get (s3.out.up hW.out) 3 2 rfl rfl
      have u3 := Kn.get (s3.out.up hW.out) 3 3 rfl rfl
      refine ⟨⟨hd 97 (by kernel_rfl), rfl⟩, ?_⟩
      simp [YieldsV, go_sem, ev_c, ev_f, MP.eq, n6, u0, u1, u2, u3]
      exact Below.refl _ _
    · as_aux_lemma =>
      intro ev vals W ev_c ev_f hW new old hd
      have n135 : ev (.tmp 135) = rp kr := (new 135 99 rfl).trans (hd 99 (by kernel_rfl))
      have n136 : ev (.tmp 136) = N (a) := (new 136 100 rfl).trans (hd 100 (by kernel_rfl))
      have n137 : ev (.tmp 137) = N (b) := (new 137 101 rfl).trans (hd 101 (by kernel_rfl))
      refine ⟨⟨hd 97 (by kernel_rfl), rfl⟩, ?_⟩
      simp [YieldsV, go_sem, ev_c, ev_f, MP.eq, n135, n136, n137]
      exact (S1 _ _ (RingAt.ofKn (s3.out.up hW.out) 1 rfl)).mono fun e w' ⟨he, hb⟩ => ⟨_, he, rfl, hb⟩
    · as_aux_lemma =>
      intro ev vals W ev_c ev_f hW new old hd
      have n6 : ev (.tmp 6) = .pointer (some ⟨w.heap.size + 1 + 1, 0, none⟩) := old 6 o6
      have u0 := Kn.get (s3.out.up hW.out) 3 0 rfl rfl
      have u1 := Kn.get (s3.out.up hW.out) 3 1 rfl rfl
      have u2 := Kn.get (s3.out.up hW.out) 3 2 rfl rfl
      have u3 := Kn.get (s3.out.up hW.out) 3 3 rfl rfl
      refine ⟨⟨hd 97 (by kernel_rfl), rfl⟩, ?_⟩
      simp [YieldsV, go_sem, ev_c, ev_f, MP.eq, n6, u0, u1, u2, u3]
      exact Below.refl _ _
    · as_aux_lemma =>
      intro ev vals W ev_c ev_f hW new old hd
      have n134 : ev (.tmp 134) = rp kr := (new 134 98 rfl).trans (hd 98 (by kernel_rfl))
      have n138 : ev (.tmp 138) = N dab := (new 138 102 rfl).trans (hd 102 (by kernel_rfl))
      have n139 : ev (.tmp 139) = N (b) := (new 139 103 rfl).trans (hd 103 (by kernel_rfl))
      refine ⟨⟨hd 97 (by kernel_rfl), rfl⟩, ?_⟩
      simp [YieldsV, go_sem, ev_c, ev_f, MP.eq, n134, n138, n139]
      exact (A7 _ _ (RingAt.ofKn (s3.out.up hW.out) 1 rfl)).mono fun e w' ⟨he, hb⟩ => ⟨_, he, rfl, hb⟩
    · as_aux_lemma =>
      intro ev vals W ev_c ev_f hW new old hd
      have n11 : ev (.tmp 11) = .pointer (some ⟨w2.heap.size, 0, none⟩) := old 11 o11
      have u0 := Kn.get (s3.out.up hW.out) 0 0 rfl rfl
      have u1 := Kn.get (s3.out.up hW.out) 0 1 rfl rfl
      have u2 := Kn.get (s3.out.up hW.out) 0 2 rfl rfl
      have u3 := Kn.get (s3.out.up hW.out) 0 3 rfl rfl
      refine ⟨⟨hd 97 (by kernel_rfl), rfl⟩, ?_⟩
      simp [YieldsV, go_sem, ev_c, ev_f, MP.eq, n11, u0, u1, u2, u3]
      exact Below.refl _ _
    · as_aux_lemma =>
      intro ev vals W ev_c ev_f hW new old hd
      have n140 : ev (.tmp 140) = N lo := (new 140 104 rfl).trans (hd 104 (by kernel_rfl))
      have n141 : ev (.tmp 141) = N (lo) := (new 141 105 rfl).trans (hd 105 (by kernel_rfl))
      refine ⟨⟨hd 97 (by kernel_rfl), rfl⟩, ?_⟩
      simp [YieldsV, go_sem, ev_c, ev_f, MP.eq, n140, n141, e7]
      exact Below.refl _ _
    · as_aux_lemma =>
      intro ev vals W ev_c ev_f hW new old hd
      have n133 : ev (.tmp 133) = .bool true := (new 133 97 rfl).trans (hd 97 (by kernel_rfl))
      have n142 : ev (.tmp 142) = .bool true := (new 142 106 rfl).trans (hd 106 (by kernel_rfl))
      refine ⟨trivial, ?_⟩
      simp [YieldsV, go_sem, ev_c, ev_f, MP.eq, n133, n142]
      exact Below.refl _ _
    · as_aux_lemma =>
      intro ev vals W ev_c ev_f hW new old hd
      have n143 : ev (.tmp 143) = .bool true := (new 143 107 rfl).trans (hd 107 (by kernel_rfl))
      refine ⟨trivial, ?_⟩
      simp [YieldsV, go_sem, ev_c, ev_f, MP.eq, n143]
      exact Below.refl _ _
    · as_aux_lemma =>
      intro ev vals W ev_c ev_f hW new old hd
      have n9 : ev (.tmp 9) = rp kr := old 9 o9
      refine ⟨⟨hd 108 (by kernel_rfl), rfl⟩, ?_⟩
      simp [YieldsV, go_sem, ev_c, ev_f, MP.eq, n9]
      exact Below.refl _ _
    · as_aux_lemma =>
      intro ev vals W ev_c ev_f hW new old hd
      have n9 : ev (.tmp 9) = rp kr := old 9 o9
      refine ⟨⟨hd 108 (by kernel_rfl), rfl⟩, ?_⟩
      simp [YieldsV, go_sem, ev_c, ev_f, MP.eq, n9]
      exact Below.refl _ _
    · as_aux_lemma =>
      intro ev vals W ev_c ev_f hW new old hd
      refine ⟨⟨hd 108 (by kernel_rfl), rfl⟩, ?_⟩
      simp [YieldsV, go_sem, ev_c, ev_f, MP.eq]
      exact Below.refl _ _
    · as_aux_lemma =>
      intro ev vals W ev_c ev_f hW new old hd
      have n5 : ev (.tmp 5) = .pointer (some ⟨w.heap.size + 1, 0, none⟩) := old 5 o5
      have u0 := Kn.get (s3.out.up hW.out) 4 0 rfl rfl
      have u1 := Kn.get (s3.out.up hW.out) 4 1 rfl rfl
      have u2 := Kn.get (s3.out.up hW.out) 4 2 rfl rfl
      have u3 := Kn.get (s3.out.up hW.out) 4 3 rfl rfl
      refine ⟨⟨hd 108 (by kernel_rfl), rfl⟩, ?_⟩
      simp [YieldsV, go_sem, ev_c, ev_f, MP.eq, n5, u0, u1, u2, u3]
      exact Below.refl _ _
    · as_aux_lemma =>
      intro ev vals W ev_c ev_f hW new old hd
      have n146 : ev (.tmp 146) = rp kr := (new 146 110 rfl).trans (hd 110 (by kernel_rfl))
      have n147 : ev (.tmp 147) = N ⟨0, 0, 0, 0⟩ := (new 147 111 rfl).trans (hd 111 (by kernel_rfl))
      have n148 : ev (.tmp 148) = N (a) := (new 148 112 rfl).trans (hd 112 (by kernel_rfl))
      refine ⟨⟨hd 108 (by kernel_rfl), rfl⟩, ?_⟩
      simp [YieldsV, go_sem, ev_c, ev_f, MP.eq, n146, n147, n148]
      exact (S2 _ _ (RingAt.ofKn (s3.out.up hW.out) 1 rfl)).mono fun e w' ⟨he, hb⟩ => ⟨_, he, rfl, hb⟩
    · as_aux_lemma =>
      intro ev vals W ev_c ev_f hW new old hd
      have n9 : ev (.tmp 9) = rp kr := old 9 o9
      refine ⟨⟨hd 108 (by kernel_rfl), rfl⟩, ?_⟩
      simp [YieldsV, go_sem, ev_c, ev_f, MP.eq, n9]
      exact Below.refl _ _
    · as_aux_lemma =>
      intro ev vals W ev_c ev_f hW new old hd
      refine ⟨⟨hd 108 (by kernel_rfl), rfl⟩, ?_⟩
      simp [YieldsV, go_sem, ev_c, ev_f, MP.eq]
      exact Below.refl _ _
    · as_aux_lemma =>
      intro ev vals W ev_c ev_f hW new old hd
      have n6 : ev (.tmp 6) = .pointer (some ⟨w.heap.size + 1 + 1, 0, none⟩) := old 6 o6
      have u0 := Kn.get (s3.out.up hW.out) 3 0 rfl rfl
      have u1 := Kn.get (s3.out.up hW.out) 3 1 rfl rfl
      have u2 := Kn.get (s3.out.up hW.out) 3 2 rfl rfl
      have u3 := Kn.get (s3.out.up hW.out) 3 3 rfl rfl
      refine ⟨⟨hd 108 (by kernel_rfl), rfl⟩, ?_⟩
      simp [YieldsV, go_sem, ev_c, ev_f, MP.eq, n6, u0, u1, u2, u3]
      exact Below.refl _ _
    · as_aux_lemma =>
      intro ev vals W ev_c ev_f hW new old hd
      have n150 : ev (.tmp 150) = rp kr := (new 150 114 rfl).trans (hd 114 (by kernel_rfl))
      have n151 : ev (.tmp 151) = N ⟨0, 0, 0, 0⟩ := (new 151 115 rfl).trans (hd 115 (by kernel_rfl))
      have n152 : ev (.tmp 152) = N (b) := (new 152 116 rfl).trans (hd 116 (by kernel_rfl))
      refine ⟨⟨hd 108 (by kernel_rfl), rfl⟩, ?_⟩
      simp [YieldsV, go_sem, ev_c, ev_f, MP.eq, n150, n151, n152]
      exact (S3 _ _ (RingAt.ofKn (s3.out.up hW.out) 1 rfl)).mono fun e w' ⟨he, hb⟩ => ⟨_, he, rfl, hb⟩
    · as_aux_lemma =>
      intro ev vals W ev_c ev_f hW new old hd
      have n145 : ev (.tmp 145) = rp kr := (new 145 109 rfl).trans (hd 109 (by kernel_rfl))
      have n149 : ev (.tmp 149) = N na := (new 149 113 rfl).trans (hd 113 (by kernel_rfl))
      have n153 : ev (.tmp 153) = N nb := (new 153 117 rfl).trans (hd 117 (by kernel_rfl))
      refine ⟨⟨hd 108 (by kernel_rfl), rfl⟩, ?_⟩
      simp [YieldsV, go_sem, ev_c, ev_f, MP.eq, n145, n149, n153]
      exact (T9 _ _ (RingAt.ofKn (s3.out.up hW.out) 1 rfl)).mono fun e w' ⟨he, hb⟩ => ⟨_, he, rfl, hb⟩
    · as_aux_lemma =>
      intro ev vals W ev_c ev_f hW new old hd
      have n9 : ev (.tmp 9) = rp kr := old 9 o9
      refine ⟨⟨hd 108 (by kernel_rfl), rfl⟩, ?_⟩
      simp [YieldsV, go_sem, ev_c, ev_f, MP.eq, n9]
      exact Below.refl _ _
    · as_aux_lemma =>
      intro ev vals W ev_c ev_f hW new old hd
      have n5 : ev (.tmp 5) = .pointer (some ⟨w.heap.size + 1, 0, none⟩) := old 5 o5
      have u0 := Kn.get (s3.out.up hW.out) 4 0 rfl rfl
      have u1 := Kn.get (s3.out.up hW.out) 4 1 rfl rfl
      have u2 := Kn.get (s3.out.up hW.out) 4 2 rfl rfl
      have u3 := Kn.get (s3.out.up hW.out) 4 3 rfl rfl
      refine ⟨⟨hd 108 (by kernel_rfl), rfl⟩, ?_⟩
      simp [YieldsV, go_sem, ev_c, ev_f, MP.eq, n5, u0, u1, u2, u3]
      exact Below.refl _ _
    · as_aux_lemma =>
      intro ev vals W ev_c ev_f hW new old hd
      have n6 : ev (.tmp 6) = .pointer (some ⟨w.heap.size + 1 + 1, 0, none⟩) := old 6 o6
      have u0 := Kn.get (s3.out.up hW.out) 3 0 rfl rfl
      have u1 := Kn.get (s3.out.up hW.out) 3 1 rfl rfl
      have u2 := Kn.get (s3.out.up hW.out) 3 2 rfl rfl
      have u3 := Kn.get (s3.out.up hW.out) 3 3 rfl rfl
      refine ⟨⟨hd 108 (by kernel_rfl), rfl⟩, ?_⟩
      simp [YieldsV, go_sem, ev_c, ev_f, MP.eq, n6, u0, u1, u2, u3]
      exact Below.refl _ _
    · as_aux_lemma =>
      intro ev vals W ev_c ev_f hW new old hd
      have n155 : ev (.tmp 155) = rp kr := (new 155 119 rfl).trans (hd 119 (by kernel_rfl))
      have n156 : ev (.tmp 156) = N (a) := (new 156 120 rfl).trans (hd 120 (by kernel_rfl))
      have n157 : ev (.tmp 157) = N (b) := (new 157 121 rfl).trans (hd 121 (by kernel_rfl))
      refine ⟨⟨hd 108 (by kernel_rfl), rfl⟩, ?_⟩
      simp [YieldsV, go_sem, ev_c, ev_f, MP.eq, n155, n156, n157]
      exact (T1 _ _ (RingAt.ofKn (s3.out.up hW.out) 1 rfl)).mono fun e w' ⟨he, hb⟩ => ⟨_, he, rfl, hb⟩
    · as_aux_lemma =>
      intro ev vals W ev_c ev_f hW new old hd
      have n154 : ev (.tmp 154) = N p := (new 154 118 rfl).trans (hd 118 (by kernel_rfl))
      have n158 : ev (.tmp 158) = N p := (new 158 122 rfl).trans (hd 122 (by kernel_rfl))
      refine ⟨⟨hd 108 (by kernel_rfl), rfl⟩, ?_⟩
      simp [YieldsV, go_sem, ev_c, ev_f, MP.eq, n154, n158, e4]
      exact Below.refl _ _
    · as_aux_lemma =>
      intro ev vals W ev_c ev_f hW new old hd
      have n144 : ev (.tmp 144) = .bool true := (new 144 108 rfl).trans (hd 108 (by kernel_rfl))
      have n159 : ev (.tmp 159) = .bool true := (new 159 123 rfl).trans (hd 123 (by kernel_rfl))
      refine ⟨trivial, ?_⟩
      simp [YieldsV, go_sem, ev_c, ev_f, MP.eq, n144, n159]
      exact Below.refl _ _
    · as_aux_lemma =>
      intro ev vals W ev_c ev_f hW new old hd
      have n160 : ev (.tmp 160) = .bool true := (new 160 124 rfl).trans (hd 124 (by kernel_rfl))
      refine ⟨trivial, ?_⟩
      simp [YieldsV, go_sem, ev_c, ev_f, MP.eq, n160]
      exact Below.refl _ _
  intro vals4 w4 hb4 hF B hBd hB
  have e125 : vals4 125 = .bool true := by simpa [MP.eq] using FinAll.get 0 _ hF 125 (by simp)
  have h8 := hB 8 125 rfl
  rw [e125] at h8
  clear hF hB
  obtain ⟨tmB, dfB⟩ := B
  simp only at hBd
  subst hBd
  have s4 : Hid (Kn w4 [(w2.heap.size, (c4 (lo))), (kr, (c16 m iv on tw)), (w.heap.size + 1 + 1 + 1, (c4 (c))), (w.heap.size + 1 + 1, (c4 (b))), (w.heap.size + 1, (c4 (a))), (w.heap.size, (c4 (m)))]) := s3.out.up hb4.out
  have b4 : Hid (Below w.heap.size w w4) := b3.out.trans (hb4.out.mono b3.out.size)
  have z4 := b4.out.size
  clear hb4 s3 b3
  go_wp2_with fail
  go_ret
  exact ⟨by simp only [Array.getD_eq_getD_getElem?, h8, Option.getD_some], b4.out⟩
theorem negs (m x y : Nat) (hm : 0 < m) : (0 + (m - x % m)) % m * ((0 + (m - y % m)) % m) % m = x * y % m := by
  have key : ∀ u v, u < m → v < m → (m - u) * (m - v) % m = u * v % m := by
    intro u v hu hv
    obtain ⟨p, hp⟩ : ∃ p, m = u + p := ⟨m - u, by omega⟩
    obtain ⟨q, hq⟩ : ∃ q, m = v + q := ⟨m - v, by omega⟩
    have e1 : m - u = p := by omega
    have e2 : m - v = q := by omega
    rw [e1, e2]
    have h : p * q + m * (u + v) = u * v + m * m := by
      clear e1 e2 hu hv
      grind
    have := congrArg (· % m) h
    simpa using this
  rw [Nat.zero_add, Nat.zero_add, ← Nat.mul_mod, key _ _ (Nat.mod_lt _ hm) (Nat.mod_lt _ hm), ← Nat.mul_mod]
theorem ringLaws_law (m a b c : Nm) (om : m.ok) (oa : a.ok) (ob : b.ok) (oc : c.ok) (w : World) :
    Calls Try.prog 7 #[N m, N a, N b, N c] w fun e w' => e = .returned (.bool true) ∧ Below w.heap.size w w' := by
  rcases odd_cases m om with hb | ⟨odd, big⟩
  · refine ringLaws_bad m a b c om ?_ (new_bad m om hb) w
    rcases hb with h | h
    · exact .inl (by have := Nm.nat_cast om; unfold Nm.val at this; omega)
    · exact .inr h
  have R := new_ok m om odd big
  have hm : 0 < m.nat := by omega
  have ia : ∀ x, (nm (x % m.nat)).nat = x % m.nat := fun x => nm_nat (mod_ok om hm _)
  have A0 := fun k w hR => ringAdd_fun (k := k) R a ⟨0, 0, 0, 0⟩ oa zero_ok' w hR
  rw [show (⟨0, 0, 0, 0⟩ : Nm).nat = 0 from rfl, Nat.add_zero] at A0
  have A2 := fun k w hR => ringAdd_fun (k := k) R b a ob oa w hR
  rw [Nat.add_comm] at A2
  have A3 := fun k w hR => ringAdd_fun (k := k) R (nm ((a.nat + b.nat) % m.nat)) c (nm_ok _) oc w hR
  rw [ia, Nat.mod_add_mod] at A3
  have A5 := fun k w hR => ringAdd_fun (k := k) R a (nm ((b.nat + c.nat) % m.nat)) oa (nm_ok _) w hR
  rw [ia, Nat.add_mod_mod, ← Nat.add_assoc] at A5
  have T2 := fun k w hR => ringMul_fun (k := k) R b a ob oa w hR
  rw [Nat.mul_comm] at T2
  have T3 := fun k w hR => ringMul_fun (k := k) R (nm (a.nat * b.nat % m.nat)) c (nm_ok _) oc w hR
  rw [ia, Nat.mod_mul_mod] at T3
  have T5 := fun k w hR => ringMul_fun (k := k) R a (nm (b.nat * c.nat % m.nat)) oa (nm_ok _) w hR
  rw [ia, Nat.mul_mod_mod, ← Nat.mul_assoc] at T5
  have T6 := fun k w hR => ringMul_fun (k := k) R a (nm ((b.nat + c.nat) % m.nat)) oa (nm_ok _) w hR
  rw [ia, Nat.mul_mod_mod, Nat.mul_add] at T6
  have A6 := fun k w hR => ringAdd_fun (k := k) R (nm (a.nat * b.nat % m.nat)) (nm (a.nat * c.nat % m.nat)) (nm_ok _) (nm_ok _) w hR
  rw [ia, ia, ← Nat.add_mod] at A6
  have T8 := fun k w hR => ringMul_fun (k := k) R a ⟨1, 0, 0, 0⟩ oa one_ok' w hR
  rw [show (⟨1, 0, 0, 0⟩ : Nm).nat = 1 from rfl, Nat.mul_one] at T8
  have A7 := fun k w hR => ringAdd_fun (k := k) R (nm ((a.nat + (m.nat - b.nat % m.nat)) % m.nat)) b (nm_ok _) ob w hR
  have e7 : ((nm ((a.nat + (m.nat - b.nat % m.nat)) % m.nat)).nat + b.nat) % m.nat = a.nat % m.nat := by
    have lb := Nat.mod_lt b.nat hm
    rw [ia, Nat.mod_add_mod, ← Nat.add_mod_mod, show a.nat + (m.nat - b.nat % m.nat) + b.nat % m.nat = a.nat + m.nat by omega, Nat.add_mod_right]
  rw [e7] at A7
  have T9 := fun k w hR => ringMul_fun (k := k) R (nm (((⟨0, 0, 0, 0⟩ : Nm).nat + (m.nat - a.nat % m.nat)) % m.nat)) (nm (((⟨0, 0, 0, 0⟩ : Nm).nat + (m.nat - b.nat % m.nat)) % m.nat)) (nm_ok _) (nm_ok _) w hR
  rw [ia, ia, show (⟨0, 0, 0, 0⟩ : Nm).nat = 0 from rfl, negs m.nat a.nat b.nat hm] at T9
  refine ringLaws_good m (xk m 7) _ _ a b c _ _ _ _ _ _ _ _ _ _ _ _ (cmpV (nm (a.nat * b.nat % m.nat)) m) ?_ (new_good m om odd big) A0 (fun k w hR => ringMod_fun k m _ _ _ w hR) (fun k w hR => ringMul_fun R a b oa ob w hR) (cmp_fun _ m (nm_ok _) om)
    (fun k w hR => ringAdd_fun R a b oa ob w hR) A2 A3 (fun k w hR => ringAdd_fun R b c ob oc w hR) A5 T2 T3 (fun k w hR => ringMul_fun R b c ob oc w hR) T5 T6 (fun k w hR => ringMul_fun R a c oa oc w hR) A6 T8
    (fun k w hR => ringSub_fun R a b oa ob w hR) A7 (fun k w hR => ringSub_fun R ⟨0, 0, 0, 0⟩ a zero_ok' oa w hR) (fun k w hR => ringSub_fun R ⟨0, 0, 0, 0⟩ b zero_ok' ob w hR) T9 w
  unfold cmpV
  rw [if_pos (by rw [← Nm.nat_cast (nm_ok _), ← Nm.nat_cast om, ia]; exact Int.ofNat_lt.2 (Nat.mod_lt _ hm))]
  decide

set_option maxRecDepth 100000 in
theorem ringLaws_lifted (os : Os) (started : os.Started) (H : Type) (enc : TypeId × Value → H) :
    ReturnsInHanded {} Try.checked os 7 .any (Rows.ringLawsSpec.pre6 enc Try.prog Try.f7 Rows.ringLawsRow.domain false) (Rows.ringLawsSpec.post enc Try.prog Try.f7 false true false false) := by
  refine returnsInHanded_of_change (C := Try.checked) Try.own started (by kernel_rfl) Try.func7
    (ChangeSpec.witness6 (enc := enc) (C := Try.checked) false ⟨#[], #[.agg #[.int .u64 0, .int .u64 0, .int .u64 0, .int .u64 0], .agg #[.int .u64 0, .int .u64 0, .int .u64 0, .int .u64 0], .agg #[.int .u64 0, .int .u64 0, .int .u64 0, .int .u64 0], .agg #[.int .u64 0, .int .u64 0, .int .u64 0, .int .u64 0]], []⟩ 8 (by kernel_rfl) (by kernel_rfl) (by kernel_rfl) (by kernel_rfl)) ?_
  intro W base args ds gs before hval0 hW hcnd _
  have hval : ∀ (j : Nat) t v, Try.f7.params[j]? = some t → args[j]? = some v → Value.okWide Try.prog W .any base t v := hval0
  have hW' := hW
  obtain ⟨p, q, hA0, hV, rfl, hfz, hnd⟩ := hW
  have hA : DataW.TrodAll enc Try.prog W 0 (fun _ => true) true Try.f7.params.toList args.toList ds p := hA0
  rw [Try.params7] at hA hval
  obtain ⟨v0, v1, v2, v3, d0, d1, d2, d3, p0, p1, p2, p3, rfl, rfl, rfl, h0, h1, h2, h3⟩ := trodAll_four hA
  obtain ⟨rfl, rfl⟩ := trodVars_none hV
  obtain ⟨xs0, l0, rfl, rfl, rfl, w0⟩ := open_arr Try.underlying24 Try.underlying22 Try.cellsU64 Try.cellsNum (hval 0 24 v0 rfl rfl) h0
  obtain ⟨xs1, l1, rfl, rfl, rfl, w1⟩ := open_arr Try.underlying24 Try.underlying22 Try.cellsU64 Try.cellsNum (hval 1 24 v1 rfl rfl) h1
  obtain ⟨xs2, l2, rfl, rfl, rfl, w2⟩ := open_arr Try.underlying24 Try.underlying22 Try.cellsU64 Try.cellsNum (hval 2 24 v2 rfl rfl) h2
  obtain ⟨xs3, l3, rfl, rfl, rfl, w3⟩ := open_arr Try.underlying24 Try.underlying22 Try.cellsU64 Try.cellsNum (hval 3 24 v3 rfl rfl) h3
  clear hA0 hval0 hval hA h0 h1 h2 h3
  obtain ⟨a0, b0, c0, d0, rfl⟩ := list4 xs0 l0
  have ok0 : (⟨a0, b0, c0, d0⟩ : Nm).ok := ⟨word_of_wf (w0 _ (by simp)), word_of_wf (w0 _ (by simp)), word_of_wf (w0 _ (by simp)), word_of_wf (w0 _ (by simp))⟩
  obtain ⟨a1, b1, c1, d1, rfl⟩ := list4 xs1 l1
  have ok1 : (⟨a1, b1, c1, d1⟩ : Nm).ok := ⟨word_of_wf (w1 _ (by simp)), word_of_wf (w1 _ (by simp)), word_of_wf (w1 _ (by simp)), word_of_wf (w1 _ (by simp))⟩
  obtain ⟨a2, b2, c2, d2, rfl⟩ := list4 xs2 l2
  have ok2 : (⟨a2, b2, c2, d2⟩ : Nm).ok := ⟨word_of_wf (w2 _ (by simp)), word_of_wf (w2 _ (by simp)), word_of_wf (w2 _ (by simp)), word_of_wf (w2 _ (by simp))⟩
  obtain ⟨a3, b3, c3, d3, rfl⟩ := list4 xs3 l3
  have ok3 : (⟨a3, b3, c3, d3⟩ : Nm).ok := ⟨word_of_wf (w3 _ (by simp)), word_of_wf (w3 _ (by simp)), word_of_wf (w3 _ (by simp)), word_of_wf (w3 _ (by simp))⟩
  simp only [List.append_nil] at hW'
  refine (ringLaws_law ⟨a0, b0, c0, d0⟩ ⟨a1, b1, c1, d1⟩ ⟨a2, b2, c2, d2⟩ ⟨a3, b3, c3, d3⟩ ok0 ok1 ok2 ok3 W).mono fun e W' ⟨he, hg⟩ => ?_
  subst he
  exact ⟨_, rfl, _, _, _, [], [], [], hW', trodAll_mk1 (shut_bool Try.underlying4 _), trodAll_mk4 (shut_arr Try.underlying24 Try.underlying22 Try.cellsU64 Try.cellsNum l0 w0) (shut_arr Try.underlying24 Try.underlying22 Try.cellsU64 Try.cellsNum l1 w1) (shut_arr Try.underlying24 Try.underlying22 Try.cellsU64 Try.cellsNum l2 w2) (shut_arr Try.underlying24 Try.underlying22 Try.cellsU64 Try.cellsNum l3 w3), rfl, hg.frame _, fun h => by cases h⟩

theorem ringLaws_holds : Rows.RingLawsSaid :=
  OpenClaim.holds_of_wide 7 Try.f7 rfl rfl rfl rfl rfl rfl rfl ⟨rfl, rfl, rfl, rfl, rfl⟩ rfl rfl rfl rfl rfl (by kernel_rfl) Try.func7 (by kernel_rfl)
    (of_decide_eq_true (by kernel_rfl)) (by unfold Func.isWrapper; first | (rw [if_pos (by decide +kernel)]; kernel_rfl) | (rw [if_neg (by decide +kernel)]; exact ⟨rfl, rfl⟩))
    (fun os started H enc _ => ringLaws_lifted os started H enc)
#print axioms ringLaws_holds
end Go.Proofs.Ytgdekdmdidahdaa
