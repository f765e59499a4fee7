/- Package curve, as it landed: one, curveD, Zero, Base, On, Neg. -/
import Derived.Test.YtpnfopakkaoibaaQMulWToAdN
import Derived.Test.YtpnfopakkaoibaaQFieldIs
import Derived.Test.YtpnfopakkaoibaaQPrimeLToCProj
import Derived.Test.YtpnfopakkaoibaaQUpV
namespace Go.Proofs.Ytpnfopakkaoibaa
open Go.RowKit
attribute [local go_sem] World.cell?_alloc_some cell_alloc2 cell_alloc3 cell_alloc4 frozen?_alloc_cells frozen_out
set_option linter.unusedSimpArgs false
abbrev nO : Nm := ⟨0, 0, 0, 0⟩
abbrev nI : Nm := ⟨1, 0, 0, 0⟩
abbrev dN : Nm := ⟨8496970652267935907, 31536524315187371, 10144147576115030168, 5909686906226998899⟩
theorem nO_nm : nO = nm 0 := by unfold nm Nm.of; congr 1
theorem nI_nm : nI = nm 1 := by unfold nm Nm.of; congr 1
theorem dN_nm : dN = nm Cv.d := by unfold nm Nm.of; congr 1
theorem nI_ok : nI.ok := by rw [nI_nm]; exact nm_ok _
theorem dN_ok : dN.ok := by rw [dN_nm]; exact nm_ok _
theorem nI_nat : nI.nat = 1 := by rw [nI_nm]; exact nm_nat (by decide)
theorem dN_nat : dN.nat = Cv.d := by rw [dN_nm]; exact nm_nat (Nat.lt_trans Cv.d_lt F.p_lt)
set_option maxHeartbeats 1000000 in
theorem cone_walk (w : World) : Calls Try.prog 37 #[] w fun e w' => e = .returned (N nI) ∧ Below w.heap.size w w' := by
  go_enter Try.func37, Try.ntmps37
  have s0 : Hid (Kn (kal4 w (nI)) [(w.heap.size, (c4 (nI)))]) := ((Kn.nil w).al (c4 (nI)) 28 rfl)
  have b0 : Hid (Below w.heap.size w (kal4 w (nI))) := ((Below.refl _ _).alloc (Nat.le_refl _) _)
  go_wp2_with fail
  have urr_0 : (kal4 w (nI)).cell? ⟨w.heap.size, 0, none⟩ = some (.int .u64 (nI).a) := Kn.get s0.out 0 0 rfl rfl
  have urr_1 : (kal4 w (nI)).cell? ⟨w.heap.size, 1, none⟩ = some (.int .u64 (nI).b) := Kn.get s0.out 0 1 rfl rfl
  have urr_2 : (kal4 w (nI)).cell? ⟨w.heap.size, 2, none⟩ = some (.int .u64 (nI).c) := Kn.get s0.out 0 2 rfl rfl
  have urr_3 : (kal4 w (nI)).cell? ⟨w.heap.size, 3, none⟩ = some (.int .u64 (nI).d) := Kn.get s0.out 0 3 rfl rfl
  refine bodyPost_ret (v := N nI) ?_ rfl ⟨rfl, b0.out⟩
  show (results Try.f37 _).run Try.prog (kal4 w (nI)) = .ok _ (kal4 w (nI))
  clear s0 b0
  generalize (kal4 w (nI)) = W9 at *
  simp [results, Try.results37, go_sem, urr_0, urr_1, urr_2, urr_3]
set_option maxHeartbeats 1000000 in
theorem cD_walk (w : World) : Calls Try.prog 38 #[] w fun e w' => e = .returned (N dN) ∧ Below w.heap.size w w' := by
  go_enter Try.func38, Try.ntmps38
  have s0 : Hid (Kn (kal4 w (dN)) [(w.heap.size, (c4 (dN)))]) := ((Kn.nil w).al (c4 (dN)) 28 rfl)
  have b0 : Hid (Below w.heap.size w (kal4 w (dN))) := ((Below.refl _ _).alloc (Nat.le_refl _) _)
  go_wp2_with fail
  have urr_0 : (kal4 w (dN)).cell? ⟨w.heap.size, 0, none⟩ = some (.int .u64 (dN).a) := Kn.get s0.out 0 0 rfl rfl
  have urr_1 : (kal4 w (dN)).cell? ⟨w.heap.size, 1, none⟩ = some (.int .u64 (dN).b) := Kn.get s0.out 0 1 rfl rfl
  have urr_2 : (kal4 w (dN)).cell? ⟨w.heap.size, 2, none⟩ = some (.int .u64 (dN).c) := Kn.get s0.out 0 2 rfl rfl
  have urr_3 : (kal4 w (dN)).cell? ⟨w.heap.size, 3, none⟩ = some (.int .u64 (dN).d) := Kn.get s0.out 0 3 rfl rfl
  refine bodyPost_ret (v := N dN) ?_ rfl ⟨rfl, b0.out⟩
  show (results Try.f38 _).run Try.prog (kal4 w (dN)) = .ok _ (kal4 w (dN))
  clear s0 b0
  generalize (kal4 w (dN)) = W9 at *
  simp [results, Try.results38, go_sem, urr_0, urr_1, urr_2, urr_3]
set_option maxHeartbeats 1000000 in
theorem cZero_walk (w : World) : Calls Try.prog 67 #[] w fun e w' => e = .returned (Wv nO nI) ∧ Below w.heap.size w w' := by
  go_enter Try.func67, Try.ntmps67
  have s0 : Hid (Kn (kzP w) [(w.heap.size, zz8)]) := ((Kn.nil w).al zz8 35 rfl)
  have b0 : Hid (Below w.heap.size w (kzP w)) := ((Below.refl _ _).alloc (Nat.le_refl _) _)
  go_wp2_with fail
  refine (cone_walk _).mono ?_
  rintro e w1 ⟨rfl, hb1⟩
  have s1 : Hid (Kn w1 [(w.heap.size, zz8)]) := s0.out.up hb1
  have b1 : Hid (Below w.heap.size w w1) := b0.out.trans (hb1.mono b0.out.size)
  have z1 := b1.out.size
  clear hb1 s0 b0
  have uro_0 : w1.cell? ⟨w.heap.size, 0, none⟩ = some (.int .u64 0) := Kn.get s1.out 0 0 rfl rfl
  have uro_1 : w1.cell? ⟨w.heap.size, 1, none⟩ = some (.int .u64 0) := Kn.get s1.out 0 1 rfl rfl
  have uro_2 : w1.cell? ⟨w.heap.size, 2, none⟩ = some (.int .u64 0) := Kn.get s1.out 0 2 rfl rfl
  have uro_3 : w1.cell? ⟨w.heap.size, 3, none⟩ = some (.int .u64 0) := Kn.get s1.out 0 3 rfl rfl
  have uro_4 : w1.cell? ⟨w.heap.size, 4, none⟩ = some (.int .u64 0) := Kn.get s1.out 0 4 rfl rfl
  have uro_5 : w1.cell? ⟨w.heap.size, 5, none⟩ = some (.int .u64 0) := Kn.get s1.out 0 5 rfl rfl
  have uro_6 : w1.cell? ⟨w.heap.size, 6, none⟩ = some (.int .u64 0) := Kn.get s1.out 0 6 rfl rfl
  have uro_7 : w1.cell? ⟨w.heap.size, 7, none⟩ = some (.int .u64 0) := Kn.get s1.out 0 7 rfl rfl
  have uro_z : ∀ j, w1.frozen? ⟨w.heap.size, j, none⟩ = false := Kn.fz s1.out 0 rfl
  have s2 : Hid (Kn (st8 w1 (w.heap.size) (nO) (nI)) [(w.heap.size, (c8 (nO) (nI)))]) := Kn.st8 (L := []) (s1.out.front 0 rfl) (nO) (nI)
  have b2 : Hid (Below w.heap.size w (st8 w1 (w.heap.size) (nO) (nI))) := below_st8 b1.out (by omega)
  clear s1 b1
  go_wp2_with fail
  clear uro_0 uro_1 uro_2 uro_3 uro_4 uro_5 uro_6 uro_7 uro_z
  have urr_0 : (st8 w1 (w.heap.size) (nO) (nI)).cell? ⟨w.heap.size, 0, none⟩ = some (.int .u64 (nO).a) := Kn.get s2.out 0 0 rfl rfl
  have urr_1 : (st8 w1 (w.heap.size) (nO) (nI)).cell? ⟨w.heap.size, 1, none⟩ = some (.int .u64 (nO).b) := Kn.get s2.out 0 1 rfl rfl
  have urr_2 : (st8 w1 (w.heap.size) (nO) (nI)).cell? ⟨w.heap.size, 2, none⟩ = some (.int .u64 (nO).c) := Kn.get s2.out 0 2 rfl rfl
  have urr_3 : (st8 w1 (w.heap.size) (nO) (nI)).cell? ⟨w.heap.size, 3, none⟩ = some (.int .u64 (nO).d) := Kn.get s2.out 0 3 rfl rfl
  have urr_4 : (st8 w1 (w.heap.size) (nO) (nI)).cell? ⟨w.heap.size, 4, none⟩ = some (.int .u64 (nI).a) := Kn.get s2.out 0 4 rfl rfl
  have urr_5 : (st8 w1 (w.heap.size) (nO) (nI)).cell? ⟨w.heap.size, 5, none⟩ = some (.int .u64 (nI).b) := Kn.get s2.out 0 5 rfl rfl
  have urr_6 : (st8 w1 (w.heap.size) (nO) (nI)).cell? ⟨w.heap.size, 6, none⟩ = some (.int .u64 (nI).c) := Kn.get s2.out 0 6 rfl rfl
  have urr_7 : (st8 w1 (w.heap.size) (nO) (nI)).cell? ⟨w.heap.size, 7, none⟩ = some (.int .u64 (nI).d) := Kn.get s2.out 0 7 rfl rfl
  refine bodyPost_ret (v := Wv nO nI) ?_ rfl ⟨rfl, b2.out⟩
  show (results Try.f67 _).run Try.prog (st8 w1 (w.heap.size) (nO) (nI)) = .ok _ (st8 w1 (w.heap.size) (nO) (nI))
  clear s2 b2
  generalize (st8 w1 (w.heap.size) (nO) (nI)) = W9 at *
  simp [results, Try.results67, go_sem, urr_0, urr_1, urr_2, urr_3, urr_4, urr_5, urr_6, urr_7]
set_option maxHeartbeats 1000000 in
theorem cOn_a (px py lx : Nm) (e1 : ∀ w, (binOp .neq 28 (N px) (N lx)).run Try.prog w = .ok (.bool true) w)
    (L1 : ∀ w, Calls Try.prog 33 #[N px] w fun e w' => e = .returned (N lx) ∧ Below w.heap.size w w')
    (w : World) :
    Calls Try.prog 15 #[Wv px py] w fun e w' => e = .returned (.bool false) ∧ Below w.heap.size w w' := by
  go_enter Try.func15, Try.ntmps15
  have s0 : Hid (Kn (kalP w (px) (py)) [(w.heap.size, (c8 (px) (py)))]) := ((Kn.nil w).al (c8 (px) (py)) 35 rfl)
  have b0 : Hid (Below w.heap.size w (kalP w (px) (py))) := ((Below.refl _ _).alloc (Nat.le_refl _) _)
  go_wp2_with fail
  refine wp_region_up (by kernel_rfl) (by kernel_rfl) (fun U hU f hf hcl => ?_)
  have up_0 := fun nx => (Kn.get (s0.out.up (hf nx).out) 0 0 rfl rfl : (f nx).cell? ⟨w.heap.size, 0, none⟩ = some (.int .u64 (px).a))
  have up_1 := fun nx => (Kn.get (s0.out.up (hf nx).out) 0 1 rfl rfl : (f nx).cell? ⟨w.heap.size, 1, none⟩ = some (.int .u64 (px).b))
  have up_2 := fun nx => (Kn.get (s0.out.up (hf nx).out) 0 2 rfl rfl : (f nx).cell? ⟨w.heap.size, 2, none⟩ = some (.int .u64 (px).c))
  have up_3 := fun nx => (Kn.get (s0.out.up (hf nx).out) 0 3 rfl rfl : (f nx).cell? ⟨w.heap.size, 3, none⟩ = some (.int .u64 (px).d))
  have up_4 := fun nx => (Kn.get (s0.out.up (hf nx).out) 0 4 rfl rfl : (f nx).cell? ⟨w.heap.size, 4, none⟩ = some (.int .u64 (py).a))
  have up_5 := fun nx => (Kn.get (s0.out.up (hf nx).out) 0 5 rfl rfl : (f nx).cell? ⟨w.heap.size, 5, none⟩ = some (.int .u64 (py).b))
  have up_6 := fun nx => (Kn.get (s0.out.up (hf nx).out) 0 6 rfl rfl : (f nx).cell? ⟨w.heap.size, 6, none⟩ = some (.int .u64 (py).c))
  have up_7 := fun nx => (Kn.get (s0.out.up (hf nx).out) 0 7 rfl rfl : (f nx).cell? ⟨w.heap.size, 7, none⟩ = some (.int .u64 (py).d))
  try simp only [List.append_eq, List.cons_append, List.nil_append]
  repeat (go_big_quiet_step (first | (go_at_call_of 33 [Value.agg #[Value.int IntKind.u64 px.a, Value.int IntKind.u64 px.b, Value.int IntKind.u64 px.c, Value.int IntKind.u64 px.d]]; exact (L1 _).mono fun e w'' ⟨he, hb⟩ => ⟨he, hcl.out _ _ hb⟩)))
  refine wpQuiet_nil ?_
  intro nx
  have hb1 := (hf nx).out
  clear hf hcl up_0 up_1 up_2 up_3 up_4 up_5 up_6 up_7
  generalize f nx = w1 at hb1 ⊢
  have s1 : Hid (Kn w1 [(w.heap.size, (c8 (px) (py)))]) := s0.out.up hb1
  have b1 : Hid (Below w.heap.size w w1) := b0.out.trans (hb1.mono b0.out.size)
  have z1 := b1.out.size
  clear hb1 s0 b0
  go_wp2_with fail
  go_ret
  exact ⟨rfl, b1.out⟩
set_option maxHeartbeats 1000000 in
theorem cOn_b (px py ly : Nm) (e1 : ∀ w, (binOp .neq 28 (N px) (N px)).run Try.prog w = .ok (.bool false) w) (e2 : ∀ w, (binOp .neq 28 (N py) (N ly)).run Try.prog w = .ok (.bool true) w)
    (L1 : ∀ w, Calls Try.prog 33 #[N px] w fun e w' => e = .returned (N px) ∧ Below w.heap.size w w')
    (L2 : ∀ w, Calls Try.prog 33 #[N py] w fun e w' => e = .returned (N ly) ∧ Below w.heap.size w w')
    (w : World) :
    Calls Try.prog 15 #[Wv px py] w fun e w' => e = .returned (.bool false) ∧ Below w.heap.size w w' := by
  go_enter Try.func15, Try.ntmps15
  have s0 : Hid (Kn (kalP w (px) (py)) [(w.heap.size, (c8 (px) (py)))]) := ((Kn.nil w).al (c8 (px) (py)) 35 rfl)
  have b0 : Hid (Below w.heap.size w (kalP w (px) (py))) := ((Below.refl _ _).alloc (Nat.le_refl _) _)
  go_wp2_with fail
  refine wp_region_up (by kernel_rfl) (by kernel_rfl) (fun U hU f hf hcl => ?_)
  have up_0 := fun nx => (Kn.get (s0.out.up (hf nx).out) 0 0 rfl rfl : (f nx).cell? ⟨w.heap.size, 0, none⟩ = some (.int .u64 (px).a))
  have up_1 := fun nx => (Kn.get (s0.out.up (hf nx).out) 0 1 rfl rfl : (f nx).cell? ⟨w.heap.size, 1, none⟩ = some (.int .u64 (px).b))
  have up_2 := fun nx => (Kn.get (s0.out.up (hf nx).out) 0 2 rfl rfl : (f nx).cell? ⟨w.heap.size, 2, none⟩ = some (.int .u64 (px).c))
  have up_3 := fun nx => (Kn.get (s0.out.up (hf nx).out) 0 3 rfl rfl : (f nx).cell? ⟨w.heap.size, 3, none⟩ = some (.int .u64 (px).d))
  have up_4 := fun nx => (Kn.get (s0.out.up (hf nx).out) 0 4 rfl rfl : (f nx).cell? ⟨w.heap.size, 4, none⟩ = some (.int .u64 (py).a))
  have up_5 := fun nx => (Kn.get (s0.out.up (hf nx).out) 0 5 rfl rfl : (f nx).cell? ⟨w.heap.size, 5, none⟩ = some (.int .u64 (py).b))
  have up_6 := fun nx => (Kn.get (s0.out.up (hf nx).out) 0 6 rfl rfl : (f nx).cell? ⟨w.heap.size, 6, none⟩ = some (.int .u64 (py).c))
  have up_7 := fun nx => (Kn.get (s0.out.up (hf nx).out) 0 7 rfl rfl : (f nx).cell? ⟨w.heap.size, 7, none⟩ = some (.int .u64 (py).d))
  try simp only [List.append_eq, List.cons_append, List.nil_append]
  repeat (go_big_quiet_step (first | (go_at_call_of 33 [Value.agg #[Value.int IntKind.u64 px.a, Value.int IntKind.u64 px.b, Value.int IntKind.u64 px.c, Value.int IntKind.u64 px.d]]; exact (L1 _).mono fun e w'' ⟨he, hb⟩ => ⟨he, hcl.out _ _ hb⟩) | (go_at_call_of 33 [Value.agg #[Value.int IntKind.u64 py.a, Value.int IntKind.u64 py.b, Value.int IntKind.u64 py.c, Value.int IntKind.u64 py.d]]; exact (L2 _).mono fun e w'' ⟨he, hb⟩ => ⟨he, hcl.out _ _ hb⟩)))
  refine wpQuiet_nil ?_
  intro nx
  have hb1 := (hf nx).out
  clear hf hcl up_0 up_1 up_2 up_3 up_4 up_5 up_6 up_7
  generalize f nx = w1 at hb1 ⊢
  have s1 : Hid (Kn w1 [(w.heap.size, (c8 (px) (py)))]) := s0.out.up hb1
  have b1 : Hid (Below w.heap.size w w1) := b0.out.trans (hb1.mono b0.out.size)
  have z1 := b1.out.size
  clear hb1 s0 b0
  go_wp2_with fail
  go_ret
  exact ⟨rfl, b1.out⟩
set_option maxHeartbeats 1000000 in
theorem cOn_c (px py xa ya da ma sa ta : Nm) (b : Bool) (e1 : ∀ w, (binOp .neq 28 (N px) (N px)).run Try.prog w = .ok (.bool false) w) (e2 : ∀ w, (binOp .neq 28 (N py) (N py)).run Try.prog w = .ok (.bool false) w)
    (e3 : ∀ w, (binOp .eql 28 (N sa) (N ta)).run Try.prog w = .ok (.bool b) w)
    (L1 : ∀ w, Calls Try.prog 33 #[N px] w fun e w' => e = .returned (N px) ∧ Below w.heap.size w w')
    (L2 : ∀ w, Calls Try.prog 33 #[N py] w fun e w' => e = .returned (N py) ∧ Below w.heap.size w w')
    (M1 : ∀ w, Calls Try.prog 34 #[N px, N px] w fun e w' => e = .returned (N xa) ∧ Below w.heap.size w w')
    (M2 : ∀ w, Calls Try.prog 34 #[N py, N py] w fun e w' => e = .returned (N ya) ∧ Below w.heap.size w w')
    (S1 : ∀ w, Calls Try.prog 35 #[N ya, N xa] w fun e w' => e = .returned (N sa) ∧ Below w.heap.size w w')
    (M3 : ∀ w, Calls Try.prog 34 #[N xa, N ya] w fun e w' => e = .returned (N ma) ∧ Below w.heap.size w w')
    (M4 : ∀ w, Calls Try.prog 34 #[N dN, N ma] w fun e w' => e = .returned (N da) ∧ Below w.heap.size w w')
    (A1 : ∀ w, Calls Try.prog 36 #[N nI, N da] w fun e w' => e = .returned (N ta) ∧ Below w.heap.size w w')
    (w : World) :
    Calls Try.prog 15 #[Wv px py] w fun e w' => e = .returned (.bool b) ∧ Below w.heap.size w w' := by
  go_enter Try.func15, Try.ntmps15
  have s0 : Hid (Kn (kalP w (px) (py)) [(w.heap.size, (c8 (px) (py)))]) := ((Kn.nil w).al (c8 (px) (py)) 35 rfl)
  have b0 : Hid (Below w.heap.size w (kalP w (px) (py))) := ((Below.refl _ _).alloc (Nat.le_refl _) _)
  go_wp2_with fail
  refine wp_region_up (by kernel_rfl) (by kernel_rfl) (fun U hU f hf hcl => ?_)
  have up_0 := fun nx => (Kn.get (s0.out.up (hf nx).out) 0 0 rfl rfl : (f nx).cell? ⟨w.heap.size, 0, none⟩ = some (.int .u64 (px).a))
  have up_1 := fun nx => (Kn.get (s0.out.up (hf nx).out) 0 1 rfl rfl : (f nx).cell? ⟨w.heap.size, 1, none⟩ = some (.int .u64 (px).b))
  have up_2 := fun nx => (Kn.get (s0.out.up (hf nx).out) 0 2 rfl rfl : (f nx).cell? ⟨w.heap.size, 2, none⟩ = some (.int .u64 (px).c))
  have up_3 := fun nx => (Kn.get (s0.out.up (hf nx).out) 0 3 rfl rfl : (f nx).cell? ⟨w.heap.size, 3, none⟩ = some (.int .u64 (px).d))
  have up_4 := fun nx => (Kn.get (s0.out.up (hf nx).out) 0 4 rfl rfl : (f nx).cell? ⟨w.heap.size, 4, none⟩ = some (.int .u64 (py).a))
  have up_5 := fun nx => (Kn.get (s0.out.up (hf nx).out) 0 5 rfl rfl : (f nx).cell? ⟨w.heap.size, 5, none⟩ = some (.int .u64 (py).b))
  have up_6 := fun nx => (Kn.get (s0.out.up (hf nx).out) 0 6 rfl rfl : (f nx).cell? ⟨w.heap.size, 6, none⟩ = some (.int .u64 (py).c))
  have up_7 := fun nx => (Kn.get (s0.out.up (hf nx).out) 0 7 rfl rfl : (f nx).cell? ⟨w.heap.size, 7, none⟩ = some (.int .u64 (py).d))
  try simp only [List.append_eq, List.cons_append, List.nil_append]
  repeat (go_big_quiet_step (first | (go_at_call_of 33 [Value.agg #[Value.int IntKind.u64 px.a, Value.int IntKind.u64 px.b, Value.int IntKind.u64 px.c, Value.int IntKind.u64 px.d]]; exact (L1 _).mono fun e w'' ⟨he, hb⟩ => ⟨he, hcl.out _ _ hb⟩) | (go_at_call_of 33 [Value.agg #[Value.int IntKind.u64 py.a, Value.int IntKind.u64 py.b, Value.int IntKind.u64 py.c, Value.int IntKind.u64 py.d]]; exact (L2 _).mono fun e w'' ⟨he, hb⟩ => ⟨he, hcl.out _ _ hb⟩)))
  refine wpQuiet_nil ?_
  intro nx
  have hb1 := (hf nx).out
  clear hf hcl up_0 up_1 up_2 up_3 up_4 up_5 up_6 up_7
  generalize f nx = w1 at hb1 ⊢
  have s1 : Hid (Kn w1 [(w.heap.size, (c8 (px) (py)))]) := s0.out.up hb1
  have b1 : Hid (Below w.heap.size w w1) := b0.out.trans (hb1.mono b0.out.size)
  have z1 := b1.out.size
  clear hb1 s0 b0
  go_wp2_with fail
  refine wp_region_vars2 10 (.cells #[.int .u64 0, .int .u64 0, .int .u64 0, .int .u64 0] 28) (.cells #[.int .u64 0, .int .u64 0, .int .u64 0, .int .u64 0] 28) (.cells #[.int .u64 (xa).a, .int .u64 (xa).b, .int .u64 (xa).c, .int .u64 (xa).d] 28) (.cells #[.int .u64 (ya).a, .int .u64 (ya).b, .int .u64 (ya).c, .int .u64 (ya).d] 28) (by kernel_rfl) (by kernel_rfl) (by kernel_rfl) (by kernel_rfl) rfl rfl rfl rfl (by decide) rfl rfl (fun _ _ => by kernel_rfl) (fun _ _ => by kernel_rfl) ?_
  apply Exists.intro
  refine ⟨fun U hU f hf hcl => ?_, fun k j W hc => ?_, fun k j W hc => ?_, fun k2 j2 w2 hb2 hk2 hj2 hn2 hc2 hd2 => ?_⟩
  · skip
    have up_0 := fun nx => (Kn.get (s1.out.up (hf nx).out) 0 0 rfl rfl : (f nx).cell? ⟨w.heap.size, 0, none⟩ = some (.int .u64 (px).a))
    have up_1 := fun nx => (Kn.get (s1.out.up (hf nx).out) 0 1 rfl rfl : (f nx).cell? ⟨w.heap.size, 1, none⟩ = some (.int .u64 (px).b))
    have up_2 := fun nx => (Kn.get (s1.out.up (hf nx).out) 0 2 rfl rfl : (f nx).cell? ⟨w.heap.size, 2, none⟩ = some (.int .u64 (px).c))
    have up_3 := fun nx => (Kn.get (s1.out.up (hf nx).out) 0 3 rfl rfl : (f nx).cell? ⟨w.heap.size, 3, none⟩ = some (.int .u64 (px).d))
    have up_4 := fun nx => (Kn.get (s1.out.up (hf nx).out) 0 4 rfl rfl : (f nx).cell? ⟨w.heap.size, 4, none⟩ = some (.int .u64 (py).a))
    have up_5 := fun nx => (Kn.get (s1.out.up (hf nx).out) 0 5 rfl rfl : (f nx).cell? ⟨w.heap.size, 5, none⟩ = some (.int .u64 (py).b))
    have up_6 := fun nx => (Kn.get (s1.out.up (hf nx).out) 0 6 rfl rfl : (f nx).cell? ⟨w.heap.size, 6, none⟩ = some (.int .u64 (py).c))
    have up_7 := fun nx => (Kn.get (s1.out.up (hf nx).out) 0 7 rfl rfl : (f nx).cell? ⟨w.heap.size, 7, none⟩ = some (.int .u64 (py).d))
    clear hf
    simp only [List.take_succ_cons, List.take_zero]
    repeat (go_big_quiet_step (first | (go_at_call_of 34 [Value.agg #[Value.int IntKind.u64 px.a, Value.int IntKind.u64 px.b, Value.int IntKind.u64 px.c, Value.int IntKind.u64 px.d], Value.agg #[Value.int IntKind.u64 px.a, Value.int IntKind.u64 px.b, Value.int IntKind.u64 px.c, Value.int IntKind.u64 px.d]]; exact (M1 _).mono fun e w'' ⟨he, hb⟩ => ⟨he, hcl.out _ _ hb⟩) | (go_at_call_of 34 [Value.agg #[Value.int IntKind.u64 py.a, Value.int IntKind.u64 py.b, Value.int IntKind.u64 py.c, Value.int IntKind.u64 py.d], Value.agg #[Value.int IntKind.u64 py.a, Value.int IntKind.u64 py.b, Value.int IntKind.u64 py.c, Value.int IntKind.u64 py.d]]; exact (M2 _).mono fun e w'' ⟨he, hb⟩ => ⟨he, hcl.out _ _ hb⟩)))
    exact wpQuiet_nil rfl
  · obtain ⟨c0, c1, c2, c3, cz⟩ := cells4 hc.out
    exact ⟨(st4 W k (xa)), by simp [execOp, go_sem, c0, c1, c2, c3, cz], by first | exact heap_st4 hc.out _ | exact heap_st8 hc.out _ _, fun hk => by first | exact below_st4 (Below.refl _ _) hk | exact below_st8 (Below.refl _ _) hk, fun b hb => by first | exact heap_st4_ne hb | exact heap_st8_ne hb⟩
  · obtain ⟨c0, c1, c2, c3, cz⟩ := cells4 hc.out
    exact ⟨(st4 W j (ya)), by simp [execOp, go_sem, c0, c1, c2, c3, cz], by first | exact heap_st4 hc.out _ | exact heap_st8 hc.out _ _, fun hk => by first | exact below_st4 (Below.refl _ _) hk | exact below_st8 (Below.refl _ _) hk, fun b hb => by first | exact heap_st4_ne hb | exact heap_st8_ne hb⟩
  simp only [Act.put, List.setIfInBounds_toArray, List.set_cons_succ, List.set_cons_zero]
  have z2 := b1.out.size
  have g2 : w.heap.size ≤ k2 := Nat.le_trans b1.out.size hk2
  have gj2 : w.heap.size ≤ j2 := Nat.le_trans b1.out.size hj2
  have s2 : Hid (Kn w2 [(k2, (c4 (xa))), (j2, (c4 (ya))), (w.heap.size, (c8 (px) (py)))]) := s1.out.two hb2.out hk2 hj2 hn2.out hc2.out hd2.out
  have b2 : Hid (Below w.heap.size w w2) := b1.out.trans (hb2.out.mono b1.out.size)
  clear s1 b1 hb2 hc2 hd2 hk2 hj2
  go_wp2_with fail
  refine wp_region_up (by kernel_rfl) (by kernel_rfl) (fun U hU f hf hcl => ?_)
  have uxx_0 := fun nx => (Kn.get (s2.out.up (hf nx).out) 0 0 rfl rfl : (f nx).cell? ⟨k2, 0, none⟩ = some (.int .u64 (xa).a))
  have uxx_1 := fun nx => (Kn.get (s2.out.up (hf nx).out) 0 1 rfl rfl : (f nx).cell? ⟨k2, 1, none⟩ = some (.int .u64 (xa).b))
  have uxx_2 := fun nx => (Kn.get (s2.out.up (hf nx).out) 0 2 rfl rfl : (f nx).cell? ⟨k2, 2, none⟩ = some (.int .u64 (xa).c))
  have uxx_3 := fun nx => (Kn.get (s2.out.up (hf nx).out) 0 3 rfl rfl : (f nx).cell? ⟨k2, 3, none⟩ = some (.int .u64 (xa).d))
  have uyy_0 := fun nx => (Kn.get (s2.out.up (hf nx).out) 1 0 rfl rfl : (f nx).cell? ⟨j2, 0, none⟩ = some (.int .u64 (ya).a))
  have uyy_1 := fun nx => (Kn.get (s2.out.up (hf nx).out) 1 1 rfl rfl : (f nx).cell? ⟨j2, 1, none⟩ = some (.int .u64 (ya).b))
  have uyy_2 := fun nx => (Kn.get (s2.out.up (hf nx).out) 1 2 rfl rfl : (f nx).cell? ⟨j2, 2, none⟩ = some (.int .u64 (ya).c))
  have uyy_3 := fun nx => (Kn.get (s2.out.up (hf nx).out) 1 3 rfl rfl : (f nx).cell? ⟨j2, 3, none⟩ = some (.int .u64 (ya).d))
  try simp only [List.append_eq, List.cons_append, List.nil_append]
  repeat (go_big_quiet_step (first | (go_at_call 37; exact (cone_walk _).mono fun e w'' ⟨he, hb⟩ => ⟨he, hcl.out _ _ hb⟩) | (go_at_call 38; exact (cD_walk _).mono fun e w'' ⟨he, hb⟩ => ⟨he, hcl.out _ _ hb⟩) | (go_at_call 35; exact (S1 _).mono fun e w'' ⟨he, hb⟩ => ⟨he, hcl.out _ _ hb⟩) | (go_at_call_of 34 [Value.agg #[Value.int IntKind.u64 xa.a, Value.int IntKind.u64 xa.b, Value.int IntKind.u64 xa.c, Value.int IntKind.u64 xa.d], Value.agg #[Value.int IntKind.u64 ya.a, Value.int IntKind.u64 ya.b, Value.int IntKind.u64 ya.c, Value.int IntKind.u64 ya.d]]; exact (M3 _).mono fun e w'' ⟨he, hb⟩ => ⟨he, hcl.out _ _ hb⟩) | (go_at_call_of 34 [N dN, N ma]; exact (M4 _).mono fun e w'' ⟨he, hb⟩ => ⟨he, hcl.out _ _ hb⟩) | (go_at_call 36; exact (A1 _).mono fun e w'' ⟨he, hb⟩ => ⟨he, hcl.out _ _ hb⟩)))
  refine wpQuiet_nil ?_
  intro nx
  have hb3 := (hf nx).out
  clear hf hcl uxx_0 uxx_1 uxx_2 uxx_3 uyy_0 uyy_1 uyy_2 uyy_3
  generalize f nx = w3 at hb3 ⊢
  have s3 : Hid (Kn w3 [(k2, (c4 (xa))), (j2, (c4 (ya))), (w.heap.size, (c8 (px) (py)))]) := s2.out.up hb3
  have b3 : Hid (Below w.heap.size w w3) := b2.out.trans (hb3.mono b2.out.size)
  have z3 := b3.out.size
  clear hb3 s2 b2
  go_wp2_with fail
  go_ret
  exact ⟨rfl, b3.out⟩
theorem con_eq (x y : Nat) (hx : x < F.p) (hy : y < F.p) : F.sub (F.mul y y) (F.mul x x) = F.add 1 (F.mul Cv.d (F.mul (F.mul x x) (F.mul y y))) ↔ Cv.On (x, y) := by
  have k : Cv.K ((F.sub (F.mul y y) (F.mul x x) : Nat) - (F.add 1 (F.mul Cv.d (F.mul (F.mul x x) (F.mul y y))) : Nat)) (Cv.E x y) := by
    have kx := Cv.K_mul x x
    have ky := Cv.K_mul y y
    have k1 := (Cv.K_sub (F.mul y y) (F.mul x x)).trans (ky.sub kx)
    have k2 := (Cv.K_mul Cv.d (F.mul (F.mul x x) (F.mul y y))).trans ((Cv.K.refl (Cv.d : Int)).mul ((Cv.K_mul (F.mul x x) (F.mul y y)).trans (kx.mul ky)))
    have k3 := (Cv.K_add 1 (F.mul Cv.d (F.mul (F.mul x x) (F.mul y y)))).trans ((Cv.K.refl ((1 : Nat) : Int)).add k2)
    have e : ((y : Int) * y) - (x : Int) * x - (((1 : Nat) : Int) + (Cv.d : Int) * ((x : Int) * x * ((y : Int) * y))) = Cv.E x y := by
      unfold Cv.E
      grind
    rw [← e]
    exact k1.sub k3
  constructor
  · intro h
    refine ⟨hx, hy, ?_⟩
    have : Cv.Z ((F.sub (F.mul y y) (F.mul x x) : Nat) - (F.add 1 (F.mul Cv.d (F.mul (F.mul x x) (F.mul y y))) : Nat)) := by
      exact Cv.Z_eq.2 (congrArg (· % F.p) h)
    exact k.symm.z this
  · intro h
    have := Cv.Z_eq.1 (k.z h.2.2)
    rwa [Nat.mod_eq_of_lt (F.sub_lt _ _), Nat.mod_eq_of_lt (F.add_lt _ _)] at this
theorem cnm_self {x : Nm} (ox : x.ok) (h : x.nat < F.p) : nm (x.nat % F.p) = x := by rw [Nat.mod_eq_of_lt h]; exact (Nm.eq_nm ox rfl).symm
theorem cnm_ne {x : Nm} (h : ¬ x.nat < F.p) : x ≠ nm (x.nat % F.p) := fun e => h (by
  have := congrArg Nm.nat e
  rw [f_nat (F.mod_lt _)] at this
  rw [this]
  exact F.mod_lt _)
theorem eqF_dec {m n : Nat} (hm : m < F.p) (hn : n < F.p) (w : World) : (binOp .eql 28 (N (nm m)) (N (nm n))).run Try.prog w = .ok (.bool (decide (m = n))) w := by
  rw [eqN]
  by_cases h : m = n
  · subst h
    rw [Nm.beq_self, decide_eq_true rfl]
  · rw [decide_eq_false h, Nm.beq_ne (fun e => h ((f_inj hm hn).1 e))]
theorem cOn_fun (px py : Nm) (ox : px.ok) (oy : py.ok) (w : World) : ∃ b : Bool, (b = true ↔ Cv.On (px.nat, py.nat)) ∧ Calls Try.prog 15 #[Wv px py] w fun e w' => e = .returned (.bool b) ∧ Below w.heap.size w w' := by
  have L1 := fLowC px ox
  have L2 := fLowC py oy
  by_cases h1 : px.nat < F.p
  · have e1 := neN px px
    rw [Nm.beq_self] at e1
    rw [cnm_self ox h1] at L1
    by_cases h2 : py.nat < F.p
    · have e2 := neN py py
      rw [Nm.beq_self] at e2
      rw [cnm_self oy h2] at L2
      have m := F.mul_lt
      have M3 := fMulC (nm (F.mul px.nat px.nat)) (nm (F.mul py.nat py.nat)) (nm_ok _) (nm_ok _)
      rw [f_nat (m _ _), f_nat (m _ _)] at M3
      have S1 := fSubC (nm (F.mul py.nat py.nat)) (nm (F.mul px.nat px.nat)) (nm_ok _) (nm_ok _)
      rw [f_nat (m _ _), f_nat (m _ _)] at S1
      have M4 := fMulC dN (nm (F.mul (F.mul px.nat px.nat) (F.mul py.nat py.nat))) dN_ok (nm_ok _)
      rw [f_nat (m _ _), dN_nat] at M4
      have A1 := fAddC nI (nm (F.mul Cv.d (F.mul (F.mul px.nat px.nat) (F.mul py.nat py.nat)))) nI_ok (nm_ok _)
      rw [f_nat (m _ _), nI_nat] at A1
      refine ⟨_, ?_, cOn_c px py _ _ _ _ _ _ _ e1 e2 (eqF_dec (F.sub_lt _ _) (F.add_lt _ _)) L1 L2 (fMulC px px ox ox) (fMulC py py oy oy) S1 M3 M4 A1 w⟩
      rw [decide_eq_true_iff]
      exact con_eq _ _ h1 h2
    · refine ⟨false, ⟨fun h => absurd h (by decide), fun h => absurd h.2.1 h2⟩, ?_⟩
      have e2 := neN py (nm (py.nat % F.p))
      rw [Nm.beq_ne (cnm_ne h2)] at e2
      exact cOn_b px py _ e1 e2 L1 L2 w
  · refine ⟨false, ⟨fun h => absurd h (by decide), fun h => absurd h.1 h1⟩, ?_⟩
    have e1 := neN px (nm (px.nat % F.p))
    rw [Nm.beq_ne (cnm_ne h1)] at e1
    exact cOn_a px py _ e1 L1 w
theorem pt_ok {P : Cv.Pt} (hP : Cv.On P) : (nm P.1).nat = P.1 ∧ (nm P.2).nat = P.2 := ⟨f_nat hP.1, f_nat hP.2.1⟩
theorem cOnC : COnC := by
  refine ⟨fun P hP w => ?_, fun x y ox oy h w => ?_⟩
  · obtain ⟨b, hb, hc⟩ := cOn_fun (nm P.1) (nm P.2) (nm_ok _) (nm_ok _) w
    rw [(pt_ok hP).1, (pt_ok hP).2] at hb
    rwa [hb.2 hP] at hc
  · obtain ⟨b, hb, hc⟩ := cOn_fun x y ox oy w
    have : b = false := by
      cases b with
      | false => rfl
      | true => exact absurd (hb.1 rfl) h
    rwa [this] at hc
end Go.Proofs.Ytpnfopakkaoibaa
