/- CurveTells, out of what package curve must keep. -/
import Derived.Test.YtbninaelmbkboaaGrp53
namespace Go.Proofs.Ytbninaelmbkboaa
open Go.RowKit
attribute [local go_sem] World.cell?_alloc_some cell_alloc2 cell_alloc3 cell_alloc4 frozen?_alloc_cells frozen_out
set_option linter.unusedSimpArgs false
set_option maxRecDepth 20000 in
set_option maxHeartbeats 2000000 in
theorem curveTells_no (px py qx qy bx by_ : Nm) (o2 : Bool) (b1 b2 : Nat) (e1 : ∀ w, (binOp .neq 26 (Wv ⟨0, 0, 0, 0⟩ ⟨1, 0, 0, 0⟩) (Wv ⟨0, 0, 0, 0⟩ ⟨1, 0, 0, 0⟩)).run Try.prog w = .ok (.bool false) w) (e2 : ∀ w, (binOp .neq 26 (Wv bx by_) (Wv bx by_)).run Try.prog w = .ok (.bool false) w)
    (e3 : ∀ w, (binOp .neq 26 zW zW).run Try.prog w = .ok (.bool false) w) (e4 : ∀ w, (binOp .eql 26 zW zW).run Try.prog w = .ok (.bool true) w)
    (R1 : ∀ w, Calls Try.prog 9 #[Wv px py] w fun e w' => e = .returned (.bool false) ∧ Below w.heap.size w w')
    (R2 : ∀ w, Calls Try.prog 9 #[Wv qx qy] w fun e w' => e = .returned (.bool o2) ∧ Below w.heap.size w w')
    (A1 : ∀ w, Calls Try.prog 10 #[Wv px py, Wv qx qy] w fun e w' => e = .returned (.tuple #[zW, .int .i64 1]) ∧ Below w.heap.size w w')
    (N1 : ∀ w, Calls Try.prog 11 #[Wv px py] w fun e w' => e = .returned (.tuple #[zW, .int .i64 1]) ∧ Below w.heap.size w w')
    (O1 : ∀ w, Calls Try.prog 12 #[Wv px py] w fun e w' => e = .returned (.bool false) ∧ Below w.heap.size w w')
    (Z1 : ∀ w, Calls Try.prog 13 #[] w fun e w' => e = .returned (Wv ⟨0,0,0,0⟩ ⟨1,0,0,0⟩) ∧ Below w.heap.size w w')
    (B1 : ∀ w, Calls Try.prog 14 #[] w fun e w' => e = .returned (Wv bx by_) ∧ Below w.heap.size w w')
    (PB : ∀ w, Calls Try.prog 15 #[] w fun e w' => e = .returned (.agg (pR (b1) (b2) (1)).toArray) ∧ Below w.heap.size w w')
    (PP : ∀ w, Calls Try.prog 16 #[.agg (pR (b1) (b2) (1)).toArray] w fun e w' => e = .returned (Wv bx by_) ∧ Below w.heap.size w w')
    (w : World) :
    Calls Try.prog 3 #[Wv px py, Wv qx qy] w fun e w' => e = .returned (.bool true) ∧ Below w.heap.size w w' := by
  go_enter Try.func3, Try.ntmps3
  have s0 : Hid (Kn (kalP (kalP w (px) (py)) (qx) (qy)) [(w.heap.size + 1, (c8 (qx) (qy))), (w.heap.size, (c8 (px) (py)))]) := (((Kn.nil w).al (c8 (px) (py)) 26 rfl).al (c8 (qx) (qy)) 26 (by simp))
  have b0 : Hid (Below w.heap.size w (kalP (kalP w (px) (py)) (qx) (qy))) := (((Below.refl _ _).alloc (Nat.le_refl _) _).alloc (by simp <;> omega) _)
  go_wp2_with fail
  refine wp_region_up (by kernel_rfl) (by kernel_rfl) (fun U hU f hf hcl => ?_)
  have up_0 := fun nx => (Kn.get (s0.out.up (hf nx).out) 1 0 rfl rfl : (f nx).cell? ⟨w.heap.size, 0, none⟩ = some (.int .u64 (px).a))
  have up_1 := fun nx => (Kn.get (s0.out.up (hf nx).out) 1 1 rfl rfl : (f nx).cell? ⟨w.heap.size, 1, none⟩ = some (.int .u64 (px).b))
  have up_2 := fun nx => (Kn.get (s0.out.up (hf nx).out) 1 2 rfl rfl : (f nx).cell? ⟨w.heap.size, 2, none⟩ = some (.int .u64 (px).c))
  have up_3 := fun nx => (Kn.get (s0.out.up (hf nx).out) 1 3 rfl rfl : (f nx).cell? ⟨w.heap.size, 3, none⟩ = some (.int .u64 (px).d))
  have up_4 := fun nx => (Kn.get (s0.out.up (hf nx).out) 1 4 rfl rfl : (f nx).cell? ⟨w.heap.size, 4, none⟩ = some (.int .u64 (py).a))
  have up_5 := fun nx => (Kn.get (s0.out.up (hf nx).out) 1 5 rfl rfl : (f nx).cell? ⟨w.heap.size, 5, none⟩ = some (.int .u64 (py).b))
  have up_6 := fun nx => (Kn.get (s0.out.up (hf nx).out) 1 6 rfl rfl : (f nx).cell? ⟨w.heap.size, 6, none⟩ = some (.int .u64 (py).c))
  have up_7 := fun nx => (Kn.get (s0.out.up (hf nx).out) 1 7 rfl rfl : (f nx).cell? ⟨w.heap.size, 7, none⟩ = some (.int .u64 (py).d))
  have uq_0 := fun nx => (Kn.get (s0.out.up (hf nx).out) 0 0 rfl rfl : (f nx).cell? ⟨w.heap.size + 1, 0, none⟩ = some (.int .u64 (qx).a))
  have uq_1 := fun nx => (Kn.get (s0.out.up (hf nx).out) 0 1 rfl rfl : (f nx).cell? ⟨w.heap.size + 1, 1, none⟩ = some (.int .u64 (qx).b))
  have uq_2 := fun nx => (Kn.get (s0.out.up (hf nx).out) 0 2 rfl rfl : (f nx).cell? ⟨w.heap.size + 1, 2, none⟩ = some (.int .u64 (qx).c))
  have uq_3 := fun nx => (Kn.get (s0.out.up (hf nx).out) 0 3 rfl rfl : (f nx).cell? ⟨w.heap.size + 1, 3, none⟩ = some (.int .u64 (qx).d))
  have uq_4 := fun nx => (Kn.get (s0.out.up (hf nx).out) 0 4 rfl rfl : (f nx).cell? ⟨w.heap.size + 1, 4, none⟩ = some (.int .u64 (qy).a))
  have uq_5 := fun nx => (Kn.get (s0.out.up (hf nx).out) 0 5 rfl rfl : (f nx).cell? ⟨w.heap.size + 1, 5, none⟩ = some (.int .u64 (qy).b))
  have uq_6 := fun nx => (Kn.get (s0.out.up (hf nx).out) 0 6 rfl rfl : (f nx).cell? ⟨w.heap.size + 1, 6, none⟩ = some (.int .u64 (qy).c))
  have uq_7 := fun nx => (Kn.get (s0.out.up (hf nx).out) 0 7 rfl rfl : (f nx).cell? ⟨w.heap.size + 1, 7, none⟩ = some (.int .u64 (qy).d))
  try simp only [List.append_eq, List.cons_append, List.nil_append]
  repeat (go_big_quiet_step (first | (go_at_call_of 9 [Value.agg #[Value.int IntKind.u64 px.a, Value.int IntKind.u64 px.b, Value.int IntKind.u64 px.c, Value.int IntKind.u64 px.d, Value.int IntKind.u64 py.a, Value.int IntKind.u64 py.b, Value.int IntKind.u64 py.c, Value.int IntKind.u64 py.d]]; exact (R1 _).mono fun e w'' ⟨he, hb⟩ => ⟨he, hcl.out _ _ hb⟩) | (go_at_call_of 9 [Value.agg #[Value.int IntKind.u64 qx.a, Value.int IntKind.u64 qx.b, Value.int IntKind.u64 qx.c, Value.int IntKind.u64 qx.d, Value.int IntKind.u64 qy.a, Value.int IntKind.u64 qy.b, Value.int IntKind.u64 qy.c, Value.int IntKind.u64 qy.d]]; exact (R2 _).mono fun e w'' ⟨he, hb⟩ => ⟨he, hcl.out _ _ hb⟩)))
  refine wpQuiet_nil ?_
  intro nx
  have hb1 := (hf nx).out
  clear hf hcl up_0 up_1 up_2 up_3 up_4 up_5 up_6 up_7 uq_0 uq_1 uq_2 uq_3 uq_4 uq_5 uq_6 uq_7
  generalize f nx = w1 at hb1 ⊢
  have s1 : Hid (Kn w1 [(w.heap.size + 1, (c8 (qx) (qy))), (w.heap.size, (c8 (px) (py)))]) := s0.out.up hb1
  have b1 : Hid (Below w.heap.size w w1) := b0.out.trans (hb1.mono b0.out.size)
  have z1 := b1.out.size
  clear hb1 s0 b0
  have up_0 : w1.cell? ⟨w.heap.size, 0, none⟩ = some (.int .u64 (px).a) := Kn.get s1.out 1 0 rfl rfl
  have up_1 : w1.cell? ⟨w.heap.size, 1, none⟩ = some (.int .u64 (px).b) := Kn.get s1.out 1 1 rfl rfl
  have up_2 : w1.cell? ⟨w.heap.size, 2, none⟩ = some (.int .u64 (px).c) := Kn.get s1.out 1 2 rfl rfl
  have up_3 : w1.cell? ⟨w.heap.size, 3, none⟩ = some (.int .u64 (px).d) := Kn.get s1.out 1 3 rfl rfl
  have up_4 : w1.cell? ⟨w.heap.size, 4, none⟩ = some (.int .u64 (py).a) := Kn.get s1.out 1 4 rfl rfl
  have up_5 : w1.cell? ⟨w.heap.size, 5, none⟩ = some (.int .u64 (py).b) := Kn.get s1.out 1 5 rfl rfl
  have up_6 : w1.cell? ⟨w.heap.size, 6, none⟩ = some (.int .u64 (py).c) := Kn.get s1.out 1 6 rfl rfl
  have up_7 : w1.cell? ⟨w.heap.size, 7, none⟩ = some (.int .u64 (py).d) := Kn.get s1.out 1 7 rfl rfl
  have uq_0 : w1.cell? ⟨w.heap.size + 1, 0, none⟩ = some (.int .u64 (qx).a) := Kn.get s1.out 0 0 rfl rfl
  have uq_1 : w1.cell? ⟨w.heap.size + 1, 1, none⟩ = some (.int .u64 (qx).b) := Kn.get s1.out 0 1 rfl rfl
  have uq_2 : w1.cell? ⟨w.heap.size + 1, 2, none⟩ = some (.int .u64 (qx).c) := Kn.get s1.out 0 2 rfl rfl
  have uq_3 : w1.cell? ⟨w.heap.size + 1, 3, none⟩ = some (.int .u64 (qx).d) := Kn.get s1.out 0 3 rfl rfl
  have uq_4 : w1.cell? ⟨w.heap.size + 1, 4, none⟩ = some (.int .u64 (qy).a) := Kn.get s1.out 0 4 rfl rfl
  have uq_5 : w1.cell? ⟨w.heap.size + 1, 5, none⟩ = some (.int .u64 (qy).b) := Kn.get s1.out 0 5 rfl rfl
  have uq_6 : w1.cell? ⟨w.heap.size + 1, 6, none⟩ = some (.int .u64 (qy).c) := Kn.get s1.out 0 6 rfl rfl
  have uq_7 : w1.cell? ⟨w.heap.size + 1, 7, none⟩ = some (.int .u64 (qy).d) := Kn.get s1.out 0 7 rfl rfl
  go_wp2_with fail
  clear up_0 up_1 up_2 up_3 up_4 up_5 up_6 up_7 uq_0 uq_1 uq_2 uq_3 uq_4 uq_5 uq_6 uq_7
  refine (A1 _).mono ?_
  rintro e w2 ⟨rfl, hb2⟩
  have s2 : Hid (Kn w2 [(w.heap.size + 1, (c8 (qx) (qy))), (w.heap.size, (c8 (px) (py)))]) := s1.out.up hb2
  have b2 : Hid (Below w.heap.size w w2) := b1.out.trans (hb2.mono b1.out.size)
  have z2 := b2.out.size
  clear hb2 s1 b1
  have s3 : Hid (Kn (kalP w2 ((⟨0,0,0,0⟩:Nm)) ((⟨0,0,0,0⟩:Nm))) [(w2.heap.size, (c8 ((⟨0,0,0,0⟩:Nm)) ((⟨0,0,0,0⟩:Nm)))), (w.heap.size + 1, (c8 (qx) (qy))), (w.heap.size, (c8 (px) (py)))]) := s2.out.al (c8 ((⟨0,0,0,0⟩:Nm)) ((⟨0,0,0,0⟩:Nm))) 26 rfl
  have b3 : Hid (Below w.heap.size w (kalP w2 ((⟨0,0,0,0⟩:Nm)) ((⟨0,0,0,0⟩:Nm)))) := b2.out.alloc b2.out.size _
  have z3 := b2.out.size
  clear s2 b2
  have up_0 : (kalP w2 ((⟨0,0,0,0⟩:Nm)) ((⟨0,0,0,0⟩:Nm))).cell? ⟨w.heap.size, 0, none⟩ = some (.int .u64 (px).a) := Kn.get s3.out 2 0 rfl rfl
  have up_1 : (kalP w2 ((⟨0,0,0,0⟩:Nm)) ((⟨0,0,0,0⟩:Nm))).cell? ⟨w.heap.size, 1, none⟩ = some (.int .u64 (px).b) := Kn.get s3.out 2 1 rfl rfl
  have up_2 : (kalP w2 ((⟨0,0,0,0⟩:Nm)) ((⟨0,0,0,0⟩:Nm))).cell? ⟨w.heap.size, 2, none⟩ = some (.int .u64 (px).c) := Kn.get s3.out 2 2 rfl rfl
  have up_3 : (kalP w2 ((⟨0,0,0,0⟩:Nm)) ((⟨0,0,0,0⟩:Nm))).cell? ⟨w.heap.size, 3, none⟩ = some (.int .u64 (px).d) := Kn.get s3.out 2 3 rfl rfl
  have up_4 : (kalP w2 ((⟨0,0,0,0⟩:Nm)) ((⟨0,0,0,0⟩:Nm))).cell? ⟨w.heap.size, 4, none⟩ = some (.int .u64 (py).a) := Kn.get s3.out 2 4 rfl rfl
  have up_5 : (kalP w2 ((⟨0,0,0,0⟩:Nm)) ((⟨0,0,0,0⟩:Nm))).cell? ⟨w.heap.size, 5, none⟩ = some (.int .u64 (py).b) := Kn.get s3.out 2 5 rfl rfl
  have up_6 : (kalP w2 ((⟨0,0,0,0⟩:Nm)) ((⟨0,0,0,0⟩:Nm))).cell? ⟨w.heap.size, 6, none⟩ = some (.int .u64 (py).c) := Kn.get s3.out 2 6 rfl rfl
  have up_7 : (kalP w2 ((⟨0,0,0,0⟩:Nm)) ((⟨0,0,0,0⟩:Nm))).cell? ⟨w.heap.size, 7, none⟩ = some (.int .u64 (py).d) := Kn.get s3.out 2 7 rfl rfl
  go_wp2_with fail
  clear up_0 up_1 up_2 up_3 up_4 up_5 up_6 up_7
  refine (N1 _).mono ?_
  rintro e w4 ⟨rfl, hb4⟩
  have s4 : Hid (Kn w4 [(w2.heap.size, (c8 ((⟨0,0,0,0⟩:Nm)) ((⟨0,0,0,0⟩:Nm)))), (w.heap.size + 1, (c8 (qx) (qy))), (w.heap.size, (c8 (px) (py)))]) := s3.out.up hb4
  have b4 : Hid (Below w.heap.size w w4) := b3.out.trans (hb4.mono b3.out.size)
  have z4 := b4.out.size
  clear hb4 s3 b3
  have s5 : Hid (Kn (kalP w4 ((⟨0,0,0,0⟩:Nm)) ((⟨0,0,0,0⟩:Nm))) [(w4.heap.size, (c8 ((⟨0,0,0,0⟩:Nm)) ((⟨0,0,0,0⟩:Nm)))), (w2.heap.size, (c8 ((⟨0,0,0,0⟩:Nm)) ((⟨0,0,0,0⟩:Nm)))), (w.heap.size + 1, (c8 (qx) (qy))), (w.heap.size, (c8 (px) (py)))]) := s4.out.al (c8 ((⟨0,0,0,0⟩:Nm)) ((⟨0,0,0,0⟩:Nm))) 26 rfl
  have b5 : Hid (Below w.heap.size w (kalP w4 ((⟨0,0,0,0⟩:Nm)) ((⟨0,0,0,0⟩:Nm)))) := b4.out.alloc b4.out.size _
  have z5 := b4.out.size
  clear s4 b4
  have up_0 : (kalP w4 ((⟨0,0,0,0⟩:Nm)) ((⟨0,0,0,0⟩:Nm))).cell? ⟨w.heap.size, 0, none⟩ = some (.int .u64 (px).a) := Kn.get s5.out 3 0 rfl rfl
  have up_1 : (kalP w4 ((⟨0,0,0,0⟩:Nm)) ((⟨0,0,0,0⟩:Nm))).cell? ⟨w.heap.size, 1, none⟩ = some (.int .u64 (px).b) := Kn.get s5.out 3 1 rfl rfl
  have up_2 : (kalP w4 ((⟨0,0,0,0⟩:Nm)) ((⟨0,0,0,0⟩:Nm))).cell? ⟨w.heap.size, 2, none⟩ = some (.int .u64 (px).c) := Kn.get s5.out 3 2 rfl rfl
  have up_3 : (kalP w4 ((⟨0,0,0,0⟩:Nm)) ((⟨0,0,0,0⟩:Nm))).cell? ⟨w.heap.size, 3, none⟩ = some (.int .u64 (px).d) := Kn.get s5.out 3 3 rfl rfl
  have up_4 : (kalP w4 ((⟨0,0,0,0⟩:Nm)) ((⟨0,0,0,0⟩:Nm))).cell? ⟨w.heap.size, 4, none⟩ = some (.int .u64 (py).a) := Kn.get s5.out 3 4 rfl rfl
  have up_5 : (kalP w4 ((⟨0,0,0,0⟩:Nm)) ((⟨0,0,0,0⟩:Nm))).cell? ⟨w.heap.size, 5, none⟩ = some (.int .u64 (py).b) := Kn.get s5.out 3 5 rfl rfl
  have up_6 : (kalP w4 ((⟨0,0,0,0⟩:Nm)) ((⟨0,0,0,0⟩:Nm))).cell? ⟨w.heap.size, 6, none⟩ = some (.int .u64 (py).c) := Kn.get s5.out 3 6 rfl rfl
  have up_7 : (kalP w4 ((⟨0,0,0,0⟩:Nm)) ((⟨0,0,0,0⟩:Nm))).cell? ⟨w.heap.size, 7, none⟩ = some (.int .u64 (py).d) := Kn.get s5.out 3 7 rfl rfl
  go_wp2_with fail
  clear up_0 up_1 up_2 up_3 up_4 up_5 up_6 up_7
  refine (O1 _).mono ?_
  rintro e w6 ⟨rfl, hb6⟩
  have s6 : Hid (Kn w6 [(w4.heap.size, (c8 ((⟨0,0,0,0⟩:Nm)) ((⟨0,0,0,0⟩:Nm)))), (w2.heap.size, (c8 ((⟨0,0,0,0⟩:Nm)) ((⟨0,0,0,0⟩:Nm)))), (w.heap.size + 1, (c8 (qx) (qy))), (w.heap.size, (c8 (px) (py)))]) := s5.out.up hb6
  have b6 : Hid (Below w.heap.size w w6) := b5.out.trans (hb6.mono b5.out.size)
  have z6 := b6.out.size
  clear hb6 s5 b5
  go_wp2_with fail
  refine (Z1 _).mono ?_
  rintro e w7 ⟨rfl, hb7⟩
  have s7 : Hid (Kn w7 [(w4.heap.size, (c8 ((⟨0,0,0,0⟩:Nm)) ((⟨0,0,0,0⟩:Nm)))), (w2.heap.size, (c8 ((⟨0,0,0,0⟩:Nm)) ((⟨0,0,0,0⟩:Nm)))), (w.heap.size + 1, (c8 (qx) (qy))), (w.heap.size, (c8 (px) (py)))]) := s6.out.up hb7
  have b7 : Hid (Below w.heap.size w w7) := b6.out.trans (hb7.mono b6.out.size)
  have z7 := b7.out.size
  clear hb7 s6 b6
  go_wp2_with fail
  refine (B1 _).mono ?_
  rintro e w8 ⟨rfl, hb8⟩
  have s8 : Hid (Kn w8 [(w4.heap.size, (c8 ((⟨0,0,0,0⟩:Nm)) ((⟨0,0,0,0⟩:Nm)))), (w2.heap.size, (c8 ((⟨0,0,0,0⟩:Nm)) ((⟨0,0,0,0⟩:Nm)))), (w.heap.size + 1, (c8 (qx) (qy))), (w.heap.size, (c8 (px) (py)))]) := s7.out.up hb8
  have b8 : Hid (Below w.heap.size w w8) := b7.out.trans (hb8.mono b7.out.size)
  have z8 := b8.out.size
  clear hb8 s7 b7
  go_wp2_with fail
  refine (PB _).mono ?_
  rintro e w9 ⟨rfl, hb9⟩
  have s9 : Hid (Kn w9 [(w4.heap.size, (c8 ((⟨0,0,0,0⟩:Nm)) ((⟨0,0,0,0⟩:Nm)))), (w2.heap.size, (c8 ((⟨0,0,0,0⟩:Nm)) ((⟨0,0,0,0⟩:Nm)))), (w.heap.size + 1, (c8 (qx) (qy))), (w.heap.size, (c8 (px) (py)))]) := s8.out.up hb9
  have b9 : Hid (Below w.heap.size w w9) := b8.out.trans (hb9.mono b8.out.size)
  have z9 := b9.out.size
  clear hb9 s8 b8
  go_wp2_with fail
  refine (PP _).mono ?_
  rintro e w10 ⟨rfl, hb10⟩
  have s10 : Hid (Kn w10 [(w4.heap.size, (c8 ((⟨0,0,0,0⟩:Nm)) ((⟨0,0,0,0⟩:Nm)))), (w2.heap.size, (c8 ((⟨0,0,0,0⟩:Nm)) ((⟨0,0,0,0⟩:Nm)))), (w.heap.size + 1, (c8 (qx) (qy))), (w.heap.size, (c8 (px) (py)))]) := s9.out.up hb10
  have b10 : Hid (Below w.heap.size w w10) := b9.out.trans (hb10.mono b9.out.size)
  have z10 := b10.out.size
  clear hb10 s9 b9
  have un_0 : w10.cell? ⟨w4.heap.size, 0, none⟩ = some (.int .u64 ((⟨0,0,0,0⟩:Nm)).a) := Kn.get s10.out 0 0 rfl rfl
  have un_1 : w10.cell? ⟨w4.heap.size, 1, none⟩ = some (.int .u64 ((⟨0,0,0,0⟩:Nm)).b) := Kn.get s10.out 0 1 rfl rfl
  have un_2 : w10.cell? ⟨w4.heap.size, 2, none⟩ = some (.int .u64 ((⟨0,0,0,0⟩:Nm)).c) := Kn.get s10.out 0 2 rfl rfl
  have un_3 : w10.cell? ⟨w4.heap.size, 3, none⟩ = some (.int .u64 ((⟨0,0,0,0⟩:Nm)).d) := Kn.get s10.out 0 3 rfl rfl
  have un_4 : w10.cell? ⟨w4.heap.size, 4, none⟩ = some (.int .u64 ((⟨0,0,0,0⟩:Nm)).a) := Kn.get s10.out 0 4 rfl rfl
  have un_5 : w10.cell? ⟨w4.heap.size, 5, none⟩ = some (.int .u64 ((⟨0,0,0,0⟩:Nm)).b) := Kn.get s10.out 0 5 rfl rfl
  have un_6 : w10.cell? ⟨w4.heap.size, 6, none⟩ = some (.int .u64 ((⟨0,0,0,0⟩:Nm)).c) := Kn.get s10.out 0 6 rfl rfl
  have un_7 : w10.cell? ⟨w4.heap.size, 7, none⟩ = some (.int .u64 ((⟨0,0,0,0⟩:Nm)).d) := Kn.get s10.out 0 7 rfl rfl
  have us_0 : w10.cell? ⟨w2.heap.size, 0, none⟩ = some (.int .u64 ((⟨0,0,0,0⟩:Nm)).a) := Kn.get s10.out 1 0 rfl rfl
  have us_1 : w10.cell? ⟨w2.heap.size, 1, none⟩ = some (.int .u64 ((⟨0,0,0,0⟩:Nm)).b) := Kn.get s10.out 1 1 rfl rfl
  have us_2 : w10.cell? ⟨w2.heap.size, 2, none⟩ = some (.int .u64 ((⟨0,0,0,0⟩:Nm)).c) := Kn.get s10.out 1 2 rfl rfl
  have us_3 : w10.cell? ⟨w2.heap.size, 3, none⟩ = some (.int .u64 ((⟨0,0,0,0⟩:Nm)).d) := Kn.get s10.out 1 3 rfl rfl
  have us_4 : w10.cell? ⟨w2.heap.size, 4, none⟩ = some (.int .u64 ((⟨0,0,0,0⟩:Nm)).a) := Kn.get s10.out 1 4 rfl rfl
  have us_5 : w10.cell? ⟨w2.heap.size, 5, none⟩ = some (.int .u64 ((⟨0,0,0,0⟩:Nm)).b) := Kn.get s10.out 1 5 rfl rfl
  have us_6 : w10.cell? ⟨w2.heap.size, 6, none⟩ = some (.int .u64 ((⟨0,0,0,0⟩:Nm)).c) := Kn.get s10.out 1 6 rfl rfl
  have us_7 : w10.cell? ⟨w2.heap.size, 7, none⟩ = some (.int .u64 ((⟨0,0,0,0⟩:Nm)).d) := Kn.get s10.out 1 7 rfl rfl
  go_wp2_with fail
  clear un_0 un_1 un_2 un_3 un_4 un_5 un_6 un_7 us_0 us_1 us_2 us_3 us_4 us_5 us_6 us_7
  refine wp_region_up (by kernel_rfl) (by kernel_rfl) (fun U hU f hf hcl => ?_)
  have us_0 := fun nx => (Kn.get (s10.out.up (hf nx).out) 1 0 rfl rfl : (f nx).cell? ⟨w2.heap.size, 0, none⟩ = some (.int .u64 ((⟨0,0,0,0⟩:Nm)).a))
  have us_1 := fun nx => (Kn.get (s10.out.up (hf nx).out) 1 1 rfl rfl : (f nx).cell? ⟨w2.heap.size, 1, none⟩ = some (.int .u64 ((⟨0,0,0,0⟩:Nm)).b))
  have us_2 := fun nx => (Kn.get (s10.out.up (hf nx).out) 1 2 rfl rfl : (f nx).cell? ⟨w2.heap.size, 2, none⟩ = some (.int .u64 ((⟨0,0,0,0⟩:Nm)).c))
  have us_3 := fun nx => (Kn.get (s10.out.up (hf nx).out) 1 3 rfl rfl : (f nx).cell? ⟨w2.heap.size, 3, none⟩ = some (.int .u64 ((⟨0,0,0,0⟩:Nm)).d))
  have us_4 := fun nx => (Kn.get (s10.out.up (hf nx).out) 1 4 rfl rfl : (f nx).cell? ⟨w2.heap.size, 4, none⟩ = some (.int .u64 ((⟨0,0,0,0⟩:Nm)).a))
  have us_5 := fun nx => (Kn.get (s10.out.up (hf nx).out) 1 5 rfl rfl : (f nx).cell? ⟨w2.heap.size, 5, none⟩ = some (.int .u64 ((⟨0,0,0,0⟩:Nm)).b))
  have us_6 := fun nx => (Kn.get (s10.out.up (hf nx).out) 1 6 rfl rfl : (f nx).cell? ⟨w2.heap.size, 6, none⟩ = some (.int .u64 ((⟨0,0,0,0⟩:Nm)).c))
  have us_7 := fun nx => (Kn.get (s10.out.up (hf nx).out) 1 7 rfl rfl : (f nx).cell? ⟨w2.heap.size, 7, none⟩ = some (.int .u64 ((⟨0,0,0,0⟩:Nm)).d))
  try simp only [List.append_eq, List.cons_append, List.nil_append]
  repeat (go_big_quiet_step (first | fail))
  refine wpQuiet_nil ?_
  intro nx
  have hb11 := (hf nx).out
  clear hf hcl us_0 us_1 us_2 us_3 us_4 us_5 us_6 us_7
  generalize f nx = w11 at hb11 ⊢
  have s11 : Hid (Kn w11 [(w4.heap.size, (c8 ((⟨0,0,0,0⟩:Nm)) ((⟨0,0,0,0⟩:Nm)))), (w2.heap.size, (c8 ((⟨0,0,0,0⟩:Nm)) ((⟨0,0,0,0⟩:Nm)))), (w.heap.size + 1, (c8 (qx) (qy))), (w.heap.size, (c8 (px) (py)))]) := s10.out.up hb11
  have b11 : Hid (Below w.heap.size w w11) := b10.out.trans (hb11.mono b10.out.size)
  have z11 := b11.out.size
  clear hb11 s10 b10
  have us_0 : w11.cell? ⟨w2.heap.size, 0, none⟩ = some (.int .u64 ((⟨0,0,0,0⟩:Nm)).a) := Kn.get s11.out 1 0 rfl rfl
  have us_1 : w11.cell? ⟨w2.heap.size, 1, none⟩ = some (.int .u64 ((⟨0,0,0,0⟩:Nm)).b) := Kn.get s11.out 1 1 rfl rfl
  have us_2 : w11.cell? ⟨w2.heap.size, 2, none⟩ = some (.int .u64 ((⟨0,0,0,0⟩:Nm)).c) := Kn.get s11.out 1 2 rfl rfl
  have us_3 : w11.cell? ⟨w2.heap.size, 3, none⟩ = some (.int .u64 ((⟨0,0,0,0⟩:Nm)).d) := Kn.get s11.out 1 3 rfl rfl
  have us_4 : w11.cell? ⟨w2.heap.size, 4, none⟩ = some (.int .u64 ((⟨0,0,0,0⟩:Nm)).a) := Kn.get s11.out 1 4 rfl rfl
  have us_5 : w11.cell? ⟨w2.heap.size, 5, none⟩ = some (.int .u64 ((⟨0,0,0,0⟩:Nm)).b) := Kn.get s11.out 1 5 rfl rfl
  have us_6 : w11.cell? ⟨w2.heap.size, 6, none⟩ = some (.int .u64 ((⟨0,0,0,0⟩:Nm)).c) := Kn.get s11.out 1 6 rfl rfl
  have us_7 : w11.cell? ⟨w2.heap.size, 7, none⟩ = some (.int .u64 ((⟨0,0,0,0⟩:Nm)).d) := Kn.get s11.out 1 7 rfl rfl
  go_wp2_with fail
  clear us_0 us_1 us_2 us_3 us_4 us_5 us_6 us_7
  go_ret
  exact ⟨rfl, b11.out⟩
set_option maxRecDepth 20000 in
set_option maxHeartbeats 2000000 in
theorem curveTells_one (px py qx qy bx by_ gx : Nm) (b1 b2 x m : Nat) (e1 : ∀ w, (binOp .neq 26 (Wv ⟨0, 0, 0, 0⟩ ⟨1, 0, 0, 0⟩) (Wv ⟨0, 0, 0, 0⟩ ⟨1, 0, 0, 0⟩)).run Try.prog w = .ok (.bool false) w) (e2 : ∀ w, (binOp .neq 26 (Wv bx by_) (Wv bx by_)).run Try.prog w = .ok (.bool false) w)
    (e4 : ∀ w, (binOp .eql 26 zW zW).run Try.prog w = .ok (.bool true) w) (e5 : ∀ w, (binOp .neq 24 (N py) (N py)).run Try.prog w = .ok (.bool false) w) (e6 : ∀ w, (binOp .neq 24 (N gx) (N gx)).run Try.prog w = .ok (.bool false) w)
    (R1 : ∀ w, Calls Try.prog 9 #[Wv px py] w fun e w' => e = .returned (.bool true) ∧ Below w.heap.size w w')
    (R2 : ∀ w, Calls Try.prog 9 #[Wv qx qy] w fun e w' => e = .returned (.bool false) ∧ Below w.heap.size w w')
    (A1 : ∀ w, Calls Try.prog 10 #[Wv px py, Wv qx qy] w fun e w' => e = .returned (.tuple #[zW, .int .i64 1]) ∧ Below w.heap.size w w')
    (N1 : ∀ w, Calls Try.prog 11 #[Wv px py] w fun e w' => e = .returned (.tuple #[Wv gx py, .int .i64 0]) ∧ Below w.heap.size w w')
    (O1 : ∀ w, Calls Try.prog 12 #[Wv px py] w fun e w' => e = .returned (.bool true) ∧ Below w.heap.size w w')
    (Z1 : ∀ w, Calls Try.prog 13 #[] w fun e w' => e = .returned (Wv ⟨0,0,0,0⟩ ⟨1,0,0,0⟩) ∧ Below w.heap.size w w')
    (B1 : ∀ w, Calls Try.prog 14 #[] w fun e w' => e = .returned (Wv bx by_) ∧ Below w.heap.size w w')
    (PB : ∀ w, Calls Try.prog 15 #[] w fun e w' => e = .returned (.agg (pR (b1) (b2) (1)).toArray) ∧ Below w.heap.size w w')
    (PP : ∀ w, Calls Try.prog 16 #[.agg (pR (b1) (b2) (1)).toArray] w fun e w' => e = .returned (Wv bx by_) ∧ Below w.heap.size w w')
    (F1 : ∀ w, Calls Try.prog 18 #[N px] w fun e w' => e = .returned (.agg (fR (x)).toArray) ∧ Below w.heap.size w w')
    (L1 : ∀ w, Calls Try.prog 17 #[.agg #[Value.int IntKind.i64 0, Value.int IntKind.i64 0, Value.int IntKind.i64 0, Value.int IntKind.i64 0, Value.int IntKind.i64 0, Value.int IntKind.i64 0, Value.int IntKind.i64 0, Value.int IntKind.i64 0, Value.int IntKind.i64 0, Value.int IntKind.i64 0, Value.int IntKind.i64 0, Value.int IntKind.i64 0, Value.int IntKind.i64 0, Value.int IntKind.i64 0, Value.int IntKind.i64 0, Value.int IntKind.i64 0], .agg (fR x).toArray] w fun e w' => e = .returned (.agg (fR m).toArray) ∧ Below w.heap.size w w')
    (M1 : ∀ w, Calls Try.prog 19 #[.agg (fR (m)).toArray] w fun e w' => e = .returned (N gx) ∧ Below w.heap.size w w')
    (w : World) :
    Calls Try.prog 3 #[Wv px py, Wv qx qy] w fun e w' => e = .returned (.bool true) ∧ Below w.heap.size w w' := by
  go_enter Try.func3, Try.ntmps3
  have s0 : Hid (Kn (kalP (kalP w (px) (py)) (qx) (qy)) [(w.heap.size + 1, (c8 (qx) (qy))), (w.heap.size, (c8 (px) (py)))]) := (((Kn.nil w).al (c8 (px) (py)) 26 rfl).al (c8 (qx) (qy)) 26 (by simp))
  have b0 : Hid (Below w.heap.size w (kalP (kalP w (px) (py)) (qx) (qy))) := (((Below.refl _ _).alloc (Nat.le_refl _) _).alloc (by simp <;> omega) _)
  go_wp2_with fail
  refine wp_region_up (by kernel_rfl) (by kernel_rfl) (fun U hU f hf hcl => ?_)
  have up_0 := fun nx => (Kn.get (s0.out.up (hf nx).out) 1 0 rfl rfl : (f nx).cell? ⟨w.heap.size, 0, none⟩ = some (.int .u64 (px).a))
  have up_1 := fun nx => (Kn.get (s0.out.up (hf nx).out) 1 1 rfl rfl : (f nx).cell? ⟨w.heap.size, 1, none⟩ = some (.int .u64 (px).b))
  have up_2 := fun nx => (Kn.get (s0.out.up (hf nx).out) 1 2 rfl rfl : (f nx).cell? ⟨w.heap.size, 2, none⟩ = some (.int .u64 (px).c))
  have up_3 := fun nx => (Kn.get (s0.out.up (hf nx).out) 1 3 rfl rfl : (f nx).cell? ⟨w.heap.size, 3, none⟩ = some (.int .u64 (px).d))
  have up_4 := fun nx => (Kn.get (s0.out.up (hf nx).out) 1 4 rfl rfl : (f nx).cell? ⟨w.heap.size, 4, none⟩ = some (.int .u64 (py).a))
  have up_5 := fun nx => (Kn.get (s0.out.up (hf nx).out) 1 5 rfl rfl : (f nx).cell? ⟨w.heap.size, 5, none⟩ = some (.int .u64 (py).b))
  have up_6 := fun nx => (Kn.get (s0.out.up (hf nx).out) 1 6 rfl rfl : (f nx).cell? ⟨w.heap.size, 6, none⟩ = some (.int .u64 (py).c))
  have up_7 := fun nx => (Kn.get (s0.out.up (hf nx).out) 1 7 rfl rfl : (f nx).cell? ⟨w.heap.size, 7, none⟩ = some (.int .u64 (py).d))
  have uq_0 := fun nx => (Kn.get (s0.out.up (hf nx).out) 0 0 rfl rfl : (f nx).cell? ⟨w.heap.size + 1, 0, none⟩ = some (.int .u64 (qx).a))
  have uq_1 := fun nx => (Kn.get (s0.out.up (hf nx).out) 0 1 rfl rfl : (f nx).cell? ⟨w.heap.size + 1, 1, none⟩ = some (.int .u64 (qx).b))
  have uq_2 := fun nx => (Kn.get (s0.out.up (hf nx).out) 0 2 rfl rfl : (f nx).cell? ⟨w.heap.size + 1, 2, none⟩ = some (.int .u64 (qx).c))
  have uq_3 := fun nx => (Kn.get (s0.out.up (hf nx).out) 0 3 rfl rfl : (f nx).cell? ⟨w.heap.size + 1, 3, none⟩ = some (.int .u64 (qx).d))
  have uq_4 := fun nx => (Kn.get (s0.out.up (hf nx).out) 0 4 rfl rfl : (f nx).cell? ⟨w.heap.size + 1, 4, none⟩ = some (.int .u64 (qy).a))
  have uq_5 := fun nx => (Kn.get (s0.out.up (hf nx).out) 0 5 rfl rfl : (f nx).cell? ⟨w.heap.size + 1, 5, none⟩ = some (.int .u64 (qy).b))
  have uq_6 := fun nx => (Kn.get (s0.out.up (hf nx).out) 0 6 rfl rfl : (f nx).cell? ⟨w.heap.size + 1, 6, none⟩ = some (.int .u64 (qy).c))
  have uq_7 := fun nx => (Kn.get (s0.out.up (hf nx).out) 0 7 rfl rfl : (f nx).cell? ⟨w.heap.size + 1, 7, none⟩ = some (.int .u64 (qy).d))
  try simp only [List.append_eq, List.cons_append, List.nil_append]
  repeat (go_big_quiet_step (first | (go_at_call_of 9 [Value.agg #[Value.int IntKind.u64 px.a, Value.int IntKind.u64 px.b, Value.int IntKind.u64 px.c, Value.int IntKind.u64 px.d, Value.int IntKind.u64 py.a, Value.int IntKind.u64 py.b, Value.int IntKind.u64 py.c, Value.int IntKind.u64 py.d]]; exact (R1 _).mono fun e w'' ⟨he, hb⟩ => ⟨he, hcl.out _ _ hb⟩) | (go_at_call_of 9 [Value.agg #[Value.int IntKind.u64 qx.a, Value.int IntKind.u64 qx.b, Value.int IntKind.u64 qx.c, Value.int IntKind.u64 qx.d, Value.int IntKind.u64 qy.a, Value.int IntKind.u64 qy.b, Value.int IntKind.u64 qy.c, Value.int IntKind.u64 qy.d]]; exact (R2 _).mono fun e w'' ⟨he, hb⟩ => ⟨he, hcl.out _ _ hb⟩)))
  refine wpQuiet_nil ?_
  intro nx
  have hb1 := (hf nx).out
  clear hf hcl up_0 up_1 up_2 up_3 up_4 up_5 up_6 up_7 uq_0 uq_1 uq_2 uq_3 uq_4 uq_5 uq_6 uq_7
  generalize f nx = w1 at hb1 ⊢
  have s1 : Hid (Kn w1 [(w.heap.size + 1, (c8 (qx) (qy))), (w.heap.size, (c8 (px) (py)))]) := s0.out.up hb1
  have b1 : Hid (Below w.heap.size w w1) := b0.out.trans (hb1.mono b0.out.size)
  have z1 := b1.out.size
  clear hb1 s0 b0
  have up_0 : w1.cell? ⟨w.heap.size, 0, none⟩ = some (.int .u64 (px).a) := Kn.get s1.out 1 0 rfl rfl
  have up_1 : w1.cell? ⟨w.heap.size, 1, none⟩ = some (.int .u64 (px).b) := Kn.get s1.out 1 1 rfl rfl
  have up_2 : w1.cell? ⟨w.heap.size, 2, none⟩ = some (.int .u64 (px).c) := Kn.get s1.out 1 2 rfl rfl
  have up_3 : w1.cell? ⟨w.heap.size, 3, none⟩ = some (.int .u64 (px).d) := Kn.get s1.out 1 3 rfl rfl
  have up_4 : w1.cell? ⟨w.heap.size, 4, none⟩ = some (.int .u64 (py).a) := Kn.get s1.out 1 4 rfl rfl
  have up_5 : w1.cell? ⟨w.heap.size, 5, none⟩ = some (.int .u64 (py).b) := Kn.get s1.out 1 5 rfl rfl
  have up_6 : w1.cell? ⟨w.heap.size, 6, none⟩ = some (.int .u64 (py).c) := Kn.get s1.out 1 6 rfl rfl
  have up_7 : w1.cell? ⟨w.heap.size, 7, none⟩ = some (.int .u64 (py).d) := Kn.get s1.out 1 7 rfl rfl
  have uq_0 : w1.cell? ⟨w.heap.size + 1, 0, none⟩ = some (.int .u64 (qx).a) := Kn.get s1.out 0 0 rfl rfl
  have uq_1 : w1.cell? ⟨w.heap.size + 1, 1, none⟩ = some (.int .u64 (qx).b) := Kn.get s1.out 0 1 rfl rfl
  have uq_2 : w1.cell? ⟨w.heap.size + 1, 2, none⟩ = some (.int .u64 (qx).c) := Kn.get s1.out 0 2 rfl rfl
  have uq_3 : w1.cell? ⟨w.heap.size + 1, 3, none⟩ = some (.int .u64 (qx).d) := Kn.get s1.out 0 3 rfl rfl
  have uq_4 : w1.cell? ⟨w.heap.size + 1, 4, none⟩ = some (.int .u64 (qy).a) := Kn.get s1.out 0 4 rfl rfl
  have uq_5 : w1.cell? ⟨w.heap.size + 1, 5, none⟩ = some (.int .u64 (qy).b) := Kn.get s1.out 0 5 rfl rfl
  have uq_6 : w1.cell? ⟨w.heap.size + 1, 6, none⟩ = some (.int .u64 (qy).c) := Kn.get s1.out 0 6 rfl rfl
  have uq_7 : w1.cell? ⟨w.heap.size + 1, 7, none⟩ = some (.int .u64 (qy).d) := Kn.get s1.out 0 7 rfl rfl
  go_wp2_with fail
  clear up_0 up_1 up_2 up_3 up_4 up_5 up_6 up_7 uq_0 uq_1 uq_2 uq_3 uq_4 uq_5 uq_6 uq_7
  refine (A1 _).mono ?_
  rintro e w2 ⟨rfl, hb2⟩
  have s2 : Hid (Kn w2 [(w.heap.size + 1, (c8 (qx) (qy))), (w.heap.size, (c8 (px) (py)))]) := s1.out.up hb2
  have b2 : Hid (Below w.heap.size w w2) := b1.out.trans (hb2.mono b1.out.size)
  have z2 := b2.out.size
  clear hb2 s1 b1
  have s3 : Hid (Kn (kalP w2 ((⟨0,0,0,0⟩:Nm)) ((⟨0,0,0,0⟩:Nm))) [(w2.heap.size, (c8 ((⟨0,0,0,0⟩:Nm)) ((⟨0,0,0,0⟩:Nm)))), (w.heap.size + 1, (c8 (qx) (qy))), (w.heap.size, (c8 (px) (py)))]) := s2.out.al (c8 ((⟨0,0,0,0⟩:Nm)) ((⟨0,0,0,0⟩:Nm))) 26 rfl
  have b3 : Hid (Below w.heap.size w (kalP w2 ((⟨0,0,0,0⟩:Nm)) ((⟨0,0,0,0⟩:Nm)))) := b2.out.alloc b2.out.size _
  have z3 := b2.out.size
  clear s2 b2
  have up_0 : (kalP w2 ((⟨0,0,0,0⟩:Nm)) ((⟨0,0,0,0⟩:Nm))).cell? ⟨w.heap.size, 0, none⟩ = some (.int .u64 (px).a) := Kn.get s3.out 2 0 rfl rfl
  have up_1 : (kalP w2 ((⟨0,0,0,0⟩:Nm)) ((⟨0,0,0,0⟩:Nm))).cell? ⟨w.heap.size, 1, none⟩ = some (.int .u64 (px).b) := Kn.get s3.out 2 1 rfl rfl
  have up_2 : (kalP w2 ((⟨0,0,0,0⟩:Nm)) ((⟨0,0,0,0⟩:Nm))).cell? ⟨w.heap.size, 2, none⟩ = some (.int .u64 (px).c) := Kn.get s3.out 2 2 rfl rfl
  have up_3 : (kalP w2 ((⟨0,0,0,0⟩:Nm)) ((⟨0,0,0,0⟩:Nm))).cell? ⟨w.heap.size, 3, none⟩ = some (.int .u64 (px).d) := Kn.get s3.out 2 3 rfl rfl
  have up_4 : (kalP w2 ((⟨0,0,0,0⟩:Nm)) ((⟨0,0,0,0⟩:Nm))).cell? ⟨w.heap.size, 4, none⟩ = some (.int .u64 (py).a) := Kn.get s3.out 2 4 rfl rfl
  have up_5 : (kalP w2 ((⟨0,0,0,0⟩:Nm)) ((⟨0,0,0,0⟩:Nm))).cell? ⟨w.heap.size, 5, none⟩ = some (.int .u64 (py).b) := Kn.get s3.out 2 5 rfl rfl
  have up_6 : (kalP w2 ((⟨0,0,0,0⟩:Nm)) ((⟨0,0,0,0⟩:Nm))).cell? ⟨w.heap.size, 6, none⟩ = some (.int .u64 (py).c) := Kn.get s3.out 2 6 rfl rfl
  have up_7 : (kalP w2 ((⟨0,0,0,0⟩:Nm)) ((⟨0,0,0,0⟩:Nm))).cell? ⟨w.heap.size, 7, none⟩ = some (.int .u64 (py).d) := Kn.get s3.out 2 7 rfl rfl
  go_wp2_with fail
  clear up_0 up_1 up_2 up_3 up_4 up_5 up_6 up_7
  refine (N1 _).mono ?_
  rintro e w4 ⟨rfl, hb4⟩
  have s4 : Hid (Kn w4 [(w2.heap.size, (c8 ((⟨0,0,0,0⟩:Nm)) ((⟨0,0,0,0⟩:Nm)))), (w.heap.size + 1, (c8 (qx) (qy))), (w.heap.size, (c8 (px) (py)))]) := s3.out.up hb4
  have b4 : Hid (Below w.heap.size w w4) := b3.out.trans (hb4.mono b3.out.size)
  have z4 := b4.out.size
  clear hb4 s3 b3
  have s5 : Hid (Kn (kalP w4 (gx) (py)) [(w4.heap.size, (c8 (gx) (py))), (w2.heap.size, (c8 ((⟨0,0,0,0⟩:Nm)) ((⟨0,0,0,0⟩:Nm)))), (w.heap.size + 1, (c8 (qx) (qy))), (w.heap.size, (c8 (px) (py)))]) := s4.out.al (c8 (gx) (py)) 26 rfl
  have b5 : Hid (Below w.heap.size w (kalP w4 (gx) (py))) := b4.out.alloc b4.out.size _
  have z5 := b4.out.size
  clear s4 b4
  have up_0 : (kalP w4 (gx) (py)).cell? ⟨w.heap.size, 0, none⟩ = some (.int .u64 (px).a) := Kn.get s5.out 3 0 rfl rfl
  have up_1 : (kalP w4 (gx) (py)).cell? ⟨w.heap.size, 1, none⟩ = some (.int .u64 (px).b) := Kn.get s5.out 3 1 rfl rfl
  have up_2 : (kalP w4 (gx) (py)).cell? ⟨w.heap.size, 2, none⟩ = some (.int .u64 (px).c) := Kn.get s5.out 3 2 rfl rfl
  have up_3 : (kalP w4 (gx) (py)).cell? ⟨w.heap.size, 3, none⟩ = some (.int .u64 (px).d) := Kn.get s5.out 3 3 rfl rfl
  have up_4 : (kalP w4 (gx) (py)).cell? ⟨w.heap.size, 4, none⟩ = some (.int .u64 (py).a) := Kn.get s5.out 3 4 rfl rfl
  have up_5 : (kalP w4 (gx) (py)).cell? ⟨w.heap.size, 5, none⟩ = some (.int .u64 (py).b) := Kn.get s5.out 3 5 rfl rfl
  have up_6 : (kalP w4 (gx) (py)).cell? ⟨w.heap.size, 6, none⟩ = some (.int .u64 (py).c) := Kn.get s5.out 3 6 rfl rfl
  have up_7 : (kalP w4 (gx) (py)).cell? ⟨w.heap.size, 7, none⟩ = some (.int .u64 (py).d) := Kn.get s5.out 3 7 rfl rfl
  go_wp2_with fail
  clear up_0 up_1 up_2 up_3 up_4 up_5 up_6 up_7
  refine (O1 _).mono ?_
  rintro e w6 ⟨rfl, hb6⟩
  have s6 : Hid (Kn w6 [(w4.heap.size, (c8 (gx) (py))), (w2.heap.size, (c8 ((⟨0,0,0,0⟩:Nm)) ((⟨0,0,0,0⟩:Nm)))), (w.heap.size + 1, (c8 (qx) (qy))), (w.heap.size, (c8 (px) (py)))]) := s5.out.up hb6
  have b6 : Hid (Below w.heap.size w w6) := b5.out.trans (hb6.mono b5.out.size)
  have z6 := b6.out.size
  clear hb6 s5 b5
  go_wp2_with fail
  refine (Z1 _).mono ?_
  rintro e w7 ⟨rfl, hb7⟩
  have s7 : Hid (Kn w7 [(w4.heap.size, (c8 (gx) (py))), (w2.heap.size, (c8 ((⟨0,0,0,0⟩:Nm)) ((⟨0,0,0,0⟩:Nm)))), (w.heap.size + 1, (c8 (qx) (qy))), (w.heap.size, (c8 (px) (py)))]) := s6.out.up hb7
  have b7 : Hid (Below w.heap.size w w7) := b6.out.trans (hb7.mono b6.out.size)
  have z7 := b7.out.size
  clear hb7 s6 b6
  go_wp2_with fail
  refine (B1 _).mono ?_
  rintro e w8 ⟨rfl, hb8⟩
  have s8 : Hid (Kn w8 [(w4.heap.size, (c8 (gx) (py))), (w2.heap.size, (c8 ((⟨0,0,0,0⟩:Nm)) ((⟨0,0,0,0⟩:Nm)))), (w.heap.size + 1, (c8 (qx) (qy))), (w.heap.size, (c8 (px) (py)))]) := s7.out.up hb8
  have b8 : Hid (Below w.heap.size w w8) := b7.out.trans (hb8.mono b7.out.size)
  have z8 := b8.out.size
  clear hb8 s7 b7
  go_wp2_with fail
  refine (PB _).mono ?_
  rintro e w9 ⟨rfl, hb9⟩
  have s9 : Hid (Kn w9 [(w4.heap.size, (c8 (gx) (py))), (w2.heap.size, (c8 ((⟨0,0,0,0⟩:Nm)) ((⟨0,0,0,0⟩:Nm)))), (w.heap.size + 1, (c8 (qx) (qy))), (w.heap.size, (c8 (px) (py)))]) := s8.out.up hb9
  have b9 : Hid (Below w.heap.size w w9) := b8.out.trans (hb9.mono b8.out.size)
  have z9 := b9.out.size
  clear hb9 s8 b8
  go_wp2_with fail
  refine (PP _).mono ?_
  rintro e w10 ⟨rfl, hb10⟩
  have s10 : Hid (Kn w10 [(w4.heap.size, (c8 (gx) (py))), (w2.heap.size, (c8 ((⟨0,0,0,0⟩:Nm)) ((⟨0,0,0,0⟩:Nm)))), (w.heap.size + 1, (c8 (qx) (qy))), (w.heap.size, (c8 (px) (py)))]) := s9.out.up hb10
  have b10 : Hid (Below w.heap.size w w10) := b9.out.trans (hb10.mono b9.out.size)
  have z10 := b10.out.size
  clear hb10 s9 b9
  have un_0 : w10.cell? ⟨w4.heap.size, 0, none⟩ = some (.int .u64 (gx).a) := Kn.get s10.out 0 0 rfl rfl
  have un_1 : w10.cell? ⟨w4.heap.size, 1, none⟩ = some (.int .u64 (gx).b) := Kn.get s10.out 0 1 rfl rfl
  have un_2 : w10.cell? ⟨w4.heap.size, 2, none⟩ = some (.int .u64 (gx).c) := Kn.get s10.out 0 2 rfl rfl
  have un_3 : w10.cell? ⟨w4.heap.size, 3, none⟩ = some (.int .u64 (gx).d) := Kn.get s10.out 0 3 rfl rfl
  have un_4 : w10.cell? ⟨w4.heap.size, 4, none⟩ = some (.int .u64 (py).a) := Kn.get s10.out 0 4 rfl rfl
  have un_5 : w10.cell? ⟨w4.heap.size, 5, none⟩ = some (.int .u64 (py).b) := Kn.get s10.out 0 5 rfl rfl
  have un_6 : w10.cell? ⟨w4.heap.size, 6, none⟩ = some (.int .u64 (py).c) := Kn.get s10.out 0 6 rfl rfl
  have un_7 : w10.cell? ⟨w4.heap.size, 7, none⟩ = some (.int .u64 (py).d) := Kn.get s10.out 0 7 rfl rfl
  have us_0 : w10.cell? ⟨w2.heap.size, 0, none⟩ = some (.int .u64 ((⟨0,0,0,0⟩:Nm)).a) := Kn.get s10.out 1 0 rfl rfl
  have us_1 : w10.cell? ⟨w2.heap.size, 1, none⟩ = some (.int .u64 ((⟨0,0,0,0⟩:Nm)).b) := Kn.get s10.out 1 1 rfl rfl
  have us_2 : w10.cell? ⟨w2.heap.size, 2, none⟩ = some (.int .u64 ((⟨0,0,0,0⟩:Nm)).c) := Kn.get s10.out 1 2 rfl rfl
  have us_3 : w10.cell? ⟨w2.heap.size, 3, none⟩ = some (.int .u64 ((⟨0,0,0,0⟩:Nm)).d) := Kn.get s10.out 1 3 rfl rfl
  have us_4 : w10.cell? ⟨w2.heap.size, 4, none⟩ = some (.int .u64 ((⟨0,0,0,0⟩:Nm)).a) := Kn.get s10.out 1 4 rfl rfl
  have us_5 : w10.cell? ⟨w2.heap.size, 5, none⟩ = some (.int .u64 ((⟨0,0,0,0⟩:Nm)).b) := Kn.get s10.out 1 5 rfl rfl
  have us_6 : w10.cell? ⟨w2.heap.size, 6, none⟩ = some (.int .u64 ((⟨0,0,0,0⟩:Nm)).c) := Kn.get s10.out 1 6 rfl rfl
  have us_7 : w10.cell? ⟨w2.heap.size, 7, none⟩ = some (.int .u64 ((⟨0,0,0,0⟩:Nm)).d) := Kn.get s10.out 1 7 rfl rfl
  go_wp2_with fail
  clear un_0 un_1 un_2 un_3 un_4 un_5 un_6 un_7 us_0 us_1 us_2 us_3 us_4 us_5 us_6 us_7
  refine wp_region_up (by kernel_rfl) (by kernel_rfl) (fun U hU f hf hcl => ?_)
  have un_0 := fun nx => (Kn.get (s10.out.up (hf nx).out) 0 0 rfl rfl : (f nx).cell? ⟨w4.heap.size, 0, none⟩ = some (.int .u64 (gx).a))
  have un_1 := fun nx => (Kn.get (s10.out.up (hf nx).out) 0 1 rfl rfl : (f nx).cell? ⟨w4.heap.size, 1, none⟩ = some (.int .u64 (gx).b))
  have un_2 := fun nx => (Kn.get (s10.out.up (hf nx).out) 0 2 rfl rfl : (f nx).cell? ⟨w4.heap.size, 2, none⟩ = some (.int .u64 (gx).c))
  have un_3 := fun nx => (Kn.get (s10.out.up (hf nx).out) 0 3 rfl rfl : (f nx).cell? ⟨w4.heap.size, 3, none⟩ = some (.int .u64 (gx).d))
  have un_4 := fun nx => (Kn.get (s10.out.up (hf nx).out) 0 4 rfl rfl : (f nx).cell? ⟨w4.heap.size, 4, none⟩ = some (.int .u64 (py).a))
  have un_5 := fun nx => (Kn.get (s10.out.up (hf nx).out) 0 5 rfl rfl : (f nx).cell? ⟨w4.heap.size, 5, none⟩ = some (.int .u64 (py).b))
  have un_6 := fun nx => (Kn.get (s10.out.up (hf nx).out) 0 6 rfl rfl : (f nx).cell? ⟨w4.heap.size, 6, none⟩ = some (.int .u64 (py).c))
  have un_7 := fun nx => (Kn.get (s10.out.up (hf nx).out) 0 7 rfl rfl : (f nx).cell? ⟨w4.heap.size, 7, none⟩ = some (.int .u64 (py).d))
  have up_0 := fun nx => (Kn.get (s10.out.up (hf nx).out) 3 0 rfl rfl : (f nx).cell? ⟨w.heap.size, 0, none⟩ = some (.int .u64 (px).a))
  have up_1 := fun nx => (Kn.get (s10.out.up (hf nx).out) 3 1 rfl rfl : (f nx).cell? ⟨w.heap.size, 1, none⟩ = some (.int .u64 (px).b))
  have up_2 := fun nx => (Kn.get (s10.out.up (hf nx).out) 3 2 rfl rfl : (f nx).cell? ⟨w.heap.size, 2, none⟩ = some (.int .u64 (px).c))
  have up_3 := fun nx => (Kn.get (s10.out.up (hf nx).out) 3 3 rfl rfl : (f nx).cell? ⟨w.heap.size, 3, none⟩ = some (.int .u64 (px).d))
  have up_4 := fun nx => (Kn.get (s10.out.up (hf nx).out) 3 4 rfl rfl : (f nx).cell? ⟨w.heap.size, 4, none⟩ = some (.int .u64 (py).a))
  have up_5 := fun nx => (Kn.get (s10.out.up (hf nx).out) 3 5 rfl rfl : (f nx).cell? ⟨w.heap.size, 5, none⟩ = some (.int .u64 (py).b))
  have up_6 := fun nx => (Kn.get (s10.out.up (hf nx).out) 3 6 rfl rfl : (f nx).cell? ⟨w.heap.size, 6, none⟩ = some (.int .u64 (py).c))
  have up_7 := fun nx => (Kn.get (s10.out.up (hf nx).out) 3 7 rfl rfl : (f nx).cell? ⟨w.heap.size, 7, none⟩ = some (.int .u64 (py).d))
  have us_0 := fun nx => (Kn.get (s10.out.up (hf nx).out) 1 0 rfl rfl : (f nx).cell? ⟨w2.heap.size, 0, none⟩ = some (.int .u64 ((⟨0,0,0,0⟩:Nm)).a))
  have us_1 := fun nx => (Kn.get (s10.out.up (hf nx).out) 1 1 rfl rfl : (f nx).cell? ⟨w2.heap.size, 1, none⟩ = some (.int .u64 ((⟨0,0,0,0⟩:Nm)).b))
  have us_2 := fun nx => (Kn.get (s10.out.up (hf nx).out) 1 2 rfl rfl : (f nx).cell? ⟨w2.heap.size, 2, none⟩ = some (.int .u64 ((⟨0,0,0,0⟩:Nm)).c))
  have us_3 := fun nx => (Kn.get (s10.out.up (hf nx).out) 1 3 rfl rfl : (f nx).cell? ⟨w2.heap.size, 3, none⟩ = some (.int .u64 ((⟨0,0,0,0⟩:Nm)).d))
  have us_4 := fun nx => (Kn.get (s10.out.up (hf nx).out) 1 4 rfl rfl : (f nx).cell? ⟨w2.heap.size, 4, none⟩ = some (.int .u64 ((⟨0,0,0,0⟩:Nm)).a))
  have us_5 := fun nx => (Kn.get (s10.out.up (hf nx).out) 1 5 rfl rfl : (f nx).cell? ⟨w2.heap.size, 5, none⟩ = some (.int .u64 ((⟨0,0,0,0⟩:Nm)).b))
  have us_6 := fun nx => (Kn.get (s10.out.up (hf nx).out) 1 6 rfl rfl : (f nx).cell? ⟨w2.heap.size, 6, none⟩ = some (.int .u64 ((⟨0,0,0,0⟩:Nm)).c))
  have us_7 := fun nx => (Kn.get (s10.out.up (hf nx).out) 1 7 rfl rfl : (f nx).cell? ⟨w2.heap.size, 7, none⟩ = some (.int .u64 ((⟨0,0,0,0⟩:Nm)).d))
  try simp only [List.append_eq, List.cons_append, List.nil_append]
  repeat (go_big_quiet_step (first | (go_at_call 18; exact (F1 _).mono fun e w'' ⟨he, hb⟩ => ⟨he, hcl.out _ _ hb⟩) | (go_at_call 17; exact (L1 _).mono fun e w'' ⟨he, hb⟩ => ⟨he, hcl.out _ _ hb⟩) | (go_at_call 19; exact (M1 _).mono fun e w'' ⟨he, hb⟩ => ⟨he, hcl.out _ _ hb⟩)))
  refine wpQuiet_nil ?_
  intro nx
  have hb11 := (hf nx).out
  clear hf hcl un_0 un_1 un_2 un_3 un_4 un_5 un_6 un_7 up_0 up_1 up_2 up_3 up_4 up_5 up_6 up_7 us_0 us_1 us_2 us_3 us_4 us_5 us_6 us_7
  generalize f nx = w11 at hb11 ⊢
  have s11 : Hid (Kn w11 [(w4.heap.size, (c8 (gx) (py))), (w2.heap.size, (c8 ((⟨0,0,0,0⟩:Nm)) ((⟨0,0,0,0⟩:Nm)))), (w.heap.size + 1, (c8 (qx) (qy))), (w.heap.size, (c8 (px) (py)))]) := s10.out.up hb11
  have b11 : Hid (Below w.heap.size w w11) := b10.out.trans (hb11.mono b10.out.size)
  have z11 := b11.out.size
  clear hb11 s10 b10
  have us_0 : w11.cell? ⟨w2.heap.size, 0, none⟩ = some (.int .u64 ((⟨0,0,0,0⟩:Nm)).a) := Kn.get s11.out 1 0 rfl rfl
  have us_1 : w11.cell? ⟨w2.heap.size, 1, none⟩ = some (.int .u64 ((⟨0,0,0,0⟩:Nm)).b) := Kn.get s11.out 1 1 rfl rfl
  have us_2 : w11.cell? ⟨w2.heap.size, 2, none⟩ = some (.int .u64 ((⟨0,0,0,0⟩:Nm)).c) := Kn.get s11.out 1 2 rfl rfl
  have us_3 : w11.cell? ⟨w2.heap.size, 3, none⟩ = some (.int .u64 ((⟨0,0,0,0⟩:Nm)).d) := Kn.get s11.out 1 3 rfl rfl
  have us_4 : w11.cell? ⟨w2.heap.size, 4, none⟩ = some (.int .u64 ((⟨0,0,0,0⟩:Nm)).a) := Kn.get s11.out 1 4 rfl rfl
  have us_5 : w11.cell? ⟨w2.heap.size, 5, none⟩ = some (.int .u64 ((⟨0,0,0,0⟩:Nm)).b) := Kn.get s11.out 1 5 rfl rfl
  have us_6 : w11.cell? ⟨w2.heap.size, 6, none⟩ = some (.int .u64 ((⟨0,0,0,0⟩:Nm)).c) := Kn.get s11.out 1 6 rfl rfl
  have us_7 : w11.cell? ⟨w2.heap.size, 7, none⟩ = some (.int .u64 ((⟨0,0,0,0⟩:Nm)).d) := Kn.get s11.out 1 7 rfl rfl
  go_wp2_with fail
  clear us_0 us_1 us_2 us_3 us_4 us_5 us_6 us_7
  go_ret
  exact ⟨rfl, b11.out⟩
set_option maxRecDepth 20000 in
set_option maxHeartbeats 2000000 in
theorem curveTells_two (px py qx qy bx by_ gx sx sy : Nm) (b1 b2 x m x1 y1 x2 y2 rx ry rt : Nat) (e1 : ∀ w, (binOp .neq 26 (Wv ⟨0, 0, 0, 0⟩ ⟨1, 0, 0, 0⟩) (Wv ⟨0, 0, 0, 0⟩ ⟨1, 0, 0, 0⟩)).run Try.prog w = .ok (.bool false) w) (e2 : ∀ w, (binOp .neq 26 (Wv bx by_) (Wv bx by_)).run Try.prog w = .ok (.bool false) w)
    (e4 : ∀ w, (binOp .eql 26 (Wv sx sy) (Wv sx sy)).run Try.prog w = .ok (.bool true) w) (e5 : ∀ w, (binOp .neq 24 (N py) (N py)).run Try.prog w = .ok (.bool false) w) (e6 : ∀ w, (binOp .neq 24 (N gx) (N gx)).run Try.prog w = .ok (.bool false) w)
    (R1 : ∀ w, Calls Try.prog 9 #[Wv px py] w fun e w' => e = .returned (.bool true) ∧ Below w.heap.size w w')
    (R2 : ∀ w, Calls Try.prog 9 #[Wv qx qy] w fun e w' => e = .returned (.bool true) ∧ Below w.heap.size w w')
    (A1 : ∀ w, Calls Try.prog 10 #[Wv px py, Wv qx qy] w fun e w' => e = .returned (.tuple #[Wv sx sy, .int .i64 0]) ∧ Below w.heap.size w w')
    (N1 : ∀ w, Calls Try.prog 11 #[Wv px py] w fun e w' => e = .returned (.tuple #[Wv gx py, .int .i64 0]) ∧ Below w.heap.size w w')
    (O1 : ∀ w, Calls Try.prog 12 #[Wv px py] w fun e w' => e = .returned (.bool true) ∧ Below w.heap.size w w')
    (Z1 : ∀ w, Calls Try.prog 13 #[] w fun e w' => e = .returned (Wv ⟨0,0,0,0⟩ ⟨1,0,0,0⟩) ∧ Below w.heap.size w w')
    (B1 : ∀ w, Calls Try.prog 14 #[] w fun e w' => e = .returned (Wv bx by_) ∧ Below w.heap.size w w')
    (PB : ∀ w, Calls Try.prog 15 #[] w fun e w' => e = .returned (.agg (pR (b1) (b2) (1)).toArray) ∧ Below w.heap.size w w')
    (PP : ∀ w, Calls Try.prog 16 #[.agg (pR (b1) (b2) (1)).toArray] w fun e w' => e = .returned (Wv bx by_) ∧ Below w.heap.size w w')
    (F1 : ∀ w, Calls Try.prog 18 #[N px] w fun e w' => e = .returned (.agg (fR (x)).toArray) ∧ Below w.heap.size w w')
    (L1 : ∀ w, Calls Try.prog 17 #[.agg #[Value.int IntKind.i64 0, Value.int IntKind.i64 0, Value.int IntKind.i64 0, Value.int IntKind.i64 0, Value.int IntKind.i64 0, Value.int IntKind.i64 0, Value.int IntKind.i64 0, Value.int IntKind.i64 0, Value.int IntKind.i64 0, Value.int IntKind.i64 0, Value.int IntKind.i64 0, Value.int IntKind.i64 0, Value.int IntKind.i64 0, Value.int IntKind.i64 0, Value.int IntKind.i64 0, Value.int IntKind.i64 0], .agg (fR x).toArray] w fun e w' => e = .returned (.agg (fR m).toArray) ∧ Below w.heap.size w w')
    (M1 : ∀ w, Calls Try.prog 19 #[.agg (fR (m)).toArray] w fun e w' => e = .returned (N gx) ∧ Below w.heap.size w w')
    (P1 : ∀ w, Calls Try.prog 20 #[Wv px py] w fun e w' => e = .returned (.agg (pR (x1) (y1) (1)).toArray) ∧ Below w.heap.size w w')
    (P2 : ∀ w, Calls Try.prog 20 #[Wv qx qy] w fun e w' => e = .returned (.agg (pR (x2) (y2) (1)).toArray) ∧ Below w.heap.size w w')
    (PL : ∀ w, Calls Try.prog 21 #[.agg (pR (x1) (y1) (1)).toArray, .agg (pR (x2) (y2) (1)).toArray] w fun e w' => e = .returned (.agg (pR (rx) (ry) (rt)).toArray) ∧ Below w.heap.size w w')
    (PQ : ∀ w, Calls Try.prog 16 #[.agg (pR (rx) (ry) (rt)).toArray] w fun e w' => e = .returned (Wv sx sy) ∧ Below w.heap.size w w')
    (w : World) :
    Calls Try.prog 3 #[Wv px py, Wv qx qy] w fun e w' => e = .returned (.bool true) ∧ Below w.heap.size w w' := by
  go_enter Try.func3, Try.ntmps3
  have s0 : Hid (Kn (kalP (kalP w (px) (py)) (qx) (qy)) [(w.heap.size + 1, (c8 (qx) (qy))), (w.heap.size, (c8 (px) (py)))]) := (((Kn.nil w).al (c8 (px) (py)) 26 rfl).al (c8 (qx) (qy)) 26 (by simp))
  have b0 : Hid (Below w.heap.size w (kalP (kalP w (px) (py)) (qx) (qy))) := (((Below.refl _ _).alloc (Nat.le_refl _) _).alloc (by simp <;> omega) _)
  go_wp2_with fail
  refine wp_region_up (by kernel_rfl) (by kernel_rfl) (fun U hU f hf hcl => ?_)
  have up_0 := fun nx => (Kn.get (s0.out.up (hf nx).out) 1 0 rfl rfl : (f nx).cell? ⟨w.heap.size, 0, none⟩ = some (.int .u64 (px).a))
  have up_1 := fun nx => (Kn.get (s0.out.up (hf nx).out) 1 1 rfl rfl : (f nx).cell? ⟨w.heap.size, 1, none⟩ = some (.int .u64 (px).b))
  have up_2 := fun nx => (Kn.get (s0.out.up (hf nx).out) 1 2 rfl rfl : (f nx).cell? ⟨w.heap.size, 2, none⟩ = some (.int .u64 (px).c))
  have up_3 := fun nx => (Kn.get (s0.out.up (hf nx).out) 1 3 rfl rfl : (f nx).cell? ⟨w.heap.size, 3, none⟩ = some (.int .u64 (px).d))
  have up_4 := fun nx => (Kn.get (s0.out.up (hf nx).out) 1 4 rfl rfl : (f nx).cell? ⟨w.heap.size, 4, none⟩ = some (.int .u64 (py).a))
  have up_5 := fun nx => (Kn.get (s0.out.up (hf nx).out) 1 5 rfl rfl : (f nx).cell? ⟨w.heap.size, 5, none⟩ = some (.int .u64 (py).b))
  have up_6 := fun nx => (Kn.get (s0.out.up (hf nx).out) 1 6 rfl rfl : (f nx).cell? ⟨w.heap.size, 6, none⟩ = some (.int .u64 (py).c))
  have up_7 := fun nx => (Kn.get (s0.out.up (hf nx).out) 1 7 rfl rfl : (f nx).cell? ⟨w.heap.size, 7, none⟩ = some (.int .u64 (py).d))
  have uq_0 := fun nx => (Kn.get (s0.out.up (hf nx).out) 0 0 rfl rfl : (f nx).cell? ⟨w.heap.size + 1, 0, none⟩ = some (.int .u64 (qx).a))
  have uq_1 := fun nx => (Kn.get (s0.out.up (hf nx).out) 0 1 rfl rfl : (f nx).cell? ⟨w.heap.size + 1, 1, none⟩ = some (.int .u64 (qx).b))
  have uq_2 := fun nx => (Kn.get (s0.out.up (hf nx).out) 0 2 rfl rfl : (f nx).cell? ⟨w.heap.size + 1, 2, none⟩ = some (.int .u64 (qx).c))
  have uq_3 := fun nx => (Kn.get (s0.out.up (hf nx).out) 0 3 rfl rfl : (f nx).cell? ⟨w.heap.size + 1, 3, none⟩ = some (.int .u64 (qx).d))
  have uq_4 := fun nx => (Kn.get (s0.out.up (hf nx).out) 0 4 rfl rfl : (f nx).cell? ⟨w.heap.size + 1, 4, none⟩ = some (.int .u64 (qy).a))
  have uq_5 := fun nx => (Kn.get (s0.out.up (hf nx).out) 0 5 rfl rfl : (f nx).cell? ⟨w.heap.size + 1, 5, none⟩ = some (.int .u64 (qy).b))
  have uq_6 := fun nx => (Kn.get (s0.out.up (hf nx).out) 0 6 rfl rfl : (f nx).cell? ⟨w.heap.size + 1, 6, none⟩ = some (.int .u64 (qy).c))
  have uq_7 := fun nx => (Kn.get (s0.out.up (hf nx).out) 0 7 rfl rfl : (f nx).cell? ⟨w.heap.size + 1, 7, none⟩ = some (.int .u64 (qy).d))
  try simp only [List.append_eq, List.cons_append, List.nil_append]
  repeat (go_big_quiet_step (first | (go_at_call_of 9 [Value.agg #[Value.int IntKind.u64 px.a, Value.int IntKind.u64 px.b, Value.int IntKind.u64 px.c, Value.int IntKind.u64 px.d, Value.int IntKind.u64 py.a, Value.int IntKind.u64 py.b, Value.int IntKind.u64 py.c, Value.int IntKind.u64 py.d]]; exact (R1 _).mono fun e w'' ⟨he, hb⟩ => ⟨he, hcl.out _ _ hb⟩) | (go_at_call_of 9 [Value.agg #[Value.int IntKind.u64 qx.a, Value.int IntKind.u64 qx.b, Value.int IntKind.u64 qx.c, Value.int IntKind.u64 qx.d, Value.int IntKind.u64 qy.a, Value.int IntKind.u64 qy.b, Value.int IntKind.u64 qy.c, Value.int IntKind.u64 qy.d]]; exact (R2 _).mono fun e w'' ⟨he, hb⟩ => ⟨he, hcl.out _ _ hb⟩)))
  refine wpQuiet_nil ?_
  intro nx
  have hb1 := (hf nx).out
  clear hf hcl up_0 up_1 up_2 up_3 up_4 up_5 up_6 up_7 uq_0 uq_1 uq_2 uq_3 uq_4 uq_5 uq_6 uq_7
  generalize f nx = w1 at hb1 ⊢
  have s1 : Hid (Kn w1 [(w.heap.size + 1, (c8 (qx) (qy))), (w.heap.size, (c8 (px) (py)))]) := s0.out.up hb1
  have b1 : Hid (Below w.heap.size w w1) := b0.out.trans (hb1.mono b0.out.size)
  have z1 := b1.out.size
  clear hb1 s0 b0
  have up_0 : w1.cell? ⟨w.heap.size, 0, none⟩ = some (.int .u64 (px).a) := Kn.get s1.out 1 0 rfl rfl
  have up_1 : w1.cell? ⟨w.heap.size, 1, none⟩ = some (.int .u64 (px).b) := Kn.get s1.out 1 1 rfl rfl
  have up_2 : w1.cell? ⟨w.heap.size, 2, none⟩ = some (.int .u64 (px).c) := Kn.get s1.out 1 2 rfl rfl
  have up_3 : w1.cell? ⟨w.heap.size, 3, none⟩ = some (.int .u64 (px).d) := Kn.get s1.out 1 3 rfl rfl
  have up_4 : w1.cell? ⟨w.heap.size, 4, none⟩ = some (.int .u64 (py).a) := Kn.get s1.out 1 4 rfl rfl
  have up_5 : w1.cell? ⟨w.heap.size, 5, none⟩ = some (.int .u64 (py).b) := Kn.get s1.out 1 5 rfl rfl
  have up_6 : w1.cell? ⟨w.heap.size, 6, none⟩ = some (.int .u64 (py).c) := Kn.get s1.out 1 6 rfl rfl
  have up_7 : w1.cell? ⟨w.heap.size, 7, none⟩ = some (.int .u64 (py).d) := Kn.get s1.out 1 7 rfl rfl
  have uq_0 : w1.cell? ⟨w.heap.size + 1, 0, none⟩ = some (.int .u64 (qx).a) := Kn.get s1.out 0 0 rfl rfl
  have uq_1 : w1.cell? ⟨w.heap.size + 1, 1, none⟩ = some (.int .u64 (qx).b) := Kn.get s1.out 0 1 rfl rfl
  have uq_2 : w1.cell? ⟨w.heap.size + 1, 2, none⟩ = some (.int .u64 (qx).c) := Kn.get s1.out 0 2 rfl rfl
  have uq_3 : w1.cell? ⟨w.heap.size + 1, 3, none⟩ = some (.int .u64 (qx).d) := Kn.get s1.out 0 3 rfl rfl
  have uq_4 : w1.cell? ⟨w.heap.size + 1, 4, none⟩ = some (.int .u64 (qy).a) := Kn.get s1.out 0 4 rfl rfl
  have uq_5 : w1.cell? ⟨w.heap.size + 1, 5, none⟩ = some (.int .u64 (qy).b) := Kn.get s1.out 0 5 rfl rfl
  have uq_6 : w1.cell? ⟨w.heap.size + 1, 6, none⟩ = some (.int .u64 (qy).c) := Kn.get s1.out 0 6 rfl rfl
  have uq_7 : w1.cell? ⟨w.heap.size + 1, 7, none⟩ = some (.int .u64 (qy).d) := Kn.get s1.out 0 7 rfl rfl
  go_wp2_with fail
  clear up_0 up_1 up_2 up_3 up_4 up_5 up_6 up_7 uq_0 uq_1 uq_2 uq_3 uq_4 uq_5 uq_6 uq_7
  refine (A1 _).mono ?_
  rintro e w2 ⟨rfl, hb2⟩
  have s2 : Hid (Kn w2 [(w.heap.size + 1, (c8 (qx) (qy))), (w.heap.size, (c8 (px) (py)))]) := s1.out.up hb2
  have b2 : Hid (Below w.heap.size w w2) := b1.out.trans (hb2.mono b1.out.size)
  have z2 := b2.out.size
  clear hb2 s1 b1
  have s3 : Hid (Kn (kalP w2 (sx) (sy)) [(w2.heap.size, (c8 (sx) (sy))), (w.heap.size + 1, (c8 (qx) (qy))), (w.heap.size, (c8 (px) (py)))]) := s2.out.al (c8 (sx) (sy)) 26 rfl
  have b3 : Hid (Below w.heap.size w (kalP w2 (sx) (sy))) := b2.out.alloc b2.out.size _
  have z3 := b2.out.size
  clear s2 b2
  have up_0 : (kalP w2 (sx) (sy)).cell? ⟨w.heap.size, 0, none⟩ = some (.int .u64 (px).a) := Kn.get s3.out 2 0 rfl rfl
  have up_1 : (kalP w2 (sx) (sy)).cell? ⟨w.heap.size, 1, none⟩ = some (.int .u64 (px).b) := Kn.get s3.out 2 1 rfl rfl
  have up_2 : (kalP w2 (sx) (sy)).cell? ⟨w.heap.size, 2, none⟩ = some (.int .u64 (px).c) := Kn.get s3.out 2 2 rfl rfl
  have up_3 : (kalP w2 (sx) (sy)).cell? ⟨w.heap.size, 3, none⟩ = some (.int .u64 (px).d) := Kn.get s3.out 2 3 rfl rfl
  have up_4 : (kalP w2 (sx) (sy)).cell? ⟨w.heap.size, 4, none⟩ = some (.int .u64 (py).a) := Kn.get s3.out 2 4 rfl rfl
  have up_5 : (kalP w2 (sx) (sy)).cell? ⟨w.heap.size, 5, none⟩ = some (.int .u64 (py).b) := Kn.get s3.out 2 5 rfl rfl
  have up_6 : (kalP w2 (sx) (sy)).cell? ⟨w.heap.size, 6, none⟩ = some (.int .u64 (py).c) := Kn.get s3.out 2 6 rfl rfl
  have up_7 : (kalP w2 (sx) (sy)).cell? ⟨w.heap.size, 7, none⟩ = some (.int .u64 (py).d) := Kn.get s3.out 2 7 rfl rfl
  go_wp2_with fail
  clear up_0 up_1 up_2 up_3 up_4 up_5 up_6 up_7
  refine (N1 _).mono ?_
  rintro e w4 ⟨rfl, hb4⟩
  have s4 : Hid (Kn w4 [(w2.heap.size, (c8 (sx) (sy))), (w.heap.size + 1, (c8 (qx) (qy))), (w.heap.size, (c8 (px) (py)))]) := s3.out.up hb4
  have b4 : Hid (Below w.heap.size w w4) := b3.out.trans (hb4.mono b3.out.size)
  have z4 := b4.out.size
  clear hb4 s3 b3
  have s5 : Hid (Kn (kalP w4 (gx) (py)) [(w4.heap.size, (c8 (gx) (py))), (w2.heap.size, (c8 (sx) (sy))), (w.heap.size + 1, (c8 (qx) (qy))), (w.heap.size, (c8 (px) (py)))]) := s4.out.al (c8 (gx) (py)) 26 rfl
  have b5 : Hid (Below w.heap.size w (kalP w4 (gx) (py))) := b4.out.alloc b4.out.size _
  have z5 := b4.out.size
  clear s4 b4
  have up_0 : (kalP w4 (gx) (py)).cell? ⟨w.heap.size, 0, none⟩ = some (.int .u64 (px).a) := Kn.get s5.out 3 0 rfl rfl
  have up_1 : (kalP w4 (gx) (py)).cell? ⟨w.heap.size, 1, none⟩ = some (.int .u64 (px).b) := Kn.get s5.out 3 1 rfl rfl
  have up_2 : (kalP w4 (gx) (py)).cell? ⟨w.heap.size, 2, none⟩ = some (.int .u64 (px).c) := Kn.get s5.out 3 2 rfl rfl
  have up_3 : (kalP w4 (gx) (py)).cell? ⟨w.heap.size, 3, none⟩ = some (.int .u64 (px).d) := Kn.get s5.out 3 3 rfl rfl
  have up_4 : (kalP w4 (gx) (py)).cell? ⟨w.heap.size, 4, none⟩ = some (.int .u64 (py).a) := Kn.get s5.out 3 4 rfl rfl
  have up_5 : (kalP w4 (gx) (py)).cell? ⟨w.heap.size, 5, none⟩ = some (.int .u64 (py).b) := Kn.get s5.out 3 5 rfl rfl
  have up_6 : (kalP w4 (gx) (py)).cell? ⟨w.heap.size, 6, none⟩ = some (.int .u64 (py).c) := Kn.get s5.out 3 6 rfl rfl
  have up_7 : (kalP w4 (gx) (py)).cell? ⟨w.heap.size, 7, none⟩ = some (.int .u64 (py).d) := Kn.get s5.out 3 7 rfl rfl
  go_wp2_with fail
  clear up_0 up_1 up_2 up_3 up_4 up_5 up_6 up_7
  refine (O1 _).mono ?_
  rintro e w6 ⟨rfl, hb6⟩
  have s6 : Hid (Kn w6 [(w4.heap.size, (c8 (gx) (py))), (w2.heap.size, (c8 (sx) (sy))), (w.heap.size + 1, (c8 (qx) (qy))), (w.heap.size, (c8 (px) (py)))]) := s5.out.up hb6
  have b6 : Hid (Below w.heap.size w w6) := b5.out.trans (hb6.mono b5.out.size)
  have z6 := b6.out.size
  clear hb6 s5 b5
  go_wp2_with fail
  refine (Z1 _).mono ?_
  rintro e w7 ⟨rfl, hb7⟩
  have s7 : Hid (Kn w7 [(w4.heap.size, (c8 (gx) (py))), (w2.heap.size, (c8 (sx) (sy))), (w.heap.size + 1, (c8 (qx) (qy))), (w.heap.size, (c8 (px) (py)))]) := s6.out.up hb7
  have b7 : Hid (Below w.heap.size w w7) := b6.out.trans (hb7.mono b6.out.size)
  have z7 := b7.out.size
  clear hb7 s6 b6
  go_wp2_with fail
  refine (B1 _).mono ?_
  rintro e w8 ⟨rfl, hb8⟩
  have s8 : Hid (Kn w8 [(w4.heap.size, (c8 (gx) (py))), (w2.heap.size, (c8 (sx) (sy))), (w.heap.size + 1, (c8 (qx) (qy))), (w.heap.size, (c8 (px) (py)))]) := s7.out.up hb8
  have b8 : Hid (Below w.heap.size w w8) := b7.out.trans (hb8.mono b7.out.size)
  have z8 := b8.out.size
  clear hb8 s7 b7
  go_wp2_with fail
  refine (PB _).mono ?_
  rintro e w9 ⟨rfl, hb9⟩
  have s9 : Hid (Kn w9 [(w4.heap.size, (c8 (gx) (py))), (w2.heap.size, (c8 (sx) (sy))), (w.heap.size + 1, (c8 (qx) (qy))), (w.heap.size, (c8 (px) (py)))]) := s8.out.up hb9
  have b9 : Hid (Below w.heap.size w w9) := b8.out.trans (hb9.mono b8.out.size)
  have z9 := b9.out.size
  clear hb9 s8 b8
  go_wp2_with fail
  refine (PP _).mono ?_
  rintro e w10 ⟨rfl, hb10⟩
  have s10 : Hid (Kn w10 [(w4.heap.size, (c8 (gx) (py))), (w2.heap.size, (c8 (sx) (sy))), (w.heap.size + 1, (c8 (qx) (qy))), (w.heap.size, (c8 (px) (py)))]) := s9.out.up hb10
  have b10 : Hid (Below w.heap.size w w10) := b9.out.trans (hb10.mono b9.out.size)
  have z10 := b10.out.size
  clear hb10 s9 b9
  have un_0 : w10.cell? ⟨w4.heap.size, 0, none⟩ = some (.int .u64 (gx).a) := Kn.get s10.out 0 0 rfl rfl
  have un_1 : w10.cell? ⟨w4.heap.size, 1, none⟩ = some (.int .u64 (gx).b) := Kn.get s10.out 0 1 rfl rfl
  have un_2 : w10.cell? ⟨w4.heap.size, 2, none⟩ = some (.int .u64 (gx).c) := Kn.get s10.out 0 2 rfl rfl
  have un_3 : w10.cell? ⟨w4.heap.size, 3, none⟩ = some (.int .u64 (gx).d) := Kn.get s10.out 0 3 rfl rfl
  have un_4 : w10.cell? ⟨w4.heap.size, 4, none⟩ = some (.int .u64 (py).a) := Kn.get s10.out 0 4 rfl rfl
  have un_5 : w10.cell? ⟨w4.heap.size, 5, none⟩ = some (.int .u64 (py).b) := Kn.get s10.out 0 5 rfl rfl
  have un_6 : w10.cell? ⟨w4.heap.size, 6, none⟩ = some (.int .u64 (py).c) := Kn.get s10.out 0 6 rfl rfl
  have un_7 : w10.cell? ⟨w4.heap.size, 7, none⟩ = some (.int .u64 (py).d) := Kn.get s10.out 0 7 rfl rfl
  have us_0 : w10.cell? ⟨w2.heap.size, 0, none⟩ = some (.int .u64 (sx).a) := Kn.get s10.out 1 0 rfl rfl
  have us_1 : w10.cell? ⟨w2.heap.size, 1, none⟩ = some (.int .u64 (sx).b) := Kn.get s10.out 1 1 rfl rfl
  have us_2 : w10.cell? ⟨w2.heap.size, 2, none⟩ = some (.int .u64 (sx).c) := Kn.get s10.out 1 2 rfl rfl
  have us_3 : w10.cell? ⟨w2.heap.size, 3, none⟩ = some (.int .u64 (sx).d) := Kn.get s10.out 1 3 rfl rfl
  have us_4 : w10.cell? ⟨w2.heap.size, 4, none⟩ = some (.int .u64 (sy).a) := Kn.get s10.out 1 4 rfl rfl
  have us_5 : w10.cell? ⟨w2.heap.size, 5, none⟩ = some (.int .u64 (sy).b) := Kn.get s10.out 1 5 rfl rfl
  have us_6 : w10.cell? ⟨w2.heap.size, 6, none⟩ = some (.int .u64 (sy).c) := Kn.get s10.out 1 6 rfl rfl
  have us_7 : w10.cell? ⟨w2.heap.size, 7, none⟩ = some (.int .u64 (sy).d) := Kn.get s10.out 1 7 rfl rfl
  go_wp2_with fail
  clear un_0 un_1 un_2 un_3 un_4 un_5 un_6 un_7 us_0 us_1 us_2 us_3 us_4 us_5 us_6 us_7
  refine wp_region_up (by kernel_rfl) (by kernel_rfl) (fun U hU f hf hcl => ?_)
  have un_0 := fun nx => (Kn.get (s10.out.up (hf nx).out) 0 0 rfl rfl : (f nx).cell? ⟨w4.heap.size, 0, none⟩ = some (.int .u64 (gx).a))
  have un_1 := fun nx => (Kn.get (s10.out.up (hf nx).out) 0 1 rfl rfl : (f nx).cell? ⟨w4.heap.size, 1, none⟩ = some (.int .u64 (gx).b))
  have un_2 := fun nx => (Kn.get (s10.out.up (hf nx).out) 0 2 rfl rfl : (f nx).cell? ⟨w4.heap.size, 2, none⟩ = some (.int .u64 (gx).c))
  have un_3 := fun nx => (Kn.get (s10.out.up (hf nx).out) 0 3 rfl rfl : (f nx).cell? ⟨w4.heap.size, 3, none⟩ = some (.int .u64 (gx).d))
  have un_4 := fun nx => (Kn.get (s10.out.up (hf nx).out) 0 4 rfl rfl : (f nx).cell? ⟨w4.heap.size, 4, none⟩ = some (.int .u64 (py).a))
  have un_5 := fun nx => (Kn.get (s10.out.up (hf nx).out) 0 5 rfl rfl : (f nx).cell? ⟨w4.heap.size, 5, none⟩ = some (.int .u64 (py).b))
  have un_6 := fun nx => (Kn.get (s10.out.up (hf nx).out) 0 6 rfl rfl : (f nx).cell? ⟨w4.heap.size, 6, none⟩ = some (.int .u64 (py).c))
  have un_7 := fun nx => (Kn.get (s10.out.up (hf nx).out) 0 7 rfl rfl : (f nx).cell? ⟨w4.heap.size, 7, none⟩ = some (.int .u64 (py).d))
  have up_0 := fun nx => (Kn.get (s10.out.up (hf nx).out) 3 0 rfl rfl : (f nx).cell? ⟨w.heap.size, 0, none⟩ = some (.int .u64 (px).a))
  have up_1 := fun nx => (Kn.get (s10.out.up (hf nx).out) 3 1 rfl rfl : (f nx).cell? ⟨w.heap.size, 1, none⟩ = some (.int .u64 (px).b))
  have up_2 := fun nx => (Kn.get (s10.out.up (hf nx).out) 3 2 rfl rfl : (f nx).cell? ⟨w.heap.size, 2, none⟩ = some (.int .u64 (px).c))
  have up_3 := fun nx => (Kn.get (s10.out.up (hf nx).out) 3 3 rfl rfl : (f nx).cell? ⟨w.heap.size, 3, none⟩ = some (.int .u64 (px).d))
  have up_4 := fun nx => (Kn.get (s10.out.up (hf nx).out) 3 4 rfl rfl : (f nx).cell? ⟨w.heap.size, 4, none⟩ = some (.int .u64 (py).a))
  have up_5 := fun nx => (Kn.get (s10.out.up (hf nx).out) 3 5 rfl rfl : (f nx).cell? ⟨w.heap.size, 5, none⟩ = some (.int .u64 (py).b))
  have up_6 := fun nx => (Kn.get (s10.out.up (hf nx).out) 3 6 rfl rfl : (f nx).cell? ⟨w.heap.size, 6, none⟩ = some (.int .u64 (py).c))
  have up_7 := fun nx => (Kn.get (s10.out.up (hf nx).out) 3 7 rfl rfl : (f nx).cell? ⟨w.heap.size, 7, none⟩ = some (.int .u64 (py).d))
  have us_0 := fun nx => (Kn.get (s10.out.up (hf nx).out) 1 0 rfl rfl : (f nx).cell? ⟨w2.heap.size, 0, none⟩ = some (.int .u64 (sx).a))
  have us_1 := fun nx => (Kn.get (s10.out.up (hf nx).out) 1 1 rfl rfl : (f nx).cell? ⟨w2.heap.size, 1, none⟩ = some (.int .u64 (sx).b))
  have us_2 := fun nx => (Kn.get (s10.out.up (hf nx).out) 1 2 rfl rfl : (f nx).cell? ⟨w2.heap.size, 2, none⟩ = some (.int .u64 (sx).c))
  have us_3 := fun nx => (Kn.get (s10.out.up (hf nx).out) 1 3 rfl rfl : (f nx).cell? ⟨w2.heap.size, 3, none⟩ = some (.int .u64 (sx).d))
  have us_4 := fun nx => (Kn.get (s10.out.up (hf nx).out) 1 4 rfl rfl : (f nx).cell? ⟨w2.heap.size, 4, none⟩ = some (.int .u64 (sy).a))
  have us_5 := fun nx => (Kn.get (s10.out.up (hf nx).out) 1 5 rfl rfl : (f nx).cell? ⟨w2.heap.size, 5, none⟩ = some (.int .u64 (sy).b))
  have us_6 := fun nx => (Kn.get (s10.out.up (hf nx).out) 1 6 rfl rfl : (f nx).cell? ⟨w2.heap.size, 6, none⟩ = some (.int .u64 (sy).c))
  have us_7 := fun nx => (Kn.get (s10.out.up (hf nx).out) 1 7 rfl rfl : (f nx).cell? ⟨w2.heap.size, 7, none⟩ = some (.int .u64 (sy).d))
  try simp only [List.append_eq, List.cons_append, List.nil_append]
  repeat (go_big_quiet_step (first | (go_at_call 18; exact (F1 _).mono fun e w'' ⟨he, hb⟩ => ⟨he, hcl.out _ _ hb⟩) | (go_at_call 17; exact (L1 _).mono fun e w'' ⟨he, hb⟩ => ⟨he, hcl.out _ _ hb⟩) | (go_at_call 19; exact (M1 _).mono fun e w'' ⟨he, hb⟩ => ⟨he, hcl.out _ _ hb⟩)))
  refine wpQuiet_nil ?_
  intro nx
  have hb11 := (hf nx).out
  clear hf hcl un_0 un_1 un_2 un_3 un_4 un_5 un_6 un_7 up_0 up_1 up_2 up_3 up_4 up_5 up_6 up_7 us_0 us_1 us_2 us_3 us_4 us_5 us_6 us_7
  generalize f nx = w11 at hb11 ⊢
  have s11 : Hid (Kn w11 [(w4.heap.size, (c8 (gx) (py))), (w2.heap.size, (c8 (sx) (sy))), (w.heap.size + 1, (c8 (qx) (qy))), (w.heap.size, (c8 (px) (py)))]) := s10.out.up hb11
  have b11 : Hid (Below w.heap.size w w11) := b10.out.trans (hb11.mono b10.out.size)
  have z11 := b11.out.size
  clear hb11 s10 b10
  go_wp2_with fail
  refine wp_region_up (by kernel_rfl) (by kernel_rfl) (fun U hU f hf hcl => ?_)
  have us_0 := fun nx => (Kn.get (s11.out.up (hf nx).out) 1 0 rfl rfl : (f nx).cell? ⟨w2.heap.size, 0, none⟩ = some (.int .u64 (sx).a))
  have us_1 := fun nx => (Kn.get (s11.out.up (hf nx).out) 1 1 rfl rfl : (f nx).cell? ⟨w2.heap.size, 1, none⟩ = some (.int .u64 (sx).b))
  have us_2 := fun nx => (Kn.get (s11.out.up (hf nx).out) 1 2 rfl rfl : (f nx).cell? ⟨w2.heap.size, 2, none⟩ = some (.int .u64 (sx).c))
  have us_3 := fun nx => (Kn.get (s11.out.up (hf nx).out) 1 3 rfl rfl : (f nx).cell? ⟨w2.heap.size, 3, none⟩ = some (.int .u64 (sx).d))
  have us_4 := fun nx => (Kn.get (s11.out.up (hf nx).out) 1 4 rfl rfl : (f nx).cell? ⟨w2.heap.size, 4, none⟩ = some (.int .u64 (sy).a))
  have us_5 := fun nx => (Kn.get (s11.out.up (hf nx).out) 1 5 rfl rfl : (f nx).cell? ⟨w2.heap.size, 5, none⟩ = some (.int .u64 (sy).b))
  have us_6 := fun nx => (Kn.get (s11.out.up (hf nx).out) 1 6 rfl rfl : (f nx).cell? ⟨w2.heap.size, 6, none⟩ = some (.int .u64 (sy).c))
  have us_7 := fun nx => (Kn.get (s11.out.up (hf nx).out) 1 7 rfl rfl : (f nx).cell? ⟨w2.heap.size, 7, none⟩ = some (.int .u64 (sy).d))
  have up_0 := fun nx => (Kn.get (s11.out.up (hf nx).out) 3 0 rfl rfl : (f nx).cell? ⟨w.heap.size, 0, none⟩ = some (.int .u64 (px).a))
  have up_1 := fun nx => (Kn.get (s11.out.up (hf nx).out) 3 1 rfl rfl : (f nx).cell? ⟨w.heap.size, 1, none⟩ = some (.int .u64 (px).b))
  have up_2 := fun nx => (Kn.get (s11.out.up (hf nx).out) 3 2 rfl rfl : (f nx).cell? ⟨w.heap.size, 2, none⟩ = some (.int .u64 (px).c))
  have up_3 := fun nx => (Kn.get (s11.out.up (hf nx).out) 3 3 rfl rfl : (f nx).cell? ⟨w.heap.size, 3, none⟩ = some (.int .u64 (px).d))
  have up_4 := fun nx => (Kn.get (s11.out.up (hf nx).out) 3 4 rfl rfl : (f nx).cell? ⟨w.heap.size, 4, none⟩ = some (.int .u64 (py).a))
  have up_5 := fun nx => (Kn.get (s11.out.up (hf nx).out) 3 5 rfl rfl : (f nx).cell? ⟨w.heap.size, 5, none⟩ = some (.int .u64 (py).b))
  have up_6 := fun nx => (Kn.get (s11.out.up (hf nx).out) 3 6 rfl rfl : (f nx).cell? ⟨w.heap.size, 6, none⟩ = some (.int .u64 (py).c))
  have up_7 := fun nx => (Kn.get (s11.out.up (hf nx).out) 3 7 rfl rfl : (f nx).cell? ⟨w.heap.size, 7, none⟩ = some (.int .u64 (py).d))
  have uq_0 := fun nx => (Kn.get (s11.out.up (hf nx).out) 2 0 rfl rfl : (f nx).cell? ⟨w.heap.size + 1, 0, none⟩ = some (.int .u64 (qx).a))
  have uq_1 := fun nx => (Kn.get (s11.out.up (hf nx).out) 2 1 rfl rfl : (f nx).cell? ⟨w.heap.size + 1, 1, none⟩ = some (.int .u64 (qx).b))
  have uq_2 := fun nx => (Kn.get (s11.out.up (hf nx).out) 2 2 rfl rfl : (f nx).cell? ⟨w.heap.size + 1, 2, none⟩ = some (.int .u64 (qx).c))
  have uq_3 := fun nx => (Kn.get (s11.out.up (hf nx).out) 2 3 rfl rfl : (f nx).cell? ⟨w.heap.size + 1, 3, none⟩ = some (.int .u64 (qx).d))
  have uq_4 := fun nx => (Kn.get (s11.out.up (hf nx).out) 2 4 rfl rfl : (f nx).cell? ⟨w.heap.size + 1, 4, none⟩ = some (.int .u64 (qy).a))
  have uq_5 := fun nx => (Kn.get (s11.out.up (hf nx).out) 2 5 rfl rfl : (f nx).cell? ⟨w.heap.size + 1, 5, none⟩ = some (.int .u64 (qy).b))
  have uq_6 := fun nx => (Kn.get (s11.out.up (hf nx).out) 2 6 rfl rfl : (f nx).cell? ⟨w.heap.size + 1, 6, none⟩ = some (.int .u64 (qy).c))
  have uq_7 := fun nx => (Kn.get (s11.out.up (hf nx).out) 2 7 rfl rfl : (f nx).cell? ⟨w.heap.size + 1, 7, none⟩ = some (.int .u64 (qy).d))
  try simp only [List.append_eq, List.cons_append, List.nil_append]
  repeat (go_big_quiet_step (first | (go_at_call_of 20 [Value.agg #[Value.int IntKind.u64 px.a, Value.int IntKind.u64 px.b, Value.int IntKind.u64 px.c, Value.int IntKind.u64 px.d, Value.int IntKind.u64 py.a, Value.int IntKind.u64 py.b, Value.int IntKind.u64 py.c, Value.int IntKind.u64 py.d]]; exact (P1 _).mono fun e w'' ⟨he, hb⟩ => ⟨he, hcl.out _ _ hb⟩) | (go_at_call_of 20 [Value.agg #[Value.int IntKind.u64 qx.a, Value.int IntKind.u64 qx.b, Value.int IntKind.u64 qx.c, Value.int IntKind.u64 qx.d, Value.int IntKind.u64 qy.a, Value.int IntKind.u64 qy.b, Value.int IntKind.u64 qy.c, Value.int IntKind.u64 qy.d]]; exact (P2 _).mono fun e w'' ⟨he, hb⟩ => ⟨he, hcl.out _ _ hb⟩) | (go_at_call 21; exact (PL _).mono fun e w'' ⟨he, hb⟩ => ⟨he, hcl.out _ _ hb⟩) | (go_at_call 16; exact (PQ _).mono fun e w'' ⟨he, hb⟩ => ⟨he, hcl.out _ _ hb⟩)))
  refine wpQuiet_nil ?_
  intro nx
  have hb12 := (hf nx).out
  clear hf hcl us_0 us_1 us_2 us_3 us_4 us_5 us_6 us_7 up_0 up_1 up_2 up_3 up_4 up_5 up_6 up_7 uq_0 uq_1 uq_2 uq_3 uq_4 uq_5 uq_6 uq_7
  generalize f nx = w12 at hb12 ⊢
  have s12 : Hid (Kn w12 [(w4.heap.size, (c8 (gx) (py))), (w2.heap.size, (c8 (sx) (sy))), (w.heap.size + 1, (c8 (qx) (qy))), (w.heap.size, (c8 (px) (py)))]) := s11.out.up hb12
  have b12 : Hid (Below w.heap.size w w12) := b11.out.trans (hb12.mono b11.out.size)
  have z12 := b12.out.size
  clear hb12 s11 b11
  go_wp2_with fail
  go_ret
  exact ⟨rfl, b12.out⟩
theorem neP_self (x y : Nm) (w : World) : (binOp .neq 26 (Wv x y) (Wv x y)).run Try.prog w = .ok (.bool false) w := by rw [neP, Nm.beq_self, Nm.beq_self]; rfl
theorem neN_self (x : Nm) (w : World) : (binOp .neq 24 (N x) (N x)).run Try.prog w = .ok (.bool false) w := by rw [neN, Nm.beq_self]; rfl
theorem less_zeros (x : Nat) (hx : x < F.p) (w : World) : Calls Try.prog 17 #[.agg #[Value.int IntKind.i64 0, Value.int IntKind.i64 0, Value.int IntKind.i64 0, Value.int IntKind.i64 0, Value.int IntKind.i64 0, Value.int IntKind.i64 0, Value.int IntKind.i64 0, Value.int IntKind.i64 0, Value.int IntKind.i64 0, Value.int IntKind.i64 0, Value.int IntKind.i64 0, Value.int IntKind.i64 0, Value.int IntKind.i64 0, Value.int IntKind.i64 0, Value.int IntKind.i64 0, Value.int IntKind.i64 0], .agg (fR x).toArray] w fun e w' => e = .returned (.agg (fR (F.sub 0 x)).toArray) ∧ Below w.heap.size w w' := I.less_fe 0 x F.p_pos hx w
theorem curveTells_of (CO : COnC) (CZ : CZeroC) (CB : CBaseC) (CN : CNegC) (CNN : CNegN) (CA : CAddC) (CAN : CAddN) (px py qx qy : Nm) (a1 : px.ok) (a2 : py.ok) (a3 : qx.ok) (a4 : qy.ok) (w : World) :
    Calls Try.prog 3 #[Wv px py, Wv qx qy] w fun e w' => e = .returned (.bool true) ∧ Below w.heap.size w w' := by
  have RP := rOn_fun px py a1 a2
  have RQ := rOn_fun qx qy a3 a4
  have Z1 : ∀ w, Calls Try.prog 13 #[] w fun e w' => e = .returned (Wv ⟨0, 0, 0, 0⟩ ⟨1, 0, 0, 0⟩) ∧ Below w.heap.size w w' := CZ
  have PP := ptPoint_n Cv.base.1 Cv.base.2 1 (by decide) (by decide) (by decide)
  have eb := fr_point Cv.base_on Cv.base_fr
  simp only [] at eb
  rw [eb.1, eb.2] at PP
  by_cases hP : Cv.On (px.nat, py.nat)
  · have N1 := CN (px.nat, py.nat) hP
    rw [← pv_of a1 a2] at N1
    have en : pv (Cv.neg (px.nat, py.nat)) = Wv (nm (F.sub 0 px.nat)) py := by
      show Wv (nm (F.sub 0 px.nat)) (nm py.nat) = _
      rw [← Nm.eq_nm a2 rfl]
    rw [en] at N1
    have O1 := CO.1 (px.nat, py.nat) hP
    rw [← pv_of a1 a2] at O1
    have F1 := I.field_fe px a1
    rw [Nat.mod_eq_of_lt hP.1] at F1
    have M1 := I.num_fe (F.sub 0 px.nat) (F.sub_lt _ _)
    by_cases hQ : Cv.On (qx.nat, qy.nat)
    · have A1 := CA (px.nat, py.nat) (qx.nat, qy.nat) hP hQ
      rw [← pv_of a1 a2, ← pv_of a3 a4] at A1
      have P1 := ptOf_n px py a1 a2
      have P2 := ptOf_n qx qy a3 a4
      rw [Nat.mod_eq_of_lt hP.1, Nat.mod_eq_of_lt hP.2.1] at P1
      rw [Nat.mod_eq_of_lt hQ.1, Nat.mod_eq_of_lt hQ.2.1] at P2
      have PL := ptPlus_n (px.nat, py.nat, 1) (qx.nat, qy.nat, 1) ⟨hP.1, hP.2.1, show 1 < F.p by decide⟩ ⟨hQ.1, hQ.2.1, show 1 < F.p by decide⟩
      have fr := Cv.padd_fr (s := (px.nat, py.nat, 1)) (t := (qx.nat, qy.nat, 1)) hP hQ (Cv.Fr.one (px.nat, py.nat)) (Cv.Fr.one (qx.nat, qy.nat))
      have lt := padd_lt (px.nat, py.nat, 1) (qx.nat, qy.nat, 1)
      have PQ := ptPoint_n _ _ _ lt.1 lt.2.1 lt.2.2
      have e := fr_point (Cv.closed hP hQ) fr
      rw [e.1, e.2] at PQ
      exact curveTells_two px py qx qy _ _ _ _ _ _ _ px.nat (F.sub 0 px.nat) px.nat py.nat qx.nat qy.nat _ _ _ (neP_self _ _) (neP_self _ _) (eqP_self _ _) (neN_self _) (neN_self _) (RP.1 hP) (RQ.1 hQ) A1 N1 O1 Z1 CB ptBase_n PP F1 (less_zeros _ hP.1) M1 P1 P2 PL PQ w
    · exact curveTells_one px py qx qy _ _ _ _ _ px.nat (F.sub 0 px.nat) (neP_self _ _) (neP_self _ _) (eqP_self _ _) (neN_self _) (neN_self _) (RP.1 hP) (RQ.2 hQ) (CAN px py qx qy a1 a2 a3 a4 fun h => hQ h.2) N1 O1 Z1 CB ptBase_n PP F1 (less_zeros _ hP.1) M1 w
  · have R2 : ∃ o2, ∀ w, Calls Try.prog 9 #[Wv qx qy] w fun e w' => e = .returned (.bool o2) ∧ Below w.heap.size w w' := by
      by_cases hQ : Cv.On (qx.nat, qy.nat)
      · exact ⟨true, RQ.1 hQ⟩
      · exact ⟨false, RQ.2 hQ⟩
    obtain ⟨o2, R2⟩ := R2
    exact curveTells_no px py qx qy _ _ o2 _ _ (neP_self _ _) (neP_self _ _) (neP_self _ _) (eqP_self _ _) (RP.2 hP) R2 (CAN px py qx qy a1 a2 a3 a4 fun h => hP h.1) (CNN px py a1 a2 hP) (CO.2 px py a1 a2 hP) Z1 CB ptBase_n PP w
end Go.Proofs.Ytbninaelmbkboaa
