/- LadderCurve, LadderSwaps, LadderLow, out of what packages ladder and curve must keep. -/
import Derived.Test.YtjdamgfichlgpaaGrp47
import Derived.Test.YtjdamgfichlgpaaCrvGroup
import Derived.Test.YtjdamgfichlgpaaHalf
import Derived.Test.YtjdamgfichlgpaaGrp10
namespace Go.Proofs.Ytjdamgfichlgpaa
open Go.RowKit
attribute [local go_sem] World.cell?_alloc_some cell_alloc2 cell_alloc3 cell_alloc4 frozen?_alloc_cells frozen_out
set_option linter.unusedSimpArgs false
set_option maxHeartbeats 1000000 in
theorem ladCurve_no (k px py : Nm)
    (LA : ∀ w, Calls Try.prog 18 #[] w fun e w' => e = .returned (.bool true) ∧ Below w.heap.size w w')
    (O1 : ∀ w, Calls Try.prog 19 #[Wv px py] w fun e w' => e = .returned (.bool false) ∧ Below w.heap.size w w')
    (w : World) :
    Calls Try.prog 4 #[N k, Wv px py] w fun e w' => e = .returned (.bool true) ∧ Below w.heap.size w w' := by
  go_enter Try.func4, Try.ntmps4
  have s0 : Hid (Kn (kalP (kal4 w (k)) (px) (py)) [(w.heap.size + 1, (c8 (px) (py))), (w.heap.size, (c4 (k)))]) := (((Kn.nil w).al (c4 (k)) 24 rfl).al (c8 (px) (py)) 26 (by simp))
  have b0 : Hid (Below w.heap.size w (kalP (kal4 w (k)) (px) (py))) := (((Below.refl _ _).alloc (Nat.le_refl _) _).alloc (by simp <;> omega) _)
  go_wp2_with fail
  refine (LA _).mono ?_
  rintro e w1 ⟨rfl, hb1⟩
  have s1 : Hid (Kn w1 [(w.heap.size + 1, (c8 (px) (py))), (w.heap.size, (c4 (k)))]) := s0.out.up hb1
  have b1 : Hid (Below w.heap.size w w1) := b0.out.trans (hb1.mono b0.out.size)
  have z1 := b1.out.size
  clear hb1 s0 b0
  go_wp2_with fail
  refine wp_region_up (by kernel_rfl) (by kernel_rfl) (fun U hU f hf hcl => ?_)
  have up_0 := fun nx => (Kn.get (s1.out.up (hf nx).out) 0 0 rfl rfl : (f nx).cell? ⟨w.heap.size + 1, 0, none⟩ = some (.int .u64 (px).a))
  have up_1 := fun nx => (Kn.get (s1.out.up (hf nx).out) 0 1 rfl rfl : (f nx).cell? ⟨w.heap.size + 1, 1, none⟩ = some (.int .u64 (px).b))
  have up_2 := fun nx => (Kn.get (s1.out.up (hf nx).out) 0 2 rfl rfl : (f nx).cell? ⟨w.heap.size + 1, 2, none⟩ = some (.int .u64 (px).c))
  have up_3 := fun nx => (Kn.get (s1.out.up (hf nx).out) 0 3 rfl rfl : (f nx).cell? ⟨w.heap.size + 1, 3, none⟩ = some (.int .u64 (px).d))
  have up_4 := fun nx => (Kn.get (s1.out.up (hf nx).out) 0 4 rfl rfl : (f nx).cell? ⟨w.heap.size + 1, 4, none⟩ = some (.int .u64 (py).a))
  have up_5 := fun nx => (Kn.get (s1.out.up (hf nx).out) 0 5 rfl rfl : (f nx).cell? ⟨w.heap.size + 1, 5, none⟩ = some (.int .u64 (py).b))
  have up_6 := fun nx => (Kn.get (s1.out.up (hf nx).out) 0 6 rfl rfl : (f nx).cell? ⟨w.heap.size + 1, 6, none⟩ = some (.int .u64 (py).c))
  have up_7 := fun nx => (Kn.get (s1.out.up (hf nx).out) 0 7 rfl rfl : (f nx).cell? ⟨w.heap.size + 1, 7, none⟩ = some (.int .u64 (py).d))
  have uk_0 := fun nx => (Kn.get (s1.out.up (hf nx).out) 1 0 rfl rfl : (f nx).cell? ⟨w.heap.size, 0, none⟩ = some (.int .u64 (k).a))
  have uk_1 := fun nx => (Kn.get (s1.out.up (hf nx).out) 1 1 rfl rfl : (f nx).cell? ⟨w.heap.size, 1, none⟩ = some (.int .u64 (k).b))
  have uk_2 := fun nx => (Kn.get (s1.out.up (hf nx).out) 1 2 rfl rfl : (f nx).cell? ⟨w.heap.size, 2, none⟩ = some (.int .u64 (k).c))
  have uk_3 := fun nx => (Kn.get (s1.out.up (hf nx).out) 1 3 rfl rfl : (f nx).cell? ⟨w.heap.size, 3, none⟩ = some (.int .u64 (k).d))
  try simp only [List.append_eq, List.cons_append, List.nil_append]
  repeat (go_big_quiet_step (first | (go_at_call 19; exact (O1 _).mono fun e w'' ⟨he, hb⟩ => ⟨he, hcl.out _ _ hb⟩)))
  refine wpQuiet_nil ?_
  intro nx
  have hb2 := (hf nx).out
  clear hf hcl up_0 up_1 up_2 up_3 up_4 up_5 up_6 up_7 uk_0 uk_1 uk_2 uk_3
  generalize f nx = w2 at hb2 ⊢
  have s2 : Hid (Kn w2 [(w.heap.size + 1, (c8 (px) (py))), (w.heap.size, (c4 (k)))]) := s1.out.up hb2
  have b2 : Hid (Below w.heap.size w w2) := b1.out.trans (hb2.mono b1.out.size)
  have z2 := b2.out.size
  clear hb2 s1 b1
  go_wp2_with fail
  go_ret
  exact ⟨rfl, b2.out⟩
set_option maxHeartbeats 1000000 in
theorem ladCurve_yes (k px py u r tx ty : Nm) (e1 : ∀ w, (binOp .eql 24 (N r) (N r)).run Try.prog w = .ok (.bool true) w)
    (LA : ∀ w, Calls Try.prog 18 #[] w fun e w' => e = .returned (.bool true) ∧ Below w.heap.size w w')
    (O1 : ∀ w, Calls Try.prog 19 #[Wv px py] w fun e w' => e = .returned (.bool true) ∧ Below w.heap.size w w')
    (P1 : ∀ w, Calls Try.prog 20 #[Wv px py] w fun e w' => e = .returned (N u) ∧ Below w.heap.size w w')
    (L1 : ∀ w, Calls Try.prog 9 #[N k, N u] w fun e w' => e = .returned (N r) ∧ Below w.heap.size w w')
    (T1 : ∀ w, Calls Try.prog 21 #[N k, Wv px py] w fun e w' => e = .returned (Wv tx ty) ∧ Below w.heap.size w w')
    (P2 : ∀ w, Calls Try.prog 20 #[Wv tx ty] w fun e w' => e = .returned (N r) ∧ Below w.heap.size w w')
    (w : World) :
    Calls Try.prog 4 #[N k, Wv px py] w fun e w' => e = .returned (.bool true) ∧ Below w.heap.size w w' := by
  go_enter Try.func4, Try.ntmps4
  have s0 : Hid (Kn (kalP (kal4 w (k)) (px) (py)) [(w.heap.size + 1, (c8 (px) (py))), (w.heap.size, (c4 (k)))]) := (((Kn.nil w).al (c4 (k)) 24 rfl).al (c8 (px) (py)) 26 (by simp))
  have b0 : Hid (Below w.heap.size w (kalP (kal4 w (k)) (px) (py))) := (((Below.refl _ _).alloc (Nat.le_refl _) _).alloc (by simp <;> omega) _)
  go_wp2_with fail
  refine (LA _).mono ?_
  rintro e w1 ⟨rfl, hb1⟩
  have s1 : Hid (Kn w1 [(w.heap.size + 1, (c8 (px) (py))), (w.heap.size, (c4 (k)))]) := s0.out.up hb1
  have b1 : Hid (Below w.heap.size w w1) := b0.out.trans (hb1.mono b0.out.size)
  have z1 := b1.out.size
  clear hb1 s0 b0
  go_wp2_with fail
  refine wp_region_up (by kernel_rfl) (by kernel_rfl) (fun U hU f hf hcl => ?_)
  have up_0 := fun nx => (Kn.get (s1.out.up (hf nx).out) 0 0 rfl rfl : (f nx).cell? ⟨w.heap.size + 1, 0, none⟩ = some (.int .u64 (px).a))
  have up_1 := fun nx => (Kn.get (s1.out.up (hf nx).out) 0 1 rfl rfl : (f nx).cell? ⟨w.heap.size + 1, 1, none⟩ = some (.int .u64 (px).b))
  have up_2 := fun nx => (Kn.get (s1.out.up (hf nx).out) 0 2 rfl rfl : (f nx).cell? ⟨w.heap.size + 1, 2, none⟩ = some (.int .u64 (px).c))
  have up_3 := fun nx => (Kn.get (s1.out.up (hf nx).out) 0 3 rfl rfl : (f nx).cell? ⟨w.heap.size + 1, 3, none⟩ = some (.int .u64 (px).d))
  have up_4 := fun nx => (Kn.get (s1.out.up (hf nx).out) 0 4 rfl rfl : (f nx).cell? ⟨w.heap.size + 1, 4, none⟩ = some (.int .u64 (py).a))
  have up_5 := fun nx => (Kn.get (s1.out.up (hf nx).out) 0 5 rfl rfl : (f nx).cell? ⟨w.heap.size + 1, 5, none⟩ = some (.int .u64 (py).b))
  have up_6 := fun nx => (Kn.get (s1.out.up (hf nx).out) 0 6 rfl rfl : (f nx).cell? ⟨w.heap.size + 1, 6, none⟩ = some (.int .u64 (py).c))
  have up_7 := fun nx => (Kn.get (s1.out.up (hf nx).out) 0 7 rfl rfl : (f nx).cell? ⟨w.heap.size + 1, 7, none⟩ = some (.int .u64 (py).d))
  have uk_0 := fun nx => (Kn.get (s1.out.up (hf nx).out) 1 0 rfl rfl : (f nx).cell? ⟨w.heap.size, 0, none⟩ = some (.int .u64 (k).a))
  have uk_1 := fun nx => (Kn.get (s1.out.up (hf nx).out) 1 1 rfl rfl : (f nx).cell? ⟨w.heap.size, 1, none⟩ = some (.int .u64 (k).b))
  have uk_2 := fun nx => (Kn.get (s1.out.up (hf nx).out) 1 2 rfl rfl : (f nx).cell? ⟨w.heap.size, 2, none⟩ = some (.int .u64 (k).c))
  have uk_3 := fun nx => (Kn.get (s1.out.up (hf nx).out) 1 3 rfl rfl : (f nx).cell? ⟨w.heap.size, 3, none⟩ = some (.int .u64 (k).d))
  try simp only [List.append_eq, List.cons_append, List.nil_append]
  repeat (go_big_quiet_step (first | (go_at_call 19; exact (O1 _).mono fun e w'' ⟨he, hb⟩ => ⟨he, hcl.out _ _ hb⟩) | (go_at_call_of 20 [Value.agg #[Value.int IntKind.u64 px.a, Value.int IntKind.u64 px.b, Value.int IntKind.u64 px.c, Value.int IntKind.u64 px.d, Value.int IntKind.u64 py.a, Value.int IntKind.u64 py.b, Value.int IntKind.u64 py.c, Value.int IntKind.u64 py.d]]; exact (P1 _).mono fun e w'' ⟨he, hb⟩ => ⟨he, hcl.out _ _ hb⟩) | (go_at_call 9; exact (L1 _).mono fun e w'' ⟨he, hb⟩ => ⟨he, hcl.out _ _ hb⟩) | (go_at_call 21; exact (T1 _).mono fun e w'' ⟨he, hb⟩ => ⟨he, hcl.out _ _ hb⟩) | (go_at_call_of 20 [Wv tx ty]; exact (P2 _).mono fun e w'' ⟨he, hb⟩ => ⟨he, hcl.out _ _ hb⟩)))
  refine wpQuiet_nil ?_
  intro nx
  have hb2 := (hf nx).out
  clear hf hcl up_0 up_1 up_2 up_3 up_4 up_5 up_6 up_7 uk_0 uk_1 uk_2 uk_3
  generalize f nx = w2 at hb2 ⊢
  have s2 : Hid (Kn w2 [(w.heap.size + 1, (c8 (px) (py))), (w.heap.size, (c4 (k)))]) := s1.out.up hb2
  have b2 : Hid (Below w.heap.size w w2) := b1.out.trans (hb2.mono b1.out.size)
  have z2 := b2.out.size
  clear hb2 s1 b1
  go_wp2_with fail
  go_ret
  exact ⟨rfl, b2.out⟩
theorem ladCurve_of (LC : LLadC) (LO : LOfC) (CO : COnC) (CT : CTimesC) (k px py : Nm) (ok : k.ok) (a1 : px.ok) (a2 : py.ok) (w : World) :
    Calls Try.prog 4 #[N k, Wv px py] w fun e w' => e = .returned (.bool true) ∧ Below w.heap.size w w' := by
  have LA := ladders_fun LC
  by_cases hP : Cv.On (px.nat, py.nat)
  · have O1 := CO.1 _ hP
    have P1 := place_fun LO _ hP
    have T1 := times_fun CT k ok _ hP
    have P2 := place_fun LO _ (Cv.times_on hP k.nat)
    have L1 := LC k (nm (Cv.place (px.nat, py.nat))) ok (nm_ok _)
    rw [f_nat (Cv.place_lt _), Cv.lad_place hP k.nat (Nm.nat_lt ok)] at L1
    rw [← pv_of a1 a2] at O1 P1 T1
    have e1 := eqN (nm (Cv.place (Cv.times k.nat (px.nat, py.nat)))) (nm (Cv.place (Cv.times k.nat (px.nat, py.nat))))
    rw [Nm.beq_self] at e1
    exact ladCurve_yes k px py _ _ _ _ e1 LA O1 P1 L1 T1 P2 w
  · exact ladCurve_no k px py LA (CO.2 px py a1 a2 hP) w
set_option maxHeartbeats 1000000 in
theorem ladSwaps_far (j k u a b x l h : Nm) (e1 : ∀ w, (binOp .neq 24 (N x) (N x)).run Try.prog w = .ok (.bool false) w) (e2 : ∀ w, (binOp .neq 24 (N h) (N ⟨0, 0, 0, 0⟩)).run Try.prog w = .ok (.bool true) w)
    (LA : ∀ w, Calls Try.prog 18 #[] w fun e w' => e = .returned (.bool true) ∧ Below w.heap.size w w')
    (L1 : ∀ w, Calls Try.prog 9 #[N k, N u] w fun e w' => e = .returned (N a) ∧ Below w.heap.size w w')
    (L2 : ∀ w, Calls Try.prog 9 #[N j, N a] w fun e w' => e = .returned (N x) ∧ Below w.heap.size w w')
    (L3 : ∀ w, Calls Try.prog 9 #[N j, N u] w fun e w' => e = .returned (N b) ∧ Below w.heap.size w w')
    (L4 : ∀ w, Calls Try.prog 9 #[N k, N b] w fun e w' => e = .returned (N x) ∧ Below w.heap.size w w')
    (M1 : ∀ w, Calls Try.prog 22 #[N j, N k] w fun e w' => e = .returned (Wv l h) ∧ Below w.heap.size w w')
    (w : World) :
    Calls Try.prog 5 #[N j, N k, N u] w fun e w' => e = .returned (.bool true) ∧ Below w.heap.size w w' := by
  go_enter Try.func5, Try.ntmps5
  have s0 : Hid (Kn (kal4 (kal4 (kal4 w (j)) (k)) (u)) [(w.heap.size + 1 + 1, (c4 (u))), (w.heap.size + 1, (c4 (k))), (w.heap.size, (c4 (j)))]) := ((((Kn.nil w).al (c4 (j)) 24 rfl).al (c4 (k)) 24 (by simp)).al (c4 (u)) 24 (by simp))
  have b0 : Hid (Below w.heap.size w (kal4 (kal4 (kal4 w (j)) (k)) (u))) := ((((Below.refl _ _).alloc (Nat.le_refl _) _).alloc (by simp <;> omega) _).alloc (by simp <;> omega) _)
  go_wp2_with fail
  refine (LA _).mono ?_
  rintro e w1 ⟨rfl, hb1⟩
  have s1 : Hid (Kn w1 [(w.heap.size + 1 + 1, (c4 (u))), (w.heap.size + 1, (c4 (k))), (w.heap.size, (c4 (j)))]) := s0.out.up hb1
  have b1 : Hid (Below w.heap.size w w1) := b0.out.trans (hb1.mono b0.out.size)
  have z1 := b1.out.size
  clear hb1 s0 b0
  go_wp2_with fail
  refine wp_region_alloc1 5 (.cells #[.int .u64 0, .int .u64 0, .int .u64 0, .int .u64 0] 24) (by kernel_rfl) (by kernel_rfl) (by kernel_rfl) (by kernel_rfl) (by decide) (fun _ _ d _ _ h => by cases d <;> exact h) rfl rfl (fun _ _ => by kernel_rfl) ?_
  apply Exists.intro
  refine ⟨fun U hU f hf hcl => ?_, fun k2 w2 hb2 hk2 hc2 => ?_⟩
  · skip
    have uj_0 := fun nx => (Kn.get (s1.out.up (hf nx).out) 2 0 rfl rfl : (f nx).cell? ⟨w.heap.size, 0, none⟩ = some (.int .u64 (j).a))
    have uj_1 := fun nx => (Kn.get (s1.out.up (hf nx).out) 2 1 rfl rfl : (f nx).cell? ⟨w.heap.size, 1, none⟩ = some (.int .u64 (j).b))
    have uj_2 := fun nx => (Kn.get (s1.out.up (hf nx).out) 2 2 rfl rfl : (f nx).cell? ⟨w.heap.size, 2, none⟩ = some (.int .u64 (j).c))
    have uj_3 := fun nx => (Kn.get (s1.out.up (hf nx).out) 2 3 rfl rfl : (f nx).cell? ⟨w.heap.size, 3, none⟩ = some (.int .u64 (j).d))
    have uk_0 := fun nx => (Kn.get (s1.out.up (hf nx).out) 1 0 rfl rfl : (f nx).cell? ⟨w.heap.size + 1, 0, none⟩ = some (.int .u64 (k).a))
    have uk_1 := fun nx => (Kn.get (s1.out.up (hf nx).out) 1 1 rfl rfl : (f nx).cell? ⟨w.heap.size + 1, 1, none⟩ = some (.int .u64 (k).b))
    have uk_2 := fun nx => (Kn.get (s1.out.up (hf nx).out) 1 2 rfl rfl : (f nx).cell? ⟨w.heap.size + 1, 2, none⟩ = some (.int .u64 (k).c))
    have uk_3 := fun nx => (Kn.get (s1.out.up (hf nx).out) 1 3 rfl rfl : (f nx).cell? ⟨w.heap.size + 1, 3, none⟩ = some (.int .u64 (k).d))
    have uu_0 := fun nx => (Kn.get (s1.out.up (hf nx).out) 0 0 rfl rfl : (f nx).cell? ⟨w.heap.size + 1 + 1, 0, none⟩ = some (.int .u64 (u).a))
    have uu_1 := fun nx => (Kn.get (s1.out.up (hf nx).out) 0 1 rfl rfl : (f nx).cell? ⟨w.heap.size + 1 + 1, 1, none⟩ = some (.int .u64 (u).b))
    have uu_2 := fun nx => (Kn.get (s1.out.up (hf nx).out) 0 2 rfl rfl : (f nx).cell? ⟨w.heap.size + 1 + 1, 2, none⟩ = some (.int .u64 (u).c))
    have uu_3 := fun nx => (Kn.get (s1.out.up (hf nx).out) 0 3 rfl rfl : (f nx).cell? ⟨w.heap.size + 1 + 1, 3, none⟩ = some (.int .u64 (u).d))
    clear hf
    simp only [List.take_succ_cons, List.take_zero]
    repeat (go_big_quiet_step (first | (go_at_call_of 9 [Value.agg #[Value.int IntKind.u64 k.a, Value.int IntKind.u64 k.b, Value.int IntKind.u64 k.c, Value.int IntKind.u64 k.d], Value.agg #[Value.int IntKind.u64 u.a, Value.int IntKind.u64 u.b, Value.int IntKind.u64 u.c, Value.int IntKind.u64 u.d]]; exact (L1 _).mono fun e w'' ⟨he, hb⟩ => ⟨he, hcl.out _ _ hb⟩) | (go_at_call_of 9 [Value.agg #[Value.int IntKind.u64 j.a, Value.int IntKind.u64 j.b, Value.int IntKind.u64 j.c, Value.int IntKind.u64 j.d], N a]; exact (L2 _).mono fun e w'' ⟨he, hb⟩ => ⟨he, hcl.out _ _ hb⟩)))
    exact wpQuiet_nil rfl
  simp only [List.drop_succ_cons, List.drop_zero]
  have z2 := b1.out.size
  have s2x : Hid (Kn w2 [(k2, zz4), (w.heap.size + 1 + 1, (c4 (u))), (w.heap.size + 1, (c4 (k))), (w.heap.size, (c4 (j)))]) := s1.out.fresh hb2.out hk2 hc2.out
  have g2 : w.heap.size ≤ k2 := Nat.le_trans b1.out.size hk2
  have cz2_0 : w2.cell? ⟨k2, 0, none⟩ = some (.int .u64 0) := Kn.get s2x.out 0 0 rfl rfl
  have cz2_1 : w2.cell? ⟨k2, 1, none⟩ = some (.int .u64 0) := Kn.get s2x.out 0 1 rfl rfl
  have cz2_2 : w2.cell? ⟨k2, 2, none⟩ = some (.int .u64 0) := Kn.get s2x.out 0 2 rfl rfl
  have cz2_3 : w2.cell? ⟨k2, 3, none⟩ = some (.int .u64 0) := Kn.get s2x.out 0 3 rfl rfl
  have cz2 : ∀ j, w2.frozen? ⟨k2, j, none⟩ = false := Kn.fz s2x.out 0 rfl
  have s2 : Hid (Kn (st4 w2 k2 (x)) [(k2, (c4 (x))), (w.heap.size + 1 + 1, (c4 (u))), (w.heap.size + 1, (c4 (k))), (w.heap.size, (c4 (j)))]) := s2x.out.st4 (x)
  have b2 : Hid (Below w.heap.size w (st4 w2 k2 (x))) := below_st4 (b1.out.trans (hb2.out.mono b1.out.size)) g2
  clear s2x s1 b1 hb2 hc2 hk2
  go_wp2_with fail
  clear cz2_0 cz2_1 cz2_2 cz2_3 cz2
  refine wp_region_up (by kernel_rfl) (by kernel_rfl) (fun U hU f hf hcl => ?_)
  have ux_0 := fun nx => (Kn.get (s2.out.up (hf nx).out) 0 0 rfl rfl : (f nx).cell? ⟨k2, 0, none⟩ = some (.int .u64 (x).a))
  have ux_1 := fun nx => (Kn.get (s2.out.up (hf nx).out) 0 1 rfl rfl : (f nx).cell? ⟨k2, 1, none⟩ = some (.int .u64 (x).b))
  have ux_2 := fun nx => (Kn.get (s2.out.up (hf nx).out) 0 2 rfl rfl : (f nx).cell? ⟨k2, 2, none⟩ = some (.int .u64 (x).c))
  have ux_3 := fun nx => (Kn.get (s2.out.up (hf nx).out) 0 3 rfl rfl : (f nx).cell? ⟨k2, 3, none⟩ = some (.int .u64 (x).d))
  have uj_0 := fun nx => (Kn.get (s2.out.up (hf nx).out) 3 0 rfl rfl : (f nx).cell? ⟨w.heap.size, 0, none⟩ = some (.int .u64 (j).a))
  have uj_1 := fun nx => (Kn.get (s2.out.up (hf nx).out) 3 1 rfl rfl : (f nx).cell? ⟨w.heap.size, 1, none⟩ = some (.int .u64 (j).b))
  have uj_2 := fun nx => (Kn.get (s2.out.up (hf nx).out) 3 2 rfl rfl : (f nx).cell? ⟨w.heap.size, 2, none⟩ = some (.int .u64 (j).c))
  have uj_3 := fun nx => (Kn.get (s2.out.up (hf nx).out) 3 3 rfl rfl : (f nx).cell? ⟨w.heap.size, 3, none⟩ = some (.int .u64 (j).d))
  have uk_0 := fun nx => (Kn.get (s2.out.up (hf nx).out) 2 0 rfl rfl : (f nx).cell? ⟨w.heap.size + 1, 0, none⟩ = some (.int .u64 (k).a))
  have uk_1 := fun nx => (Kn.get (s2.out.up (hf nx).out) 2 1 rfl rfl : (f nx).cell? ⟨w.heap.size + 1, 1, none⟩ = some (.int .u64 (k).b))
  have uk_2 := fun nx => (Kn.get (s2.out.up (hf nx).out) 2 2 rfl rfl : (f nx).cell? ⟨w.heap.size + 1, 2, none⟩ = some (.int .u64 (k).c))
  have uk_3 := fun nx => (Kn.get (s2.out.up (hf nx).out) 2 3 rfl rfl : (f nx).cell? ⟨w.heap.size + 1, 3, none⟩ = some (.int .u64 (k).d))
  have uu_0 := fun nx => (Kn.get (s2.out.up (hf nx).out) 1 0 rfl rfl : (f nx).cell? ⟨w.heap.size + 1 + 1, 0, none⟩ = some (.int .u64 (u).a))
  have uu_1 := fun nx => (Kn.get (s2.out.up (hf nx).out) 1 1 rfl rfl : (f nx).cell? ⟨w.heap.size + 1 + 1, 1, none⟩ = some (.int .u64 (u).b))
  have uu_2 := fun nx => (Kn.get (s2.out.up (hf nx).out) 1 2 rfl rfl : (f nx).cell? ⟨w.heap.size + 1 + 1, 2, none⟩ = some (.int .u64 (u).c))
  have uu_3 := fun nx => (Kn.get (s2.out.up (hf nx).out) 1 3 rfl rfl : (f nx).cell? ⟨w.heap.size + 1 + 1, 3, none⟩ = some (.int .u64 (u).d))
  try simp only [List.append_eq, List.cons_append, List.nil_append]
  repeat (go_big_quiet_step (first | (go_at_call_of 9 [Value.agg #[Value.int IntKind.u64 j.a, Value.int IntKind.u64 j.b, Value.int IntKind.u64 j.c, Value.int IntKind.u64 j.d], Value.agg #[Value.int IntKind.u64 u.a, Value.int IntKind.u64 u.b, Value.int IntKind.u64 u.c, Value.int IntKind.u64 u.d]]; exact (L3 _).mono fun e w'' ⟨he, hb⟩ => ⟨he, hcl.out _ _ hb⟩) | (go_at_call_of 9 [Value.agg #[Value.int IntKind.u64 k.a, Value.int IntKind.u64 k.b, Value.int IntKind.u64 k.c, Value.int IntKind.u64 k.d], N b]; exact (L4 _).mono fun e w'' ⟨he, hb⟩ => ⟨he, hcl.out _ _ hb⟩)))
  refine wpQuiet_nil ?_
  intro nx
  have hb3 := (hf nx).out
  clear hf hcl ux_0 ux_1 ux_2 ux_3 uj_0 uj_1 uj_2 uj_3 uk_0 uk_1 uk_2 uk_3 uu_0 uu_1 uu_2 uu_3
  generalize f nx = w3 at hb3 ⊢
  have s3 : Hid (Kn w3 [(k2, (c4 (x))), (w.heap.size + 1 + 1, (c4 (u))), (w.heap.size + 1, (c4 (k))), (w.heap.size, (c4 (j)))]) := s2.out.up hb3
  have b3 : Hid (Below w.heap.size w w3) := b2.out.trans (hb3.mono b2.out.size)
  have z3 := b3.out.size
  clear hb3 s2 b2
  have uj_0 : w3.cell? ⟨w.heap.size, 0, none⟩ = some (.int .u64 (j).a) := Kn.get s3.out 3 0 rfl rfl
  have uj_1 : w3.cell? ⟨w.heap.size, 1, none⟩ = some (.int .u64 (j).b) := Kn.get s3.out 3 1 rfl rfl
  have uj_2 : w3.cell? ⟨w.heap.size, 2, none⟩ = some (.int .u64 (j).c) := Kn.get s3.out 3 2 rfl rfl
  have uj_3 : w3.cell? ⟨w.heap.size, 3, none⟩ = some (.int .u64 (j).d) := Kn.get s3.out 3 3 rfl rfl
  have uk_0 : w3.cell? ⟨w.heap.size + 1, 0, none⟩ = some (.int .u64 (k).a) := Kn.get s3.out 2 0 rfl rfl
  have uk_1 : w3.cell? ⟨w.heap.size + 1, 1, none⟩ = some (.int .u64 (k).b) := Kn.get s3.out 2 1 rfl rfl
  have uk_2 : w3.cell? ⟨w.heap.size + 1, 2, none⟩ = some (.int .u64 (k).c) := Kn.get s3.out 2 2 rfl rfl
  have uk_3 : w3.cell? ⟨w.heap.size + 1, 3, none⟩ = some (.int .u64 (k).d) := Kn.get s3.out 2 3 rfl rfl
  go_wp2_with fail
  clear uj_0 uj_1 uj_2 uj_3 uk_0 uk_1 uk_2 uk_3
  refine (M1 _).mono ?_
  rintro e w4 ⟨rfl, hb4⟩
  have s4 : Hid (Kn w4 [(k2, (c4 (x))), (w.heap.size + 1 + 1, (c4 (u))), (w.heap.size + 1, (c4 (k))), (w.heap.size, (c4 (j)))]) := s3.out.up hb4
  have b4 : Hid (Below w.heap.size w w4) := b3.out.trans (hb4.mono b3.out.size)
  have z4 := b4.out.size
  clear hb4 s3 b3
  have s5 : Hid (Kn (kal8 w4 (l) (h)) [(w4.heap.size, (c8 (l) (h))), (k2, (c4 (x))), (w.heap.size + 1 + 1, (c4 (u))), (w.heap.size + 1, (c4 (k))), (w.heap.size, (c4 (j)))]) := s4.out.al (c8 (l) (h)) 44 rfl
  have b5 : Hid (Below w.heap.size w (kal8 w4 (l) (h))) := b4.out.alloc b4.out.size _
  have z5 := b4.out.size
  clear s4 b4
  go_wp2_with fail
  refine wp_region_up (by kernel_rfl) (by kernel_rfl) (fun U hU f hf hcl => ?_)
  have uw_0 := fun nx => (Kn.get (s5.out.up (hf nx).out) 0 0 rfl rfl : (f nx).cell? ⟨w4.heap.size, 0, none⟩ = some (.int .u64 (l).a))
  have uw_1 := fun nx => (Kn.get (s5.out.up (hf nx).out) 0 1 rfl rfl : (f nx).cell? ⟨w4.heap.size, 1, none⟩ = some (.int .u64 (l).b))
  have uw_2 := fun nx => (Kn.get (s5.out.up (hf nx).out) 0 2 rfl rfl : (f nx).cell? ⟨w4.heap.size, 2, none⟩ = some (.int .u64 (l).c))
  have uw_3 := fun nx => (Kn.get (s5.out.up (hf nx).out) 0 3 rfl rfl : (f nx).cell? ⟨w4.heap.size, 3, none⟩ = some (.int .u64 (l).d))
  have uw_4 := fun nx => (Kn.get (s5.out.up (hf nx).out) 0 4 rfl rfl : (f nx).cell? ⟨w4.heap.size, 4, none⟩ = some (.int .u64 (h).a))
  have uw_5 := fun nx => (Kn.get (s5.out.up (hf nx).out) 0 5 rfl rfl : (f nx).cell? ⟨w4.heap.size, 5, none⟩ = some (.int .u64 (h).b))
  have uw_6 := fun nx => (Kn.get (s5.out.up (hf nx).out) 0 6 rfl rfl : (f nx).cell? ⟨w4.heap.size, 6, none⟩ = some (.int .u64 (h).c))
  have uw_7 := fun nx => (Kn.get (s5.out.up (hf nx).out) 0 7 rfl rfl : (f nx).cell? ⟨w4.heap.size, 7, none⟩ = some (.int .u64 (h).d))
  have uu_0 := fun nx => (Kn.get (s5.out.up (hf nx).out) 2 0 rfl rfl : (f nx).cell? ⟨w.heap.size + 1 + 1, 0, none⟩ = some (.int .u64 (u).a))
  have uu_1 := fun nx => (Kn.get (s5.out.up (hf nx).out) 2 1 rfl rfl : (f nx).cell? ⟨w.heap.size + 1 + 1, 1, none⟩ = some (.int .u64 (u).b))
  have uu_2 := fun nx => (Kn.get (s5.out.up (hf nx).out) 2 2 rfl rfl : (f nx).cell? ⟨w.heap.size + 1 + 1, 2, none⟩ = some (.int .u64 (u).c))
  have uu_3 := fun nx => (Kn.get (s5.out.up (hf nx).out) 2 3 rfl rfl : (f nx).cell? ⟨w.heap.size + 1 + 1, 3, none⟩ = some (.int .u64 (u).d))
  have ux_0 := fun nx => (Kn.get (s5.out.up (hf nx).out) 1 0 rfl rfl : (f nx).cell? ⟨k2, 0, none⟩ = some (.int .u64 (x).a))
  have ux_1 := fun nx => (Kn.get (s5.out.up (hf nx).out) 1 1 rfl rfl : (f nx).cell? ⟨k2, 1, none⟩ = some (.int .u64 (x).b))
  have ux_2 := fun nx => (Kn.get (s5.out.up (hf nx).out) 1 2 rfl rfl : (f nx).cell? ⟨k2, 2, none⟩ = some (.int .u64 (x).c))
  have ux_3 := fun nx => (Kn.get (s5.out.up (hf nx).out) 1 3 rfl rfl : (f nx).cell? ⟨k2, 3, none⟩ = some (.int .u64 (x).d))
  try simp only [List.append_eq, List.cons_append, List.nil_append]
  repeat (go_big_quiet_step (first | (go_at_call 23; exact (high_fun l h _).mono fun e w'' ⟨he, hb⟩ => ⟨he, hcl.out _ _ hb⟩)))
  refine wpQuiet_nil ?_
  intro nx
  have hb6 := (hf nx).out
  clear hf hcl uw_0 uw_1 uw_2 uw_3 uw_4 uw_5 uw_6 uw_7 uu_0 uu_1 uu_2 uu_3 ux_0 ux_1 ux_2 ux_3
  generalize f nx = w6 at hb6 ⊢
  have s6 : Hid (Kn w6 [(w4.heap.size, (c8 (l) (h))), (k2, (c4 (x))), (w.heap.size + 1 + 1, (c4 (u))), (w.heap.size + 1, (c4 (k))), (w.heap.size, (c4 (j)))]) := s5.out.up hb6
  have b6 : Hid (Below w.heap.size w w6) := b5.out.trans (hb6.mono b5.out.size)
  have z6 := b6.out.size
  clear hb6 s5 b5
  go_wp2_with fail
  go_ret
  exact ⟨rfl, b6.out⟩
set_option maxHeartbeats 1000000 in
theorem ladSwaps_near (j k u a b x l : Nm) (e1 : ∀ w, (binOp .neq 24 (N x) (N x)).run Try.prog w = .ok (.bool false) w) (e2 : ∀ w, (binOp .neq 24 (N ⟨0, 0, 0, 0⟩) (N ⟨0, 0, 0, 0⟩)).run Try.prog w = .ok (.bool false) w) (e3 : ∀ w, (binOp .eql 24 (N x) (N x)).run Try.prog w = .ok (.bool true) w)
    (LA : ∀ w, Calls Try.prog 18 #[] w fun e w' => e = .returned (.bool true) ∧ Below w.heap.size w w')
    (L1 : ∀ w, Calls Try.prog 9 #[N k, N u] w fun e w' => e = .returned (N a) ∧ Below w.heap.size w w')
    (L2 : ∀ w, Calls Try.prog 9 #[N j, N a] w fun e w' => e = .returned (N x) ∧ Below w.heap.size w w')
    (L3 : ∀ w, Calls Try.prog 9 #[N j, N u] w fun e w' => e = .returned (N b) ∧ Below w.heap.size w w')
    (L4 : ∀ w, Calls Try.prog 9 #[N k, N b] w fun e w' => e = .returned (N x) ∧ Below w.heap.size w w')
    (M1 : ∀ w, Calls Try.prog 22 #[N j, N k] w fun e w' => e = .returned (Wv l ⟨0,0,0,0⟩) ∧ Below w.heap.size w w')
    (L5 : ∀ w, Calls Try.prog 9 #[N l, N u] w fun e w' => e = .returned (N x) ∧ Below w.heap.size w w')
    (w : World) :
    Calls Try.prog 5 #[N j, N k, N u] w fun e w' => e = .returned (.bool true) ∧ Below w.heap.size w w' := by
  go_enter Try.func5, Try.ntmps5
  have s0 : Hid (Kn (kal4 (kal4 (kal4 w (j)) (k)) (u)) [(w.heap.size + 1 + 1, (c4 (u))), (w.heap.size + 1, (c4 (k))), (w.heap.size, (c4 (j)))]) := ((((Kn.nil w).al (c4 (j)) 24 rfl).al (c4 (k)) 24 (by simp)).al (c4 (u)) 24 (by simp))
  have b0 : Hid (Below w.heap.size w (kal4 (kal4 (kal4 w (j)) (k)) (u))) := ((((Below.refl _ _).alloc (Nat.le_refl _) _).alloc (by simp <;> omega) _).alloc (by simp <;> omega) _)
  go_wp2_with fail
  refine (LA _).mono ?_
  rintro e w1 ⟨rfl, hb1⟩
  have s1 : Hid (Kn w1 [(w.heap.size + 1 + 1, (c4 (u))), (w.heap.size + 1, (c4 (k))), (w.heap.size, (c4 (j)))]) := s0.out.up hb1
  have b1 : Hid (Below w.heap.size w w1) := b0.out.trans (hb1.mono b0.out.size)
  have z1 := b1.out.size
  clear hb1 s0 b0
  go_wp2_with fail
  refine wp_region_alloc1 5 (.cells #[.int .u64 0, .int .u64 0, .int .u64 0, .int .u64 0] 24) (by kernel_rfl) (by kernel_rfl) (by kernel_rfl) (by kernel_rfl) (by decide) (fun _ _ d _ _ h => by cases d <;> exact h) rfl rfl (fun _ _ => by kernel_rfl) ?_
  apply Exists.intro
  refine ⟨fun U hU f hf hcl => ?_, fun k2 w2 hb2 hk2 hc2 => ?_⟩
  · skip
    have uj_0 := fun nx => (Kn.get (s1.out.up (hf nx).out) 2 0 rfl rfl : (f nx).cell? ⟨w.heap.size, 0, none⟩ = some (.int .u64 (j).a))
    have uj_1 := fun nx => (Kn.get (s1.out.up (hf nx).out) 2 1 rfl rfl : (f nx).cell? ⟨w.heap.size, 1, none⟩ = some (.int .u64 (j).b))
    have uj_2 := fun nx => (Kn.get (s1.out.up (hf nx).out) 2 2 rfl rfl : (f nx).cell? ⟨w.heap.size, 2, none⟩ = some (.int .u64 (j).c))
    have uj_3 := fun nx => (Kn.get (s1.out.up (hf nx).out) 2 3 rfl rfl : (f nx).cell? ⟨w.heap.size, 3, none⟩ = some (.int .u64 (j).d))
    have uk_0 := fun nx => (Kn.get (s1.out.up (hf nx).out) 1 0 rfl rfl : (f nx).cell? ⟨w.heap.size + 1, 0, none⟩ = some (.int .u64 (k).a))
    have uk_1 := fun nx => (Kn.get (s1.out.up (hf nx).out) 1 1 rfl rfl : (f nx).cell? ⟨w.heap.size + 1, 1, none⟩ = some (.int .u64 (k).b))
    have uk_2 := fun nx => (Kn.get (s1.out.up (hf nx).out) 1 2 rfl rfl : (f nx).cell? ⟨w.heap.size + 1, 2, none⟩ = some (.int .u64 (k).c))
    have uk_3 := fun nx => (Kn.get (s1.out.up (hf nx).out) 1 3 rfl rfl : (f nx).cell? ⟨w.heap.size + 1, 3, none⟩ = some (.int .u64 (k).d))
    have uu_0 := fun nx => (Kn.get (s1.out.up (hf nx).out) 0 0 rfl rfl : (f nx).cell? ⟨w.heap.size + 1 + 1, 0, none⟩ = some (.int .u64 (u).a))
    have uu_1 := fun nx => (Kn.get (s1.out.up (hf nx).out) 0 1 rfl rfl : (f nx).cell? ⟨w.heap.size + 1 + 1, 1, none⟩ = some (.int .u64 (u).b))
    have uu_2 := fun nx => (Kn.get (s1.out.up (hf nx).out) 0 2 rfl rfl : (f nx).cell? ⟨w.heap.size + 1 + 1, 2, none⟩ = some (.int .u64 (u).c))
    have uu_3 := fun nx => (Kn.get (s1.out.up (hf nx).out) 0 3 rfl rfl : (f nx).cell? ⟨w.heap.size + 1 + 1, 3, none⟩ = some (.int .u64 (u).d))
    clear hf
    simp only [List.take_succ_cons, List.take_zero]
    repeat (go_big_quiet_step (first | (go_at_call_of 9 [Value.agg #[Value.int IntKind.u64 k.a, Value.int IntKind.u64 k.b, Value.int IntKind.u64 k.c, Value.int IntKind.u64 k.d], Value.agg #[Value.int IntKind.u64 u.a, Value.int IntKind.u64 u.b, Value.int IntKind.u64 u.c, Value.int IntKind.u64 u.d]]; exact (L1 _).mono fun e w'' ⟨he, hb⟩ => ⟨he, hcl.out _ _ hb⟩) | (go_at_call_of 9 [Value.agg #[Value.int IntKind.u64 j.a, Value.int IntKind.u64 j.b, Value.int IntKind.u64 j.c, Value.int IntKind.u64 j.d], N a]; exact (L2 _).mono fun e w'' ⟨he, hb⟩ => ⟨he, hcl.out _ _ hb⟩)))
    exact wpQuiet_nil rfl
  simp only [List.drop_succ_cons, List.drop_zero]
  have z2 := b1.out.size
  have s2x : Hid (Kn w2 [(k2, zz4), (w.heap.size + 1 + 1, (c4 (u))), (w.heap.size + 1, (c4 (k))), (w.heap.size, (c4 (j)))]) := s1.out.fresh hb2.out hk2 hc2.out
  have g2 : w.heap.size ≤ k2 := Nat.le_trans b1.out.size hk2
  have cz2_0 : w2.cell? ⟨k2, 0, none⟩ = some (.int .u64 0) := Kn.get s2x.out 0 0 rfl rfl
  have cz2_1 : w2.cell? ⟨k2, 1, none⟩ = some (.int .u64 0) := Kn.get s2x.out 0 1 rfl rfl
  have cz2_2 : w2.cell? ⟨k2, 2, none⟩ = some (.int .u64 0) := Kn.get s2x.out 0 2 rfl rfl
  have cz2_3 : w2.cell? ⟨k2, 3, none⟩ = some (.int .u64 0) := Kn.get s2x.out 0 3 rfl rfl
  have cz2 : ∀ j, w2.frozen? ⟨k2, j, none⟩ = false := Kn.fz s2x.out 0 rfl
  have s2 : Hid (Kn (st4 w2 k2 (x)) [(k2, (c4 (x))), (w.heap.size + 1 + 1, (c4 (u))), (w.heap.size + 1, (c4 (k))), (w.heap.size, (c4 (j)))]) := s2x.out.st4 (x)
  have b2 : Hid (Below w.heap.size w (st4 w2 k2 (x))) := below_st4 (b1.out.trans (hb2.out.mono b1.out.size)) g2
  clear s2x s1 b1 hb2 hc2 hk2
  go_wp2_with fail
  clear cz2_0 cz2_1 cz2_2 cz2_3 cz2
  refine wp_region_up (by kernel_rfl) (by kernel_rfl) (fun U hU f hf hcl => ?_)
  have ux_0 := fun nx => (Kn.get (s2.out.up (hf nx).out) 0 0 rfl rfl : (f nx).cell? ⟨k2, 0, none⟩ = some (.int .u64 (x).a))
  have ux_1 := fun nx => (Kn.get (s2.out.up (hf nx).out) 0 1 rfl rfl : (f nx).cell? ⟨k2, 1, none⟩ = some (.int .u64 (x).b))
  have ux_2 := fun nx => (Kn.get (s2.out.up (hf nx).out) 0 2 rfl rfl : (f nx).cell? ⟨k2, 2, none⟩ = some (.int .u64 (x).c))
  have ux_3 := fun nx => (Kn.get (s2.out.up (hf nx).out) 0 3 rfl rfl : (f nx).cell? ⟨k2, 3, none⟩ = some (.int .u64 (x).d))
  have uj_0 := fun nx => (Kn.get (s2.out.up (hf nx).out) 3 0 rfl rfl : (f nx).cell? ⟨w.heap.size, 0, none⟩ = some (.int .u64 (j).a))
  have uj_1 := fun nx => (Kn.get (s2.out.up (hf nx).out) 3 1 rfl rfl : (f nx).cell? ⟨w.heap.size, 1, none⟩ = some (.int .u64 (j).b))
  have uj_2 := fun nx => (Kn.get (s2.out.up (hf nx).out) 3 2 rfl rfl : (f nx).cell? ⟨w.heap.size, 2, none⟩ = some (.int .u64 (j).c))
  have uj_3 := fun nx => (Kn.get (s2.out.up (hf nx).out) 3 3 rfl rfl : (f nx).cell? ⟨w.heap.size, 3, none⟩ = some (.int .u64 (j).d))
  have uk_0 := fun nx => (Kn.get (s2.out.up (hf nx).out) 2 0 rfl rfl : (f nx).cell? ⟨w.heap.size + 1, 0, none⟩ = some (.int .u64 (k).a))
  have uk_1 := fun nx => (Kn.get (s2.out.up (hf nx).out) 2 1 rfl rfl : (f nx).cell? ⟨w.heap.size + 1, 1, none⟩ = some (.int .u64 (k).b))
  have uk_2 := fun nx => (Kn.get (s2.out.up (hf nx).out) 2 2 rfl rfl : (f nx).cell? ⟨w.heap.size + 1, 2, none⟩ = some (.int .u64 (k).c))
  have uk_3 := fun nx => (Kn.get (s2.out.up (hf nx).out) 2 3 rfl rfl : (f nx).cell? ⟨w.heap.size + 1, 3, none⟩ = some (.int .u64 (k).d))
  have uu_0 := fun nx => (Kn.get (s2.out.up (hf nx).out) 1 0 rfl rfl : (f nx).cell? ⟨w.heap.size + 1 + 1, 0, none⟩ = some (.int .u64 (u).a))
  have uu_1 := fun nx => (Kn.get (s2.out.up (hf nx).out) 1 1 rfl rfl : (f nx).cell? ⟨w.heap.size + 1 + 1, 1, none⟩ = some (.int .u64 (u).b))
  have uu_2 := fun nx => (Kn.get (s2.out.up (hf nx).out) 1 2 rfl rfl : (f nx).cell? ⟨w.heap.size + 1 + 1, 2, none⟩ = some (.int .u64 (u).c))
  have uu_3 := fun nx => (Kn.get (s2.out.up (hf nx).out) 1 3 rfl rfl : (f nx).cell? ⟨w.heap.size + 1 + 1, 3, none⟩ = some (.int .u64 (u).d))
  try simp only [List.append_eq, List.cons_append, List.nil_append]
  repeat (go_big_quiet_step (first | (go_at_call_of 9 [Value.agg #[Value.int IntKind.u64 j.a, Value.int IntKind.u64 j.b, Value.int IntKind.u64 j.c, Value.int IntKind.u64 j.d], Value.agg #[Value.int IntKind.u64 u.a, Value.int IntKind.u64 u.b, Value.int IntKind.u64 u.c, Value.int IntKind.u64 u.d]]; exact (L3 _).mono fun e w'' ⟨he, hb⟩ => ⟨he, hcl.out _ _ hb⟩) | (go_at_call_of 9 [Value.agg #[Value.int IntKind.u64 k.a, Value.int IntKind.u64 k.b, Value.int IntKind.u64 k.c, Value.int IntKind.u64 k.d], N b]; exact (L4 _).mono fun e w'' ⟨he, hb⟩ => ⟨he, hcl.out _ _ hb⟩)))
  refine wpQuiet_nil ?_
  intro nx
  have hb3 := (hf nx).out
  clear hf hcl ux_0 ux_1 ux_2 ux_3 uj_0 uj_1 uj_2 uj_3 uk_0 uk_1 uk_2 uk_3 uu_0 uu_1 uu_2 uu_3
  generalize f nx = w3 at hb3 ⊢
  have s3 : Hid (Kn w3 [(k2, (c4 (x))), (w.heap.size + 1 + 1, (c4 (u))), (w.heap.size + 1, (c4 (k))), (w.heap.size, (c4 (j)))]) := s2.out.up hb3
  have b3 : Hid (Below w.heap.size w w3) := b2.out.trans (hb3.mono b2.out.size)
  have z3 := b3.out.size
  clear hb3 s2 b2
  have uj_0 : w3.cell? ⟨w.heap.size, 0, none⟩ = some (.int .u64 (j).a) := Kn.get s3.out 3 0 rfl rfl
  have uj_1 : w3.cell? ⟨w.heap.size, 1, none⟩ = some (.int .u64 (j).b) := Kn.get s3.out 3 1 rfl rfl
  have uj_2 : w3.cell? ⟨w.heap.size, 2, none⟩ = some (.int .u64 (j).c) := Kn.get s3.out 3 2 rfl rfl
  have uj_3 : w3.cell? ⟨w.heap.size, 3, none⟩ = some (.int .u64 (j).d) := Kn.get s3.out 3 3 rfl rfl
  have uk_0 : w3.cell? ⟨w.heap.size + 1, 0, none⟩ = some (.int .u64 (k).a) := Kn.get s3.out 2 0 rfl rfl
  have uk_1 : w3.cell? ⟨w.heap.size + 1, 1, none⟩ = some (.int .u64 (k).b) := Kn.get s3.out 2 1 rfl rfl
  have uk_2 : w3.cell? ⟨w.heap.size + 1, 2, none⟩ = some (.int .u64 (k).c) := Kn.get s3.out 2 2 rfl rfl
  have uk_3 : w3.cell? ⟨w.heap.size + 1, 3, none⟩ = some (.int .u64 (k).d) := Kn.get s3.out 2 3 rfl rfl
  go_wp2_with fail
  clear uj_0 uj_1 uj_2 uj_3 uk_0 uk_1 uk_2 uk_3
  refine (M1 _).mono ?_
  rintro e w4 ⟨rfl, hb4⟩
  have s4 : Hid (Kn w4 [(k2, (c4 (x))), (w.heap.size + 1 + 1, (c4 (u))), (w.heap.size + 1, (c4 (k))), (w.heap.size, (c4 (j)))]) := s3.out.up hb4
  have b4 : Hid (Below w.heap.size w w4) := b3.out.trans (hb4.mono b3.out.size)
  have z4 := b4.out.size
  clear hb4 s3 b3
  have s5 : Hid (Kn (kal8 w4 (l) ((⟨0,0,0,0⟩:Nm))) [(w4.heap.size, (c8 (l) ((⟨0,0,0,0⟩:Nm)))), (k2, (c4 (x))), (w.heap.size + 1 + 1, (c4 (u))), (w.heap.size + 1, (c4 (k))), (w.heap.size, (c4 (j)))]) := s4.out.al (c8 (l) ((⟨0,0,0,0⟩:Nm))) 44 rfl
  have b5 : Hid (Below w.heap.size w (kal8 w4 (l) ((⟨0,0,0,0⟩:Nm)))) := b4.out.alloc b4.out.size _
  have z5 := b4.out.size
  clear s4 b4
  go_wp2_with fail
  refine wp_region_up (by kernel_rfl) (by kernel_rfl) (fun U hU f hf hcl => ?_)
  have uw_0 := fun nx => (Kn.get (s5.out.up (hf nx).out) 0 0 rfl rfl : (f nx).cell? ⟨w4.heap.size, 0, none⟩ = some (.int .u64 (l).a))
  have uw_1 := fun nx => (Kn.get (s5.out.up (hf nx).out) 0 1 rfl rfl : (f nx).cell? ⟨w4.heap.size, 1, none⟩ = some (.int .u64 (l).b))
  have uw_2 := fun nx => (Kn.get (s5.out.up (hf nx).out) 0 2 rfl rfl : (f nx).cell? ⟨w4.heap.size, 2, none⟩ = some (.int .u64 (l).c))
  have uw_3 := fun nx => (Kn.get (s5.out.up (hf nx).out) 0 3 rfl rfl : (f nx).cell? ⟨w4.heap.size, 3, none⟩ = some (.int .u64 (l).d))
  have uw_4 := fun nx => (Kn.get (s5.out.up (hf nx).out) 0 4 rfl rfl : (f nx).cell? ⟨w4.heap.size, 4, none⟩ = some (.int .u64 ((⟨0,0,0,0⟩:Nm)).a))
  have uw_5 := fun nx => (Kn.get (s5.out.up (hf nx).out) 0 5 rfl rfl : (f nx).cell? ⟨w4.heap.size, 5, none⟩ = some (.int .u64 ((⟨0,0,0,0⟩:Nm)).b))
  have uw_6 := fun nx => (Kn.get (s5.out.up (hf nx).out) 0 6 rfl rfl : (f nx).cell? ⟨w4.heap.size, 6, none⟩ = some (.int .u64 ((⟨0,0,0,0⟩:Nm)).c))
  have uw_7 := fun nx => (Kn.get (s5.out.up (hf nx).out) 0 7 rfl rfl : (f nx).cell? ⟨w4.heap.size, 7, none⟩ = some (.int .u64 ((⟨0,0,0,0⟩:Nm)).d))
  have uu_0 := fun nx => (Kn.get (s5.out.up (hf nx).out) 2 0 rfl rfl : (f nx).cell? ⟨w.heap.size + 1 + 1, 0, none⟩ = some (.int .u64 (u).a))
  have uu_1 := fun nx => (Kn.get (s5.out.up (hf nx).out) 2 1 rfl rfl : (f nx).cell? ⟨w.heap.size + 1 + 1, 1, none⟩ = some (.int .u64 (u).b))
  have uu_2 := fun nx => (Kn.get (s5.out.up (hf nx).out) 2 2 rfl rfl : (f nx).cell? ⟨w.heap.size + 1 + 1, 2, none⟩ = some (.int .u64 (u).c))
  have uu_3 := fun nx => (Kn.get (s5.out.up (hf nx).out) 2 3 rfl rfl : (f nx).cell? ⟨w.heap.size + 1 + 1, 3, none⟩ = some (.int .u64 (u).d))
  have ux_0 := fun nx => (Kn.get (s5.out.up (hf nx).out) 1 0 rfl rfl : (f nx).cell? ⟨k2, 0, none⟩ = some (.int .u64 (x).a))
  have ux_1 := fun nx => (Kn.get (s5.out.up (hf nx).out) 1 1 rfl rfl : (f nx).cell? ⟨k2, 1, none⟩ = some (.int .u64 (x).b))
  have ux_2 := fun nx => (Kn.get (s5.out.up (hf nx).out) 1 2 rfl rfl : (f nx).cell? ⟨k2, 2, none⟩ = some (.int .u64 (x).c))
  have ux_3 := fun nx => (Kn.get (s5.out.up (hf nx).out) 1 3 rfl rfl : (f nx).cell? ⟨k2, 3, none⟩ = some (.int .u64 (x).d))
  try simp only [List.append_eq, List.cons_append, List.nil_append]
  repeat (go_big_quiet_step (first | (go_at_call 23; exact (high_fun l ⟨0, 0, 0, 0⟩ _).mono fun e w'' ⟨he, hb⟩ => ⟨he, hcl.out _ _ hb⟩) | (go_at_call 24; exact (low_fun l ⟨0, 0, 0, 0⟩ _).mono fun e w'' ⟨he, hb⟩ => ⟨he, hcl.out _ _ hb⟩) | (go_at_call 9; exact (L5 _).mono fun e w'' ⟨he, hb⟩ => ⟨he, hcl.out _ _ hb⟩)))
  refine wpQuiet_nil ?_
  intro nx
  have hb6 := (hf nx).out
  clear hf hcl uw_0 uw_1 uw_2 uw_3 uw_4 uw_5 uw_6 uw_7 uu_0 uu_1 uu_2 uu_3 ux_0 ux_1 ux_2 ux_3
  generalize f nx = w6 at hb6 ⊢
  have s6 : Hid (Kn w6 [(w4.heap.size, (c8 (l) ((⟨0,0,0,0⟩:Nm)))), (k2, (c4 (x))), (w.heap.size + 1 + 1, (c4 (u))), (w.heap.size + 1, (c4 (k))), (w.heap.size, (c4 (j)))]) := s5.out.up hb6
  have b6 : Hid (Below w.heap.size w w6) := b5.out.trans (hb6.mono b5.out.size)
  have z6 := b6.out.size
  clear hb6 s5 b5
  go_wp2_with fail
  go_ret
  exact ⟨rfl, b6.out⟩
theorem lad_lt (k u : Nat) : Cv.lad k u < F.p := F.mul_lt _ _
theorem neN_self' (x : Nm) (w : World) : (binOp .neq 24 (N x) (N x)).run Try.prog w = .ok (.bool false) w := by rw [neN, Nm.beq_self]; rfl
theorem eqN_self' (x : Nm) (w : World) : (binOp .eql 24 (N x) (N x)).run Try.prog w = .ok (.bool true) w := by rw [eqN, Nm.beq_self]
theorem ladSwaps_of (LC : LLadC) (j k u : Nm) (oj : j.ok) (ok : k.ok) (ou : u.ok) (w : World) :
    Calls Try.prog 5 #[N j, N k, N u] w fun e w' => e = .returned (.bool true) ∧ Below w.heap.size w w' := by
  have LA := ladders_fun LC
  have L1 := LC k u ok ou
  have L2 := LC j (nm (Cv.lad k.nat u.nat)) oj (nm_ok _)
  have L3 := LC j u oj ou
  have L4 := LC k (nm (Cv.lad j.nat u.nat)) ok (nm_ok _)
  have sw := Cv.lad_swap j.nat k.nat u.nat (Nm.nat_lt oj) (Nm.nat_lt ok)
  rw [f_nat (lad_lt _ _)] at L2 L4
  rw [← sw.1] at L4
  have M1 := mul_V j k oj ok
  by_cases h : j.nat * k.nat < 2 ^ 256
  · rw [WH_small h, WL_small h] at M1
    have L5 := LC (nm (j.nat * k.nat)) u (nm_ok _) ou
    rw [nm_nat h, sw.2 h] at L5
    exact ladSwaps_near j k u _ _ _ _ (neN_self' _) (neN_self' _) (eqN_self' _) LA L1 L2 L3 L4 M1 L5 w
  · have e2 := neN (WH (j.nat * k.nat)) ⟨0, 0, 0, 0⟩
    rw [Nm.beq_ne (fun e => h (by
      have hv := V_of (mul_lt512 oj ok)
      rw [e, V_wide] at hv
      rw [← hv]
      exact Nm.nat_lt (WL_ok _)))] at e2
    exact ladSwaps_far j k u _ _ _ _ _ (neN_self' _) e2 LA L1 L2 L3 L4 M1 w
set_option maxHeartbeats 2000000 in
theorem ladLow_walk (k u x lo : Nm) (e1 : ∀ w, (binOp .eql 24 (N x) (N x)).run Try.prog w = .ok (.bool true) w) (e2 : ∀ w, (binOp .eql 24 (N ⟨0, 0, 0, 0⟩) (N ⟨0, 0, 0, 0⟩)).run Try.prog w = .ok (.bool true) w) (e3 : ∀ w, (binOp .eql 24 (N lo) (N lo)).run Try.prog w = .ok (.bool true) w) (pm : Nm)
    (LA : ∀ w, Calls Try.prog 18 #[] w fun e w' => e = .returned (.bool true) ∧ Below w.heap.size w w')
    (L1 : ∀ w, Calls Try.prog 9 #[N k, N u] w fun e w' => e = .returned (N x) ∧ Below w.heap.size w w')
    (F1 : ∀ w, Calls Try.prog 25 #[N u] w fun e w' => e = .returned (N lo) ∧ Below w.heap.size w w')
    (L2 : ∀ w, Calls Try.prog 9 #[N k, N lo] w fun e w' => e = .returned (N x) ∧ Below w.heap.size w w')
    (L3 : ∀ w, Calls Try.prog 9 #[N k, N ⟨0,0,0,0⟩] w fun e w' => e = .returned (N ⟨0,0,0,0⟩) ∧ Below w.heap.size w w')
    (F2 : ∀ w, Calls Try.prog 26 #[] w fun e w' => e = .returned (N pm) ∧ Below w.heap.size w w')
    (L4 : ∀ w, Calls Try.prog 9 #[N k, N pm] w fun e w' => e = .returned (N ⟨0,0,0,0⟩) ∧ Below w.heap.size w w')
    (L5 : ∀ w, Calls Try.prog 9 #[N ⟨0,0,0,0⟩, N u] w fun e w' => e = .returned (N ⟨0,0,0,0⟩) ∧ Below w.heap.size w w')
    (L6 : ∀ w, Calls Try.prog 9 #[N ⟨1,0,0,0⟩, N u] w fun e w' => e = .returned (N lo) ∧ Below w.heap.size w w')
    (w : World) :
    Calls Try.prog 6 #[N k, N u] w fun e w' => e = .returned (.bool true) ∧ Below w.heap.size w w' := by
  go_enter Try.func6, Try.ntmps6
  have s0 : Hid (Kn (kal4 (kal4 w (k)) (u)) [(w.heap.size + 1, (c4 (u))), (w.heap.size, (c4 (k)))]) := (((Kn.nil w).al (c4 (k)) 24 rfl).al (c4 (u)) 24 (by simp))
  have b0 : Hid (Below w.heap.size w (kal4 (kal4 w (k)) (u))) := (((Below.refl _ _).alloc (Nat.le_refl _) _).alloc (by simp <;> omega) _)
  go_wp2_with fail
  refine (LA _).mono ?_
  rintro e w1 ⟨rfl, hb1⟩
  have s1 : Hid (Kn w1 [(w.heap.size + 1, (c4 (u))), (w.heap.size, (c4 (k)))]) := s0.out.up hb1
  have b1 : Hid (Below w.heap.size w w1) := b0.out.trans (hb1.mono b0.out.size)
  have z1 := b1.out.size
  clear hb1 s0 b0
  have s2 : Hid (Kn (kal4 w1 ((⟨0,0,0,0⟩:Nm))) [(w1.heap.size, (c4 ((⟨0,0,0,0⟩:Nm)))), (w.heap.size + 1, (c4 (u))), (w.heap.size, (c4 (k)))]) := s1.out.al (c4 ((⟨0,0,0,0⟩:Nm))) 24 rfl
  have b2 : Hid (Below w.heap.size w (kal4 w1 ((⟨0,0,0,0⟩:Nm)))) := b1.out.alloc b1.out.size _
  have z2 := b1.out.size
  clear s1 b1
  go_wp2_with fail
  refine wp_region_up (by kernel_rfl) (by kernel_rfl) (fun U hU f hf hcl => ?_)
  have uk_0 := fun nx => (Kn.get (s2.out.up (hf nx).out) 2 0 rfl rfl : (f nx).cell? ⟨w.heap.size, 0, none⟩ = some (.int .u64 (k).a))
  have uk_1 := fun nx => (Kn.get (s2.out.up (hf nx).out) 2 1 rfl rfl : (f nx).cell? ⟨w.heap.size, 1, none⟩ = some (.int .u64 (k).b))
  have uk_2 := fun nx => (Kn.get (s2.out.up (hf nx).out) 2 2 rfl rfl : (f nx).cell? ⟨w.heap.size, 2, none⟩ = some (.int .u64 (k).c))
  have uk_3 := fun nx => (Kn.get (s2.out.up (hf nx).out) 2 3 rfl rfl : (f nx).cell? ⟨w.heap.size, 3, none⟩ = some (.int .u64 (k).d))
  have uu_0 := fun nx => (Kn.get (s2.out.up (hf nx).out) 1 0 rfl rfl : (f nx).cell? ⟨w.heap.size + 1, 0, none⟩ = some (.int .u64 (u).a))
  have uu_1 := fun nx => (Kn.get (s2.out.up (hf nx).out) 1 1 rfl rfl : (f nx).cell? ⟨w.heap.size + 1, 1, none⟩ = some (.int .u64 (u).b))
  have uu_2 := fun nx => (Kn.get (s2.out.up (hf nx).out) 1 2 rfl rfl : (f nx).cell? ⟨w.heap.size + 1, 2, none⟩ = some (.int .u64 (u).c))
  have uu_3 := fun nx => (Kn.get (s2.out.up (hf nx).out) 1 3 rfl rfl : (f nx).cell? ⟨w.heap.size + 1, 3, none⟩ = some (.int .u64 (u).d))
  have unone_0 := fun nx => (Kn.get (s2.out.up (hf nx).out) 0 0 rfl rfl : (f nx).cell? ⟨w1.heap.size, 0, none⟩ = some (.int .u64 ((⟨0,0,0,0⟩:Nm)).a))
  have unone_1 := fun nx => (Kn.get (s2.out.up (hf nx).out) 0 1 rfl rfl : (f nx).cell? ⟨w1.heap.size, 1, none⟩ = some (.int .u64 ((⟨0,0,0,0⟩:Nm)).b))
  have unone_2 := fun nx => (Kn.get (s2.out.up (hf nx).out) 0 2 rfl rfl : (f nx).cell? ⟨w1.heap.size, 2, none⟩ = some (.int .u64 ((⟨0,0,0,0⟩:Nm)).c))
  have unone_3 := fun nx => (Kn.get (s2.out.up (hf nx).out) 0 3 rfl rfl : (f nx).cell? ⟨w1.heap.size, 3, none⟩ = some (.int .u64 ((⟨0,0,0,0⟩:Nm)).d))
  try simp only [List.append_eq, List.cons_append, List.nil_append]
  repeat (go_big_quiet_step (first | (go_at_call_of 9 [Value.agg #[Value.int IntKind.u64 k.a, Value.int IntKind.u64 k.b, Value.int IntKind.u64 k.c, Value.int IntKind.u64 k.d], Value.agg #[Value.int IntKind.u64 u.a, Value.int IntKind.u64 u.b, Value.int IntKind.u64 u.c, Value.int IntKind.u64 u.d]]; exact (L1 _).mono fun e w'' ⟨he, hb⟩ => ⟨he, hcl.out _ _ hb⟩) | (go_at_call 25; exact (F1 _).mono fun e w'' ⟨he, hb⟩ => ⟨he, hcl.out _ _ hb⟩) | (go_at_call_of 9 [Value.agg #[Value.int IntKind.u64 k.a, Value.int IntKind.u64 k.b, Value.int IntKind.u64 k.c, Value.int IntKind.u64 k.d], N lo]; exact (L2 _).mono fun e w'' ⟨he, hb⟩ => ⟨he, hcl.out _ _ hb⟩) | (go_at_call_of 9 [Value.agg #[Value.int IntKind.u64 k.a, Value.int IntKind.u64 k.b, Value.int IntKind.u64 k.c, Value.int IntKind.u64 k.d], Value.agg #[Value.int IntKind.u64 0, Value.int IntKind.u64 0, Value.int IntKind.u64 0, Value.int IntKind.u64 0]]; exact (L3 _).mono fun e w'' ⟨he, hb⟩ => ⟨he, hcl.out _ _ hb⟩) | (go_at_call 26; exact (F2 _).mono fun e w'' ⟨he, hb⟩ => ⟨he, hcl.out _ _ hb⟩) | (go_at_call_of 9 [Value.agg #[Value.int IntKind.u64 k.a, Value.int IntKind.u64 k.b, Value.int IntKind.u64 k.c, Value.int IntKind.u64 k.d], N pm]; exact (L4 _).mono fun e w'' ⟨he, hb⟩ => ⟨he, hcl.out _ _ hb⟩) | (go_at_call_of 9 [Value.agg #[Value.int IntKind.u64 0, Value.int IntKind.u64 0, Value.int IntKind.u64 0, Value.int IntKind.u64 0], Value.agg #[Value.int IntKind.u64 u.a, Value.int IntKind.u64 u.b, Value.int IntKind.u64 u.c, Value.int IntKind.u64 u.d]]; exact (L5 _).mono fun e w'' ⟨he, hb⟩ => ⟨he, hcl.out _ _ hb⟩) | (go_at_call_of 9 [Value.agg #[Value.int IntKind.u64 1, Value.int IntKind.u64 0, Value.int IntKind.u64 0, Value.int IntKind.u64 0], Value.agg #[Value.int IntKind.u64 u.a, Value.int IntKind.u64 u.b, Value.int IntKind.u64 u.c, Value.int IntKind.u64 u.d]]; exact (L6 _).mono fun e w'' ⟨he, hb⟩ => ⟨he, hcl.out _ _ hb⟩)))
  refine wpQuiet_nil ?_
  intro nx
  have hb3 := (hf nx).out
  clear hf hcl uk_0 uk_1 uk_2 uk_3 uu_0 uu_1 uu_2 uu_3 unone_0 unone_1 unone_2 unone_3
  generalize f nx = w3 at hb3 ⊢
  have s3 : Hid (Kn w3 [(w1.heap.size, (c4 ((⟨0,0,0,0⟩:Nm)))), (w.heap.size + 1, (c4 (u))), (w.heap.size, (c4 (k)))]) := s2.out.up hb3
  have b3 : Hid (Below w.heap.size w w3) := b2.out.trans (hb3.mono b2.out.size)
  have z3 := b3.out.size
  clear hb3 s2 b2
  go_wp2_with fail
  go_ret
  exact ⟨rfl, b3.out⟩
theorem ladLow_of (LC : LLadC) (FL : FLowC) (FP : FPC) (k u : Nm) (ok : k.ok) (ou : u.ok) (w : World) :
    Calls Try.prog 6 #[N k, N u] w fun e w' => e = .returned (.bool true) ∧ Below w.heap.size w w' := by
  have L2 := LC k (nm (u.nat % F.p)) ok (nm_ok _)
  rw [f_nat (F.mod_lt _), Cv.lad_mod] at L2
  have L3 := LC k ⟨0, 0, 0, 0⟩ ok fz_ok
  rw [show (⟨0, 0, 0, 0⟩ : Nm).nat = 0 from rfl, Cv.lad_flat _ (by decide)] at L3
  have L4 := LC k (nm F.p) ok (nm_ok _)
  rw [nm_nat F.p_lt, Cv.lad_flat _ (Nat.mod_self _)] at L4
  have L5 := LC ⟨0, 0, 0, 0⟩ u fz_ok ou
  rw [show (⟨0, 0, 0, 0⟩ : Nm).nat = 0 from rfl, Cv.lad_none] at L5
  have L6 := LC ⟨1, 0, 0, 0⟩ u fo_ok ou
  rw [show (⟨1, 0, 0, 0⟩ : Nm).nat = 1 from rfl, Cv.lad_one] at L6
  exact ladLow_walk k u _ _ (eqN_self' _) (eqN_self' _) (eqN_self' _) _ (ladders_fun LC) (LC k u ok ou) (FL u ou) L2 L3 FP L4 L5 L6 w
end Go.Proofs.Ytjdamgfichlgpaa
