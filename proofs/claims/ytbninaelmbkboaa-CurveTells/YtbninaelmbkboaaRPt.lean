/- The document's points: dOf, PtOf, PtBase, Point, Plus. -/
import Derived.Test.YtbninaelmbkboaaFeP
import Derived.Test.YtbninaelmbkboaaGrp25
import Derived.Test.YtbninaelmbkboaaGrp13
import Derived.Test.YtbninaelmbkboaaGrp14
import Derived.Test.YtbninaelmbkboaaAl
import Derived.Test.YtbninaelmbkboaaGrp25
namespace Go.Proofs.Ytbninaelmbkboaa
open Go.RowKit
attribute [local go_sem] World.cell?_alloc_some cell_alloc2 cell_alloc3 cell_alloc4 frozen?_alloc_cells frozen_out
set_option linter.unusedSimpArgs false
theorem pt_built (x y z : Nat) : Try.prog.built 36 [(0, .agg (fR x).toArray), (1, .agg (fR y).toArray), (2, .agg (fR z).toArray)] = some (pR x y z).toArray := by kernel_rfl
theorem run_build3 {T : TypeId} {x y z : Operand} {a : Act} {u v t : Value} {cs : List Value} (hx : a.eval x = u) (hy : a.eval y = v) (hz : a.eval z = t) (hb : Try.prog.built T [(0, u), (1, v), (2, t)] = some cs.toArray) (w : World) : (Instr.build T ((#[(0, x), (1, y), (2, z)] : Array (Nat × Operand)).map fun x => (x.fst, a.eval x.snd))).run Try.prog w = .ok (.agg cs.toArray) w :=
  run_build w T _ _ (by simpa [hx, hy, hz] using hb)
theorem wp_build3 {ops : Array Oper} {rest : List Oper} {o : Oper} {a : Act} {Q : Exit → Act → World → Prop} {w : World} (hgd : o.guard = none) (T : TypeId) (x y z : Operand) (ho : o.op = .build T #[(0, x), (1, y), (2, z)]) (u v t : Value) (cs : List Value) (hx : a.eval x = u) (hy : a.eval y = v) (hz : a.eval z = t) (hb : Try.prog.built T [(0, u), (1, v), (2, t)] = some cs.toArray)
    (h : wpList Try.prog ops Q rest (a.put o.dst (.agg cs.toArray)) w) : wpList Try.prog ops Q (o :: rest) a w := by
  refine wpList_plain hgd fun K hK => ?_
  have e := run_build3 hx hy hz hb w
  unfold Oper.wp
  simp only [execOp, ho, Sem.run_bind, e, Result.andThen_ok, Sem.run_pure]
  exact hK _ _ h
theorem quiet_build3 {ops : Array Oper} {C : World → Prop} {Q : Act → Prop} {o : Oper} {rest : List Oper} {a : Act} (hw : Region.wanted o (yielded ops a.tmps) = true) (T : TypeId) (x y z : Operand) (ho : o.op = .build T #[(0, x), (1, y), (2, z)]) (u v t : Value) (cs : List Value) (hx : a.eval x = u) (hy : a.eval y = v) (hz : a.eval z = t) (hb : Try.prog.built T [(0, u), (1, v), (2, t)] = some cs.toArray)
    (h : wpQuiet Try.prog ops C Q rest (a.put o.dst (.agg cs.toArray))) : wpQuiet Try.prog ops C Q (o :: rest) a := by
  refine BigFrame.wpQuiet_want hw fun K hK => ⟨.agg cs.toArray, fun w _ => ?_, hK _ h⟩
  unfold Oper.quietAt
  have e1 := run_build3 hx hy hz hb w
  have e : (execOp a.eval o).run Try.prog w = .ok (.value (.agg cs.toArray)) w := by
    simp only [execOp, ho, Sem.run_bind, e1, Result.andThen_ok, Sem.run_pure]
  rw [e]
  exact ⟨rfl, rfl⟩
theorem d_lit : (fR Cv.d).toArray = #[Value.int IntKind.i64 30883, Value.int IntKind.i64 4953, Value.int IntKind.i64 19914, Value.int IntKind.i64 30187, Value.int IntKind.i64 55467, Value.int IntKind.i64 16705, Value.int IntKind.i64 2637, Value.int IntKind.i64 112, Value.int IntKind.i64 59544, Value.int IntKind.i64 30585, Value.int IntKind.i64 16505, Value.int IntKind.i64 36039, Value.int IntKind.i64 65139, Value.int IntKind.i64 11119, Value.int IntKind.i64 27886, Value.int IntKind.i64 20995] := by kernel_rfl
set_option maxRecDepth 20000 in
set_option maxHeartbeats 600000 in
theorem dOf_fun (w : World) : Calls Try.prog 37 #[] w fun e w' => e = .returned (.agg (fR Cv.d).toArray) ∧ Below w.heap.size w w' := by
  obtain ⟨x0, x1⟩ := I.al1 w (fR Cv.d).toArray 34
  rw [d_lit] at x0 x1
  have X0 : Hid _ := x0.all
  have X1 : Hid _ := x1
  clear x0 x1
  go_enter Try.func37, Try.ntmps37
  go_wp2_with fail
  refine bodyPost_ret (v := .agg (fR Cv.d).toArray) ?_ rfl ⟨rfl, X1.out⟩
  rw [d_lit]
  exact I.results_cell (b := w.heap.size) rfl rfl X0.out Try.underlying34 rfl I.info_fe
set_option maxRecDepth 20000 in
set_option maxHeartbeats 600000 in
theorem ptOf_walk (px py : Nm) (x y : Nat)
    (F1 : ∀ w, Calls Try.prog 18 #[N px] w fun e w' => e = .returned (.agg (fR (x)).toArray) ∧ Below w.heap.size w w')
    (F2 : ∀ w, Calls Try.prog 18 #[N py] w fun e w' => e = .returned (.agg (fR (y)).toArray) ∧ Below w.heap.size w w')
    (S1 : ∀ w, Calls Try.prog 35 #[.int .i64 1] w fun e w' => e = .returned (.agg (fR (1)).toArray) ∧ Below w.heap.size w w')
    (w : World) :
    Calls Try.prog 20 #[Wv px py] w fun e w' => e = .returned (pV x y 1) ∧ Below w.heap.size w w' := by
  go_enter Try.func20, Try.ntmps20
  have s0 : Hid (Kn ((kalP w (px) (py)).alloc (.cells #[Value.int IntKind.i64 0, Value.int IntKind.i64 0, Value.int IntKind.i64 0, Value.int IntKind.i64 0, Value.int IntKind.i64 0, Value.int IntKind.i64 0, Value.int IntKind.i64 0, Value.int IntKind.i64 0, Value.int IntKind.i64 0, Value.int IntKind.i64 0, Value.int IntKind.i64 0, Value.int IntKind.i64 0, Value.int IntKind.i64 0, Value.int IntKind.i64 0, Value.int IntKind.i64 0, Value.int IntKind.i64 0, Value.int IntKind.i64 0, Value.int IntKind.i64 0, Value.int IntKind.i64 0, Value.int IntKind.i64 0, Value.int IntKind.i64 0, Value.int IntKind.i64 0, Value.int IntKind.i64 0, Value.int IntKind.i64 0, Value.int IntKind.i64 0, Value.int IntKind.i64 0, Value.int IntKind.i64 0, Value.int IntKind.i64 0, Value.int IntKind.i64 0, Value.int IntKind.i64 0, Value.int IntKind.i64 0, Value.int IntKind.i64 0, Value.int IntKind.i64 0, Value.int IntKind.i64 0, Value.int IntKind.i64 0, Value.int IntKind.i64 0, Value.int IntKind.i64 0, Value.int IntKind.i64 0, Value.int IntKind.i64 0, Value.int IntKind.i64 0, Value.int IntKind.i64 0, Value.int IntKind.i64 0, Value.int IntKind.i64 0, Value.int IntKind.i64 0, Value.int IntKind.i64 0, Value.int IntKind.i64 0, Value.int IntKind.i64 0, Value.int IntKind.i64 0] 36)) [(w.heap.size + 1, pZ), (w.heap.size, (c8 (px) (py)))]) := (((Kn.nil w).al (c8 (px) (py)) 26 rfl).al pZ 36 (by simp))
  have b0 : Hid (Below w.heap.size w ((kalP w (px) (py)).alloc (.cells #[Value.int IntKind.i64 0, Value.int IntKind.i64 0, Value.int IntKind.i64 0, Value.int IntKind.i64 0, Value.int IntKind.i64 0, Value.int IntKind.i64 0, Value.int IntKind.i64 0, Value.int IntKind.i64 0, Value.int IntKind.i64 0, Value.int IntKind.i64 0, Value.int IntKind.i64 0, Value.int IntKind.i64 0, Value.int IntKind.i64 0, Value.int IntKind.i64 0, Value.int IntKind.i64 0, Value.int IntKind.i64 0, Value.int IntKind.i64 0, Value.int IntKind.i64 0, Value.int IntKind.i64 0, Value.int IntKind.i64 0, Value.int IntKind.i64 0, Value.int IntKind.i64 0, Value.int IntKind.i64 0, Value.int IntKind.i64 0, Value.int IntKind.i64 0, Value.int IntKind.i64 0, Value.int IntKind.i64 0, Value.int IntKind.i64 0, Value.int IntKind.i64 0, Value.int IntKind.i64 0, Value.int IntKind.i64 0, Value.int IntKind.i64 0, Value.int IntKind.i64 0, Value.int IntKind.i64 0, Value.int IntKind.i64 0, Value.int IntKind.i64 0, Value.int IntKind.i64 0, Value.int IntKind.i64 0, Value.int IntKind.i64 0, Value.int IntKind.i64 0, Value.int IntKind.i64 0, Value.int IntKind.i64 0, Value.int IntKind.i64 0, Value.int IntKind.i64 0, Value.int IntKind.i64 0, Value.int IntKind.i64 0, Value.int IntKind.i64 0, Value.int IntKind.i64 0] 36))) := (((Below.refl _ _).alloc (Nat.le_refl _) _).alloc (by simp <;> omega) _)
  go_wp2_with (first | simp only [zero_pt])
  refine wp_region_up_then 8 (by kernel_rfl) (by kernel_rfl) (by kernel_rfl) (by kernel_rfl) (by decide) (fun _ _ d _ _ h => by cases d <;> exact h) (fun U hU f hf hcl => ?_)
  have up_0 := fun nx => (Kn.get (s0.out.up (hf nx).out) 1 0 rfl rfl : (f nx).cell? ⟨w.heap.size, 0, none⟩ = some (.int .u64 (px).a))
  have up_1 := fun nx => (Kn.get (s0.out.up (hf nx).out) 1 1 rfl rfl : (f nx).cell? ⟨w.heap.size, 1, none⟩ = some (.int .u64 (px).b))
  have up_2 := fun nx => (Kn.get (s0.out.up (hf nx).out) 1 2 rfl rfl : (f nx).cell? ⟨w.heap.size, 2, none⟩ = some (.int .u64 (px).c))
  have up_3 := fun nx => (Kn.get (s0.out.up (hf nx).out) 1 3 rfl rfl : (f nx).cell? ⟨w.heap.size, 3, none⟩ = some (.int .u64 (px).d))
  have up_4 := fun nx => (Kn.get (s0.out.up (hf nx).out) 1 4 rfl rfl : (f nx).cell? ⟨w.heap.size, 4, none⟩ = some (.int .u64 (py).a))
  have up_5 := fun nx => (Kn.get (s0.out.up (hf nx).out) 1 5 rfl rfl : (f nx).cell? ⟨w.heap.size, 5, none⟩ = some (.int .u64 (py).b))
  have up_6 := fun nx => (Kn.get (s0.out.up (hf nx).out) 1 6 rfl rfl : (f nx).cell? ⟨w.heap.size, 6, none⟩ = some (.int .u64 (py).c))
  have up_7 := fun nx => (Kn.get (s0.out.up (hf nx).out) 1 7 rfl rfl : (f nx).cell? ⟨w.heap.size, 7, none⟩ = some (.int .u64 (py).d))
  simp only [List.take_succ_cons, List.take_zero, List.drop_succ_cons, List.drop_zero]
  repeat (first | (refine quiet_build3 rfl 36 _ _ _ rfl (.agg (fR x).toArray) (.agg (fR y).toArray) (.agg (fR 1).toArray) (pR x y 1) rfl rfl rfl (pt_built x y 1) ?_; simp only [Act.put, List.setIfInBounds_toArray, List.set_cons_succ, List.set_cons_zero]) | go_big_quiet_step (first | (go_at_call_of 18 [Value.agg #[Value.int IntKind.u64 px.a, Value.int IntKind.u64 px.b, Value.int IntKind.u64 px.c, Value.int IntKind.u64 px.d]]; exact (F1 _).mono fun e w'' ⟨he, hb⟩ => ⟨he, hcl.out _ _ hb⟩) | (go_at_call_of 18 [Value.agg #[Value.int IntKind.u64 py.a, Value.int IntKind.u64 py.b, Value.int IntKind.u64 py.c, Value.int IntKind.u64 py.d]]; exact (F2 _).mono fun e w'' ⟨he, hb⟩ => ⟨he, hcl.out _ _ hb⟩) | (go_at_call 35; exact (S1 _).mono fun e w'' ⟨he, hb⟩ => ⟨he, hcl.out _ _ hb⟩)))
  refine wpQuiet_nil ?_
  intro nx
  have hb1 := (hf nx).out
  clear hf hcl up_0 up_1 up_2 up_3 up_4 up_5 up_6 up_7
  generalize f nx = w1 at hb1 ⊢
  have s1 : Hid (Kn w1 [(w.heap.size + 1, pZ), (w.heap.size, (c8 (px) (py)))]) := s0.out.up hb1
  have b1 : Hid (Below w.heap.size w w1) := b0.out.trans (hb1.mono b0.out.size)
  have z1 := b1.out.size
  clear hb1 s0 b0
  have s2x : Hid (Kn w1 [(w.heap.size + 1, pZ), (w.heap.size, (c8 (px) (py)))]) := s1.out.front 0 rfl
  have b2x : Hid (Below w.heap.size w w1) := b1.out
  have TT2 : Hid (w1.there (w.heap.size + 1) 0 (pR (x) (y) (1)).length) := Kn.there s2x.out 0 rfl (by rw [(pR_length (x) (y) (1)), pZ_length])
  go_wp2_with (first | refine I.wp_store_eq rfl 36 _ _ rfl (w.heap.size + 1) 0 (pR (x) (y) (1)) rfl rfl TT2.out (info_pR (x) (y) (1)) (pR_one (x) (y) (1)) ?_)
  intro w2 hw2
  try simp only [Act.put, List.setIfInBounds_toArray, List.set_cons_succ, List.set_cons_zero]
  have s2 : Hid (Kn w2 [(w.heap.size + 1, (pR (x) (y) (1))), (w.heap.size, (c8 (px) (py)))]) := by rw [hw2.out]; exact Kn.put s2x.out (by rw [(pR_length (x) (y) (1)), pZ_length])
  have b2 : Hid (Below w.heap.size w w2) := by rw [hw2.out]; exact I.below_setCells _ _ _ b2x.out (by omega)
  have z2 := b2.out.size
  clear hw2 s2x b2x TT2 s1 b1
  go_wp2_with fail
  exact bodyPost_ret (v := pV x y 1) (I.results_cell (b := w.heap.size + 1) rfl rfl (Kn.rng s2.out 0 rfl) Try.underlying36 rfl (info_pR (x) (y) (1))) rfl ⟨rfl, b2.out⟩
set_option maxRecDepth 20000 in
set_option maxHeartbeats 600000 in
theorem ptPoint_walk (x y t i u v : Nat) (px py : Nm)
    (O1 : ∀ w, Calls Try.prog 47 #[.agg (fR (t)).toArray] w fun e w' => e = .returned (.agg (fR (i)).toArray) ∧ Below w.heap.size w w')
    (M1 : ∀ w, Calls Try.prog 34 #[.agg (fR (x)).toArray, .agg (fR (i)).toArray] w fun e w' => e = .returned (.agg (fR (u)).toArray) ∧ Below w.heap.size w w')
    (M2 : ∀ w, Calls Try.prog 34 #[.agg (fR (y)).toArray, .agg (fR (i)).toArray] w fun e w' => e = .returned (.agg (fR (v)).toArray) ∧ Below w.heap.size w w')
    (N1 : ∀ w, Calls Try.prog 19 #[.agg (fR (u)).toArray] w fun e w' => e = .returned (N px) ∧ Below w.heap.size w w')
    (N2 : ∀ w, Calls Try.prog 19 #[.agg (fR (v)).toArray] w fun e w' => e = .returned (N py) ∧ Below w.heap.size w w')
    (w : World) :
    Calls Try.prog 16 #[pV x y t] w fun e w' => e = .returned (Wv px py) ∧ Below w.heap.size w w' := by
  go_enter Try.func16, Try.ntmps16
  have s0 : Hid (Kn (kzP (w.alloc (.cells (pR (x) (y) (t)).toArray 36))) [(w.heap.size + 1, zz8), (w.heap.size, (pR (x) (y) (t)))]) := (((Kn.nil w).al (pR (x) (y) (t)) 36 rfl).al zz8 26 (by simp))
  have b0 : Hid (Below w.heap.size w (kzP (w.alloc (.cells (pR (x) (y) (t)).toArray 36)))) := (((Below.refl _ _).alloc (Nat.le_refl _) _).alloc (by simp <;> omega) _)
  go_wp2_with (first | refine wp_ldW rfl 36 _ rfl (w.heap.size) 0 rfl (pR (x) (y) (t)) _ (Kn.rng s0.out 1 rfl) Try.underlying36 rfl (info_pR (x) (y) (t)) ?_ | refine wp_ldW rfl 34 _ rfl (w.heap.size) 0 rfl (fR (x)) _ (Kn.rng0 s0.out 1 rfl) Try.underlying34 rfl (info_fR (x)) ?_ | refine wp_ldW rfl 34 _ rfl (w.heap.size) 16 rfl (fR (y)) _ (Kn.rng1 s0.out 1 rfl) Try.underlying34 rfl (info_fR (y)) ?_ | refine wp_ldW rfl 34 _ rfl (w.heap.size) 32 rfl (fR (t)) _ (Kn.rng2 s0.out 1 rfl) Try.underlying34 rfl (info_fR (t)) ?_)
  refine (O1 _).mono ?_
  rintro e w1 ⟨rfl, hb1⟩
  have s1 : Hid (Kn w1 [(w.heap.size + 1, zz8), (w.heap.size, (pR (x) (y) (t)))]) := s0.out.up hb1
  have b1 : Hid (Below w.heap.size w w1) := b0.out.trans (hb1.mono b0.out.size)
  have z1 := b1.out.size
  clear hb1 s0 b0
  have s2x : Hid (Kn (w1.alloc (.cells #[Value.int IntKind.i64 0, Value.int IntKind.i64 0, Value.int IntKind.i64 0, Value.int IntKind.i64 0, Value.int IntKind.i64 0, Value.int IntKind.i64 0, Value.int IntKind.i64 0, Value.int IntKind.i64 0, Value.int IntKind.i64 0, Value.int IntKind.i64 0, Value.int IntKind.i64 0, Value.int IntKind.i64 0, Value.int IntKind.i64 0, Value.int IntKind.i64 0, Value.int IntKind.i64 0, Value.int IntKind.i64 0] 34)) [(w1.heap.size, fZ), (w.heap.size + 1, zz8), (w.heap.size, (pR (x) (y) (t)))]) := s1.out.al fZ 34 rfl
  have b2x : Hid (Below w.heap.size w (w1.alloc (.cells #[Value.int IntKind.i64 0, Value.int IntKind.i64 0, Value.int IntKind.i64 0, Value.int IntKind.i64 0, Value.int IntKind.i64 0, Value.int IntKind.i64 0, Value.int IntKind.i64 0, Value.int IntKind.i64 0, Value.int IntKind.i64 0, Value.int IntKind.i64 0, Value.int IntKind.i64 0, Value.int IntKind.i64 0, Value.int IntKind.i64 0, Value.int IntKind.i64 0, Value.int IntKind.i64 0, Value.int IntKind.i64 0] 34))) := b1.out.alloc b1.out.size _
  have g2 : w.heap.size ≤ w1.heap.size := b1.out.size
  have TT2 : Hid ((w1.alloc (.cells #[Value.int IntKind.i64 0, Value.int IntKind.i64 0, Value.int IntKind.i64 0, Value.int IntKind.i64 0, Value.int IntKind.i64 0, Value.int IntKind.i64 0, Value.int IntKind.i64 0, Value.int IntKind.i64 0, Value.int IntKind.i64 0, Value.int IntKind.i64 0, Value.int IntKind.i64 0, Value.int IntKind.i64 0, Value.int IntKind.i64 0, Value.int IntKind.i64 0, Value.int IntKind.i64 0, Value.int IntKind.i64 0] 34)).there (w1.heap.size) 0 (fR (i)).length) := Kn.there s2x.out 0 rfl (by rw [(fR_length (i)), fZ_length])
  go_wp2_with (first | simp only [I.zero_fe] | refine I.wp_store_eq rfl 34 _ _ rfl (w1.heap.size) 0 (fR (i)) rfl rfl TT2.out (info_fR (i)) (I.one_dI _) ?_)
  intro w2 hw2
  try simp only [Act.put, List.setIfInBounds_toArray, List.set_cons_succ, List.set_cons_zero]
  have s2 : Hid (Kn w2 [(w1.heap.size, (fR (i))), (w.heap.size + 1, zz8), (w.heap.size, (pR (x) (y) (t)))]) := by rw [hw2.out]; exact Kn.put s2x.out (by rw [(fR_length (i)), fZ_length])
  have b2 : Hid (Below w.heap.size w w2) := by rw [hw2.out]; exact I.below_setCells _ _ _ b2x.out g2
  have z2 := b2.out.size
  clear hw2 s2x b2x TT2 s1 b1
  go_wp2_with fail
  refine wp_region_up_then 11 (by kernel_rfl) (by kernel_rfl) (by kernel_rfl) (by kernel_rfl) (by decide) (fun _ _ d _ _ h => by cases d <;> exact h) (fun U hU f hf hcl => ?_)
  have ra_p_0 := fun nx => (Kn.rng (s2.out.up (hf nx).out) 2 rfl : (f nx).rangeAt (w.heap.size) 0 (pR (x) (y) (t)))
  have ra_p_1 := fun nx => (Kn.rng0 (s2.out.up (hf nx).out) 2 rfl : (f nx).rangeAt (w.heap.size) 0 (fR (x)))
  have ra_p_2 := fun nx => (Kn.rng1 (s2.out.up (hf nx).out) 2 rfl : (f nx).rangeAt (w.heap.size) 16 (fR (y)))
  have ra_p_3 := fun nx => (Kn.rng2 (s2.out.up (hf nx).out) 2 rfl : (f nx).rangeAt (w.heap.size) 32 (fR (t)))
  have ra_i_0 := fun nx => (Kn.rng (s2.out.up (hf nx).out) 0 rfl : (f nx).rangeAt (w1.heap.size) 0 (fR (i)))
  simp only [List.take_succ_cons, List.take_zero, List.drop_succ_cons, List.drop_zero]
  repeat (first | (refine I.quiet_load rfl 36 _ rfl (w.heap.size) 0 rfl (pR (x) (y) (t)) _ (fun W hW => by obtain ⟨nx, rfl⟩ := hW; exact ra_p_0 nx) Try.underlying36 rfl (info_pR (x) (y) (t)) ?_; simp only [Act.put, List.setIfInBounds_toArray, List.set_cons_succ, List.set_cons_zero]) | (refine I.quiet_load rfl 34 _ rfl (w.heap.size) 0 rfl (fR (x)) _ (fun W hW => by obtain ⟨nx, rfl⟩ := hW; exact ra_p_1 nx) Try.underlying34 rfl (info_fR (x)) ?_; simp only [Act.put, List.setIfInBounds_toArray, List.set_cons_succ, List.set_cons_zero]) | (refine I.quiet_load rfl 34 _ rfl (w.heap.size) 16 rfl (fR (y)) _ (fun W hW => by obtain ⟨nx, rfl⟩ := hW; exact ra_p_2 nx) Try.underlying34 rfl (info_fR (y)) ?_; simp only [Act.put, List.setIfInBounds_toArray, List.set_cons_succ, List.set_cons_zero]) | (refine I.quiet_load rfl 34 _ rfl (w.heap.size) 32 rfl (fR (t)) _ (fun W hW => by obtain ⟨nx, rfl⟩ := hW; exact ra_p_3 nx) Try.underlying34 rfl (info_fR (t)) ?_; simp only [Act.put, List.setIfInBounds_toArray, List.set_cons_succ, List.set_cons_zero]) | (refine I.quiet_load rfl 34 _ rfl (w1.heap.size) 0 rfl (fR (i)) _ (fun W hW => by obtain ⟨nx, rfl⟩ := hW; exact ra_i_0 nx) Try.underlying34 rfl (info_fR (i)) ?_; simp only [Act.put, List.setIfInBounds_toArray, List.set_cons_succ, List.set_cons_zero]) | go_big_quiet_step (first | (go_at_call_of 34 [Value.agg (fR (x)).toArray, Value.agg (fR (i)).toArray]; exact (M1 _).mono fun e w'' ⟨he, hb⟩ => ⟨he, hcl.out _ _ hb⟩) | (go_at_call_of 34 [Value.agg (fR (y)).toArray, Value.agg (fR (i)).toArray]; exact (M2 _).mono fun e w'' ⟨he, hb⟩ => ⟨he, hcl.out _ _ hb⟩) | (go_at_call_of 19 [Value.agg (fR (u)).toArray]; exact (N1 _).mono fun e w'' ⟨he, hb⟩ => ⟨he, hcl.out _ _ hb⟩) | (go_at_call_of 19 [Value.agg (fR (v)).toArray]; exact (N2 _).mono fun e w'' ⟨he, hb⟩ => ⟨he, hcl.out _ _ hb⟩)))
  refine wpQuiet_nil ?_
  intro nx
  have hb3 := (hf nx).out
  clear hf hcl
  generalize f nx = w3 at hb3 ⊢
  have s3 : Hid (Kn w3 [(w1.heap.size, (fR (i))), (w.heap.size + 1, zz8), (w.heap.size, (pR (x) (y) (t)))]) := s2.out.up hb3
  have b3 : Hid (Below w.heap.size w w3) := b2.out.trans (hb3.mono b2.out.size)
  have z3 := b3.out.size
  clear hb3 s2 b2
  have uro_0 : w3.cell? ⟨w.heap.size + 1, 0, none⟩ = some (.int .u64 0) := Kn.get s3.out 1 0 rfl rfl
  have uro_1 : w3.cell? ⟨w.heap.size + 1, 1, none⟩ = some (.int .u64 0) := Kn.get s3.out 1 1 rfl rfl
  have uro_2 : w3.cell? ⟨w.heap.size + 1, 2, none⟩ = some (.int .u64 0) := Kn.get s3.out 1 2 rfl rfl
  have uro_3 : w3.cell? ⟨w.heap.size + 1, 3, none⟩ = some (.int .u64 0) := Kn.get s3.out 1 3 rfl rfl
  have uro_4 : w3.cell? ⟨w.heap.size + 1, 4, none⟩ = some (.int .u64 0) := Kn.get s3.out 1 4 rfl rfl
  have uro_5 : w3.cell? ⟨w.heap.size + 1, 5, none⟩ = some (.int .u64 0) := Kn.get s3.out 1 5 rfl rfl
  have uro_6 : w3.cell? ⟨w.heap.size + 1, 6, none⟩ = some (.int .u64 0) := Kn.get s3.out 1 6 rfl rfl
  have uro_7 : w3.cell? ⟨w.heap.size + 1, 7, none⟩ = some (.int .u64 0) := Kn.get s3.out 1 7 rfl rfl
  have uro_z : ∀ j, w3.frozen? ⟨w.heap.size + 1, j, none⟩ = false := Kn.fz s3.out 1 rfl
  have s4 : Hid (Kn (st8 w3 (w.heap.size + 1) (px) (py)) [(w.heap.size + 1, (c8 (px) (py))), (w1.heap.size, (fR (i))), (w.heap.size, (pR (x) (y) (t)))]) := Kn.st8 (L := [(w1.heap.size, (fR (i))), (w.heap.size, (pR (x) (y) (t)))]) (s3.out.front 1 rfl) (px) (py)
  have b4 : Hid (Below w.heap.size w (st8 w3 (w.heap.size + 1) (px) (py))) := below_st8 b3.out (by omega)
  clear s3 b3
  go_wp2_with fail
  clear uro_0 uro_1 uro_2 uro_3 uro_4 uro_5 uro_6 uro_7 uro_z
  have urr_0 : (st8 w3 (w.heap.size + 1) (px) (py)).cell? ⟨w.heap.size + 1, 0, none⟩ = some (.int .u64 (px).a) := Kn.get s4.out 0 0 rfl rfl
  have urr_1 : (st8 w3 (w.heap.size + 1) (px) (py)).cell? ⟨w.heap.size + 1, 1, none⟩ = some (.int .u64 (px).b) := Kn.get s4.out 0 1 rfl rfl
  have urr_2 : (st8 w3 (w.heap.size + 1) (px) (py)).cell? ⟨w.heap.size + 1, 2, none⟩ = some (.int .u64 (px).c) := Kn.get s4.out 0 2 rfl rfl
  have urr_3 : (st8 w3 (w.heap.size + 1) (px) (py)).cell? ⟨w.heap.size + 1, 3, none⟩ = some (.int .u64 (px).d) := Kn.get s4.out 0 3 rfl rfl
  have urr_4 : (st8 w3 (w.heap.size + 1) (px) (py)).cell? ⟨w.heap.size + 1, 4, none⟩ = some (.int .u64 (py).a) := Kn.get s4.out 0 4 rfl rfl
  have urr_5 : (st8 w3 (w.heap.size + 1) (px) (py)).cell? ⟨w.heap.size + 1, 5, none⟩ = some (.int .u64 (py).b) := Kn.get s4.out 0 5 rfl rfl
  have urr_6 : (st8 w3 (w.heap.size + 1) (px) (py)).cell? ⟨w.heap.size + 1, 6, none⟩ = some (.int .u64 (py).c) := Kn.get s4.out 0 6 rfl rfl
  have urr_7 : (st8 w3 (w.heap.size + 1) (px) (py)).cell? ⟨w.heap.size + 1, 7, none⟩ = some (.int .u64 (py).d) := Kn.get s4.out 0 7 rfl rfl
  refine bodyPost_ret (v := Wv px py) ?_ rfl ⟨rfl, b4.out⟩
  show (results Try.f16 _).run Try.prog (st8 w3 (w.heap.size + 1) (px) (py)) = .ok _ (st8 w3 (w.heap.size + 1) (px) (py))
  clear s4 b4
  generalize (st8 w3 (w.heap.size + 1) (px) (py)) = W9 at *
  simp [results, Try.results16, go_sem, urr_0, urr_1, urr_2, urr_3, urr_4, urr_5, urr_6, urr_7]
end Go.Proofs.Ytbninaelmbkboaa
